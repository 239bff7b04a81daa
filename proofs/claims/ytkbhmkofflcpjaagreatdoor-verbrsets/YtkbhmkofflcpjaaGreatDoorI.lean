/-
  readQuoted and shortest of package addr, walked.
  Conditions: as each theorem states them.
-/
import Derived.Test.YtkbhmkofflcpjaaGreatDoorH
namespace Go.Proofs.YtkbhmkofflcpjaaGreatDoor
open Go.RowKit

theorem ret_str {a b : List UInt8} (h : a = b) : Ending.returned (.string ⟨a.toArray⟩) = .returned (.string ⟨b.toArray⟩) := by rw [h]
theorem ret_two {v : Value} {a b : ByteArray} (h : a = b) : Ending.returned (.tuple #[v, .string a]) = .returned (.tuple #[v, .string b]) := by rw [h]

theorem ret_2 {a b c d : ByteArray} (h : a = b) (k : c = d) : Ending.returned (.tuple #[.string a, .string c]) = .returned (.tuple #[.string b, .string d]) := by rw [h, k]

/-- A panic by a fault. -/
def wrongE : Ending := .panicked [{ v := .iface 87 (.agg #[.int .i64 8]), recovered := false }]

/-- What readQuoted comes to. -/
def RdEnd (s : List UInt8) (e : Ending) : Prop :=
  (∃ x r, rdL s = some (x, r) ∧ x.length ≤ s.length ∧ r.length ≤ s.length ∧ e = .returned (.tuple #[.string ⟨x.toArray⟩, .string ⟨r.toArray⟩])) ∨ (rdL s = none ∧ e = wrongE)

theorem rd_bad {s : List UInt8} (h : (s.head? == some 34) = false) : rdL s = none := by
  cases s with
  | nil => rfl
  | cons c t =>
    have : c ≠ 34 := by simpa using h
    rw [rdL, if_neg this]
theorem rd_good {s : List UInt8} (h : (s.head? == some 34) = true) : rdL s = rq [] (s.drop 1) ∧ 1 ≤ s.length := by
  cases s with
  | nil => cases h
  | cons c t =>
    have : c = 34 := by simpa using h
    rw [rdL, if_pos this]
    exact ⟨rfl, by simp⟩
theorem drop_cons {s : List UInt8} {j : Nat} (h : j < s.length) : s.drop j = s[j] :: s.drop (j + 1) := List.drop_eq_getElem_cons h
theorem ext_drop (s : List UInt8) (k n : Nat) (hn : n = s.length) : (⟨s.toArray⟩ : ByteArray).extract k n = ⟨(s.drop k).toArray⟩ := by
  subst hn
  rw [ext_eq, List.take_length]

set_option maxHeartbeats 2000000 in
set_option maxRecDepth 100000 in
theorem readQuoted_any (s : List UInt8) (w : World) (hs : s.length ≤ 100000) :
    Calls Tryz.prog 103 #[.string ⟨s.toArray⟩] w fun e w' => RdEnd s e ∧ Below w.heap.size w w' := by
  have HQ := Lib.hid (startsQuoted_any s w (by unfold maxLen; omega))
  cases hq : (s.head? == some 34) with
  | false =>
    have HR := Lib.hid (rd_bad hq)
    rw [hq] at HQ
    clear hq
    go_enter Tryz.func103, Tryz.ntmps103
    go_wp2_with fail
    refine Calls.mono HQ.out ?_
    rintro e w1 ⟨rfl, rfl⟩
    go_wp2_with fail
    exact ⟨rfl, .inr ⟨HR.out, rfl⟩, Below.refl _ _⟩
  | true =>
    obtain ⟨hrd, h1⟩ := rd_good hq
    have HRD := Lib.hid hrd
    rw [hq] at HQ
    clear hq hrd
    have HF := Lib.hid (show Lib.IsBuilderF 103 5 w.heap.size w.heap.size (Lib.byteCells []) _ from Lib.IsBuilderF.of (Lib.fresh_isBuilder 103 5 w))
    have HA := Lib.hid ((Below.refl _ w).alloc (Nat.le_refl _) (.cells #[.pointer none, .slice none 0 0] 103))
    go_enter Tryz.func103, Tryz.ntmps103
    go_wp2_with fail
    refine Calls.mono HQ.out ?_
    rintro e w1 ⟨rfl, rfl⟩
    go_wp2_with fail
    go_loopw [5] (fun i wr => ∃ (j : Nat) (acc : List UInt8), j ≤ s.length ∧ i = .int .i64 j ∧ acc.length ≤ j ∧ rdL s = rq acc (s.drop j) ∧ Lib.IsBuilderF 103 5 w.heap.size w.heap.size (Lib.byteCells acc) wr ∧ Below w.heap.size w wr) (fun i _ => s.length - (intOf i).toNat)
    case atStart => exact ⟨1, [], h1, rfl, Nat.zero_le _, HRD.out, HF.out, HA.out⟩
    case round =>
      obtain ⟨j, acc, hj, rfl, hacc, hrd, hi, hb⟩ := hrel
      have HR := Lib.hid hrd
      have HIW := Lib.hid hi
      have HBW := Lib.hid hb
      have hsz := hb.size
      clear hi hb hrd HF HA HRD HQ
      by_cases hlt : j < s.length
      · have hjB : j < (⟨s.toArray⟩ : ByteArray).size := hlt
        have HX := Lib.hid (show ((⟨s.toArray⟩ : ByteArray)[j]'hjB) = s[j] from rfl)
        have HD := Lib.hid (drop_cons hlt)
        by_cases h34 : s[j] = 34
        · have hb1 : ((((⟨s.toArray⟩ : ByteArray)[j]'hjB).toNat : Int) == 34) = true := by rw [HX.out, h34]; rfl
          have HE := Lib.hid (show rdL s = some (acc, s.drop (j + 1)) by rw [HR.out, HD.out, h34, rq_end])
          have HST := Lib.hid (fun W (h : Lib.IsBuilderF 103 5 w.heap.size w.heap.size (Lib.byteCells acc) W) (hz : w.heap.size ≤ W.heap.size) => Tryz.Builder_String_any_k w.heap.size w.heap.size acc W h hz)
          have hj0 : (j : Int) < (s.length : Int) := by omega
          have hj1 : (j : Int) + 1 ≤ (s.length : Int) := by omega
          have hj2 : (0 : Int) ≤ (j : Int) + 1 := by omega
          have hj3 : ((j : Int) + 1).toNat = j + 1 := by omega
          have hw1 : IntKind.i64.wrap ((j : Int) + 1) = (j : Int) + 1 := IntWalk.i64_in _ (by omega)
          clear h34
          go_wp2_with fail
          go_region_with ((go_at_call 122; refine (HST.out _ (by exact HIW.out) (by exact hsz)).mono ?_; rintro e w3 ⟨rfl, _, hb3, _⟩; (have HB3 : Below w.heap.size w w3 := HBW.out.drew.trans hb3); clear hb3))
          all_goals
            clear hw1 hj3
            go_wp2_with fail
            go_ret2
            exact ⟨.inl ⟨acc, _, HE.out, by omega, by simp, ret_two (ext_drop s _ _ rfl)⟩, HB3⟩
        · have hb1 : ((((⟨s.toArray⟩ : ByteArray)[j]'hjB).toNat : Int) == 34) = false := byte_ne (d := 34) (by rw [HX.out]; exact h34)
          by_cases h92 : s[j] = 92
          · have hb2 : ((((⟨s.toArray⟩ : ByteArray)[j]'hjB).toNat : Int) == 92) = true := by rw [HX.out, h92]; rfl
            by_cases hend : j + 1 = s.length
            · have HE := Lib.hid (show rdL s = none by rw [HR.out, HD.out, h92, hend, List.drop_length, rq_cut])
              have hbe : (((j : Int) + 1) == (s.length : Int)) = true := beq_iff_eq.2 (by omega)
              clear h34 h92 hend
              go_wp2_with fail
              exact ⟨rfl, .inr ⟨HE.out, rfl⟩, HBW.out⟩
            · have hlt2 : j + 1 < s.length := by omega
              have hbe : (((j : Int) + 1) == (s.length : Int)) = false := beq_eq_false_iff_ne.2 (by omega)
              have hjB2 : j + 1 < (⟨s.toArray⟩ : ByteArray).size := hlt2
              have hji : (j : Int) + 1 < (s.length : Int) := by omega
              have HX2 := Lib.hid (show ((⟨s.toArray⟩ : ByteArray)[j + 1]'hjB2) = s[j + 1] from rfl)
              have HE := Lib.hid (show rdL s = if printB s[j + 1] then rq (acc ++ [s[j + 1]]) (s.drop (j + 2)) else none by rw [HR.out, HD.out, h92, drop_cons hlt2, rq_pair])
              have HW1 := Lib.hid (writeB_any w.heap.size w.heap.size _ s[j + 1] (((⟨s.toArray⟩ : ByteArray)[j + 1]'hjB2).toNat : Int) rfl wr HIW.out (by omega) hsz)
              clear h34 h92 hend
              go_wp2_with fail
              refine (isPrintable_any _ _).mono ?_
              rintro e w1 ⟨rfl, rfl⟩
              cases hp : printB ((⟨s.toArray⟩ : ByteArray)[j + 1]'hjB2) with
              | true =>
                have HE2 := Lib.hid (HE.out.trans (if_pos (show printB s[j + 1] = true from HX2.out ▸ hp)))
                clear hp
                go_wp2_with fail
                refine Calls.mono HW1.out ?_
                rintro e w2 ⟨rfl, hi2, hb2⟩
                have HI2 := Lib.hid hi2
                have HB2 := Lib.hid (HBW.out.trans hb2)
                clear hi2 hb2
                go_wp2_with fail
                exact ⟨⟨j + 2, acc ++ [s[j + 1]], hlt2, by go_num, by simp; omega, HE2.out, HI2.out, HB2.out⟩, by simp [intOf]; omega⟩
              | false =>
                have HE2 := Lib.hid (HE.out.trans (if_neg (show ¬ (printB s[j + 1] = true) by rw [← HX2.out, hp]; exact Bool.false_ne_true)))
                clear hp
                go_wp2_with fail
                exact ⟨rfl, .inr ⟨HE2.out, rfl⟩, HBW.out⟩
          · have hb2 : ((((⟨s.toArray⟩ : ByteArray)[j]'hjB).toNat : Int) == 92) = false := byte_ne (d := 92) (by rw [HX.out]; exact h92)
            have hbe : ((j : Int) == (s.length : Int)) = false := beq_eq_false_iff_ne.2 (by omega)
            have HE := Lib.hid (show rdL s = if printB s[j] then rq (acc ++ [s[j]]) (s.drop (j + 1)) else none by rw [HR.out, HD.out, rq_char _ _ h34 h92])
            have HW1 := Lib.hid (writeB_any w.heap.size w.heap.size _ s[j] (((⟨s.toArray⟩ : ByteArray)[j]'hjB).toNat : Int) rfl wr HIW.out (by omega) hsz)
            clear h34 h92
            go_wp2_with fail
            refine (isPrintable_any _ _).mono ?_
            rintro e w1 ⟨rfl, rfl⟩
            cases hp : printB ((⟨s.toArray⟩ : ByteArray)[j]'hjB) with
            | true =>
              have HE2 := Lib.hid (HE.out.trans (if_pos (show printB s[j] = true from HX.out ▸ hp)))
              clear hp
              go_wp2_with fail
              refine Calls.mono HW1.out ?_
              rintro e w2 ⟨rfl, hi2, hb2⟩
              have HI2 := Lib.hid hi2
              have HB2 := Lib.hid (HBW.out.trans hb2)
              clear hi2 hb2
              go_wp2_with fail
              exact ⟨⟨j + 1, acc ++ [s[j]], hlt, by go_num, by simp; omega, HE2.out, HI2.out, HB2.out⟩, by simp [intOf]; omega⟩
            | false =>
              have HE2 := Lib.hid (HE.out.trans (if_neg (show ¬ (printB s[j] = true) by rw [← HX.out, hp]; exact Bool.false_ne_true)))
              clear hp
              go_wp2_with fail
              exact ⟨rfl, .inr ⟨HE2.out, rfl⟩, HBW.out⟩
      · obtain rfl : j = s.length := by omega
        have HE := Lib.hid (show rdL s = none by rw [HR.out, List.drop_length]; rfl)
        go_wp2_with fail
        exact ⟨rfl, .inr ⟨HE.out, rfl⟩, HBW.out⟩

theorem shortest_any (s : List UInt8) (w : World) (hs : s.length ≤ 100000) :
    Calls Tryz.prog 104 #[.string ⟨s.toArray⟩] w fun e w' => e = .returned (.string ⟨(shortL s).toArray⟩) ∧ Below w.heap.size w w' := by
  have HP := Lib.hid (isPlain_any s w (by unfold maxLen; omega))
  have HQ := Lib.hid (fun n => quoted_any s (w.drewN n) hs)
  cases h : plainL s with
  | true =>
    have HE := Lib.hid (show shortL s = s by simp [shortL, h])
    rw [h] at HP
    clear h
    go_enter Tryz.func104, Tryz.ntmps104
    go_wp2_with fail
    refine Calls.mono HP.out ?_
    rintro e w1 ⟨rfl, n, rfl⟩
    go_wp2_with fail
    go_ret
    exact ⟨ret_str HE.out.symm, below_drewN (Below.refl _ _) n⟩
  | false =>
    have HE := Lib.hid (show shortL s = quoteL s by simp [shortL, h])
    rw [h] at HP
    clear h
    go_enter Tryz.func104, Tryz.ntmps104
    go_wp2_with fail
    refine Calls.mono HP.out ?_
    rintro e w1 ⟨rfl, n, rfl⟩
    go_wp2_with fail
    refine Calls.mono (HQ.out n) ?_
    rintro e w2 ⟨rfl, hb⟩
    have HB := Lib.hid (show Below w.heap.size w w2 from (below_drewN (Below.refl _ w) n).trans hb)
    clear hb
    go_wp2_with fail
    go_ret
    exact ⟨ret_str HE.out.symm, HB.out⟩
end Go.Proofs.YtkbhmkofflcpjaaGreatDoor

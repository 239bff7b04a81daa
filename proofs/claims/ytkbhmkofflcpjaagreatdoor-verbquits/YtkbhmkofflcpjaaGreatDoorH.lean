/-
  quoted and readQuoted of package addr, walked: a text between quotes, and what a quoted text stands for.
  Conditions: as each theorem states them.
-/
import Derived.Test.YtkbhmkofflcpjaaGreatDoorE
import Derived.Test.YtkbhmkofflcpjaaGreatDoorG
import Derived.Deep.RegionWith
namespace Go.Proofs.YtkbhmkofflcpjaaGreatDoor
open Go.RowKit

theorem cells_snoc (l : List UInt8) (c : UInt8) : Lib.byteCells (l ++ [c]) = Lib.byteCells l ++ [.int .u8 (c.toNat : Int)] := by simp [Lib.byteCells]
theorem cells_len (l : List UInt8) : (Lib.byteCells l).length = l.length := by simp [Lib.byteCells]

/-- WriteByte, by bytes. -/
theorem writeB_any (B b : Nat) (l : List UInt8) (c : UInt8) (n : Int) (hn : n = (c.toNat : Int)) (w : World) (h : Lib.IsBuilderF 103 5 B b (Lib.byteCells l) w) (hlen : l.length ≤ 1000000) (hBw : B ≤ w.heap.size) :
    Calls Tryz.prog 124 #[.pointer (some ⟨b, 0, none⟩), .int .u8 n] w fun e w' => e = .returned .nilIface ∧ Lib.IsBuilderF 103 5 B b (Lib.byteCells (l ++ [c])) w' ∧ Below B w w' := by
  subst hn
  refine (writeByte_any B b (Lib.byteCells l) _ w h (by rw [cells_len]; omega) hBw).mono ?_
  rintro e w' ⟨rfl, h1, h2, _⟩
  exact ⟨rfl, by rw [cells_snoc]; exact h1, h2⟩

theorem esc_snoc (t : List UInt8) (c : UInt8) : escL (t ++ [c]) = escL t ++ escC c := by simp [escL]
theorem esc_len (t : List UInt8) : (escL t).length ≤ 2 * t.length := by
  induction t with
  | nil => exact Nat.zero_le _
  | cons c t ih =>
    have : (escC c).length ≤ 2 := by unfold escC; split <;> simp
    have e : escL (c :: t) = escC c ++ escL t := by simp [escL]
    rw [e]
    simp only [List.length_append, List.length_cons]
    omega

set_option maxHeartbeats 1000000 in
set_option maxRecDepth 100000 in
theorem quoted_any (s : List UInt8) (w : World) (hs : s.length ≤ 100000) :
    Calls Tryz.prog 125 #[.string ⟨s.toArray⟩] w fun e w' => e = .returned (.string ⟨(quoteL s).toArray⟩) ∧ Below w.heap.size w w' := by
  have HF := Lib.hid (show Lib.IsBuilderF 103 5 w.heap.size w.heap.size (Lib.byteCells []) _ from Lib.IsBuilderF.of (Lib.fresh_isBuilder 103 5 w))
  have HA := Lib.hid ((Below.refl _ w).alloc (Nat.le_refl _) (.cells #[.pointer none, .slice none 0 0] 103))
  have HW := Lib.hid (writeB_any w.heap.size w.heap.size [] 34 34 rfl _ HF.out (by simp) (by simp))
  go_enter Tryz.func125, Tryz.ntmps125
  go_wp2_with fail
  refine Calls.mono HW.out ?_
  rintro e w1 ⟨rfl, hi1, hb1⟩
  have HI := Lib.hid hi1
  have HB := Lib.hid (HA.out.trans hb1)
  clear hi1 hb1 HW HA HF
  go_wp2_with fail
  go_loopw [8] (fun i wr => ∃ j : Nat, j ≤ s.length ∧ i = .int .i64 j ∧ Lib.IsBuilderF 103 5 w.heap.size w.heap.size (Lib.byteCells (34 :: escL (s.take j))) wr ∧ Below w.heap.size w wr) (fun i _ => s.length - (intOf i).toNat)
  case atStart => exact ⟨0, Nat.zero_le _, rfl, HI.out, HB.out⟩
  case round =>
    obtain ⟨j, hj, rfl, hi, hb⟩ := hrel
    have HIW := Lib.hid hi
    have HBW := Lib.hid hb
    have hsz := hb.size
    have hel : (34 :: escL (s.take j)).length ≤ 200001 := by
      have h1 := esc_len (s.take j)
      have h2 : (s.take j).length ≤ j := List.length_take_le _ _
      simp only [List.length_cons]
      omega
    have HEL := Lib.hid hel
    clear hi hb hel
    by_cases hlt : j < s.length
    · have hjB : j < (⟨s.toArray⟩ : ByteArray).size := hlt
      have HX := Lib.hid (show ((⟨s.toArray⟩ : ByteArray)[j]'hjB) = s[j] from rfl)
      have HE := Lib.hid (show 34 :: escL (s.take (j + 1)) = 34 :: escL (s.take j) ++ escC s[j] by rw [take_snoc hlt, esc_snoc]; rfl)
      by_cases hq : s[j] = 34 ∨ s[j] = 92
      · have HQ := Lib.hid (show 34 :: escL (s.take (j + 1)) = (34 :: escL (s.take j) ++ [92]) ++ [s[j]] by rw [HE.out, escC, if_pos hq]; simp)
        have HW1 := Lib.hid (writeB_any w.heap.size w.heap.size _ 92 92 rfl wr HIW.out (by have := HEL.out; omega) hsz)
        by_cases h34 : s[j] = 34
        · have h1 : ((((⟨s.toArray⟩ : ByteArray)[j]'hjB).toNat : Int) == 34) = true := by rw [HX.out, h34]; rfl
          clear hq h34
          go_wp2_with fail
          refine Calls.mono HW1.out ?_
          rintro e w2 ⟨rfl, hi2, hb2⟩
          have hs2 := hb2.size
          have HW2 := Lib.hid (writeB_any w.heap.size w.heap.size _ s[j] (((⟨s.toArray⟩ : ByteArray)[j]'hjB).toNat : Int) rfl w2 hi2 (by have := HEL.out; simp only [List.length_append, List.length_cons, List.length_nil] at this ⊢; omega) (Nat.le_trans hsz hs2))
          rw [← HQ.out] at HW2
          have HB2 := Lib.hid (HBW.out.trans hb2)
          clear hi2 hb2
          go_wp2_with fail
          refine Calls.mono HW2.out ?_
          rintro e w3 ⟨rfl, hi3, hb3⟩
          have HI3 := Lib.hid hi3
          have HB3 := Lib.hid (HB2.out.trans hb3)
          clear hi3 hb3
          go_wp2_with fail
          exact ⟨⟨j + 1, hlt, by go_num, HI3.out, HB3.out⟩, by simp [intOf]; omega⟩
        · have h92 : s[j] = 92 := hq.resolve_left h34
          have h1 : ((((⟨s.toArray⟩ : ByteArray)[j]'hjB).toNat : Int) == 34) = false := byte_ne (d := 34) (by rw [HX.out]; exact h34)
          have h2 : ((((⟨s.toArray⟩ : ByteArray)[j]'hjB).toNat : Int) == 92) = true := by rw [HX.out, h92]; rfl
          clear hq h34 h92
          go_wp2_with fail
          refine Calls.mono HW1.out ?_
          rintro e w2 ⟨rfl, hi2, hb2⟩
          have hs2 := hb2.size
          have HW2 := Lib.hid (writeB_any w.heap.size w.heap.size _ s[j] (((⟨s.toArray⟩ : ByteArray)[j]'hjB).toNat : Int) rfl w2 hi2 (by have := HEL.out; simp only [List.length_append, List.length_cons, List.length_nil] at this ⊢; omega) (Nat.le_trans hsz hs2))
          rw [← HQ.out] at HW2
          have HB2 := Lib.hid (HBW.out.trans hb2)
          clear hi2 hb2
          go_wp2_with fail
          refine Calls.mono HW2.out ?_
          rintro e w3 ⟨rfl, hi3, hb3⟩
          have HI3 := Lib.hid hi3
          have HB3 := Lib.hid (HB2.out.trans hb3)
          clear hi3 hb3
          go_wp2_with fail
          exact ⟨⟨j + 1, hlt, by go_num, HI3.out, HB3.out⟩, by simp [intOf]; omega⟩
      · have HQ := Lib.hid (show 34 :: escL (s.take (j + 1)) = (34 :: escL (s.take j)) ++ [s[j]] by rw [HE.out, escC, if_neg hq])
        simp only [not_or] at hq
        have h1 : ((((⟨s.toArray⟩ : ByteArray)[j]'hjB).toNat : Int) == 34) = false := byte_ne (d := 34) (by rw [HX.out]; exact hq.1)
        have h2 : ((((⟨s.toArray⟩ : ByteArray)[j]'hjB).toNat : Int) == 92) = false := byte_ne (d := 92) (by rw [HX.out]; exact hq.2)
        have HW1 := Lib.hid (writeB_any w.heap.size w.heap.size _ s[j] (((⟨s.toArray⟩ : ByteArray)[j]'hjB).toNat : Int) rfl wr HIW.out (by have := HEL.out; omega) hsz)
        clear hq
        go_wp2_with fail
        refine Calls.mono HW1.out ?_
        rintro e w2 ⟨rfl, hi2, hb2⟩
        rw [← HQ.out] at hi2
        have HI2 := Lib.hid hi2
        have HB2 := Lib.hid (HBW.out.trans hb2)
        clear hi2 hb2
        go_wp2_with fail
        exact ⟨⟨j + 1, hlt, by go_num, HI2.out, HB2.out⟩, by simp [intOf]; omega⟩
    · obtain rfl : j = s.length := by omega
      rw [List.take_length] at HIW HEL
      have HW1 := Lib.hid (writeB_any w.heap.size w.heap.size _ 34 34 rfl wr HIW.out (by have := HEL.out; omega) hsz)
      go_wp2_with fail
      refine Calls.mono HW1.out ?_
      rintro e w2 ⟨rfl, hi2, hb2⟩
      have hs2 := hb2.size
      have HST := Lib.hid (Tryz.Builder_String_any_k w.heap.size w.heap.size _ w2 hi2 (Nat.le_trans hsz hs2))
      have HB2 := Lib.hid (HBW.out.trans hb2)
      clear hi2 hb2
      go_wp2_with fail
      refine Calls.mono HST.out ?_
      rintro e w3 ⟨rfl, _, hb3, _⟩
      have HB3 := Lib.hid (HB2.out.trans hb3)
      clear hb3
      go_wp2_with fail
      go_ret
      exact ⟨rfl, HB3.out⟩
end Go.Proofs.YtkbhmkofflcpjaaGreatDoor

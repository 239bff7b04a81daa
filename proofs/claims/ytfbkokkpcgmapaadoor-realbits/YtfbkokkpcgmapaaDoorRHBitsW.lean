/-
  RealBits: the numbers of any floats, and the floats of any numbers, are the page's: the statement's own walk.
  Conditions: as each theorem states them: the words given lie in memory; the library's two tables are as their initialisers lay them.
-/
import Derived.Test.YtfbkokkpcgmapaaDoorRG
import Derived.Test.YtfbkokkpcgmapaaDoorRHClassesW
namespace Go.Proofs.YtfbkokkpcgmapaaDoor
open Go.RowKit

set_option maxHeartbeats 4000000 in
set_option maxRecDepth 100000 in
theorem bits_any (l : List Nat) (v : Value) (w : World) (h : UsAt w v l) (hT : Tabs w) :
    Calls Tryd.prog 9 #[v] w fun e w' => e = .returned (.bool true) ∧ Below w.heap.size w w' := by
  have HT := Lib.hid hT
  have HA := Lib.hid (all_any l v w h)
  have HLT := Lib.hid (all_lt (show ∀ x ∈ l, x < 18446744073709551616 by obtain ⟨_, _, _, _, h, _⟩ := h; exact h))
  have HU := Lib.hid h
  obtain ⟨A0, c0, rfl, hlen0, _, _⟩ := h
  have hll : l.length < 9223372036854775808 := by unfold maxLen at hlen0; omega
  have HL0 := Lib.hid (show ∀ x ∈ l, x < 18446744073709551616 by obtain ⟨_, _, _, _, h, _⟩ := HU.out; exact h)
  clear hT hlen0
  go_enter Tryd.func9, Tryd.ntmps9
  go_wp2_with fail
  refine Calls.mono HA.out ?_
  rintro e w1 ⟨u, rfl, hrow, hb1⟩
  have HB1 := Lib.hid hb1
  have HT1 := Lib.hid (HT.out.keep hb1)
  obtain ⟨g, cap, rfl, hg, hgs, hcell⟩ := hrow.get (by unfold allL edgeL; simp)
  have HCELL := Lib.hid hcell
  have hsz1 := hb1.size
  have hX : (allL l).length ≤ 45 := by unfold allL; rw [List.length_append, show edgeL.length = 15 from rfl, List.length_take]; omega
  have hX0 : 15 ≤ (allL l).length := by unfold allL; rw [List.length_append, show edgeL.length = 15 from rfl]; omega
  generalize allL l = X at *
  clear hrow hb1 hcell HA HT hg
  go_wp2_with fail
  go_loopw [4] (fun iv wr => ∃ i : Nat, iv = .int .i64 i ∧ i ≤ X.length ∧ Below w1.heap.size w1 wr) (fun iv _ => X.length - (intOf iv).toNat)
  case atStart => exact ⟨0, rfl, Nat.zero_le _, Below.refl _ _⟩
  case round =>
    obtain ⟨i, rfl, hi, hb⟩ := hrel
    have HB := Lib.hid hb
    have hszr := hb.size
    clear hb
    by_cases hlt : i < X.length
    · have hlti : (i : Int) < (X.length : Int) := by omega
      have hc := (HB.out.cell (p := ⟨g, i, none⟩) hgs).trans (HCELL.out i hlt)
      have ha := HLT.out _ (List.getElem_mem hlt)
      generalize X[i] = a at *
      have HF := Lib.hid (fun W => fBits_any a W ha)
      have HR := Lib.hid (fun W => rBits_any a W ha)
      have hne := int_same (bitsF a : Int)
      generalize bitsF a = c at *
      clear ha
      go_wp2_with fail
      go_quiet (first | (go_at_call 33; exact Calls.quiet_of_same (HF.out _)) | (go_at_call 34; exact Calls.quiet_of_same (HR.out _)))
      go_wp2_with fail
      exact ⟨⟨i + 1, by go_num, by omega, below_drew HB.out _⟩, by simp [intOf]; omega⟩
    have hlti : ¬ ((i : Int) < (X.length : Int)) := by omega
    obtain rfl : i = X.length := by omega
    clear HCELL HLT hX hX0 hi
    go_wp2_with fail
    go_loopw [5] (fun jv wj => ∃ j : Nat, jv = .int .i64 j ∧ j ≤ l.length ∧ j ≤ 30 ∧ Below w1.heap.size w1 wj) (fun jv _ => 31 - (intOf jv).toNat)
    case atStart => exact ⟨0, rfl, Nat.zero_le _, Nat.zero_le _, HB.out⟩
    case round =>
      obtain ⟨j, rfl, hjl, hj30, hb⟩ := hrel
      have HBj := Lib.hid hb
      have hszj := hb.size
      clear hb HB
      by_cases hjt : j < l.length
      · have hjti : (j : Int) < (l.length : Int) := by omega
        by_cases h30 : j < 30
        · have h30i : (j : Int) < 30 := by omega
          have hx := HL0.out _ (List.getElem_mem hjt)
          obtain ⟨b, o, rfl, hcj⟩ := HU.out.cell hjt rfl HB1.out
          have hblt := World.block_lt_of_cell? w1 _ hcj
          generalize l[j] = x at *
          go_wp2_with fail
          go_loopw [6] (fun kv wk => ∃ k : Nat, kv = .int .u64 k ∧ k ≤ 3 ∧ Below w1.heap.size w1 wk) (fun kv _ => 3 - (intOf kv).toNat)
          case atStart => exact ⟨0, rfl, Nat.zero_le _, HBj.out⟩
          case round =>
            obtain ⟨k, rfl, hk3, hb⟩ := hrel
            have HBk := Lib.hid hb
            clear hb HBj
            by_cases hk : k < 3
            · have hki : (k : Int) < 3 := by omega
              have hc := (HBk.out.cell (p := ⟨b, o + j, none⟩) hblt).trans hcj
              obtain ⟨n, hn64, hw⟩ : ∃ n : Nat, n < 18446744073709551616 ∧ IntKind.u64.wrap (IntKind.u64.wrap ((x : Int) + (k : Int)) - 1) = (n : Int) := ⟨(x + k + 18446744073709551615) % 18446744073709551616, by omega, by rw [IntKind.wrap_u64, IntKind.wrap_u64]; omega⟩
              have HF := Lib.hid (fun W => fOf_any n W hn64)
              have HR := Lib.hid (fun W => rOf_any n W hn64)
              have HE := Lib.hid (fun W => eqFloat_any (ofF n) (ofF n) W)
              rw [eq_self] at HE
              generalize ofF n = y at *
              clear hx hn64
              go_wp2_with fail
              refine Calls.mono (HF.out _) ?_
              rintro e w5 ⟨rfl, rfl⟩
              go_wp2_with fail
              refine Calls.mono (HR.out _) ?_
              rintro e w5 ⟨rfl, rfl⟩
              go_wp2_with fail
              refine Calls.mono (HE.out _) ?_
              rintro e w5 ⟨rfl, rfl⟩
              go_wp2_with fail
              exact ⟨⟨k + 1, by go_num, by omega, HBk.out⟩, by simp [intOf]; omega⟩
            · have hki : ¬ ((k : Int) < 3) := by omega
              obtain rfl : k = 3 := by omega
              go_wp2_with fail
              exact ⟨⟨j + 1, by go_num, by omega, by omega, HBk.out⟩, by simp [intOf]; omega⟩
        · have h30i : decide ((j : Int) < 30) = false := decide_eq_false (by omega)
          obtain rfl : j = 30 := by omega
          have HW := Lib.hid (wakes_any wr (HT1.out.keep HBj.out))
          have HBW := Lib.hid (HB1.out.trans (HBj.out.mono hsz1))
          clear HB1 HBj
          go_wp2_with fail
          refine Calls.mono HW.out ?_
          rintro e w2 ⟨rfl, hb⟩
          have HB2 := Lib.hid (HBW.out.trans (hb.mono (Nat.le_trans hsz1 hszj)))
          clear hb
          go_wp2_with fail
          go_ret
          exact ⟨rfl, HB2.out⟩

      · have hjti : decide ((j : Int) < (l.length : Int)) = false := decide_eq_false (by omega)
        obtain rfl : j = l.length := by omega
        have HW := Lib.hid (wakes_any wr (HT1.out.keep HBj.out))
        have HBW := Lib.hid (HB1.out.trans (HBj.out.mono hsz1))
        clear HB1 HBj
        go_wp2_with fail
        refine Calls.mono HW.out ?_
        rintro e w2 ⟨rfl, hb⟩
        have HB2 := Lib.hid (HBW.out.trans (hb.mono (Nat.le_trans hsz1 hszj)))
        clear hb
        go_wp2_with fail
        go_ret
        exact ⟨rfl, HB2.out⟩

end Go.Proofs.YtfbkokkpcgmapaaDoor

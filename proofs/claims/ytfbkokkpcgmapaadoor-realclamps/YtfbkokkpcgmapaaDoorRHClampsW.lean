/-
  RealClamps: any float within any two is the page's: the statement's own walk.
  Conditions: as each theorem states them: the words given lie in memory; the library's two tables are as their initialisers lay them.
-/
import Derived.Test.YtfbkokkpcgmapaaDoorRG
import Derived.Test.YtfbkokkpcgmapaaDoorRHClassesW
import Derived.Test.YtfbkokkpcgmapaaDoorRK
namespace Go.Proofs.YtfbkokkpcgmapaaDoor
open Go.RowKit

set_option maxHeartbeats 8000000 in
set_option maxRecDepth 100000 in
theorem clamps_any (l : List Nat) (v : Value) (w : World) (h : UsAt w v l) (hT : Tabs w) :
    Calls Tryd.prog 6 #[v] w fun e w' => e = .returned (.bool true) ∧ Below w.heap.size w w' := by
  have HT := Lib.hid hT
  have HA := Lib.hid (all_any l v w h)
  have HLT := Lib.hid (all_lt (show ∀ x ∈ l, x < 18446744073709551616 by obtain ⟨_, _, _, _, h, _⟩ := h; exact h))
  have HU := Lib.hid h
  obtain ⟨A0, c0, rfl, hlen0, _, _⟩ := h
  have hll : l.length < 9223372036854775808 := by unfold maxLen at hlen0; omega
  clear hT hlen0
  go_enter Tryd.func6, Tryd.ntmps6
  go_wp2_with fail
  refine Calls.mono HA.out ?_
  rintro e w1 ⟨u, rfl, hrow, hb1⟩
  have HB1 := Lib.hid hb1
  have HT1 := Lib.hid (HT.out.keep hb1)
  obtain ⟨g, cap, rfl, hg, hgs, hcell⟩ := hrow.get (by unfold allL edgeL; simp)
  have HCELL := Lib.hid hcell
  have hsz1 := hb1.size
  have hX : (allL l).length ≤ 45 := by unfold allL; rw [List.length_append, show edgeL.length = 15 from rfl, List.length_take]; omega
  have hX0 : 15 ≤ (allL l).length := by unfold allL; rw [List.length_append, show edgeL.length = 15 from rfl]; omega
  generalize allL l = X at *
  clear hrow hb1 hcell HA HT hg
  go_wp2_with fail
  go_loopw [4] (fun iv wr => ∃ i : Nat, iv = .int .i64 i ∧ i ≤ X.length ∧ Below w1.heap.size w1 wr) (fun iv _ => X.length - (intOf iv).toNat)
  case atStart => exact ⟨0, rfl, Nat.zero_le _, Below.refl _ _⟩
  case round =>
    obtain ⟨i, rfl, hi, hb⟩ := hrel
    have HB := Lib.hid hb
    have hszr := hb.size
    clear hb
    by_cases hlt : i < X.length
    · have hlti : (i : Int) < (X.length : Int) := by omega
      have HCI := Lib.hid (HCELL.out i hlt)
      have ha := HLT.out _ (List.getElem_mem hlt)
      generalize X[i] = a at *
      go_wp2_with fail
      go_loopw [5] (fun kv wk => ∃ k : Nat, kv = .int .i64 k ∧ k ≤ X.length + 2 ∧ Below w1.heap.size w1 wk) (fun kv _ => X.length + 3 - (intOf kv).toNat)
      case atStart => exact ⟨0, rfl, Nat.zero_le _, HB.out⟩
      case round =>
        obtain ⟨k, rfl, hk, hb⟩ := hrel
        have HBk := Lib.hid hb
        clear hb HB
        by_cases hkt : k < X.length
        · have hkti : (k : Int) < (X.length : Int) := by omega
          have HDI := Lib.hid (HCELL.out k hkt)
          have hbb := HLT.out _ (List.getElem_mem hkt)
          generalize X[k] = b at *
          go_wp2_with fail
          go_loopw [6] (fun jv wj => ∃ j : Nat, jv = .int .i64 j ∧ j ≤ X.length + 1 ∧ Below w1.heap.size w1 wj) (fun jv _ => X.length + 2 - (intOf jv).toNat)
          case atStart => exact ⟨0, rfl, Nat.zero_le _, HBk.out⟩
          case round =>
            obtain ⟨j, rfl, hj, hb⟩ := hrel
            have HBj := Lib.hid hb
            clear hb HBk
            by_cases hjt : j < X.length
            · have hjti : (j : Int) < (X.length : Int) := by omega
              have hc := (HBj.out.cell (p := ⟨g, i, none⟩) hgs).trans HCI.out
              have hd := (HBj.out.cell (p := ⟨g, k, none⟩) hgs).trans HDI.out
              have he := (HBj.out.cell (p := ⟨g, j, none⟩) hgs).trans (HCELL.out j hjt)
              have hcc := HLT.out _ (List.getElem_mem hjt)
              generalize X[j] = c at *
              have HF := Lib.hid (fun W => fClamp_any a b c W ha hbb hcc)
              have HR := Lib.hid (fun W => rClamp_any a b c W ha hbb hcc)
              have HE := Lib.hid (fun W => eqFloat_any (clampF a b c) (clampF a b c) W)
              rw [eq_self] at HE
              generalize clampF a b c = y at *
              clear ha hbb hcc
              go_wp2_with fail
              go_quiet (first | (go_at_call 26; exact Calls.quiet_of_same (HF.out _)) | (go_at_call 27; exact Calls.quiet_of_same (HR.out _)) | (go_at_call 20; exact Calls.quiet_of_same (HE.out _)))
              go_wp2_with fail
              exact ⟨⟨j + 2, by go_num, by omega, below_drew HBj.out _⟩, by simp [intOf]; omega⟩
            · have hjti : ¬ ((j : Int) < (X.length : Int)) := by omega
              obtain ⟨m, hm2, hm3⟩ : ∃ m : Nat, (l.length : Int) % 3 = (m : Int) ∧ m < 3 := ⟨l.length % 3, by omega, by omega⟩
              have hm : (l.length : Int).tmod 3 = (m : Int) := by rw [Int.tmod_eq_emod_of_nonneg (by omega)]; exact hm2
              go_wp2_with fail
              exact ⟨⟨k + 1 + m, by go_num, by omega, HBj.out⟩, by simp [intOf]; omega⟩
        · have hkti : ¬ ((k : Int) < (X.length : Int)) := by omega
          go_wp2_with fail
          exact ⟨⟨i + 1, by go_num, by omega, HBk.out⟩, by simp [intOf]; omega⟩
    have hlti : ¬ ((i : Int) < (X.length : Int)) := by omega
    obtain rfl : i = X.length := by omega
    have HW := Lib.hid (wakes_any wr (HT1.out.keep HB.out))
    have HBW := Lib.hid (HB1.out.trans (HB.out.mono hsz1))
    clear HB1 HB
    go_wp2_with fail
    refine Calls.mono HW.out ?_
    rintro e w2 ⟨rfl, hb⟩
    have HB2 := Lib.hid (HBW.out.trans (hb.mono (Nat.le_trans hsz1 hszr)))
    clear hb
    go_wp2_with fail
    go_ret
    exact ⟨rfl, HB2.out⟩
end Go.Proofs.YtfbkokkpcgmapaaDoor

/-
  RealClasses: the kinds of any floats are the page's: the statement's own walk.
  Conditions: as each theorem states them: the words given lie in memory; the library's two tables are as their initialisers lay them.
-/
import Derived.Test.YtfbkokkpcgmapaaDoorRG
namespace Go.Proofs.YtfbkokkpcgmapaaDoor
open Go.RowKit

theorem int_same (x : Int) : (x != x) = false := by simp
theorem below_drew {B : Nat} {w w' : World} (h : Below B w w') (n : Nat) : Below B w (w'.drewN n) := below_drewN h n

set_option maxHeartbeats 2000000 in
set_option maxRecDepth 100000 in
theorem classes_any (l : List Nat) (v : Value) (w : World) (h : UsAt w v l) (hT : Tabs w) :
    Calls Tryd.prog 4 #[v] w fun e w' => e = .returned (.bool true) ∧ Below w.heap.size w w' := by
  have HT := Lib.hid hT
  have HA := Lib.hid (all_any l v w h)
  have HLT := Lib.hid (all_lt (show ∀ x ∈ l, x < 18446744073709551616 by obtain ⟨_, _, _, _, h, _⟩ := h; exact h))
  have HU := Lib.hid h
  obtain ⟨A0, c0, rfl, hlen0, _, _⟩ := h
  have hll : l.length < 9223372036854775808 := by unfold maxLen at hlen0; omega
  clear hT hlen0
  go_enter Tryd.func4, Tryd.ntmps4
  go_wp2_with fail
  refine Calls.mono HA.out ?_
  rintro e w1 ⟨u, rfl, hrow, hb1⟩
  have HB1 := Lib.hid hb1
  have HT1 := Lib.hid (HT.out.keep hb1)
  obtain ⟨g, cap, rfl, hg, hgs, hcell⟩ := hrow.get (by unfold allL edgeL; simp)
  have HCELL := Lib.hid hcell
  have hsz1 := hb1.size
  have hX : (allL l).length ≤ 45 := by unfold allL; rw [List.length_append, show edgeL.length = 15 from rfl, List.length_take]; omega
  have hX0 : 15 ≤ (allL l).length := by unfold allL; rw [List.length_append, show edgeL.length = 15 from rfl]; omega
  generalize allL l = X at *
  clear hrow hb1 hcell HA HT hg
  go_wp2_with fail
  go_loopw [4] (fun iv wr => ∃ i : Nat, iv = .int .i64 i ∧ i ≤ X.length ∧ Below w1.heap.size w1 wr) (fun iv _ => X.length - (intOf iv).toNat)
  case atStart => exact ⟨0, rfl, Nat.zero_le _, Below.refl _ _⟩
  case round =>
    obtain ⟨i, rfl, hi, hb⟩ := hrel
    have HB := Lib.hid hb
    have hszr := hb.size
    clear hb
    by_cases hlt : i < X.length
    · have hlti : (i : Int) < (X.length : Int) := by omega
      have hc := (HB.out.cell (p := ⟨g, i, none⟩) hgs).trans (HCELL.out i hlt)
      have ha := HLT.out _ (List.getElem_mem hlt)
      generalize X[i] = a at *
      have HF := Lib.hid (fun W => fClass_any a W ha)
      have HR := Lib.hid (fun W => rClass_any a W ha)
      have hne := int_same (classF a : Int)
      generalize classF a = c at *
      clear ha
      go_wp2_with fail
      go_quiet (first | (go_at_call 18; exact Calls.quiet_of_same (HF.out _)) | (go_at_call 19; exact Calls.quiet_of_same (HR.out _)))
      go_wp2_with fail
      exact ⟨⟨i + 1, by go_num, by omega, below_drew HB.out _⟩, by simp [intOf]; omega⟩
    have hlti : ¬ ((i : Int) < (X.length : Int)) := by omega
    obtain rfl : i = X.length := by omega
    have HW := Lib.hid (wakes_any wr (HT1.out.keep HB.out))
    have HBW := Lib.hid (HB1.out.trans (HB.out.mono hsz1))
    clear HB1 HB
    go_wp2_with fail
    refine Calls.mono HW.out ?_
    rintro e w2 ⟨rfl, hb⟩
    have HB2 := Lib.hid (HBW.out.trans (hb.mono (Nat.le_trans hsz1 hszr)))
    clear hb
    go_wp2_with fail
    go_ret
    exact ⟨rfl, HB2.out⟩
end Go.Proofs.YtfbkokkpcgmapaaDoor

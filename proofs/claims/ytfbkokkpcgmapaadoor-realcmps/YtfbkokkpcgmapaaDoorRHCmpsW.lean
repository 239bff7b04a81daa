/-
  RealCmps: how any two floats stand is the page's: the statement's own walk.
  Conditions: as each theorem states them: the words given lie in memory; the library's two tables are as their initialisers lay them.
-/
import Derived.Test.YtfbkokkpcgmapaaDoorRG
import Derived.Test.YtfbkokkpcgmapaaDoorRHClassesW
namespace Go.Proofs.YtfbkokkpcgmapaaDoor
open Go.RowKit

set_option maxHeartbeats 4000000 in
set_option maxRecDepth 100000 in
theorem cmps_any (l : List Nat) (v : Value) (w : World) (h : UsAt w v l) (hT : Tabs w) :
    Calls Tryd.prog 3 #[v] w fun e w' => e = .returned (.bool true) ∧ Below w.heap.size w w' := by
  have HT := Lib.hid hT
  have HA := Lib.hid (all_any l v w h)
  have HLT := Lib.hid (all_lt (show ∀ x ∈ l, x < 18446744073709551616 by obtain ⟨_, _, _, _, h, _⟩ := h; exact h))
  have HU := Lib.hid h
  obtain ⟨A0, c0, rfl, hlen0, _, _⟩ := h
  have hll : l.length < 9223372036854775808 := by unfold maxLen at hlen0; omega
  clear hT hlen0
  go_enter Tryd.func3, Tryd.ntmps3
  go_wp2_with fail
  refine Calls.mono HA.out ?_
  rintro e w1 ⟨u, rfl, hrow, hb1⟩
  have HB1 := Lib.hid hb1
  have HT1 := Lib.hid (HT.out.keep hb1)
  obtain ⟨g, cap, rfl, hg, hgs, hcell⟩ := hrow.get (by unfold allL edgeL; simp)
  have HCELL := Lib.hid hcell
  have hsz1 := hb1.size
  have hX : (allL l).length ≤ 45 := by unfold allL; rw [List.length_append, show edgeL.length = 15 from rfl, List.length_take]; omega
  have hX0 : 15 ≤ (allL l).length := by unfold allL; rw [List.length_append, show edgeL.length = 15 from rfl]; omega
  generalize allL l = X at *
  clear hrow hb1 hcell HA HT hg
  go_wp2_with fail
  go_loopw [4] (fun iv wr => ∃ i : Nat, iv = .int .i64 i ∧ i ≤ X.length ∧ Below w1.heap.size w1 wr) (fun iv _ => X.length - (intOf iv).toNat)
  case atStart => exact ⟨0, rfl, Nat.zero_le _, Below.refl _ _⟩
  case round =>
    obtain ⟨i, rfl, hi, hb⟩ := hrel
    have HB := Lib.hid hb
    have hszr := hb.size
    clear hb
    by_cases hlt : i < X.length
    · have hlti : (i : Int) < (X.length : Int) := by omega
      have HCI := Lib.hid (HCELL.out i hlt)
      have ha := HLT.out _ (List.getElem_mem hlt)
      generalize X[i] = a at *
      go_wp2_with fail
      go_loopw [5] (fun kv wk => ∃ k : Nat, kv = .int .i64 k ∧ k ≤ X.length ∧ Below w1.heap.size w1 wk) (fun kv _ => X.length - (intOf kv).toNat)
      case atStart => exact ⟨0, rfl, Nat.zero_le _, HB.out⟩
      case round =>
        obtain ⟨k, rfl, hk, hb⟩ := hrel
        have HBk := Lib.hid hb
        clear hb HB
        by_cases hkt : k < X.length
        · have hkti : (k : Int) < (X.length : Int) := by omega
          have hc := (HBk.out.cell (p := ⟨g, i, none⟩) hgs).trans HCI.out
          have hd := (HBk.out.cell (p := ⟨g, k, none⟩) hgs).trans (HCELL.out k hkt)
          have HDI := Lib.hid (HCELL.out k hkt)
          have hbb := HLT.out _ (List.getElem_mem hkt)
          generalize X[k] = b at *
          have HF := Lib.hid (fun W => fCmp_any a b W ha hbb)
          have HR := Lib.hid (fun W => rCmp_any a b W ha hbb)
          have HS := Lib.hid (fun W => fSame_any a b W ha hbb)
          have hne := int_same (cmpF a b)
          have hnb : ((cmpF a b == 0) != (cmpF a b == 0)) = false := by cases (cmpF a b == 0) <;> rfl
          generalize cmpF a b = c at *
          clear ha hbb
          go_wp2_with fail
          go_quiet (first | (go_at_call 14; exact Calls.quiet_of_same (HF.out _)))
          have HBq := Lib.hid (below_drew HBk.out nq)
          have hc2 := (HBq.out.cell (p := ⟨g, i, none⟩) hgs).trans HCI.out
          have hd2 := (HBq.out.cell (p := ⟨g, k, none⟩) hgs).trans HDI.out
          generalize wr.drewN nq = wq at *
          clear hc hd HBk
          go_wp2_with fail
          go_quiet (first | (go_at_call 15; exact Calls.quiet_of_same (HR.out _)) | (go_at_call 16; exact Calls.quiet_of_same (HS.out _)))
          go_wp2_with fail
          exact ⟨⟨k + 1, by go_num, by omega, below_drew HBq.out _⟩, by simp [intOf]; omega⟩
        · have hkti : ¬ ((k : Int) < (X.length : Int)) := by omega
          go_wp2_with fail
          exact ⟨⟨i + 1, by go_num, by omega, HBk.out⟩, by simp [intOf]; omega⟩
    have hlti : ¬ ((i : Int) < (X.length : Int)) := by omega
    obtain rfl : i = X.length := by omega
    have HW := Lib.hid (wakes_any wr (HT1.out.keep HB.out))
    have HBW := Lib.hid (HB1.out.trans (HB.out.mono hsz1))
    clear HB1 HB
    go_wp2_with fail
    refine Calls.mono HW.out ?_
    rintro e w2 ⟨rfl, hb⟩
    have HB2 := Lib.hid (HBW.out.trans (hb.mono (Nat.le_trans hsz1 hszr)))
    clear hb
    go_wp2_with fail
    go_ret
    exact ⟨rfl, HB2.out⟩
end Go.Proofs.YtfbkokkpcgmapaaDoor

/-
  The argument in a block; heavy, Within and wakes of the statements' text, walked; what an asking of a list of none or of one tells.
  Conditions: as each theorem states them.
-/
import Derived.Test.YtaglobnfdgencaaDoorGW
namespace Go.Proofs.YtaglobnfdgencaaDoor
open Go.RowKit

section
variable {w w' : World} {k : Nat} {u1 u2 : Value}
end
/-- What is asked of a list of none, of one. -/
theorem okL_nil : okL [] = true := rfl
theorem okL_one {g : Gy} (h : okG g = true) : okL [g] = true := okL_iff.2 ⟨by simp, by simpa using h, List.pairwise_singleton _ _⟩
theorem ask_none {key : ByteArray} {now wait : Int} (hk : okK key = true) (hn : inB now 0 1099511627776 = true) (hw : inB wait 0 1099511627776 = true) :
    mayL [] key now wait = true ∧ outA [] key now wait = ([⟨key, now, now, wait == 0⟩], wait == 0) := by
  have hm : mayL [] key now wait = true := by unfold mayL; rw [okL_nil, hk, hn, hw]; rfl
  refine ⟨hm, ?_⟩
  unfold outA
  rw [if_pos hm]
  rfl
theorem ask_again {g : Gy} {key : ByteArray} {now wait : Int} (hg : okG g = true) (hk : okK key = true) (hn : inB now 0 1099511627776 = true) (hw : inB wait 0 1099511627776 = true) (he : g.k = key) (ht : now - 65536 ≤ g.l) :
    mayL [g] key now wait = true ∧ outA [g] key now wait = ([meetG g now wait], (meetG g now wait).p) := by
  have hm : mayL [g] key now wait = true := by unfold mayL; rw [okL_one hg, hk, hn, hw]; rfl
  refine ⟨hm, ?_⟩
  have hs : sinceL [g] (now - 65536) = [g] := by simp [sinceL, ht]
  have hek : eqK g.k key = true := eqK_iff.2 he
  unfold outA
  rw [if_pos hm]
  unfold askL
  rw [hs]
  exact askM_known now wait (List.pairwise_singleton _ _) (p := 0) (by simp) hek
theorem ask_anew {g : Gy} {key : ByteArray} {now wait : Int} (hg : okG g = true) (hk : okK key = true) (hn : inB now 0 1099511627776 = true) (hw : inB wait 0 1099511627776 = true) (ht : g.l < now - 65536) :
    mayL [g] key now wait = true ∧ outA [g] key now wait = ([⟨key, now, now, wait == 0⟩], wait == 0) := by
  have hm : mayL [g] key now wait = true := by unfold mayL; rw [okL_one hg, hk, hn, hw]; rfl
  refine ⟨hm, ?_⟩
  have hs : sinceL [g] (now - 65536) = [] := by simp [sinceL]; omega
  unfold outA
  rw [if_pos hm]
  unfold askL
  rw [hs]
  rfl

def kk1 : ByteArray := ⟨#[107]⟩
theorem okK_kk1 : okK kk1 = true := by decide
theorem wakes_any (w : World) : Calls Tryd.prog 7 #[] w fun e w' => e = .returned (.bool true) ∧ Below w.heap.size w w' := by
  have H1 := Lib.hid (fun W => ask_any [] kk1 5 10 (.slice none 0 0) W (GR.nil W) (by simp))
  obtain ⟨e1, e2⟩ := ask_none (key := kk1) (now := 5) (wait := 10) okK_kk1 (by decide) (by decide)
  rw [e1, e2] at H1
  have H2 := Lib.hid (fun u W h => ask_any [⟨kk1, 5, 5, (10 : Int) == 0⟩] kk1 15 10 u W h (by simp))
  obtain ⟨e3, e4⟩ := ask_again (g := ⟨kk1, 5, 5, (10 : Int) == 0⟩) (key := kk1) (now := 15) (wait := 10) (by decide) okK_kk1 (by decide) (by decide) rfl (by decide)
  rw [e3, e4] at H2
  rw [show (meetG ⟨kk1, 5, 5, (10 : Int) == 0⟩ 15 10).p = true by decide] at H2
  rw [show ((10 : Int) == 0) = false by decide] at H1 H2
  have H4 := Lib.hid (fun W => num_any 0 W)
  unfold kk1 at H1 H2
  simp only [errN, if_true] at H1 H2
  go_enter Tryd.func7, Tryd.ntmps7
  go_wp2_with fail
  refine Calls.mono (H1.out _) ?_
  rintro e w1 ⟨u, rfl, hg1, hb1⟩
  have HG1 := Lib.hid hg1
  have HB1 := Lib.hid hb1
  obtain ⟨A1, C1, rfl, _, _⟩ := hg1.slice
  clear hg1 hb1
  go_wp2_with fail
  refine Calls.mono (H2.out _ _ HG1.out.gr) ?_
  rintro e w2 ⟨u2, rfl, hg2, hb2⟩
  have HB2 := Lib.hid (HB1.out.trans (hb2.mono HB1.out.size))
  obtain ⟨A2, C2, rfl, _, _⟩ := hg2.slice
  clear hg2 hb2
  go_wp2_with fail
  refine Calls.mono (H4.out _) ?_
  rintro e w' ⟨rfl, he⟩
  have he := he.symm
  subst he
  go_wp2_with fail
  refine Calls.mono (H4.out _) ?_
  rintro e w' ⟨rfl, he⟩
  have he := he.symm
  subst he
  go_wp2_with fail
  go_ret
  exact ⟨rfl, HB2.out⟩
end Go.Proofs.YtaglobnfdgencaaDoor

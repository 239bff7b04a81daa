/-
  RealEdges: the texts of the floats at their ends, and texts that are none: the statement's own walk.
  Conditions: as each theorem states them: the words given lie in memory; the library's two tables are as their initialisers lay them.
-/
import Derived.Test.YtfbkokkpcgmapaaDoorRG
import Derived.Test.YtfbkokkpcgmapaaDoorRHTextsW
import Derived.Test.YtfbkokkpcgmapaaDoorRHStepsW
import Derived.Test.YtfbkokkpcgmapaaDoorRY
namespace Go.Proofs.YtfbkokkpcgmapaaDoor
open Go.RowKit

def wantL : List (List UInt8) := [[45, 105, 110, 102], [45, 57, 48, 48, 55, 49, 57, 57, 50, 53, 52, 55, 52, 48, 57, 57, 49, 112, 57, 55, 49], [45, 49, 112, 48], [45, 49, 112, 45, 49, 48, 50, 50], [45, 52, 53, 48, 51, 53, 57, 57, 54, 50, 55, 51, 55, 48, 52, 57, 53, 112, 45, 49, 48, 55, 52], [45, 49, 112, 45, 49, 48, 55, 52], [45, 48], [48], [49, 112, 45, 49, 48, 55, 52], [52, 53, 48, 51, 53, 57, 57, 54, 50, 55, 51, 55, 48, 52, 57, 53, 112, 45, 49, 48, 55, 52], [49, 112, 45, 49, 48, 50, 50], [49, 112, 48], [57, 48, 48, 55, 49, 57, 57, 50, 53, 52, 55, 52, 48, 57, 57, 49, 112, 57, 55, 49], [43, 105, 110, 102], [110, 97, 110]]
def badL : List (List UInt8) := [[], [105, 110, 102], [78, 97, 78], [43, 48], [50, 112, 48], [48, 49, 112, 48], [49, 112, 48, 48], [49, 112], [112, 49], [49, 112, 45, 48], [49, 112, 49, 48, 50, 52], [49, 112, 45, 49, 48, 55, 53], [57, 48, 48, 55, 49, 57, 57, 50, 53, 52, 55, 52, 48, 57, 57, 51, 112, 48], [45, 45, 49, 112, 48], [49, 112, 43, 49], [49, 46, 48], [49, 112, 48, 32], [45, 110, 97, 110], [57, 48, 48, 55, 49, 57, 57, 50, 53, 52, 55, 52, 48, 57, 57, 49, 112, 57, 55, 50]]
theorem want_is : ∀ i : Fin 15, textN (edgeL.getD i.val 0) = wantL.getD i.val [] := by decide +kernel
/-- The program's reader by reckoning. -/
def progN (s : List UInt8) : Option Nat :=
  if s = [110, 97, 110] then some 9221120237041090561
  else if s = [45, 105, 110, 102] then some 18442240474082181120
  else if s = [45, 48] then some 9223372036854775808
  else if s = [48] then some 0
  else if s = [43, 105, 110, 102] then some 9218868437227405312
  else (readL s).bind fun x => if textN x = s then some x else none
theorem prog_comp (s : List UInt8) : progL s = progN s := by
  unfold progL progN
  simp only [text_comp]
theorem bad_is : ∀ i : Fin 19, progN (badL.getD i.val []) = none := by decide +kernel
theorem bad_len : ∀ i : Fin 19, (badL.getD i.val []).length ≤ 10000 := by decide +kernel

/-- The cells of a row of texts. -/
def strsOf (rows : List (List UInt8)) : List Value := rows.map fun l => Value.string ⟨l.toArray⟩
theorem strs_cell (w : World) (L : List (List UInt8)) (j : Nat) (hj : j < L.length) : (w.alloc (.cells (strsOf L).toArray 9)).cell? ⟨w.heap.size, j, none⟩ = some (.string ⟨(L.getD j []).toArray⟩) := by
  rw [World.cell?_alloc_new]
  simp [strsOf, List.getD, hj]

set_option maxHeartbeats 4000000 in
set_option maxRecDepth 100000 in
theorem edges_law (l : List (List UInt8)) (v : Value) (w : World) (h : StrsAt w v l) (hT : Tabs w) (hE : Errs w) :
    Calls Tryd.prog 11 #[v] w fun e w' => e = .returned (.bool true) ∧ Below w.heap.size w w' := by
  have HT := Lib.hid hT
  have HER := Lib.hid hE
  have HED := Lib.hid (fun W => edges_any W)
  obtain ⟨A0, c0, rfl, hlen0, _⟩ := h
  have hll : l.length < 9223372036854775808 := by unfold maxLen at hlen0; omega
  clear hT hE hlen0
  go_enter Tryd.func11, Tryd.ntmps11
  go_wp2_with fail
  refine Calls.mono (HED.out _) ?_
  rintro e w0 ⟨rfl, rfl⟩
  have HB1 := Lib.hid ((Below.refl w.heap.size w).alloc (Nat.le_refl _) (.cells (flsOf edgeL).toArray 26))
  have HCX := Lib.hid (show ∀ j, j < 15 → (w.alloc (.cells (flsOf edgeL).toArray 26)).cell? ⟨w.heap.size, j, none⟩ = some (.float .f64 (edgeL.getD j 0)) from fun j hj => by
    rw [World.cell?_alloc_new]
    simp [flsOf, List.getD, show j < edgeL.length from hj])
  have hgs : w.heap.size < (w.alloc (.cells (flsOf edgeL).toArray 26)).heap.size := by simp
  generalize hg0 : w.heap.size = g at *
  generalize (w.alloc (.cells (flsOf edgeL).toArray 26)) = w1 at *
  go_upto_region 2 with (fail)
  go_cut [4] (fun sv wc => ∃ g2, sv = .slice (some ⟨g2, 0, none⟩) 15 15 ∧ Below w1.heap.size w1 wc ∧ g2 < wc.heap.size ∧ ∀ j, j < 15 → wc.cell? ⟨g2, j, none⟩ = some (.string ⟨(wantL.getD j []).toArray⟩))
  case first =>
    go_wp2_with fail
    go_meet
    case rel => exact ⟨w1.heap.size, rfl, (Below.refl _ w1).alloc (Nat.le_refl _) _, by simp, fun j hj => strs_cell w1 wantL j hj⟩
  case rest =>
    obtain ⟨g2, rfl, hb2, hg2, hcw⟩ := hcut
    have HB2 := Lib.hid hb2
    have HCW := Lib.hid hcw
    have HCX2 := Lib.hid (show ∀ j, j < 15 → wc.cell? ⟨g, j, none⟩ = some (.float .f64 (edgeL.getD j 0)) from fun j hj => (hb2.cell (p := ⟨g, j, none⟩) hgs).trans (HCX.out j hj))
    have HBc := Lib.hid (HB1.out.trans (hb2.mono (by omega)))
    have hgc : g < wc.heap.size := Nat.lt_of_lt_of_le hgs hb2.size
    clear hb2 hcw HCX HB1 HB2 HED
    generalize hwc : wc = wm at *
    clear hwc wc
    go_wp2_with fail
    go_loopw [5] (fun iv wr => ∃ i : Nat, iv = .int .i64 i ∧ i ≤ 15 ∧ Below wm.heap.size wm wr) (fun iv _ => 15 - (intOf iv).toNat)
    case atStart => exact ⟨0, rfl, Nat.zero_le _, Below.refl _ _⟩
    case round =>
      obtain ⟨i, rfl, hi, hb⟩ := hrel
      have HB := Lib.hid hb
      have hszr := hb.size
      clear hb
      by_cases hlt : i < 15
      · have hlti : (i : Int) < 15 := by omega
        have HS := Lib.hid (show ∀ W : World, Below wr.heap.size wr W → W.cell? ⟨g, i, none⟩ = some (.float .f64 (edgeL.getD i 0)) ∧ W.cell? ⟨g2, i, none⟩ = some (.string ⟨(wantL.getD i []).toArray⟩) from fun W hW =>
          ⟨(hW.cell (p := ⟨g, i, none⟩) (Nat.lt_of_lt_of_le hgc hszr)).trans ((HB.out.cell (p := ⟨g, i, none⟩) hgc).trans (HCX2.out i hlt)),
           (hW.cell (p := ⟨g2, i, none⟩) (Nat.lt_of_lt_of_le hg2 hszr)).trans ((HB.out.cell (p := ⟨g2, i, none⟩) hg2).trans (HCW.out i hlt))⟩)
        have ha : edgeL.getD i 0 < 18446744073709551616 := by
          have : ∀ i : Fin 15, edgeL.getD i.val 0 < 18446744073709551616 := by decide
          exact this ⟨i, hlt⟩
        have HX := Lib.hid (fun W (hT : Tabs W) => fText_any (edgeL.getD i 0) W hT ha)
        rw [text_comp, want_is ⟨i, hlt⟩] at HX
        have HTr := Lib.hid ((HT.out.keep (by rw [hg0]; exact HBc.out)).keep HB.out)
        have hne : (wantL.getD i [] != wantL.getD i []) = false := by simp
        have hc1 := (HS.out wr (Below.refl _ _)).1
        have hc2 := (HS.out wr (Below.refl _ _)).2
        simp only at HX
        generalize wantL.getD i [] = tx at *
        generalize edgeL.getD i 0 = a at *
        clear ha
        go_wp2_with fail
        go_region_held3 (fun W => W.cell? ⟨g, i, none⟩ = some (.float .f64 a) ∧ W.cell? ⟨g2, i, none⟩ = some (.string ⟨tx.toArray⟩))
          (first | exact HS.out _ (Below.refl _ _) | exact HS.out _ (Below.refl _ _).drew | exact HS.out _ hk5)
          (first | (go_at_call 28; refine Calls.mono (HX.out _ (HTr.out.keep (Below.refl _ _).drew)) ?_; rintro e w5 ⟨rfl, hb5⟩; (have hk5 : Below wr.heap.size wr w5 := (Below.refl _ _).drew.trans hb5)))
        all_goals
          go_wp2_with fail
          exact ⟨⟨i + 1, by go_num, by omega, HB.out.trans (hk5.mono hszr)⟩, by simp [intOf]; omega⟩
      · have hlti : ¬ ((i : Int) < 15) := by omega
        have HTr := Lib.hid ((HT.out.keep (by rw [hg0]; exact HBc.out)).keep HB.out)
        have HEr := Lib.hid ((HER.out.keep (by rw [hg0]; exact HBc.out)).keep HB.out)
        have HBr := Lib.hid (HBc.out.trans (HB.out.mono (by omega)))
        clear HCW HCX2 HBc HB hlt hi
        generalize wr = wp at *
        go_upto_region 8 with (fail)
        go_cut [6] (fun sv wc => ∃ g3, sv = .slice (some ⟨g3, 0, none⟩) 19 19 ∧ Below wp.heap.size wp wc ∧ g3 < wc.heap.size ∧ ∀ j, j < 19 → wc.cell? ⟨g3, j, none⟩ = some (.string ⟨(badL.getD j []).toArray⟩))
        case first =>
          go_wp2_with fail
          go_meet
          case rel => exact ⟨wp.heap.size, rfl, (Below.refl _ wp).alloc (Nat.le_refl _) _, by simp, fun j hj => strs_cell wp badL j hj⟩
        case rest =>
          obtain ⟨g3, rfl, hb3, hg3, hcb⟩ := hcut
          have HCB := Lib.hid hcb
          have HTq := Lib.hid (HTr.out.keep hb3)
          have HEq := Lib.hid (HEr.out.keep hb3)
          have HBq := Lib.hid (HBr.out.trans (hb3.mono (by omega)))
          have hgq : g ≤ wc.heap.size := by rw [← hg0]; exact HBq.out.size
          clear hb3 hcb HTr HEr HBr
          generalize hwq : wc = wq at *
          clear hwq wc
          go_wp2_with fail
          go_loopw [7] (fun jv wj => ∃ j : Nat, jv = .int .i64 j ∧ j ≤ 19 ∧ Below wq.heap.size wq wj) (fun jv _ => 19 - (intOf jv).toNat)
          case atStart => exact ⟨0, rfl, Nat.zero_le _, Below.refl _ _⟩
          case round =>
            obtain ⟨j, rfl, hj, hb⟩ := hrel
            have HBj := Lib.hid hb
            have hszj := hb.size
            clear hb
            by_cases hjt : j < 19
            · have hjti : (j : Int) < 19 := by omega
              have hc := (HBj.out.cell (p := ⟨g3, j, none⟩) hg3).trans (HCB.out j hjt)
              have HP := Lib.hid (fParse_any (badL.getD j []) wr (HTq.out.keep HBj.out) (HEq.out.keep HBj.out) (bad_len ⟨j, hjt⟩))
              rw [prog_comp, bad_is ⟨j, hjt⟩] at HP
              have HN := Lib.hid (fun W => num_any 8 W)
              generalize badL.getD j [] = tx at *
              go_wp2_with fail
              refine Calls.mono HP.out ?_
              rintro e w5 ⟨rfl, hb⟩
              have HB5 := Lib.hid (HBj.out.trans (hb.mono hszj))
              clear hb
              unfold endP
              go_wp2_with fail
              refine Calls.mono (HN.out _) ?_
              rintro e w6 ⟨rfl, rfl⟩
              go_wp2_with fail
              exact ⟨⟨j + 1, by go_num, by omega, HB5.out⟩, by simp [intOf]; omega⟩
            · obtain rfl : j = 19 := by omega
              have HW := Lib.hid (wakes_any wr (HTq.out.keep HBj.out))
              have HWI : Hid (∀ W, Calls Tryd.prog 40 #[.int .i64 4, .int .i64 3] W fun e w' => e = .returned (.int .i64 1) ∧ w' = W) := Lib.hid (fun W => within_any 4 3 W (by decide) (by decide) (by decide))
              have HB6 := Lib.hid (HBq.out.trans (HBj.out.mono hgq))
              have h6 : g ≤ wr.heap.size := Nat.le_trans hgq hszj
              have hl0 : (0 : Int) ≤ (l.length : Int) := by omega
              clear HBq HBj HCB hjt hj
              go_wp2_with fail
              refine Calls.mono (HWI.out _) ?_
              rintro e w5 ⟨rfl, rfl⟩
              go_wp2_with fail
              refine Calls.mono HW.out ?_
              rintro e w6 ⟨rfl, hb⟩
              have HB7 := Lib.hid (HB6.out.trans (hb.mono h6))
              clear hb
              go_wp2_with fail
              go_ret
              exact ⟨rfl, by rw [hg0]; exact HB7.out⟩
end Go.Proofs.YtfbkokkpcgmapaaDoor

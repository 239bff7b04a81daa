/-
  The page's May and New, walked.
  Conditions: as each theorem states them.
-/
import Derived.Test.YtahmihdahgbhkaaRE
import Derived.Test.YtahmihdahgbhkaaDS
namespace Go.Proofs.Ytahmihdahgbhkaa
open Go.RowKit

set_option maxHeartbeats 2000000 in
theorem may_yes (ls : List (List UInt8)) (v : Value) (w : World) (h : RC w v ls) (hq : newB ls = true) :
    Calls Try.prog 11 #[v] w fun e w' => e = .returned (.bool true) ∧ Below w.heap.size w w' := by
  have HU := Lib.hid h
  obtain ⟨A, c, rfl, hll, hcm⟩ := h.slice
  unfold newB at hq
  rw [Bool.and_eq_true, Bool.or_eq_true, decide_eq_true_eq, decide_eq_true_eq, List.all_eq_true] at hq
  have hlen : ls.length = 0 ∨ ls.length = 3 := hq.1
  have HL := Lib.hid (fun i (hi : i < ls.length) => of_decide_eq_true (hq.2 _ (List.getElem_mem hi)))
  obtain ⟨m, hm⟩ : ∃ m, ls.length = m := ⟨_, rfl⟩
  have HM := Lib.hid hm
  rw [hm] at hlen hll ⊢ HU
  clear h hq hm
  rcases hlen with rfl | rfl
  · skip
    go_enter Try.func11, Try.ntmps11
    go_wp2_with fail
    go_loopw [3] (fun iv wr => iv = .int .i64 0 ∧ Below w.heap.size w wr) (fun _ _ => 0)
    case atStart => exact ⟨rfl, Below.refl _ _⟩
    case round =>
      obtain ⟨rfl, hb⟩ := hrel
      have HB := Lib.hid hb
      clear hb
      go_wp2_with fail
      go_ret
      exact ⟨rfl, HB.out⟩
  · skip
    go_enter Try.func11, Try.ntmps11
    go_wp2_with fail
    go_loopw [3] (fun iv wr => ∃ i : Nat, iv = .int .i64 i ∧ i ≤ 3 ∧ Below w.heap.size w wr) (fun iv _ => 3 - (intOf iv).toNat)
    case atStart => exact ⟨0, rfl, Nat.zero_le _, Below.refl _ _⟩
    case round =>
      obtain ⟨i, rfl, hil, hb⟩ := hrel
      have HB := Lib.hid hb
      have hsz := hb.size
      by_cases hlt : i < 3
      · have hlti : (i : Int) < 3 := by omega
        have hi0 : (0 : Int) ≤ (i : Int) := by omega
        obtain ⟨b, o, u, rfl, _, hcell, hrb⟩ := (HU.out.later hb).at (i := i) (by rw [HM.out]; exact hlt)
        have hli := HL.out i (by rw [HM.out]; exact hlt)
        obtain ⟨uA, uc, rfl, _, _⟩ := hrb.slice
        have hlii : ¬ ((ls[i]'(by rw [HM.out]; exact hlt)).length : Int) > 4194304 := by omega
        generalize ls[i]'(by rw [HM.out]; exact hlt) = l at *
        clear hrb hb
        go_wp2_with fail
        exact ⟨⟨i + 1, by go_num, by omega, HB.out⟩, by simp [intOf]; omega⟩
      · have hlti : ¬ ((i : Int) < 3) := by omega
        obtain rfl : i = 3 := by omega
        clear hb
        go_wp2_with fail
        go_ret
        exact ⟨rfl, HB.out⟩
set_option maxHeartbeats 2000000 in
theorem may_no (ls : List (List UInt8)) (v : Value) (w : World) (h : RC w v ls) (h0 : ls.length ≠ 0) (h3 : ls.length ≠ 3) :
    Calls Try.prog 11 #[v] w fun e w' => e = .returned (.bool false) ∧ Below w.heap.size w w' := by
  obtain ⟨A, c, rfl, hll, hcm⟩ := h.slice
  have e0 : ((ls.length : Int) != 0) = true := bne_iff_ne.2 (by omega)
  have e3 : ((ls.length : Int) != 3) = true := bne_iff_ne.2 (by omega)
  have f0 : ¬ ((ls.length : Int) = 0) := by omega
  have f3 : ¬ ((ls.length : Int) = 3) := by omega
  have HB := Lib.hid (Below.refl w.heap.size w)
  clear h h0 h3
  generalize ls.length = m at *
  go_enter Try.func11, Try.ntmps11
  go_wp2_with fail
  go_ret
  exact ⟨rfl, HB.out⟩
/-- A new disk of the page's, all of it from B on. -/
def NewR (B p : Nat) (d : Dk) (w' : World) : Prop := ∃ ρ x, RoOk ρ B w' ∧ RAt w' ρ B p x d
def y0 : RdV := ⟨fun _ => .slice none 0 0, fun _ => .slice none 0 0, fun _ => .slice none 0 0, fun _ => [], false, 0, false⟩
theorem RAt.new (w : World) : ∃ ρ, RoOk ρ w.heap.size (w.alloc (.cells (cellsR y0) 71)) ∧ RAt (w.alloc (.cells (cellsR y0) 71)) ρ w.heap.size w.heap.size y0 (newDk []) := by
  refine ⟨tagR (fun _ => 0) w.heap.size 2, RoOk.tag (fun k hk => absurd rfl hk) (Nat.le_refl _) (by simp), ?_⟩
  exact ⟨Blk.new w _ _, tagR_at _ _ _, fun n _ => Rw.nil _ _ _ _, fun n _ => Rw.nil _ _ _ _, fun n _ => LwR.nil _ _ _ _ _, fun n _ => rfl, fun n _ => by simp [newDk], fun n _ => trivial, rfl, fun _ h => (by cases h), by decide⟩

set_option maxHeartbeats 4000000 in
set_option maxRecDepth 100000 in
theorem New_r (ls : List (List UInt8)) (v : Value) (w : World) (h : RC w v ls) (hq : newB ls = true) :
    Calls Try.prog 14 #[v] w fun e w' => ∃ p, e = .returned (.pointer (some ⟨p, 0, none⟩)) ∧ w.heap.size ≤ p ∧ Below w.heap.size w w' ∧ NewR w.heap.size p (newDk ls) w' := by
  have HU := Lib.hid h
  obtain ⟨A, c, rfl, hll, hcm⟩ := h.slice
  unfold newB at hq
  rw [Bool.and_eq_true, Bool.or_eq_true, decide_eq_true_eq, decide_eq_true_eq, List.all_eq_true] at hq
  have hlen : ls.length = 0 ∨ ls.length = 3 := hq.1
  have HL := Lib.hid (fun i (hi : i < ls.length) => of_decide_eq_true (hq.2 _ (List.getElem_mem hi)))
  obtain ⟨ρ0, hr0, hk0⟩ := RAt.new w
  have HK0 := Lib.hid hk0
  have HR0 := Lib.hid hr0
  have HB0 := Lib.hid (show Below w.heap.size w (w.alloc (.cells (cellsR y0) 71)) from (Below.refl _ w).alloc (Nat.le_refl _) _)
  obtain ⟨m, hm⟩ : ∃ m, ls.length = m := ⟨_, rfl⟩
  have HM := Lib.hid hm
  rw [hm] at hlen hll ⊢ HU
  clear h hq hk0 hr0
  go_enter Try.func14, Try.ntmps14
  go_wp2_with fail
  have HK0' : Hid (RAt (w.alloc (.cells #[.slice none 0 0, .slice none 0 0, .slice none 0 0, .slice none 0 0, .slice none 0 0, .slice none 0 0, .slice none 0 0, .slice none 0 0, .slice none 0 0, .bool false, .int .i64 0, .bool false] 71)) ρ0 w.heap.size w.heap.size y0 (newDk [])) := HK0
  have HR0' : Hid (RoOk ρ0 w.heap.size (w.alloc (.cells #[.slice none 0 0, .slice none 0 0, .slice none 0 0, .slice none 0 0, .slice none 0 0, .slice none 0 0, .slice none 0 0, .slice none 0 0, .slice none 0 0, .bool false, .int .i64 0, .bool false] 71))) := HR0
  have HB0' : Hid (Below w.heap.size w (w.alloc (.cells #[.slice none 0 0, .slice none 0 0, .slice none 0 0, .slice none 0 0, .slice none 0 0, .slice none 0 0, .slice none 0 0, .slice none 0 0, .slice none 0 0, .bool false, .int .i64 0, .bool false] 71))) := HB0
  generalize w.alloc (.cells #[.slice none 0 0, .slice none 0 0, .slice none 0 0, .slice none 0 0, .slice none 0 0, .slice none 0 0, .slice none 0 0, .slice none 0 0, .slice none 0 0, .bool false, .int .i64 0, .bool false] 71) = w1 at *
  clear HK0 HR0 HB0
  go_loopw [4] (fun iv wr2 => ∃ i : Nat, iv = .int .i64 i ∧ i ≤ m ∧ Below w.heap.size w wr2 ∧ NewR w.heap.size w.heap.size (newDk (ls.take i)) wr2) (fun iv _ => m - (intOf iv).toNat)
  case atStart => exact ⟨0, rfl, Nat.zero_le _, HB0'.out, ρ0, y0, HR0'.out, HK0'.out⟩
  case round =>
    obtain ⟨i, rfl, hil, hb, ρ, x, hro, hk⟩ := hrel
    have HB := Lib.hid hb
    have HR := Lib.hid hro
    have HK := Lib.hid hk
    clear HK0' HR0' HB0'
    by_cases hlt : i < m
    · have hlti : (i : Int) < (m : Int) := by omega
      have hi0 : (0 : Int) ≤ (i : Int) := by omega
      have hi2 : i ≤ 2 := by omega
      have hi3 : (i : Int) < 3 := by omega
      obtain ⟨b, o, u, rfl, hbl, hcell, hrb⟩ := (HU.out.later hb).at (i := i) (by rw [HM.out]; exact hlt)
      have HPT := Lib.hid (newDk_put (ls := ls) (i := i) (by rw [HM.out]; exact hlt))
      have hli := HL.out i (by rw [HM.out]; exact hlt)
      obtain ⟨uA, uc, rfl, _, _⟩ := hrb.slice
      generalize ls[i]'(by rw [HM.out]; exact hlt) = l at *
      have HRB := Lib.hid (show RB wr.drew (.slice uA l.length uc) l from hrb.heap (Nat.le_refl _) fun _ _ _ => rfl)
      have HC0 := Lib.hid (copyBytes_any l _ wr.drew HRB.out (by omega))
      have hplt := hk.lt
      have HCL := Lib.hid (fun w2 (hb2 : Below wr.drew.heap.size wr.drew w2) => show w2.cell? ⟨b, o + i, none⟩ = some (.slice uA l.length uc) from (hb2.cell (p := ⟨b, o + i, none⟩) (show b < wr.drew.heap.size from hbl)).trans hcell)
      clear hrb hb hro hk
      go_wp2_with fail
      go_region_law (go_simp; go_at_call 33; first
        | (refine (HC1.out).mono ?_; rintro e w3 ⟨v2, rfl, hv2, hb3⟩; have HV2 := Lib.hid hv2; have HB3 := Lib.hid hb3; have k0 := (HK.out.step (Step.refl (S := [])).drew (by simp)).blk.later (HB2.out.trans (hb3.mono HB2.out.size)); obtain ⟨vA2, vc2, rfl, _, _⟩ := hv2.slice; have k1 := k0.set (i * 3) (.slice vA1 l.length vc1); rw [cellsR_setK x hi2] at k1; have k2 := k1.set (i * 3 + 1) (.slice vA2 l.length vc2); rw [cellsR_setN _ hi2] at k2; have K2 := Lib.hid k2; have s0 := k0.c _ (cellsR_K x hi2); have y0 := k0.fz (i * 3); have s1 := k1.c _ (cellsR_N _ hi2); have y1 := k1.fz (i * 3 + 1); have s2 := k2.c _ (cellsR_L _ hi2); have y2 := k2.fz (i * 3 + 2); clear hv2 hb3 k0 k1 k2)
        | (refine (HC0.out).mono ?_; rintro e w2 ⟨v1, rfl, hv1, hb2⟩; have HV1 := Lib.hid hv1; have HB2 := Lib.hid hb2; have c2 := HCL.out w2 hb2; have HC1 := Lib.hid (copyBytes_any l _ w2 (HRB.out.later hb2) (by omega)); obtain ⟨vA1, vc1, rfl, _, _⟩ := hv1.slice; clear hv1 hb2))
      all_goals
        have hbase : w.heap.size ≤ wr.drew.heap.size := HB.out.size
        obtain ⟨ρ1, hst1, hro1, ht1⟩ := fresh_tag (r := 6 + i) (w := wr.drew) (HR.out.later (Nat.le_refl _)) hbase HB2.out HV1.out
        obtain ⟨ρ2, hst2, hro2, ht2⟩ := fresh_tag (r := 3 + i) hro1 (Nat.le_trans hbase HB2.out.size) HB3.out HV2.out
        have h12 : Step [] ρ ρ2 wr w3 := ((Step.refl (S := [])).drew.trans hst1).trans hst2
        have hp2 : ρ2 w.heap.size = 2 := (h12.same _ hplt).trans HK.out.ro
        have k3 := K2.out.set (i * 3 + 2) (.slice none 0 0)
        rw [cellsR_setL _ hi2] at k3
        have hst5 : Step [2] ρ2 ρ2 w3 (((w3.setCell ⟨w.heap.size, i * 3, none⟩ (.slice vA1 l.length vc1)).setCell ⟨w.heap.size, i * 3 + 1, none⟩ (.slice vA2 l.length vc2)).setCell ⟨w.heap.size, i * 3 + 2, none⟩ (.slice none 0 0)) :=
          ((Step.refl.setCell ⟨w.heap.size, i * 3, none⟩ (.inr (by rw [show ρ2 w.heap.size = 2 from hp2]; simp)) _).setCell ⟨w.heap.size, i * 3 + 1, none⟩ (.inr (by rw [show ρ2 w.heap.size = 2 from hp2]; simp)) _).setCell ⟨w.heap.size, i * 3 + 2, none⟩ (.inr (by rw [show ρ2 w.heap.size = 2 from hp2]; simp)) _
        have hfull : Step [2, 3 + i, 6 + i, 9 + i] ρ ρ2 wr _ := (h12.mono (by simp)).grow hst5 (by simp)
        have hv1 : Rw w3 ρ2 w.heap.size (6 + i) (.slice vA1 l.length vc1) l := ⟨(HV1.out.later HB3.out).mono hbase, fun k hk => (hst2.same k (HV1.out.lt k hk).2).trans (ht1 k hk)⟩
        have hv2 : Rw w3 ρ2 w.heap.size (3 + i) (.slice vA2 l.length vc2) l := ⟨HV2.out.mono (Nat.le_trans hbase HB2.out.size), ht2⟩
        have hfin := HK.out.putF hfull hi2 (.slice vA2 l.length vc2) (.slice vA1 l.length vc1) (.slice none 0 0) [] ⟨l, []⟩ k3 (hv2.step hst5 (by simp <;> omega)) (hv1.step hst5 (by simp <;> omega)) (LwR.nil _ _ _ _ _) rfl hli trivial
        rw [HPT.out] at hfin
        have HFIN := Lib.hid hfin
        have HRF := Lib.hid (hro2.later hst5.kept.size)
        have HBF := Lib.hid (HB.out.trans ((hfull.kept.mono (F := fun k => w.heap.size ≤ k) (fun k hk hm => Classical.byContradiction fun hlt' => by
          have e0 : ρ k = 0 := Classical.byContradiction fun e => by have := (HR.out k e).1; omega
          rw [e0] at hm
          simp only [List.mem_cons, List.not_mem_nil, or_false] at hm
          omega)).below HB.out.size (fun k hk hm => by omega)))
        clear s0 y0 s1 y1 s2 y2 hst1 hst2 h12 k3 hst5 hfull hv1 hv2 hfin hro1 hro2 ht1 ht2
        go_wp2_with fail
        exact ⟨⟨i + 1, by go_num, by omega, HBF.out, ρ2, _, HRF.out, HFIN.out⟩, by simp [intOf]; omega⟩
    · have hlti : ¬ ((i : Int) < (m : Int)) := by omega
      obtain rfl : i = m := by omega
      have HT := Lib.hid (show ls.take i = ls from List.take_of_length_le (by rw [HM.out]; exact Nat.le_refl _))
      clear hb hro hk
      go_wp2_with fail
      go_ret
      rw [HT.out] at HK
      exact ⟨_, rfl, Nat.le_refl _, HB.out, ρ, x, HR.out, HK.out⟩
end Go.Proofs.Ytahmihdahgbhkaa

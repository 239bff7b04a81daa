/-
  Package disk's sync of a file, walked.
  Conditions: as each theorem states them.
-/
import Derived.Test.YtahmihdahgbhkaaDJ
namespace Go.Proofs.Ytahmihdahgbhkaa
open Go.RowKit

theorem Step.drew {S : List Nat} {ρ ρ' : Ro} {w w' : World} (h : Step S ρ ρ' w w') : Step S ρ ρ' w w'.drew := ⟨⟨h.kept.os, h.kept.tape, h.kept.output, h.kept.size, h.kept.block⟩, h.same⟩
theorem fitL_now {f : Fl} : f.done.foldl doC f.kept = f.now := rfl
set_option maxHeartbeats 4000000 in
set_option maxRecDepth 100000 in
theorem fsync_any (w : World) (ρ : Ro) (B p n : Nat) (x : DkV) (d : Dk) (h : KAt w ρ B p x d) (hr : RoOk ρ B w) (hn : n ≤ 2) (hB : B ≤ w.heap.size) :
    Calls Try.prog 60 #[.pointer (some ⟨p, n * 3, none⟩)] w fun e w' => e = .returned (.tuple #[]) ∧ OpK [2, 6 + n] w ρ B p (d.put n ⟨(d.f n).now, []⟩) w' := by
  have HK := Lib.hid h
  have HST0 := Lib.hid (show Step [2, 6 + n] ρ ρ w w.drew from Step.refl.drew)
  have hk0 : KAt w.drew ρ B p x d := h.step (Step.refl (S := [])).drew (by simp)
  have HK0 := Lib.hid hk0
  have HRO0 := Lib.hid (show RoOk ρ B w.drew from hr.later (Nat.le_refl _))
  have HM := Lib.hid (applied_any (x.C n) (x.L n) (x.K n) (d.f n).kept B w.drew (hk0.kept n hn).br (hk0.list n hn).cl hB (by rw [h.done n hn]; exact h.fit n hn) (h.len n hn)
    (fun k hk e => by have e1 := (h.kept n hn).ro k hk; have e2 := (h.list n hn).ro k e; omega)
    (fun k hk q hq e => by have e1 := (h.kept n hn).ro k hk; have e2 := ((h.list n hn).tx q hq).2 k e; omega))
  rw [h.done n hn, fitL_now] at HM
  have HS := Lib.hid (show ∀ w1, w.drew.grownBy w1 (x.K n).ownBlock → Blk w1 p (cellsK x) 85 from fun w1 hg => hk0.blk.heap (hg.block p hk0.lt (fun e => by
      have e1 := (h.kept n hn).ro p e.symm
      have e2 := h.ro
      omega)))
  have hbl := h.lt
  have cK := h.cK hn
  have cL := h.cL hn
  clear h hk0
  go_enter Try.func60, Try.ntmps60
  go_wp2_with fail
  go_region_law (go_simp; go_at_call 62; refine (HM.out).mono ?_; rintro e w1 ⟨u, rfl, hr1, hg1, hu1⟩; have s0 := (HS.out w1 hg1).c _ (cellsK_K x hn); have z0 := (HS.out w1 hg1).fz (n * 3 + 1); have HR1 := Lib.hid hr1; have HG1 := Lib.hid hg1; have HU1 := Lib.hid hu1; obtain ⟨uA, uc, rfl, _, _⟩ := hr1.slice; clear hr1 hg1 hu1)
  all_goals
    obtain ⟨ρ1, hst1, hro1, hrw1⟩ := (HK0.out.kept n hn).grown HRO0.out HR1.out HG1.out HU1.out
    have hb1 : Blk w1 p (cellsK x) 85 := HS.out w1 HG1.out
    have hb2 := hb1.set (n * 3 + 1) (.slice uA (d.f n).now.length uc)
    rw [cellsK_setK x hn] at hb2
    have hst2 : Step [2, 6 + n] ρ ρ1 w (w1.setCell ⟨p, n * 3 + 1, none⟩ (.slice uA (d.f n).now.length uc)) := (HST0.out.grow hst1 (by simp)).setCell _ (.inr (by rw [show ρ p = 2 from HK.out.ro]; simp)) _
    have hro1p : ρ1 p = 2 := (hst1.same p HK0.out.lt).trans HK0.out.ro
    have hst12 : Step [2] ρ1 ρ1 w1 (w1.setCell ⟨p, n * 3 + 1, none⟩ (.slice uA (d.f n).now.length uc)) := Step.refl.setCell _ (.inr (by rw [show ρ1 p = 2 from hro1p]; simp)) _
    generalize w1.setCell ⟨p, n * 3 + 1, none⟩ (.slice uA (d.f n).now.length uc) = w2 at *
    have HK2 := Lib.hid (hrw1.step hst12 (by simp <;> omega))
    have HST2 := Lib.hid hst2
    have HB2 := Lib.hid hb2
    have HRO2 := Lib.hid (hro1.later hst12.kept.size)
    have cL2 := hb2.c _ (cellsK_L _ hn)
    have zL2 := hb2.fz (n * 3 + 2)
    have hp2 : p < w2.heap.size := hb2.lt
    clear hst1 hro1 hrw1 hb1 hb2 hst2 hst12 s0 z0 HR1 HG1 HU1 cK cL HM HS
    go_wp2_with fail
    go_end0
    have hp1 : ρ1 p = 2 := (HST2.out.same p HK.out.lt).trans HK.out.ro
    have hb5 := HB2.out.set (n * 3 + 2) (.slice none 0 0)
    rw [cellsK_setL _ hn] at hb5
    have hst5 : Step [2] ρ1 ρ1 w2 (w2.setCell ⟨p, n * 3 + 2, none⟩ (.slice none 0 0)) := Step.refl.setCell _ (.inr (by rw [show ρ1 p = 2 from hp1]; simp)) _
    have hfull := HST2.out.grow hst5 (by simp)
    exact ⟨rfl, ρ1, hfull, HRO2.out.later hst5.kept.size, _, HK.out.putF (hfull.mono (by simp)) hn (x.N n) _ _ [] ⟨(d.f n).now, []⟩ (by rw [upd_self x.N n]; exact hb5)
      ((HK.out.now n hn).step hfull (by simp <;> omega)) (HK2.out.step hst5 (by simp <;> omega)) (Lw.nil _ _ _ _ _) rfl (HK.out.nowLen hn) trivial⟩
end Go.Proofs.Ytahmihdahgbhkaa

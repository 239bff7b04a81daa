/-
  The page's disk with one file changed; its Sync, walked.
  Conditions: as each theorem states them.
-/
import Derived.Test.YtahmihdahgbhkaaRB
namespace Go.Proofs.Ytahmihdahgbhkaa
open Go.RowKit

/-- The page's disk with one file changed. -/
theorem RAt.putF {w w' : World} {ρ ρ' : Ro} {B p n : Nat} {x : RdV} {d : Dk} (h : RAt w ρ B p x d) (hst : Step [2, 3 + n, 6 + n, 9 + n] ρ ρ' w w') (hn : n ≤ 2) (uN uK uL : Value) (uC : List (Ch × Value)) (g : Fl)
    (blk : Blk w' p (cellsR { x with K := upd x.K n uK, N := upd x.N n uN, L := upd x.L n uL }) 71) (rN : Rw w' ρ' B (3 + n) uN g.now) (rK : Rw w' ρ' B (6 + n) uK g.kept) (rL : LwR w' ρ' B (9 + n) 1 uL uC)
    (hd : uC.map Prod.fst = g.done) (hl : g.kept.length ≤ 4194304) (hf : fitL g.kept g.done) : RAt w' ρ' B p { x with K := upd x.K n uK, N := upd x.N n uN, L := upd x.L n uL, C := upd x.C n uC } (d.put n g) where
  blk := blk
  ro := (hst.same p h.lt).trans h.ro
  now := fun m hm => by
    by_cases e : m = n
    · subst e; simp only [upd_at, Dk.put_same]; exact rN
    · simp only [upd_else e, Dk.put_else d g e]; exact (h.now m hm).step hst (by simp <;> omega)
  kept := fun m hm => by
    by_cases e : m = n
    · subst e; simp only [upd_at, Dk.put_same]; exact rK
    · simp only [upd_else e, Dk.put_else d g e]; exact (h.kept m hm).step hst (by simp <;> omega)
  list := fun m hm => by
    by_cases e : m = n
    · subst e; simp only [upd_at]; exact rL
    · simp only [upd_else e]; exact (h.list m hm).step hst (by simp <;> omega) (by simp <;> omega)
  done := fun m hm => by
    by_cases e : m = n
    · subst e; simp only [upd_at, Dk.put_same]; exact hd
    · simp only [upd_else e, Dk.put_else d g e]; exact h.done m hm
  len := fun m hm => by
    by_cases e : m = n
    · subst e; simp only [Dk.put_same]; exact hl
    · simp only [Dk.put_else d g e]; exact h.len m hm
  fit := fun m hm => by
    by_cases e : m = n
    · subst e; simp only [Dk.put_same]; exact hf
    · simp only [Dk.put_else d g e]; exact h.fit m hm
  pw := h.pw
  fuse0 := h.fuse0
  fuse1 := h.fuse1
theorem RAt.synced {w w1 : World} {ρ : Ro} {B p n : Nat} {x : RdV} {d : Dk} {u : Value} (h : RAt w ρ B p x d) (hr : RoOk ρ B w) (hB : B ≤ w.heap.size) (hn : n ≤ 2) (hb : Below w.heap.size w w1) (hu : BR w1 w.heap.size u (d.f n).now) :
    OpR SK w ρ B p (d.put n ⟨(d.f n).now, []⟩) ((w1.setCell ⟨p, n * 3, none⟩ u).setCell ⟨p, n * 3 + 2, none⟩ (.slice none 0 0)) := by
  obtain ⟨ρ', hst, hro, hk⟩ := fresh_tag (r := 6 + n) hr hB hb hu
  have hp1 : ρ' p = 2 := (hst.same p h.lt).trans h.ro
  have b1 := h.blk.later hb
  have b2 := b1.set (n * 3) u
  rw [cellsR_setK x hn] at b2
  have b3 := b2.set (n * 3 + 2) (.slice none 0 0)
  rw [cellsR_setL _ hn] at b3
  have s2 : Step [2] ρ' ρ' w1 ((w1.setCell ⟨p, n * 3, none⟩ u).setCell ⟨p, n * 3 + 2, none⟩ (.slice none 0 0)) := (Step.refl.setCell _ (.inr (by rw [show ρ' p = 2 from hp1]; simp)) _).setCell _ (.inr (by rw [show ρ' p = 2 from hp1]; simp)) _
  have hfull : Step [2] ρ ρ' w _ := (hst.mono (T := [2]) (by simp)).trans s2
  have hrw : Rw w1 ρ' B (6 + n) u (d.f n).now := ⟨hu.mono hB, hk⟩
  refine ⟨ρ', hfull.mono (by simp [SK]), hro.later s2.kept.size, _, h.putF (hfull.mono (by simp)) hn (x.N n) u (.slice none 0 0) [] ⟨(d.f n).now, []⟩ ?_ ((h.now n hn).step hfull (by simp <;> omega)) (hrw.step s2 (by simp <;> omega)) (LwR.nil _ _ _ _ _) rfl (h.nowLen hn) trivial⟩
  rw [upd_self x.N n]
  exact b3
theorem OpR.mono {S T : List Nat} {w w' : World} {ρ : Ro} {B p : Nat} {d : Dk} (h : OpR S w ρ B p d w') (hS : ∀ r ∈ S, r ∈ T) : OpR T w ρ B p d w' := by
  obtain ⟨ρ', h1, h2⟩ := h
  exact ⟨ρ', h1.mono hS, h2⟩
theorem OpR.after {S : List Nat} {w w1 w' : World} {ρ ρ1 : Ro} {B p : Nat} {d : Dk} (h : OpR S w1 ρ1 B p d w') (k : Step S ρ ρ1 w w1) : OpR S w ρ B p d w' := by
  obtain ⟨ρ', h1, h2⟩ := h
  exact ⟨ρ', k.trans h1, h2⟩
theorem OpR.of {S : List Nat} {w w' : World} {ρ : Ro} {B p : Nat} {x : RdV} {d : Dk} (h : RAt w' ρ B p x d) (hs : Step S ρ ρ w w') (hr : RoOk ρ B w') : OpR S w ρ B p d w' := ⟨ρ, hs, hr, x, h⟩
set_option maxHeartbeats 4000000 in
theorem Sync_r (w : World) (ρ : Ro) (B p : Nat) (x : RdV) (d : Dk) (h : RAt w ρ B p x d) (hr : RoOk ρ B w) (hB : B ≤ w.heap.size) (n : Int) :
    Calls Try.prog 25 #[.pointer (some ⟨p, 0, none⟩), .int .i64 n] w fun e w' => e = .returned (.int .i64 (syD d n).2) ∧ OpR SK w ρ B p (syD d n).1 w' := by
  have HC := Lib.hid (off_r w ρ B p x d h)
  have HR := Lib.hid hr
  unfold syD
  cases ht : (tickP d.p).isNone with
  | true =>
    rw [ht] at HC
    rw [actD_off ht]
    clear h hr
    go_enter Try.func25, Try.ntmps25
    go_wp2_with fail
    refine Calls.mono HC.out ?_
    rintro e w1 ⟨rfl, hs, x1, hk⟩
    have HOP := Lib.hid (OpR.of hk (hs.mono (T := SK) (by simp [SK])) (HR.out.later hs.kept.size))
    clear hs hk
    go_wp2_with fail
    go_ret
    exact ⟨rfl, HOP.out⟩
  | false =>
    rw [ht] at HC
    by_cases c : 0 ≤ n ∧ n ≤ 2
    · rw [actD_ok ht (fileOk_iff.2 c) rfl]
      obtain ⟨N, hN⟩ : ∃ N, n.toNat = N := ⟨_, rfl⟩
      have hN2 : N ≤ 2 := by omega
      have h3 : (n = 0 ∧ N = 0) ∨ (n = 1 ∧ N = 1) ∨ (n = 2 ∧ N = 2) := by omega
      rw [hN]
      have HB := Lib.hid hB
      clear h hr c hN
      rcases h3 with ⟨rfl, rfl⟩ | ⟨rfl, rfl⟩ | ⟨rfl, rfl⟩
      · clear hB
        go_enter Try.func25, Try.ntmps25
        go_wp2_with fail
        refine Calls.mono HC.out ?_
        rintro e w1 ⟨rfl, hs, x1, hk⟩
        have hk0 : RAt w1.drew ρ B p x1 ⟨d.f, tickP d.p⟩ := hk.step (Step.refl (S := [])).drew (by simp)
        have HS := Lib.hid (show Step SK ρ ρ w w1.drew from (hs.mono (T := SK) (by simp [SK])).trans Step.refl.drew)
        have HRO := Lib.hid (HR.out.later HS.out.kept.size)
        have HB1 := Lib.hid (Nat.le_trans HB.out HS.out.kept.size)
        have HK0 := Lib.hid hk0
        have cN : w1.cell? ⟨p, 1, none⟩ = some (x1.N 0) := hk.cN hN2
        have hrow := (hk0.now _ hN2).br
        obtain ⟨nA, nc, hnv, _, _⟩ := hrow.slice
        rw [hnv] at cN hrow
        have hnl : (d.f 0).now.length ≤ 4194304 := hk.nowLen hN2
        have HCB := Lib.hid (copyBytes_any _ _ w1.drew hrow.rb (by show (d.f 0).now.length ≤ 10000000; omega))
        have HSB := Lib.hid (show ∀ w2, Below w1.drew.heap.size w1.drew w2 → Blk w2 p (cellsR x1) 71 from fun w2 hb => hk0.blk.later hb)
        have hpl := hk.lt
        clear hs hk hk0 hrow hnv hnl
        go_wp2_with fail
        go_region_law (go_simp; go_at_call 33; refine (HCB.out).mono ?_; rintro e w2 ⟨u, rfl, hu, hb⟩; have s0 : w2.cell? ⟨p, 0, none⟩ = some (x1.K 0) := (HSB.out w2 hb).c _ (cellsR_K x1 hN2); have z0 := (HSB.out w2 hb).fz 0; have HU := Lib.hid hu; have HBL := Lib.hid hb; obtain ⟨uA, uc, rfl, _, _⟩ := hu.slice; clear hu hb)
        all_goals
          have HOP := Lib.hid ((HK0.out.synced HRO.out HB1.out hN2 HBL.out HU.out).after HS.out)
          have hb2 := (HSB.out w2 HBL.out).set 0 (.slice uA (d.f 0).now.length uc)
          have cL2 := hb2.c 2 (u := x1.L 0) rfl
          have zL2 := hb2.fz 2
          have hp2 := hb2.lt
          simp only [Nat.zero_mul, Nat.zero_add] at HOP
          have HOP2 := Lib.hid (show OpR SK w ρ B p _ ((w2.setCell ⟨p, 0, none⟩ (.slice uA (d.f 0).now.length uc)).setCell ⟨p, 2, none⟩ (.slice none 0 0)) from HOP.out)
          clear hb2 HOP s0 z0 cN HBL HU HSB HCB HK0 HC
          generalize w2.setCell ⟨p, 0, none⟩ (.slice uA (d.f 0).now.length uc) = w3 at *
          go_wp2_with fail
          go_ret
          exact ⟨rfl, HOP2.out⟩
      · clear hB
        go_enter Try.func25, Try.ntmps25
        go_wp2_with fail
        refine Calls.mono HC.out ?_
        rintro e w1 ⟨rfl, hs, x1, hk⟩
        have hk0 : RAt w1.drew ρ B p x1 ⟨d.f, tickP d.p⟩ := hk.step (Step.refl (S := [])).drew (by simp)
        have HS := Lib.hid (show Step SK ρ ρ w w1.drew from (hs.mono (T := SK) (by simp [SK])).trans Step.refl.drew)
        have HRO := Lib.hid (HR.out.later HS.out.kept.size)
        have HB1 := Lib.hid (Nat.le_trans HB.out HS.out.kept.size)
        have HK0 := Lib.hid hk0
        have cN : w1.cell? ⟨p, 4, none⟩ = some (x1.N 1) := hk.cN hN2
        have hrow := (hk0.now _ hN2).br
        obtain ⟨nA, nc, hnv, _, _⟩ := hrow.slice
        rw [hnv] at cN hrow
        have hnl : (d.f 1).now.length ≤ 4194304 := hk.nowLen hN2
        have HCB := Lib.hid (copyBytes_any _ _ w1.drew hrow.rb (by show (d.f 1).now.length ≤ 10000000; omega))
        have HSB := Lib.hid (show ∀ w2, Below w1.drew.heap.size w1.drew w2 → Blk w2 p (cellsR x1) 71 from fun w2 hb => hk0.blk.later hb)
        have hpl := hk.lt
        clear hs hk hk0 hrow hnv hnl
        go_wp2_with fail
        go_region_law (go_simp; go_at_call 33; refine (HCB.out).mono ?_; rintro e w2 ⟨u, rfl, hu, hb⟩; have s0 : w2.cell? ⟨p, 3, none⟩ = some (x1.K 1) := (HSB.out w2 hb).c _ (cellsR_K x1 hN2); have z0 := (HSB.out w2 hb).fz 3; have HU := Lib.hid hu; have HBL := Lib.hid hb; obtain ⟨uA, uc, rfl, _, _⟩ := hu.slice; clear hu hb)
        all_goals
          have HOP := Lib.hid ((HK0.out.synced HRO.out HB1.out hN2 HBL.out HU.out).after HS.out)
          have hb2 := (HSB.out w2 HBL.out).set 3 (.slice uA (d.f 1).now.length uc)
          have cL2 := hb2.c 5 (u := x1.L 1) rfl
          have zL2 := hb2.fz 5
          have hp2 := hb2.lt
          simp only [Nat.reduceMul, Nat.reduceAdd] at HOP
          have HOP2 := Lib.hid (show OpR SK w ρ B p _ ((w2.setCell ⟨p, 3, none⟩ (.slice uA (d.f 1).now.length uc)).setCell ⟨p, 5, none⟩ (.slice none 0 0)) from HOP.out)
          clear hb2 HOP s0 z0 cN HBL HU HSB HCB HK0 HC
          generalize w2.setCell ⟨p, 3, none⟩ (.slice uA (d.f 1).now.length uc) = w3 at *
          go_wp2_with fail
          go_ret
          exact ⟨rfl, HOP2.out⟩
      · clear hB
        go_enter Try.func25, Try.ntmps25
        go_wp2_with fail
        refine Calls.mono HC.out ?_
        rintro e w1 ⟨rfl, hs, x1, hk⟩
        have hk0 : RAt w1.drew ρ B p x1 ⟨d.f, tickP d.p⟩ := hk.step (Step.refl (S := [])).drew (by simp)
        have HS := Lib.hid (show Step SK ρ ρ w w1.drew from (hs.mono (T := SK) (by simp [SK])).trans Step.refl.drew)
        have HRO := Lib.hid (HR.out.later HS.out.kept.size)
        have HB1 := Lib.hid (Nat.le_trans HB.out HS.out.kept.size)
        have HK0 := Lib.hid hk0
        have cN : w1.cell? ⟨p, 7, none⟩ = some (x1.N 2) := hk.cN hN2
        have hrow := (hk0.now _ hN2).br
        obtain ⟨nA, nc, hnv, _, _⟩ := hrow.slice
        rw [hnv] at cN hrow
        have hnl : (d.f 2).now.length ≤ 4194304 := hk.nowLen hN2
        have HCB := Lib.hid (copyBytes_any _ _ w1.drew hrow.rb (by show (d.f 2).now.length ≤ 10000000; omega))
        have HSB := Lib.hid (show ∀ w2, Below w1.drew.heap.size w1.drew w2 → Blk w2 p (cellsR x1) 71 from fun w2 hb => hk0.blk.later hb)
        have hpl := hk.lt
        clear hs hk hk0 hrow hnv hnl
        go_wp2_with fail
        go_region_law (go_simp; go_at_call 33; refine (HCB.out).mono ?_; rintro e w2 ⟨u, rfl, hu, hb⟩; have s0 : w2.cell? ⟨p, 6, none⟩ = some (x1.K 2) := (HSB.out w2 hb).c _ (cellsR_K x1 hN2); have z0 := (HSB.out w2 hb).fz 6; have HU := Lib.hid hu; have HBL := Lib.hid hb; obtain ⟨uA, uc, rfl, _, _⟩ := hu.slice; clear hu hb)
        all_goals
          have HOP := Lib.hid ((HK0.out.synced HRO.out HB1.out hN2 HBL.out HU.out).after HS.out)
          have hb2 := (HSB.out w2 HBL.out).set 6 (.slice uA (d.f 2).now.length uc)
          have cL2 := hb2.c 8 (u := x1.L 2) rfl
          have zL2 := hb2.fz 8
          have hp2 := hb2.lt
          simp only [Nat.reduceMul, Nat.reduceAdd] at HOP
          have HOP2 := Lib.hid (show OpR SK w ρ B p _ ((w2.setCell ⟨p, 6, none⟩ (.slice uA (d.f 2).now.length uc)).setCell ⟨p, 8, none⟩ (.slice none 0 0)) from HOP.out)
          clear hb2 HOP s0 z0 cN HBL HU HSB HCB HK0 HC
          generalize w2.setCell ⟨p, 6, none⟩ (.slice uA (d.f 2).now.length uc) = w3 at *
          go_wp2_with fail
          go_ret
          exact ⟨rfl, HOP2.out⟩
    · rw [actD_form ht (by cases hq : fileOk n with | false => rfl | true => exact absurd (fileOk_iff.1 hq) c)]
      clear h hr
      by_cases c0 : n < 0
      · clear c
        go_enter Try.func25, Try.ntmps25
        go_wp2_with fail
        refine Calls.mono HC.out ?_
        rintro e w1 ⟨rfl, hs, x1, hk⟩
        have HOP := Lib.hid (OpR.of hk (hs.mono (T := SK) (by simp [SK])) (HR.out.later hs.kept.size))
        clear hs hk
        go_wp2_with fail
        go_ret
        exact ⟨rfl, HOP.out⟩
      · have c2 : n > 2 := by omega
        clear c
        go_enter Try.func25, Try.ntmps25
        go_wp2_with fail
        refine Calls.mono HC.out ?_
        rintro e w1 ⟨rfl, hs, x1, hk⟩
        have HOP := Lib.hid (OpR.of hk (hs.mono (T := SK) (by simp [SK])) (HR.out.later hs.kept.size))
        clear hs hk
        go_wp2_with fail
        go_ret
        exact ⟨rfl, HOP.out⟩
end Go.Proofs.Ytahmihdahgbhkaa

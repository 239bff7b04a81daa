/-
  Package disk's New, walked.
  Conditions: as each theorem states them.
-/
import Derived.Test.YtahmihdahgbhkaaDS
namespace Go.Proofs.Ytahmihdahgbhkaa
open Go.RowKit

theorem holding_bad (ls : List (List UInt8)) (v : Value) (w : World) (h : RC w v ls) (h0 : ls.length ≠ 0) (h3 : ls.length ≠ 3) :
    Calls Try.prog 39 #[v] w fun e w' => e = wrongK 1 ∧ w' = w := by
  obtain ⟨A, c, rfl, hll, hcm⟩ := h.slice
  have HN := Lib.hid (fun n W => demand_no n W)
  have e0 : ((ls.length : Int) == 0) = false := beq_false_of_ne (by omega)
  have e3 : ((ls.length : Int) == 3) = false := beq_false_of_ne (by omega)
  have f0 : ¬ ((ls.length : Int) = 0) := by omega
  have f3 : ¬ ((ls.length : Int) = 3) := by omega
  clear h h0 h3
  generalize ls.length = m at *
  go_enter Try.func39, Try.ntmps39
  go_wp2_with fail
  refine Calls.mono (HN.out _ _) ?_
  rintro e w' ⟨rfl, he⟩
  have he := he.symm
  subst he
  exact ⟨rfl, rfl, rfl⟩
theorem enters_New (args : Array Value) (w : World) : (callFunc 38 args).run Try.prog w = .ok (.enter 38 args) w := enters_of Try.func38 (by kernel_rfl) rfl args w
theorem NewK.step {B p : Nat} {d : Dk} {w w' : World} (h : NewK B p d w) (hk : Kept (fun k => k < B) w w') : NewK B p d w' := by
  obtain ⟨ρ, x, h1, h2⟩ := h
  refine ⟨ρ, x, h1.later hk.size, h2.step (S := [0]) ⟨hk.mono fun k _ e => by
    have : ρ k = 0 := Classical.byContradiction fun e' => by have := (h1 k e').1; omega
    rw [this]; simp, fun _ _ => rfl⟩ (by simp; omega)⟩
theorem NewK.lt {B p : Nat} {d : Dk} {w : World} (h : NewK B p d w) : p < w.heap.size := by
  obtain ⟨ρ, x, h1, h2⟩ := h
  exact h2.lt
set_option maxHeartbeats 2000000 in
theorem New1_ok (w : World) (o : Nat) (ls : List (List UInt8)) (v : Value) (h : RC w v ls) (hq : newB ls = true) (h0 : Blk w o #[v] 22) (h1 : Blk w (o + 1) #[.pointer none] 27) :
    Calls Try.prog 38 #[.pointer (some ⟨o, 0, none⟩), .pointer (some ⟨o + 1, 0, none⟩)] w fun e w' => e = endE 0 ∧ ∃ p, w.heap.size ≤ p ∧ Kept (· = o + 1) w w' ∧ Blk w' (o + 1) #[.pointer (some ⟨p, 0, none⟩)] 27 ∧ NewK w.heap.size p (newDk ls) w' := by
  have HH := Lib.hid (holding_ok ls v w h hq)
  obtain ⟨A, c, rfl, _, _⟩ := h.slice
  have c0 := h0.c 0 (u := .slice A ls.length c) rfl
  have c1 := h1.c 0 (u := .pointer none) rfl
  have z1 := h1.fz 0
  have H1 := Lib.hid h1
  clear h h0 h1 hq
  rw [endE_0]
  go_enter Try.func38, Try.ntmps38
  go_wp2_with fail
  refine Calls.mono HH.out ?_
  rintro e w2 ⟨p, rfl, hp, hb, hn⟩
  have H12 := Lib.hid (H1.out.later hb)
  have HB := Lib.hid hb
  have HN := Lib.hid hn
  have d1 := H12.out.c 0 (u := .pointer none) rfl
  have y1 := H12.out.fz 0
  have hlt := H1.out.lt
  clear hb hn c0 c1 z1
  go_wp2_with fail
  go_end0
  exact ⟨rfl, p, hp, Kept.setCell (E := (· = o + 1)) (Kept.of HB.out) ⟨o + 1, 0, none⟩ (.inr rfl) _, H12.out.set 0 _, HN.out.step (Kept.setCell (E := fun k => k < w.heap.size) Kept.refl ⟨o + 1, 0, none⟩ (.inr hlt) _)⟩
set_option maxHeartbeats 2000000 in
theorem New1_bad (w : World) (o : Nat) (ls : List (List UInt8)) (v : Value) (h : RC w v ls) (hl0 : ls.length ≠ 0) (hl3 : ls.length ≠ 3) (h0 : Blk w o #[v] 22) :
    Calls Try.prog 38 #[.pointer (some ⟨o, 0, none⟩), .pointer (some ⟨o + 1, 0, none⟩)] w fun e w' => e = endE 1 ∧ w' = w := by
  have HH := Lib.hid (holding_bad ls v w h hl0 hl3)
  obtain ⟨A, c, rfl, _, _⟩ := h.slice
  have c0 := h0.c 0 (u := .slice A ls.length c) rfl
  clear h h0
  rw [endE_no (show (1 : Int) ≠ 0 by decide)]
  go_enter Try.func38, Try.ntmps38
  go_wp2_with fail
  refine Calls.mono HH.out ?_
  rintro e w' ⟨rfl, he⟩
  have he := he.symm
  subst he
  exact ⟨rfl, rfl, rfl⟩
/-- New's parameters in blocks of their own. -/
theorem new_blocks (w : World) (v : Value) : Blk ((w.alloc (.cells #[v] 22)).alloc (.cells #[.pointer none] 27)) w.heap.size #[v] 22 ∧ Blk ((w.alloc (.cells #[v] 22)).alloc (.cells #[.pointer none] 27)) (w.heap.size + 1) #[.pointer none] 27 := by
  refine ⟨(Blk.new w _ _).alloc _, ?_⟩
  have := Blk.new (w.alloc (.cells #[v] 22)) #[.pointer none] 27
  rwa [show (w.alloc (.cells #[v] 22)).heap.size = w.heap.size + 1 by simp] at this
theorem New_ok (w : World) (ls : List (List UInt8)) (v : Value) (h : RC w v ls) (hq : newB ls = true) :
    Calls Try.prog 9 #[v] w fun e w' => ∃ p, e = .returned (.tuple #[.pointer (some ⟨p, 0, none⟩), .int .i64 0]) ∧ w.heap.size ≤ p ∧ Below w.heap.size w w' ∧ NewK w.heap.size p (newDk ls) w' := by
  obtain ⟨W, hW⟩ : ∃ W, (w.alloc (.cells #[v] 22)).alloc (.cells #[.pointer none] 27) = W := ⟨_, rfl⟩
  have HB0 := Lib.hid (show Blk W w.heap.size #[v] 22 by rw [← hW]; exact (new_blocks w v).1)
  have HB1 := Lib.hid (show Blk W (w.heap.size + 1) #[.pointer none] 27 by rw [← hW]; exact (new_blocks w v).2)
  have HBW := Lib.hid (show Below w.heap.size w W by rw [← hW]; exact ((Below.refl _ w).alloc (Nat.le_refl _) _).alloc (by simp) _)
  have hws : W.heap.size = w.heap.size + 2 := by rw [← hW]; simp
  have hmf : ∀ (fn : Fn) (first cap : Array Value) (w : World), (Instr.makeFunc fn first cap).run Try.prog w = .ok (.func fn first cap) w := fun _ _ _ _ => rfl
  have HCC := Lib.hid (catch_any 38 #[.pointer (some ⟨w.heap.size, 0, none⟩), .pointer (some ⟨w.heap.size + 1, 0, none⟩)] 0 W
    (fun w1 => ∃ p, w.heap.size + 3 ≤ p ∧ Kept (· = w.heap.size + 1) (W.alloc (.cells #[.int .i64 0] 28)) w1 ∧ Blk w1 (w.heap.size + 1) #[.pointer (some ⟨p, 0, none⟩)] 27 ∧ NewK (w.heap.size + 3) p (newDk ls) w1) (enters_New _)
    ((New1_ok (W.alloc (.cells #[.int .i64 0] 28)) w.heap.size ls v (h.later (HBW.out.alloc (by omega) _)) hq (HB0.out.alloc _) (HB1.out.alloc _)).mono (by
      rintro e w' ⟨rfl, p, hp, hk, hb, hn⟩
      rw [show (W.alloc (.cells #[.int .i64 0] 28)).heap.size = w.heap.size + 3 by simp [hws]] at hp hn
      refine ⟨rfl, ⟨p, hp, hk, hb, hn⟩, ?_⟩
      rw [hk.block W.heap.size (by simp) (by show ¬ (W.heap.size = w.heap.size + 1); omega)]
      exact heap_alloc_new W _)))
  obtain ⟨A, c, rfl, _, _⟩ := h.slice
  clear h hq
  go_enter Try.func9, Try.ntmps9
  go_wp2_with fail
  refine Calls.mono HCC.out ?_
  rintro e w2 ⟨rfl, w1, ⟨p, hp, hk1, hb1, hn1⟩, hk2⟩
  have hb2 : Blk w2 (w.heap.size + 1) #[.pointer (some ⟨p, 0, none⟩)] 27 := hb1.kept hk2 (by omega)
  have hn2 : NewK (w.heap.size + 3) p (newDk ls) w2 := hn1.step (hk2.mono fun k _ e => by have e : k = W.heap.size := e; omega)
  have HN := Lib.hid (show NewK w.heap.size p (newDk ls) w2 by
    obtain ⟨ρ, x, g1, g2⟩ := hn2
    exact ⟨ρ, x, fun k hk => ⟨by have := (g1 k hk).1; omega, (g1 k hk).2⟩, g2.mono (by omega)⟩)
  have c1 := hb2.c 0 (u := .pointer (some ⟨p, 0, none⟩)) rfl
  have HB := Lib.hid (show Below w.heap.size w w2 by
    have hk : Kept (fun k => w.heap.size ≤ k) w w2 := (((Kept.of (E := fun k => w.heap.size ≤ k) HBW.out)).alloc _).trans ((hk1.mono (F := fun k => w.heap.size ≤ k) (fun k _ e => by have e : k = w.heap.size + 1 := e; omega)).trans (hk2.mono (F := fun k => w.heap.size ≤ k) (fun k _ e => by have e : k = W.heap.size := e; omega)))
    exact hk.below (Nat.le_refl _) (fun k hk => by omega))
  clear hk1 hb1 hk2 hb2 hn1 hn2 hW
  go_wp2_with fail
  go_ret2
  exact ⟨p, rfl, by omega, HB.out, HN.out⟩
theorem New_bad (w : World) (ls : List (List UInt8)) (v : Value) (h : RC w v ls) (hl0 : ls.length ≠ 0) (hl3 : ls.length ≠ 3) :
    Calls Try.prog 9 #[v] w fun e w' => e = .returned (.tuple #[.pointer none, .int .i64 1]) ∧ Below w.heap.size w w' := by
  obtain ⟨W, hW⟩ : ∃ W, (w.alloc (.cells #[v] 22)).alloc (.cells #[.pointer none] 27) = W := ⟨_, rfl⟩
  have HB0 := Lib.hid (show Blk W w.heap.size #[v] 22 by rw [← hW]; exact (new_blocks w v).1)
  have HB1 := Lib.hid (show Blk W (w.heap.size + 1) #[.pointer none] 27 by rw [← hW]; exact (new_blocks w v).2)
  have HBW := Lib.hid (show Below w.heap.size w W by rw [← hW]; exact ((Below.refl _ w).alloc (Nat.le_refl _) _).alloc (by simp) _)
  have hws : W.heap.size = w.heap.size + 2 := by rw [← hW]; simp
  have hmf : ∀ (fn : Fn) (first cap : Array Value) (w : World), (Instr.makeFunc fn first cap).run Try.prog w = .ok (.func fn first cap) w := fun _ _ _ _ => rfl
  have HCC := Lib.hid (catch_any 38 #[.pointer (some ⟨w.heap.size, 0, none⟩), .pointer (some ⟨w.heap.size + 1, 0, none⟩)] 1 W
    (fun w1 => w1 = W.alloc (.cells #[.int .i64 0] 28)) (enters_New _)
    ((New1_bad (W.alloc (.cells #[.int .i64 0] 28)) w.heap.size ls v (h.later (HBW.out.alloc (by omega) _)) hl0 hl3 (HB0.out.alloc _)).mono (by
      rintro e w' ⟨rfl, rfl⟩
      exact ⟨rfl, rfl, heap_alloc_new W _⟩)))
  obtain ⟨A, c, rfl, _, _⟩ := h.slice
  clear h
  go_enter Try.func9, Try.ntmps9
  go_wp2_with fail
  refine Calls.mono HCC.out ?_
  rintro e w2 ⟨rfl, w1, rfl, hk2⟩
  have hb2 : Blk w2 (w.heap.size + 1) #[.pointer none] 27 := (HB1.out.alloc _).kept hk2 (by omega)
  have c1 := hb2.c 0 (u := .pointer none) rfl
  have HB := Lib.hid (show Below w.heap.size w w2 by
    have hk : Kept (fun k => w.heap.size ≤ k) w w2 := (((Kept.of (E := fun k => w.heap.size ≤ k) HBW.out)).alloc _).trans (hk2.mono (F := fun k => w.heap.size ≤ k) (fun k _ e => by have e : k = W.heap.size := e; omega))
    exact hk.below (Nat.le_refl _) (fun k hk => by omega))
  clear hk2 hb2 hW
  go_wp2_with fail
  go_ret2
  exact ⟨rfl, HB.out⟩
end Go.Proofs.Ytahmihdahgbhkaa

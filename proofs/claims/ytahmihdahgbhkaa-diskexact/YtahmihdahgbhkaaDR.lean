/-
  Package disk's Read, walked.
  Conditions: as each theorem states them.
-/
import Derived.Test.YtahmihdahgbhkaaDQ
namespace Go.Proofs.Ytahmihdahgbhkaa
open Go.RowKit

theorem enters_Read (args : Array Value) (w : World) : (callFunc 42 args).run Try.prog w = .ok (.enter 42 args) w := enters_of Try.func42 (by kernel_rfl) rfl args w
theorem readD_no {d : Dk} {n a k : Int} (h : (readD d n a k).2 ≠ 0) : (readD d n a k).1 = [] := by
  unfold readD at h ⊢
  split
  · rfl
  · split
    · split
      · split
        · simp_all
        · rfl
      · rfl
    · rfl
set_option maxHeartbeats 2000000 in
theorem Read1_any (w : World) (ρ : Ro) (B p o : Nat) (x : DkV) (d : Dk) (h : KAt w ρ B p x d) (n a k : Int) (h0 : Blk w o #[.pointer (some ⟨p, 0, none⟩)] 27) (h1 : Blk w (o + 1) #[.int .i64 n] 3) (h2 : Blk w (o + 2) #[.int .i64 a] 3) (h3 : Blk w (o + 3) #[.int .i64 k] 3) (h4 : Blk w (o + 4) #[.slice none 0 0] 37) :
    Calls Try.prog 42 #[.pointer (some ⟨o, 0, none⟩), .pointer (some ⟨o + 1, 0, none⟩), .pointer (some ⟨o + 2, 0, none⟩), .pointer (some ⟨o + 3, 0, none⟩), .pointer (some ⟨o + 4, 0, none⟩)] w fun e w' => e = endE (readD d n a k).2 ∧ Kept (· = o + 4) w w' ∧ ∃ u, Blk w' (o + 4) #[u] 37 ∧ BR w' w.heap.size u (readD d n a k).1 := by
  have HR := Lib.hid (read_any w ρ B p x d h n a k)
  have c0 := h0.c 0 (u := .pointer (some ⟨p, 0, none⟩)) rfl
  have c1 := h1.c 0 (u := .int .i64 n) rfl
  have c2 := h2.c 0 (u := .int .i64 a) rfl
  have c3 := h3.c 0 (u := .int .i64 k) rfl
  have c4 := h4.c 0 (u := .slice none 0 0) rfl
  have z4 := h4.fz 0
  have H4 := Lib.hid h4
  have hbl := h.lt
  clear h h0 h1 h2 h3 h4
  by_cases hq : (readD d n a k).2 = 0
  · simp only [if_pos hq] at HR
    simp only [hq, endE_0]
    generalize (readD d n a k).1 = l at *
    go_enter Try.func42, Try.ntmps42
    go_wp2_with fail
    refine Calls.mono HR.out ?_
    rintro e w2 ⟨u, rfl, hu, hb⟩
    have HU := Lib.hid hu
    have HB := Lib.hid hb
    have H42 := Lib.hid (H4.out.later hb)
    obtain ⟨uA, uc, rfl, _, _⟩ := hu.slice
    have d4 := H42.out.c 0 (u := .slice none 0 0) rfl
    have y4 := H42.out.fz 0
    have hlt := H4.out.lt
    clear hu hb c0 c1 c2 c3 c4 z4
    go_wp2_with fail
    go_end0
    refine ⟨rfl, Kept.setCell (E := (· = o + 4)) (Kept.of HB.out) ⟨o + 4, 0, none⟩ (.inr rfl) _, _, H42.out.set 0 _, ?_⟩
    exact HU.out.blocks fun j hj _ => Below.heap_setCell _ _ _ _ (fun e => by
      have := (HU.out.lt j hj).1
      simp only at e
      omega)
  · simp only [if_neg hq] at HR
    simp only [endE_no hq]
    have HL := Lib.hid (readD_no hq)
    generalize (readD d n a k).1 = l at *
    generalize (readD d n a k).2 = m at *
    go_enter Try.func42, Try.ntmps42
    go_wp2_with fail
    refine Calls.mono HR.out ?_
    rintro e w' ⟨rfl, he⟩
    have he := he.symm
    subst he
    exact ⟨rfl, rfl, Kept.refl, _, H4.out, by rw [HL.out]; exact BR.nil _ _⟩
theorem Read_any (w : World) (ρ : Ro) (B p : Nat) (x : DkV) (d : Dk) (h : KAt w ρ B p x d) (n a k : Int) :
    Calls Try.prog 18 #[.pointer (some ⟨p, 0, none⟩), .int .i64 n, .int .i64 a, .int .i64 k] w fun e w' => ∃ u, e = .returned (.tuple #[u, .int .i64 (readD d n a k).2]) ∧ BR w' w.heap.size u (readD d n a k).1 ∧ Below w.heap.size w w' := by
  obtain ⟨W, hW⟩ : ∃ W, (((((w.alloc (.cells #[.pointer (some ⟨p, 0, none⟩)] 27)).alloc (.cells #[.int .i64 n] 3)).alloc (.cells #[.int .i64 a] 3)).alloc (.cells #[.int .i64 k] 3)).alloc (.cells #[.slice none 0 0] 37)) = W := ⟨_, rfl⟩
  have HB0 : Hid (Blk W (w.heap.size) #[.pointer (some ⟨p, 0, none⟩)] 27) := by
    rw [← hW]
    have := Blk.new w #[.pointer (some ⟨p, 0, none⟩)] 27
    exact ((((this.alloc _).alloc _).alloc _).alloc _)
  have HB1 : Hid (Blk W (w.heap.size + 1) #[.int .i64 n] 3) := by
    rw [← hW]
    have := Blk.new (w.alloc (.cells #[.pointer (some ⟨p, 0, none⟩)] 27)) #[.int .i64 n] 3
    rw [show (w.alloc (.cells #[.pointer (some ⟨p, 0, none⟩)] 27)).heap.size = w.heap.size + 1 by simp] at this
    exact (((this.alloc _).alloc _).alloc _)
  have HB2 : Hid (Blk W (w.heap.size + 2) #[.int .i64 a] 3) := by
    rw [← hW]
    have := Blk.new ((w.alloc (.cells #[.pointer (some ⟨p, 0, none⟩)] 27)).alloc (.cells #[.int .i64 n] 3)) #[.int .i64 a] 3
    rw [show ((w.alloc (.cells #[.pointer (some ⟨p, 0, none⟩)] 27)).alloc (.cells #[.int .i64 n] 3)).heap.size = w.heap.size + 2 by simp] at this
    exact ((this.alloc _).alloc _)
  have HB3 : Hid (Blk W (w.heap.size + 3) #[.int .i64 k] 3) := by
    rw [← hW]
    have := Blk.new (((w.alloc (.cells #[.pointer (some ⟨p, 0, none⟩)] 27)).alloc (.cells #[.int .i64 n] 3)).alloc (.cells #[.int .i64 a] 3)) #[.int .i64 k] 3
    rw [show (((w.alloc (.cells #[.pointer (some ⟨p, 0, none⟩)] 27)).alloc (.cells #[.int .i64 n] 3)).alloc (.cells #[.int .i64 a] 3)).heap.size = w.heap.size + 3 by simp] at this
    exact (this.alloc _)
  have HB4 : Hid (Blk W (w.heap.size + 4) #[.slice none 0 0] 37) := by
    rw [← hW]
    have := Blk.new ((((w.alloc (.cells #[.pointer (some ⟨p, 0, none⟩)] 27)).alloc (.cells #[.int .i64 n] 3)).alloc (.cells #[.int .i64 a] 3)).alloc (.cells #[.int .i64 k] 3)) #[.slice none 0 0] 37
    rw [show ((((w.alloc (.cells #[.pointer (some ⟨p, 0, none⟩)] 27)).alloc (.cells #[.int .i64 n] 3)).alloc (.cells #[.int .i64 a] 3)).alloc (.cells #[.int .i64 k] 3)).heap.size = w.heap.size + 4 by simp] at this
    exact this
  have hws : W.heap.size = w.heap.size + 5 := by rw [← hW]; simp
  have HST : Hid (Step [] ρ ρ w W) := by rw [← hW]; exact (((((Step.refl.alloc _).alloc _).alloc _).alloc _).alloc _)
  have hmf : ∀ (fn : Fn) (first cap : Array Value) (w : World), (Instr.makeFunc fn first cap).run Try.prog w = .ok (.func fn first cap) w := fun _ _ _ _ => rfl
  have HCC := Lib.hid (catch_any 42 #[.pointer (some ⟨w.heap.size, 0, none⟩), .pointer (some ⟨w.heap.size + 1, 0, none⟩), .pointer (some ⟨w.heap.size + 2, 0, none⟩), .pointer (some ⟨w.heap.size + 3, 0, none⟩), .pointer (some ⟨w.heap.size + 4, 0, none⟩)] (readD d n a k).2 W
    (fun w1 => Kept (· = w.heap.size + 4) (W.alloc (.cells #[.int .i64 0] 28)) w1 ∧ ∃ u, Blk w1 (w.heap.size + 4) #[u] 37 ∧ BR w1 (W.heap.size + 1) u (readD d n a k).1) (enters_Read _)
    ((Read1_any (W.alloc (.cells #[.int .i64 0] 28)) ρ B p w.heap.size x d (h.step (HST.out.alloc _) (by simp)) n a k (HB0.out.alloc _) (HB1.out.alloc _) (HB2.out.alloc _) (HB3.out.alloc _) (HB4.out.alloc _)).mono (by
      rintro e w' ⟨rfl, hk, hb⟩
      refine ⟨rfl, ⟨hk, by simpa using hb⟩, ?_⟩
      rw [hk.block W.heap.size (by simp) (by show ¬ (W.heap.size = w.heap.size + 4); omega)]
      exact heap_alloc_new W _)))
  generalize readD d n a k = q at *
  obtain ⟨q1, q2⟩ := q
  clear h
  go_enter Try.func18, Try.ntmps18
  go_wp2_with fail
  refine Calls.mono HCC.out ?_
  rintro e w2 ⟨rfl, w1, ⟨hk1, u, hb1, hu1⟩, hk2⟩
  have hb2 : Blk w2 (w.heap.size + 4) #[u] 37 := hb1.kept hk2 (by omega)
  have HU := Lib.hid (show BR w2 w.heap.size u q1 from (hu1.kept hk2 fun j hj e => by
    have := (hu1.lt j hj).1
    have e : j = W.heap.size := e
    omega).mono (by omega))
  obtain ⟨uA, uc, rfl, _, _⟩ := hu1.slice
  have c4 := hb2.c 0 (u := .slice uA q1.length uc) rfl
  have HB := Lib.hid (show Below w.heap.size w w2 by
    have hk : Kept (fun k => w.heap.size ≤ k) w w2 := ((HST.out.kept.mono (F := fun k => w.heap.size ≤ k) (by simp)).alloc _).trans ((hk1.mono (F := fun k => w.heap.size ≤ k) (fun k _ e => by have e : k = w.heap.size + 4 := e; omega)).trans (hk2.mono (F := fun k => w.heap.size ≤ k) (fun k _ e => by have e : k = W.heap.size := e; omega)))
    exact hk.below (Nat.le_refl _) (fun k hk => by omega))
  clear hk1 hb1 hk2 hb2 hu1 hW
  go_wp2_with fail
  go_ret2
  exact ⟨_, rfl, HU.out, HB.out⟩
end Go.Proofs.Ytahmihdahgbhkaa

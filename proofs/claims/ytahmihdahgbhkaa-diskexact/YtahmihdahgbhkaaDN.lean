/-
  Package disk's Cut, Sync and Write, walked.
  Conditions: as each theorem states them.
-/
import Derived.Test.YtahmihdahgbhkaaDM
import Derived.Shelf.Abstract
namespace Go.Proofs.Ytahmihdahgbhkaa
open Go.RowKit

/-- catch over what works on a disk. -/
theorem catch_op (f : FuncId) (cap : Array Value) (n : Int) (w W : World) (ρ : Ro) (B p : Nat) (d : Dk) (hW : Step [] ρ ρ w W) (hr : RoOk ρ B w) (hent : ∀ w, (callFunc f cap).run Try.prog w = .ok (.enter f cap) w)
    (h : Calls Try.prog f cap (W.alloc (.cells #[.int .i64 0] 28)) fun e w' => e = endE n ∧ OpK SK (W.alloc (.cells #[.int .i64 0] 28)) ρ B p d w') :
    Calls Try.prog 37 #[.func (.func f) #[] cap] W fun e w' => e = .returned (.int .i64 n) ∧ OpK SK w ρ B p d w' := by
  have hz : ρ W.heap.size = 0 := Classical.byContradiction fun e => by
    have := (hr _ e).2
    have := hW.kept.size
    omega
  refine (catch_any f cap n W (fun w1 => OpK SK (W.alloc (.cells #[.int .i64 0] 28)) ρ B p d w1) hent (h.mono ?_)).mono ?_
  · rintro e w' ⟨rfl, hop⟩
    refine ⟨rfl, hop, ?_⟩
    obtain ⟨ρ', h1, _⟩ := hop
    rw [h1.kept.block W.heap.size (by simp) (by rw [hz]; decide)]
    exact heap_alloc_new W _
  · rintro e w' ⟨rfl, w1, ⟨ρ', h1, h2, x, h3⟩, hk⟩
    have hz' : ρ' W.heap.size = 0 := (h1.same _ (by simp)).trans hz
    have hlt : W.heap.size < w1.heap.size := Nat.lt_of_lt_of_le (by simp) h1.kept.size
    have hst : Step [0] ρ' ρ' w1 w' := ⟨hk.mono fun k _ e => by
      have e : k = W.heap.size := e
      rw [e, hz']; simp, fun _ _ => rfl⟩
    have hwa : Step SK ρ ρ' w w1 := ((hW.alloc _).mono (by simp)).trans h1
    refine ⟨rfl, ρ', ⟨⟨hk.os.trans hwa.kept.os, hk.tape.trans hwa.kept.tape, hk.output.trans hwa.kept.output, Nat.le_trans hwa.kept.size hk.size, fun k hlt' hn => ?_⟩, hwa.same⟩, h2.later hk.size, x, h3.step hst (by simp; omega)⟩
    have := hW.kept.size
    have := hwa.kept.size
    exact (hk.block k (by omega) (fun e => by have e : k = W.heap.size := e; omega)).trans (hwa.kept.block k hlt' hn)

theorem enters_Cut (args : Array Value) (w : World) : (callFunc 44 args).run Try.prog w = .ok (.enter 44 args) w := enters_of Try.func44 (by kernel_rfl) rfl args w
theorem Cut1_any (w : World) (ρ : Ro) (B p a : Nat) (x : DkV) (d : Dk) (h : KAt w ρ B p x d) (hr : RoOk ρ B w) (hB : B ≤ w.heap.size) (n k : Int) (hl : ∀ m, (d.f m).done.length < 1000000) (h0 : Blk w (a) #[.pointer (some ⟨p, 0, none⟩)] 27) (h1 : Blk w (a + 1) #[.int .i64 n] 3) (h2 : Blk w (a + 2) #[.int .i64 k] 3) :
    Calls Try.prog 44 #[.pointer (some ⟨a, 0, none⟩), .pointer (some ⟨a + 1, 0, none⟩), .pointer (some ⟨a + 2, 0, none⟩)] w fun e w' => e = endE (cutD d n k).2 ∧ OpK SK w ρ B p (cutD d n k).1 w' := by
  have HC := Lib.hid (cut_any w ρ B p x d h hr hB n k hl)
  have c0 := h0.c 0 (u := .pointer (some ⟨p, 0, none⟩)) rfl
  have c1 := h1.c 0 (u := .int .i64 n) rfl
  have c2 := h2.c 0 (u := .int .i64 k) rfl
  have hbl := h.lt
  generalize cutD d n k = q at *
  obtain ⟨d', n'⟩ := q
  clear h hr h0 h1 h2
  by_cases hn : n' = 0
  · subst hn
    simp only [endE_0] at HC ⊢
    go_enter Try.func44, Try.ntmps44
    go_wp2_with fail
    refine Calls.mono HC.out ?_
    rintro e w1 ⟨rfl, hop⟩
    have HOP := Lib.hid hop
    clear hop c0 c1 c2
    go_wp2_with fail
    go_end0
    exact ⟨rfl, HOP.out⟩
  · simp only [endE_no hn] at HC ⊢
    go_enter Try.func44, Try.ntmps44
    go_wp2_with fail
    refine Calls.mono HC.out ?_
    rintro e w1 ⟨rfl, hop⟩
    exact ⟨rfl, rfl, hop⟩
theorem Cut_any (w : World) (ρ : Ro) (B p : Nat) (x : DkV) (d : Dk) (h : KAt w ρ B p x d) (hr : RoOk ρ B w) (hB : B ≤ w.heap.size) (n k : Int) (hl : ∀ m, (d.f m).done.length < 1000000) :
    Calls Try.prog 22 #[.pointer (some ⟨p, 0, none⟩), .int .i64 n, .int .i64 k] w fun e w' => e = .returned (.int .i64 (cutD d n k).2) ∧ OpK SK w ρ B p (cutD d n k).1 w' := by
  obtain ⟨W, hW⟩ : ∃ W, ((w.alloc (.cells #[.pointer (some ⟨p, 0, none⟩)] 27)).alloc (.cells #[.int .i64 n] 3)).alloc (.cells #[.int .i64 k] 3) = W := ⟨_, rfl⟩
  have HB0 : Hid (Blk W (w.heap.size) #[.pointer (some ⟨p, 0, none⟩)] 27) := by
    rw [← hW]
    have := Blk.new w #[.pointer (some ⟨p, 0, none⟩)] 27
    rw [show w.heap.size = w.heap.size + 0 by simp] at this
    exact ((this.alloc _).alloc _)
  have HB1 : Hid (Blk W (w.heap.size + 1) #[.int .i64 n] 3) := by
    rw [← hW]
    have := Blk.new (w.alloc (.cells #[.pointer (some ⟨p, 0, none⟩)] 27)) #[.int .i64 n] 3
    rw [show (w.alloc (.cells #[.pointer (some ⟨p, 0, none⟩)] 27)).heap.size = w.heap.size + 1 by simp] at this
    exact (this.alloc _)
  have HB2 : Hid (Blk W (w.heap.size + 2) #[.int .i64 k] 3) := by
    rw [← hW]
    have := Blk.new ((w.alloc (.cells #[.pointer (some ⟨p, 0, none⟩)] 27)).alloc (.cells #[.int .i64 n] 3)) #[.int .i64 k] 3
    rw [show ((w.alloc (.cells #[.pointer (some ⟨p, 0, none⟩)] 27)).alloc (.cells #[.int .i64 n] 3)).heap.size = w.heap.size + 2 by simp] at this
    exact this
  have HST : Hid (Step [] ρ ρ w W) := by rw [← hW]; exact (((Step.refl.alloc _).alloc _).alloc _)
  have hmf : ∀ (fn : Fn) (first cap : Array Value) (w : World), (Instr.makeFunc fn first cap).run Try.prog w = .ok (.func fn first cap) w := fun _ _ _ _ => rfl
  have hst1 : Step [] ρ ρ w (W.alloc (.cells #[.int .i64 0] 28)) := HST.out.alloc _
  have HCC := Lib.hid (catch_op 44 #[.pointer (some ⟨w.heap.size, 0, none⟩), .pointer (some ⟨w.heap.size + 1, 0, none⟩), .pointer (some ⟨w.heap.size + 2, 0, none⟩)] (cutD d n k).2 w W ρ B p (cutD d n k).1 HST.out hr (enters_Cut _)
    (Cut1_any (W.alloc (.cells #[.int .i64 0] 28)) ρ B p w.heap.size x d (h.step hst1 (by simp)) (hr.later hst1.kept.size) (Nat.le_trans hB hst1.kept.size) n k hl (HB0.out.alloc _) (HB1.out.alloc _) (HB2.out.alloc _)))
  generalize cutD d n k = q at *
  clear h hr hst1
  go_enter Try.func22, Try.ntmps22
  go_wp2_with fail
  refine Calls.mono HCC.out ?_
  rintro e w1 ⟨rfl, hop⟩
  have HOP := Lib.hid hop
  clear hop hW
  go_wp2_with fail
  go_ret
  exact ⟨rfl, HOP.out⟩

theorem enters_Sync (args : Array Value) (w : World) : (callFunc 48 args).run Try.prog w = .ok (.enter 48 args) w := enters_of Try.func48 (by kernel_rfl) rfl args w
theorem Sync1_any (w : World) (ρ : Ro) (B p a : Nat) (x : DkV) (d : Dk) (h : KAt w ρ B p x d) (hr : RoOk ρ B w) (hB : B ≤ w.heap.size) (n : Int) (h0 : Blk w (a) #[.pointer (some ⟨p, 0, none⟩)] 27) (h1 : Blk w (a + 1) #[.int .i64 n] 3) :
    Calls Try.prog 48 #[.pointer (some ⟨a, 0, none⟩), .pointer (some ⟨a + 1, 0, none⟩)] w fun e w' => e = endE (syD d n).2 ∧ OpK SK w ρ B p (syD d n).1 w' := by
  have HC := Lib.hid (dsync_any w ρ B p x d h hr hB n)
  have c0 := h0.c 0 (u := .pointer (some ⟨p, 0, none⟩)) rfl
  have c1 := h1.c 0 (u := .int .i64 n) rfl
  have hbl := h.lt
  generalize syD d n = q at *
  obtain ⟨d', n'⟩ := q
  clear h hr h0 h1
  by_cases hn : n' = 0
  · subst hn
    simp only [endE_0] at HC ⊢
    go_enter Try.func48, Try.ntmps48
    go_wp2_with fail
    refine Calls.mono HC.out ?_
    rintro e w1 ⟨rfl, hop⟩
    have HOP := Lib.hid hop
    clear hop c0 c1
    go_wp2_with fail
    go_end0
    exact ⟨rfl, HOP.out⟩
  · simp only [endE_no hn] at HC ⊢
    go_enter Try.func48, Try.ntmps48
    go_wp2_with fail
    refine Calls.mono HC.out ?_
    rintro e w1 ⟨rfl, hop⟩
    exact ⟨rfl, rfl, hop⟩
theorem Sync_any (w : World) (ρ : Ro) (B p : Nat) (x : DkV) (d : Dk) (h : KAt w ρ B p x d) (hr : RoOk ρ B w) (hB : B ≤ w.heap.size) (n : Int) :
    Calls Try.prog 24 #[.pointer (some ⟨p, 0, none⟩), .int .i64 n] w fun e w' => e = .returned (.int .i64 (syD d n).2) ∧ OpK SK w ρ B p (syD d n).1 w' := by
  obtain ⟨W, hW⟩ : ∃ W, (w.alloc (.cells #[.pointer (some ⟨p, 0, none⟩)] 27)).alloc (.cells #[.int .i64 n] 3) = W := ⟨_, rfl⟩
  have HB0 : Hid (Blk W (w.heap.size) #[.pointer (some ⟨p, 0, none⟩)] 27) := by
    rw [← hW]
    have := Blk.new w #[.pointer (some ⟨p, 0, none⟩)] 27
    rw [show w.heap.size = w.heap.size + 0 by simp] at this
    exact (this.alloc _)
  have HB1 : Hid (Blk W (w.heap.size + 1) #[.int .i64 n] 3) := by
    rw [← hW]
    have := Blk.new (w.alloc (.cells #[.pointer (some ⟨p, 0, none⟩)] 27)) #[.int .i64 n] 3
    rw [show (w.alloc (.cells #[.pointer (some ⟨p, 0, none⟩)] 27)).heap.size = w.heap.size + 1 by simp] at this
    exact this
  have HST : Hid (Step [] ρ ρ w W) := by rw [← hW]; exact ((Step.refl.alloc _).alloc _)
  have hmf : ∀ (fn : Fn) (first cap : Array Value) (w : World), (Instr.makeFunc fn first cap).run Try.prog w = .ok (.func fn first cap) w := fun _ _ _ _ => rfl
  have hst1 : Step [] ρ ρ w (W.alloc (.cells #[.int .i64 0] 28)) := HST.out.alloc _
  have HCC := Lib.hid (catch_op 48 #[.pointer (some ⟨w.heap.size, 0, none⟩), .pointer (some ⟨w.heap.size + 1, 0, none⟩)] (syD d n).2 w W ρ B p (syD d n).1 HST.out hr (enters_Sync _)
    (Sync1_any (W.alloc (.cells #[.int .i64 0] 28)) ρ B p w.heap.size x d (h.step hst1 (by simp)) (hr.later hst1.kept.size) (Nat.le_trans hB hst1.kept.size) n (HB0.out.alloc _) (HB1.out.alloc _)))
  generalize syD d n = q at *
  clear h hr hst1
  go_enter Try.func24, Try.ntmps24
  go_wp2_with fail
  refine Calls.mono HCC.out ?_
  rintro e w1 ⟨rfl, hop⟩
  have HOP := Lib.hid hop
  clear hop hW
  go_wp2_with fail
  go_ret
  exact ⟨rfl, HOP.out⟩

theorem enters_Write (args : Array Value) (w : World) : (callFunc 52 args).run Try.prog w = .ok (.enter 52 args) w := enters_of Try.func52 (by kernel_rfl) rfl args w
theorem Write1_any (w : World) (ρ : Ro) (B p a0 : Nat) (x : DkV) (d : Dk) (h : KAt w ρ B p x d) (hr : RoOk ρ B w) (hB : B ≤ w.heap.size) (n a : Int) (b : List UInt8) (bv : Value) (hbv : RB w bv b) (HBR : ∀ k, bv.ownBlock = some k → ρ k ∉ [2]) (hl : ∀ m, (d.f m).done.length < 1000000) (h0 : Blk w (a0) #[.pointer (some ⟨p, 0, none⟩)] 27) (h1 : Blk w (a0 + 1) #[.int .i64 n] 3) (h2 : Blk w (a0 + 2) #[.int .i64 a] 3) (h3 : Blk w (a0 + 3) #[bv] 37) :
    Calls Try.prog 52 #[.pointer (some ⟨a0, 0, none⟩), .pointer (some ⟨a0 + 1, 0, none⟩), .pointer (some ⟨a0 + 2, 0, none⟩), .pointer (some ⟨a0 + 3, 0, none⟩)] w fun e w' => e = endE (wrD d n a b).2 ∧ OpK SK w ρ B p (wrD d n a b).1 w' := by
  have HC := Lib.hid (write_any w ρ B p x d h hr hB n a b bv hbv HBR hl)
  have c0 := h0.c 0 (u := .pointer (some ⟨p, 0, none⟩)) rfl
  have c1 := h1.c 0 (u := .int .i64 n) rfl
  have c2 := h2.c 0 (u := .int .i64 a) rfl
  have c3 := h3.c 0 (u := bv) rfl
  have hbl := h.lt
  obtain ⟨bA, bcp, rfl, _, _⟩ := hbv.slice
  generalize wrD d n a b = q at *
  obtain ⟨d', n'⟩ := q
  clear h hr h0 h1 h2 h3
  by_cases hn : n' = 0
  · subst hn
    simp only [endE_0] at HC ⊢
    go_enter Try.func52, Try.ntmps52
    go_wp2_with fail
    refine Calls.mono HC.out ?_
    rintro e w1 ⟨rfl, hop⟩
    have HOP := Lib.hid hop
    clear hop c0 c1 c2 c3
    go_wp2_with fail
    go_end0
    exact ⟨rfl, HOP.out⟩
  · simp only [endE_no hn] at HC ⊢
    go_enter Try.func52, Try.ntmps52
    go_wp2_with fail
    refine Calls.mono HC.out ?_
    rintro e w1 ⟨rfl, hop⟩
    exact ⟨rfl, rfl, hop⟩
theorem Write_any (w : World) (ρ : Ro) (B p : Nat) (x : DkV) (d : Dk) (h : KAt w ρ B p x d) (hr : RoOk ρ B w) (hB : B ≤ w.heap.size) (n a : Int) (b : List UInt8) (bv : Value) (hbv : RB w bv b) (HBR : ∀ k, bv.ownBlock = some k → ρ k ∉ [2]) (hl : ∀ m, (d.f m).done.length < 1000000) :
    Calls Try.prog 34 #[.pointer (some ⟨p, 0, none⟩), .int .i64 n, .int .i64 a, bv] w fun e w' => e = .returned (.int .i64 (wrD d n a b).2) ∧ OpK SK w ρ B p (wrD d n a b).1 w' := by
  obtain ⟨W, hW⟩ : ∃ W, (((w.alloc (.cells #[.pointer (some ⟨p, 0, none⟩)] 27)).alloc (.cells #[.int .i64 n] 3)).alloc (.cells #[.int .i64 a] 3)).alloc (.cells #[bv] 37) = W := ⟨_, rfl⟩
  have HB0 : Hid (Blk W (w.heap.size) #[.pointer (some ⟨p, 0, none⟩)] 27) := by
    rw [← hW]
    have := Blk.new w #[.pointer (some ⟨p, 0, none⟩)] 27
    rw [show w.heap.size = w.heap.size + 0 by simp] at this
    exact (((this.alloc _).alloc _).alloc _)
  have HB1 : Hid (Blk W (w.heap.size + 1) #[.int .i64 n] 3) := by
    rw [← hW]
    have := Blk.new (w.alloc (.cells #[.pointer (some ⟨p, 0, none⟩)] 27)) #[.int .i64 n] 3
    rw [show (w.alloc (.cells #[.pointer (some ⟨p, 0, none⟩)] 27)).heap.size = w.heap.size + 1 by simp] at this
    exact ((this.alloc _).alloc _)
  have HB2 : Hid (Blk W (w.heap.size + 2) #[.int .i64 a] 3) := by
    rw [← hW]
    have := Blk.new ((w.alloc (.cells #[.pointer (some ⟨p, 0, none⟩)] 27)).alloc (.cells #[.int .i64 n] 3)) #[.int .i64 a] 3
    rw [show ((w.alloc (.cells #[.pointer (some ⟨p, 0, none⟩)] 27)).alloc (.cells #[.int .i64 n] 3)).heap.size = w.heap.size + 2 by simp] at this
    exact (this.alloc _)
  have HB3 : Hid (Blk W (w.heap.size + 3) #[bv] 37) := by
    rw [← hW]
    have := Blk.new (((w.alloc (.cells #[.pointer (some ⟨p, 0, none⟩)] 27)).alloc (.cells #[.int .i64 n] 3)).alloc (.cells #[.int .i64 a] 3)) #[bv] 37
    rw [show (((w.alloc (.cells #[.pointer (some ⟨p, 0, none⟩)] 27)).alloc (.cells #[.int .i64 n] 3)).alloc (.cells #[.int .i64 a] 3)).heap.size = w.heap.size + 3 by simp] at this
    exact this
  have HST : Hid (Step [] ρ ρ w W) := by rw [← hW]; exact ((((Step.refl.alloc _).alloc _).alloc _).alloc _)
  have hmf : ∀ (fn : Fn) (first cap : Array Value) (w : World), (Instr.makeFunc fn first cap).run Try.prog w = .ok (.func fn first cap) w := fun _ _ _ _ => rfl
  have hst1 : Step [] ρ ρ w (W.alloc (.cells #[.int .i64 0] 28)) := HST.out.alloc _
  have HCC := Lib.hid (catch_op 52 #[.pointer (some ⟨w.heap.size, 0, none⟩), .pointer (some ⟨w.heap.size + 1, 0, none⟩), .pointer (some ⟨w.heap.size + 2, 0, none⟩), .pointer (some ⟨w.heap.size + 3, 0, none⟩)] (wrD d n a b).2 w W ρ B p (wrD d n a b).1 HST.out hr (enters_Write _)
    (Write1_any (W.alloc (.cells #[.int .i64 0] 28)) ρ B p w.heap.size x d (h.step hst1 (by simp)) (hr.later hst1.kept.size) (Nat.le_trans hB hst1.kept.size) n a b bv (hbv.heap hst1.kept.size fun k hk hlt => hst1.kept.block k hlt (by simp)) HBR hl (HB0.out.alloc _) (HB1.out.alloc _) (HB2.out.alloc _) (HB3.out.alloc _)))
  obtain ⟨bA, bcp, rfl, _, _⟩ := hbv.slice
  generalize wrD d n a b = q at *
  clear h hr hst1
  go_enter Try.func34, Try.ntmps34
  go_wp2_with fail
  refine Calls.mono HCC.out ?_
  rintro e w1 ⟨rfl, hop⟩
  have HOP := Lib.hid hop
  clear hop hW
  go_wp2_with fail
  go_ret
  exact ⟨rfl, HOP.out⟩
end Go.Proofs.Ytahmihdahgbhkaa

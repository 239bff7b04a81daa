/-
  The package's disk and the page's side by side, and what each call makes of them.
  Conditions: as each theorem states them.
-/
import Derived.Test.YtahmihdahgbhkaaRL
import Derived.Test.YtahmihdahgbhkaaRG
import Derived.Test.YtahmihdahgbhkaaRN
import Derived.Test.YtahmihdahgbhkaaRQ
import Derived.Test.YtahmihdahgbhkaaRS
import Derived.Test.YtahmihdahgbhkaaRD
namespace Go.Proofs.Ytahmihdahgbhkaa
open Go.RowKit

/-- The two disks, all of them from B on, and the block g, that is no part of either. -/
def Two (B p q : Nat) (d e : Dk) (g : Nat) (cs : Array Value) (t : TypeId) (w : World) : Prop :=
  ∃ ρ1 x1 ρ2 x2, RoOk ρ1 B w ∧ KAt w ρ1 B p x1 d ∧ RoOk ρ2 B w ∧ RAt w ρ2 B q x2 e ∧ (∀ k, ρ1 k = 0 ∨ ρ2 k = 0) ∧ ρ1 g = 0 ∧ ρ2 g = 0 ∧ Blk w g cs t ∧ B ≤ w.heap.size
section
variable {B p q g : Nat} {d e d' e' : Dk} {cs : Array Value} {t : TypeId} {w w1 w' : World}
theorem Two.later (h : Two B p q d e g cs t w) (hb : Below w.heap.size w w') : Two B p q d e g cs t w' := by
  obtain ⟨ρ1, x1, ρ2, x2, h1, h2, h3, h4, h5, h6, h7, h8, h9⟩ := h
  exact ⟨ρ1, x1, ρ2, x2, h1.later hb.size, h2.step (Step.of (S := []) hb) (by simp), h3.later hb.size, h4.step (Step.of (S := []) hb) (by simp), h5, h6, h7, h8.later hb, Nat.le_trans h9 hb.size⟩
theorem Two.blk (h : Two B p q d e g cs t w) : Blk w g cs t := by
  obtain ⟨ρ1, x1, ρ2, x2, h1, h2, h3, h4, h5, h6, h7, h8, h9⟩ := h
  exact h8
theorem Two.base (h : Two B p q d e g cs t w) : B ≤ w.heap.size := by
  obtain ⟨ρ1, x1, ρ2, x2, h1, h2, h3, h4, h5, h6, h7, h8, h9⟩ := h
  exact h9
theorem Two.ltK (h : Two B p q d e g cs t w) : p < w.heap.size := by
  obtain ⟨ρ1, x1, ρ2, x2, h1, h2, h3, h4, h5, h6, h7, h8, h9⟩ := h
  exact h2.lt
theorem Two.ltR (h : Two B p q d e g cs t w) : q < w.heap.size := by
  obtain ⟨ρ1, x1, ρ2, x2, h1, h2, h3, h4, h5, h6, h7, h8, h9⟩ := h
  exact h4.lt
/-- Another block of no disk. -/
theorem Two.other {g' : Nat} {cs' : Array Value} {t' : TypeId} (h : Two B p q d e g cs t w) (hb : Below w.heap.size w w') (hg : w.heap.size ≤ g') (hk : Blk w' g' cs' t') : Two B p q d e g' cs' t' w' := by
  obtain ⟨ρ1, x1, ρ2, x2, h1, h2, h3, h4, h5, h6, h7, h8, h9⟩ := h
  refine ⟨ρ1, x1, ρ2, x2, h1.later hb.size, h2.step (Step.of (S := []) hb) (by simp), h3.later hb.size, h4.step (Step.of (S := []) hb) (by simp), h5, ?_, ?_, hk, Nat.le_trans h9 hb.size⟩
  · exact Classical.byContradiction fun e => by have := (h1 _ e).2; omega
  · exact Classical.byContradiction fun e => by have := (h3 _ e).2; omega
theorem Two.back {g' : Nat} {cs' : Array Value} {t' : TypeId} (h : Two B p q d e g cs t w) (hg : g' < B) (hk : Blk w g' cs' t') : Two B p q d e g' cs' t' w := by
  obtain ⟨ρ1, x1, ρ2, x2, h1, h2, h3, h4, h5, h6, h7, h8, h9⟩ := h
  refine ⟨ρ1, x1, ρ2, x2, h1, h2, h3, h4, h5, ?_, ?_, hk, h9⟩
  · exact Classical.byContradiction fun e => by have := (h1 _ e).1; omega
  · exact Classical.byContradiction fun e => by have := (h3 _ e).1; omega
/-- A world's step that touches one disk alone. -/
theorem quietStep {ρ1 ρ1' ρ2 : Ro} (hd : ∀ k, ρ1 k = 0 ∨ ρ2 k = 0) (hs : Step SK ρ1 ρ1' w w') : Step [0] ρ2 ρ2 w w' :=
  ⟨hs.kept.mono fun k _ hm => by
    rcases hd k with e | e
    · rw [e] at hm
      simp [SK] at hm
    · rw [e]
      simp, fun _ _ => rfl⟩
theorem free_kept {ρ1 ρ1' : Ro} (hs : Step SK ρ1 ρ1' w w') {k : Nat} (hk : k < w.heap.size) (h0 : ρ1 k = 0) : w'.heap[k]? = w.heap[k]? :=
  hs.kept.block k hk (by rw [h0]; simp [SK])
theorem apart {ρ1 ρ1' ρ2 : Ro} (hd : ∀ k, ρ1 k = 0 ∨ ρ2 k = 0) (hs : Step SK ρ1 ρ1' w w') (hr : RoOk ρ2 B w) (k : Nat) : ρ1' k = 0 ∨ ρ2 k = 0 := by
  by_cases h : k < w.heap.size
  · rw [hs.same k h]; exact hd k
  · exact .inr (Classical.byContradiction fun e => h (hr k e).2)
end
section
variable {B p q g : Nat} {d e : Dk} {cs : Array Value} {t : TypeId} {w : World}
theorem Two.cutK (h : Two B p q d e g cs t w) (hm : ∀ m, (d.f m).done.length < 1000000) (n k : Int) :
    Calls Try.prog 22 #[.pointer (some ⟨p, 0, none⟩), .int .i64 n, .int .i64 k] w fun r w' => r = .returned (.int .i64 (cutD d n k).2) ∧ Two B p q (cutD d n k).1 e g cs t w' ∧ Below B w w' := by
  obtain ⟨ρ1, x1, ρ2, x2, h1, h2, h3, h4, h5, h6, h7, h8, h9⟩ := h
  refine (Cut_any w ρ1 B p x1 d h2 h1 h9 n k hm).mono ?_
  rintro r w' ⟨rfl, ρ1', hs, hro, x', hk'⟩
  exact ⟨rfl, ⟨ρ1', x', ρ2, x2, hro, hk', h3.later hs.kept.size, h4.step (quietStep h5 hs) (by simp; omega), apart h5 hs h3, (hs.same g h8.lt).trans h6, h7, h8.heap (free_kept hs h8.lt h6), Nat.le_trans h9 hs.kept.size⟩, hs.below h9 h1 (by decide)⟩
theorem Two.cutR (h : Two B p q d e g cs t w) (hm : ∀ m, (e.f m).done.length < 1000000) (n k : Int) :
    Calls Try.prog 23 #[.pointer (some ⟨q, 0, none⟩), .int .i64 n, .int .i64 k] w fun r w' => r = .returned (.int .i64 (cutD e n k).2) ∧ Two B p q d (cutD e n k).1 g cs t w' ∧ Below B w w' := by
  obtain ⟨ρ1, x1, ρ2, x2, h1, h2, h3, h4, h5, h6, h7, h8, h9⟩ := h
  have h5' : ∀ k, ρ2 k = 0 ∨ ρ1 k = 0 := fun k => (h5 k).symm
  refine (Cut_r w ρ2 B q x2 e h4 h3 h9 n k hm).mono ?_
  rintro r w' ⟨rfl, ρ2', hs, hro, x', hk'⟩
  exact ⟨rfl, ⟨ρ1, x1, ρ2', x', h1.later hs.kept.size, h2.step (quietStep h5' hs) (by simp; omega), hro, hk', fun k => (apart h5' hs h1 k).symm, h6, (hs.same g h8.lt).trans h7, h8.heap (free_kept hs h8.lt h7), Nat.le_trans h9 hs.kept.size⟩, hs.below h9 h3 (by decide)⟩
theorem Two.syncK (h : Two B p q d e g cs t w) (n : Int) :
    Calls Try.prog 24 #[.pointer (some ⟨p, 0, none⟩), .int .i64 n] w fun r w' => r = .returned (.int .i64 (syD d n).2) ∧ Two B p q (syD d n).1 e g cs t w' ∧ Below B w w' := by
  obtain ⟨ρ1, x1, ρ2, x2, h1, h2, h3, h4, h5, h6, h7, h8, h9⟩ := h
  refine (Sync_any w ρ1 B p x1 d h2 h1 h9 n).mono ?_
  rintro r w' ⟨rfl, ρ1', hs, hro, x', hk'⟩
  exact ⟨rfl, ⟨ρ1', x', ρ2, x2, hro, hk', h3.later hs.kept.size, h4.step (quietStep h5 hs) (by simp; omega), apart h5 hs h3, (hs.same g h8.lt).trans h6, h7, h8.heap (free_kept hs h8.lt h6), Nat.le_trans h9 hs.kept.size⟩, hs.below h9 h1 (by decide)⟩
theorem Two.syncR (h : Two B p q d e g cs t w) (n : Int) :
    Calls Try.prog 25 #[.pointer (some ⟨q, 0, none⟩), .int .i64 n] w fun r w' => r = .returned (.int .i64 (syD e n).2) ∧ Two B p q d (syD e n).1 g cs t w' ∧ Below B w w' := by
  obtain ⟨ρ1, x1, ρ2, x2, h1, h2, h3, h4, h5, h6, h7, h8, h9⟩ := h
  have h5' : ∀ k, ρ2 k = 0 ∨ ρ1 k = 0 := fun k => (h5 k).symm
  refine (Sync_r w ρ2 B q x2 e h4 h3 h9 n).mono ?_
  rintro r w' ⟨rfl, ρ2', hs, hro, x', hk'⟩
  exact ⟨rfl, ⟨ρ1, x1, ρ2', x', h1.later hs.kept.size, h2.step (quietStep h5' hs) (by simp; omega), hro, hk', fun k => (apart h5' hs h1 k).symm, h6, (hs.same g h8.lt).trans h7, h8.heap (free_kept hs h8.lt h7), Nat.le_trans h9 hs.kept.size⟩, hs.below h9 h3 (by decide)⟩
theorem Two.offK (h : Two B p q d e g cs t w) (n : Int) (hn : n < 9223372036854775808) :
    Calls Try.prog 26 #[.pointer (some ⟨p, 0, none⟩), .int .i64 n] w fun r w' => r = .returned (.tuple #[]) ∧ Two B p q ⟨d.f, setP n d.p⟩ e g cs t w' ∧ Below B w w' := by
  obtain ⟨ρ1, x1, ρ2, x2, h1, h2, h3, h4, h5, h6, h7, h8, h9⟩ := h
  refine (Off_any w ρ1 B p x1 d h2 h1 n hn).mono ?_
  rintro r w' ⟨rfl, ρ1', hs, hro, x', hk'⟩
  exact ⟨rfl, ⟨ρ1', x', ρ2, x2, hro, hk', h3.later hs.kept.size, h4.step (quietStep h5 hs) (by simp; omega), apart h5 hs h3, (hs.same g h8.lt).trans h6, h7, h8.heap (free_kept hs h8.lt h6), Nat.le_trans h9 hs.kept.size⟩, hs.below h9 h1 (by decide)⟩
theorem Two.offR (h : Two B p q d e g cs t w) (n : Int) (hn : n < 9223372036854775808) :
    Calls Try.prog 27 #[.pointer (some ⟨q, 0, none⟩), .int .i64 n] w fun r w' => r = .returned (.tuple #[]) ∧ Two B p q d ⟨e.f, setP n e.p⟩ g cs t w' ∧ Below B w w' := by
  obtain ⟨ρ1, x1, ρ2, x2, h1, h2, h3, h4, h5, h6, h7, h8, h9⟩ := h
  have h5' : ∀ k, ρ2 k = 0 ∨ ρ1 k = 0 := fun k => (h5 k).symm
  refine (Off_r w ρ2 B q x2 e h4 h3 n hn).mono ?_
  rintro r w' ⟨rfl, ρ2', hs, hro, x', hk'⟩
  exact ⟨rfl, ⟨ρ1, x1, ρ2', x', h1.later hs.kept.size, h2.step (quietStep h5' hs) (by simp; omega), hro, hk', fun k => (apart h5' hs h1 k).symm, h6, (hs.same g h8.lt).trans h7, h8.heap (free_kept hs h8.lt h7), Nat.le_trans h9 hs.kept.size⟩, hs.below h9 h3 (by decide)⟩
theorem Two.sizeK (h : Two B p q d e g cs t w) (n : Int) :
    Calls Try.prog 16 #[.pointer (some ⟨p, 0, none⟩), .int .i64 n] w fun r w' => r = .returned (.tuple #[.int .i64 (sizeD d n).1, .int .i64 (sizeD d n).2]) ∧ Below w.heap.size w w' := by
  obtain ⟨ρ1, x1, ρ2, x2, h1, h2, h3, h4, h5, h6, h7, h8, h9⟩ := h
  exact Size_any w ρ1 B p x1 d h2 n
theorem Two.sizeR (h : Two B p q d e g cs t w) (n : Int) :
    Calls Try.prog 17 #[.pointer (some ⟨q, 0, none⟩), .int .i64 n] w fun r w' => r = .returned (.tuple #[.int .i64 (sizeD e n).1, .int .i64 (sizeD e n).2]) ∧ w' = w := by
  obtain ⟨ρ1, x1, ρ2, x2, h1, h2, h3, h4, h5, h6, h7, h8, h9⟩ := h
  exact Size_r w ρ2 B q x2 e h4 n
theorem Two.readK (h : Two B p q d e g cs t w) (n a k : Int) :
    Calls Try.prog 18 #[.pointer (some ⟨p, 0, none⟩), .int .i64 n, .int .i64 a, .int .i64 k] w fun r w' => ∃ u, r = .returned (.tuple #[u, .int .i64 (readD d n a k).2]) ∧ BR w' w.heap.size u (readD d n a k).1 ∧ Below w.heap.size w w' ∧ (readD d n a k).1.length ≤ 10000000 := by
  obtain ⟨ρ1, x1, ρ2, x2, h1, h2, h3, h4, h5, h6, h7, h8, h9⟩ := h
  refine (Read_any w ρ1 B p x1 d h2 n a k).mono ?_
  rintro r w' ⟨u, h10, h11, h12⟩
  refine ⟨u, h10, h11, h12, ?_⟩
  by_cases hn : n.toNat ≤ 2
  · have := h2.nowLen hn
    unfold readD
    repeat' split
    all_goals simp
    all_goals omega
  · unfold readD
    have : fileOk n = false := fileOk_no (by omega)
    rw [this]
    repeat' split
    all_goals simp_all
theorem Two.readR (h : Two B p q d e g cs t w) (n a k : Int) :
    Calls Try.prog 19 #[.pointer (some ⟨q, 0, none⟩), .int .i64 n, .int .i64 a, .int .i64 k] w fun r w' => ∃ u, r = .returned (.tuple #[u, .int .i64 (readD e n a k).2]) ∧ BR w' w.heap.size u (readD e n a k).1 ∧ Below w.heap.size w w' := by
  obtain ⟨ρ1, x1, ρ2, x2, h1, h2, h3, h4, h5, h6, h7, h8, h9⟩ := h
  exact Read_r w ρ2 B q x2 e h4 n a k
theorem Two.writeK {w1 : World} (h : Two B p q d e g cs t w) (hb : Below w.heap.size w w1) (hm : ∀ m, (d.f m).done.length < 1000000) (n a : Int) (b : List UInt8) (bv : Value) (hbv : BR w1 w.heap.size bv b) :
    Calls Try.prog 34 #[.pointer (some ⟨p, 0, none⟩), .int .i64 n, .int .i64 a, bv] w1 fun r w' => r = .returned (.int .i64 (wrD d n a b).2) ∧ BR w' w.heap.size bv b ∧ Below B w w' ∧ (∀ w'', Kept (fun k => bv.ownBlock = some k) w' w'' → Two B p q (wrD d n a b).1 e g cs t w'' ∧ Below B w w'') := by
  obtain ⟨ρ1, x1, ρ2, x2, h1, h2, h3, h4, h5, h6, h7, h8, h9⟩ := h
  have k1 := h2.step (Step.of (S := []) hb) (by simp)
  have k2 := h4.step (Step.of (S := []) hb) (by simp)
  have hB1 := Nat.le_trans h9 hb.size
  have hf1 : ∀ k, bv.ownBlock = some k → ρ1 k = 0 := fun k hk => Classical.byContradiction fun e => by have := (hbv.lt k hk).1; have := (h1 k e).2; omega
  have hf2 : ∀ k, bv.ownBlock = some k → ρ2 k = 0 := fun k hk => Classical.byContradiction fun e => by have := (hbv.lt k hk).1; have := (h3 k e).2; omega
  refine (Write_any w1 ρ1 B p x1 d k1 (h1.later hb.size) hB1 n a b bv hbv.rb (fun k hk => by rw [hf1 k hk]; simp) hm).mono ?_
  rintro r w' ⟨rfl, ρ1', hs, hro, x', hk'⟩
  have hbb := hbv.kept hs.kept fun k hk hm => by rw [hf1 k hk] at hm; simp [SK] at hm
  have hbel : Below B w w' := (hb.mono h9).trans (hs.below hB1 (h1.later hb.size) (by decide))
  refine ⟨rfl, hbb, hbel, fun w'' hk2 => ?_⟩
  have s1 : Step [0] ρ1' ρ1' w' w'' := ⟨hk2.mono fun k _ hk => by rw [hs.same k (hbv.lt k hk).2, hf1 k hk]; simp, fun _ _ => rfl⟩
  have s2 : Step [0] ρ2 ρ2 w' w'' := ⟨hk2.mono fun k _ hk => by rw [hf2 k hk]; simp, fun _ _ => rfl⟩
  have h3' := (h3.later hb.size)
  have hg1 := h8.later hb
  have hg : Blk w' g cs t := hg1.heap (free_kept hs hg1.lt h6)
  refine ⟨⟨ρ1', x', ρ2, x2, hro.later hk2.size, hk'.step s1 (by simp; omega), (h3'.later hs.kept.size).later hk2.size, (k2.step (quietStep h5 hs) (by simp; omega)).step s2 (by simp; omega), apart h5 hs h3', (hs.same g hg1.lt).trans h6, h7, hg.kept hk2 fun hk => ?_, ?_⟩, hbel.trans (hk2.below (Nat.le_trans hB1 hs.kept.size) fun k hk e => ?_)⟩
  · have := (hbv.lt g hk).1
    have := h8.lt
    omega
  · exact Nat.le_trans (Nat.le_trans hB1 hs.kept.size) hk2.size
  · have := (hbv.lt k e).1
    omega
theorem Two.writeR (h : Two B p q d e g cs t w) (hm : ∀ m, (e.f m).done.length < 1000000) (n a : Int) (b : List UInt8) (bv : Value) (hbv : RB w bv b) (hbb : b ≠ [] → ∀ j, bv.ownBlock = some j → j < B) (hbl : b.length ≤ 10000000) :
    Calls Try.prog 35 #[.pointer (some ⟨q, 0, none⟩), .int .i64 n, .int .i64 a, bv] w fun r w' => r = .returned (.int .i64 (wrD e n a b).2) ∧ Two B p q d (wrD e n a b).1 g cs t w' ∧ Below B w w' := by
  obtain ⟨ρ1, x1, ρ2, x2, h1, h2, h3, h4, h5, h6, h7, h8, h9⟩ := h
  have h5' : ∀ k, ρ2 k = 0 ∨ ρ1 k = 0 := fun k => (h5 k).symm
  refine (Write_r w ρ2 B q x2 e h4 h3 h9 n a b bv hbv (fun hne k hk => by
    have : ρ2 k = 0 := Classical.byContradiction fun e => by have := (h3 k e).1; have := hbb hne k hk; omega
    rw [this]; simp) hm hbl).mono ?_
  rintro r w' ⟨rfl, ρ2', hs, hro, x', hk'⟩
  exact ⟨rfl, ⟨ρ1, x1, ρ2', x', h1.later hs.kept.size, h2.step (quietStep h5' hs) (by simp; omega), hro, hk', fun k => (apart h5' hs h1 k).symm, h6, (hs.same g h8.lt).trans h7, h8.heap (free_kept hs h8.lt h7), Nat.le_trans h9 hs.kept.size⟩, hs.below h9 h3 (by decide)⟩
theorem Two.crashK (h : Two B p q d e g cs t w) (hm : ∀ m, (d.f m).done.length < 1000000) (l : List Int) (pv : Value) (hpv : IA w pv l) (hpp : l ≠ [] → ∀ k, pv.ownBlock = some k → k ≠ p) :
    Calls Try.prog 28 #[.pointer (some ⟨p, 0, none⟩), pv] w fun r w' => ∃ u, r = .returned u ∧ (∃ us, OC w' (w.heap.size + 1) u us (crashD d l)) ∧ Two B p q ⟨d.f, none⟩ e g cs t w' ∧ Below B w w' := by
  obtain ⟨ρ1, x1, ρ2, x2, h1, h2, h3, h4, h5, h6, h7, h8, h9⟩ := h
  refine (Crash_any' w ρ1 B p x1 d h2 h1 h9 l pv hpv hm hpp).mono ?_
  rintro r w' ⟨u, rfl, hu, ρ1', hs, hro, x', hk'⟩
  exact ⟨u, rfl, hu, ⟨ρ1', x', ρ2, x2, hro, hk', h3.later hs.kept.size, h4.step (quietStep h5 hs) (by simp; omega), apart h5 hs h3, (hs.same g h8.lt).trans h6, h7, h8.heap (free_kept hs h8.lt h6), Nat.le_trans h9 hs.kept.size⟩, hs.below h9 h1 (by decide)⟩
theorem Two.crashR (h : Two B p q d e g cs t w) (hm : ∀ m, (e.f m).done.length < 1000000) (l : List Int) (pv : Value) (hpv : IA w pv l) (hpp : l ≠ [] → ∀ k, pv.ownBlock = some k → k ≠ q) :
    Calls Try.prog 30 #[.pointer (some ⟨q, 0, none⟩), pv] w fun r w' => ∃ u, r = .returned u ∧ (∃ us, OC w' w.heap.size u us (crashD e l)) ∧ Two B p q d ⟨e.f, none⟩ g cs t w' ∧ Below B w w' := by
  obtain ⟨ρ1, x1, ρ2, x2, h1, h2, h3, h4, h5, h6, h7, h8, h9⟩ := h
  have h5' : ∀ k, ρ2 k = 0 ∨ ρ1 k = 0 := fun k => (h5 k).symm
  refine (Crash_r w ρ2 B q x2 e h4 h3 l pv hpv hm hpp).mono ?_
  rintro r w' ⟨u, rfl, hu, ρ2', hs, hro, x', hk'⟩
  exact ⟨u, rfl, hu, ⟨ρ1, x1, ρ2', x', h1.later hs.kept.size, h2.step (quietStep h5' hs) (by simp; omega), hro, hk', fun k => (apart h5' hs h1 k).symm, h6, (hs.same g h8.lt).trans h7, h8.heap (free_kept hs h8.lt h7), Nat.le_trans h9 hs.kept.size⟩, hs.below h9 h3 (by decide)⟩
/-- What a crash leaves are files that may be. -/
theorem Two.found (h : Two B p q d e g cs t w) (l : List Int) : newB (crashD d l) = true ∧ ∀ f ∈ crashD d l, f.length ≤ 10000000 := by
  obtain ⟨ρ1, x1, ρ2, x2, h1, h2, h3, h4, h5, h6, h7, h8, h9⟩ := h
  have h0 : ∀ f ∈ crashD d l, f.length ≤ 4194304 := fun f hf => by
    unfold crashD at hf
    simp only [List.mem_cons, List.not_mem_nil, or_false] at hf
    rcases hf with rfl | rfl | rfl
    · exact crashF_len (h2.len 0 (by omega)) (h2.fit 0 (by omega)) _
    · exact crashF_len (h2.len 1 (by omega)) (h2.fit 1 (by omega)) _
    · exact crashF_len (h2.len 2 (by omega)) (h2.fit 2 (by omega)) _
  refine ⟨?_, fun f hf => by have := h0 f hf; omega⟩
  unfold newB
  rw [crashD_len, Bool.and_eq_true, List.all_eq_true]
  exact ⟨rfl, fun f hf => decide_eq_true (h0 f hf)⟩
end
/-- Two new disks, one made behind the other. -/
theorem Two.new {B b1 b2 p q g : Nat} {d e : Dk} {cs : Array Value} {t : TypeId} {w0 w : World} (h1 : NewK b1 p d w0) (hk : Below w0.heap.size w0 w) (h2 : NewR b2 q e w) (hg1 : g < b1) (hg : Blk w g cs t) (hB : B ≤ b1) (h12 : w0.heap.size ≤ b2) : Two B p q d e g cs t w := by
  obtain ⟨ρ1, x1, hr1, hk1⟩ := h1
  obtain ⟨ρ2, x2, hr2, hk2⟩ := h2
  have hb1 : b1 ≤ w0.heap.size := Nat.le_of_lt (Nat.lt_of_le_of_lt (hr1 p (by rw [hk1.ro]; decide)).1 hk1.lt)
  refine ⟨ρ1, x1, ρ2, x2, ?_, (hk1.step (Step.of (S := []) hk) (by simp)).mono hB, fun k e => ⟨by have := (hr2 k e).1; omega, (hr2 k e).2⟩, ?_, fun k => ?_, ?_, ?_, hg, by have := hk.size; omega⟩
  · exact fun k e => ⟨Nat.le_trans hB (hr1 k e).1, Nat.lt_of_lt_of_le (hr1 k e).2 hk.size⟩
  · have hb : B ≤ b2 := by omega
    exact ⟨hk2.blk, hk2.ro, fun n hn => ⟨(hk2.now n hn).br.mono hb, (hk2.now n hn).ro⟩, fun n hn => ⟨(hk2.kept n hn).br.mono hb, (hk2.kept n hn).ro⟩, fun n hn => ⟨ownsRow_mono (hk2.list n hn).row hb, (hk2.list n hn).ro, (hk2.list n hn).tx⟩, hk2.done, hk2.len, hk2.fit, hk2.pw, hk2.fuse0, hk2.fuse1⟩
  · by_cases e : ρ1 k = 0
    · exact .inl e
    · refine .inr (Classical.byContradiction fun e' => ?_)
      have h3 := (hr1 k e).2
      have h4 := (hr2 k e').1
      omega
  · exact Classical.byContradiction fun e => by have := (hr1 g e).1; omega
  · exact Classical.byContradiction fun e => by have := (hr2 g e).1; omega
end Go.Proofs.Ytahmihdahgbhkaa

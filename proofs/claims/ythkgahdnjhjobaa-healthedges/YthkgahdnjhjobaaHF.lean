/-
  What keeps the statements awake (a quarter of the way), walked; an argument's list of pairs of words in memory.
  Conditions: as each theorem states them.
-/
import Derived.Test.YthkgahdnjhjobaaHE
namespace Go.Proofs.Ythkgahdnjhjobaa
open Go.RowKit

/-- How Note ends where all may be. -/
theorem endN_ok {s : Nat} {c : Int} {x u : Nat} (hq : okH s c = true) (hw : okW u = true) : endN s c x u = .returned (.tuple #[hV (nextS s c x u) (nextC c x), .int .i64 0]) := by
  unfold endN
  rw [hq, hw]
  rfl
theorem endN_bad {s : Nat} {c : Int} {x u : Nat} (h : (okH s c && okW u) = false) : endN s c x u = .returned (.tuple #[hV 0 0, .int .i64 1]) := by
  unfold endN
  rw [h]
  rfl
theorem wake_first {n : Nat} (hn : n = 9221120237041090561) : endN n 0 4602678819172646912 4598175219545276416 = .returned (.tuple #[hV 4602678819172646912 1, .int .i64 0]) := by
  rw [endN_ok (by rw [hn]; decide) (by decide), show nextS n 0 4602678819172646912 4598175219545276416 = 4602678819172646912 by rw [hn]; decide]
  rfl
theorem wake_second : endN 4602678819172646912 1 4607182418800017408 4598175219545276416 = .returned (.tuple #[hV 4603804719079489536 2, .int .i64 0]) := by
  rw [endN_ok (by decide) (by decide), show nextS 4602678819172646912 1 4607182418800017408 4598175219545276416 = 4603804719079489536 by decide +kernel]
  rfl

set_option maxHeartbeats 1000000 in
theorem wakes_any (w : World) : Calls Try.prog 18 #[] w fun e w' => e = .returned (.bool true) ∧ Below w.heap.size w w' := by
  obtain ⟨n, hn⟩ : ∃ n, n = 9221120237041090561 := ⟨_, rfl⟩
  have H0 := Lib.hid (fun W => none_any n hn W)
  have H1 := Lib.hid (fun W => note_any n 0 4602678819172646912 4598175219545276416 W (by omega) (by decide) (by decide))
  have H2 := Lib.hid (fun W => note_any 4602678819172646912 1 4607182418800017408 4598175219545276416 W (by decide) (by decide) (by decide))
  rw [wake_first hn] at H1
  rw [wake_second] at H2
  have H3 := Lib.hid (fun W => num_any 0 W)
  have hst := store_float
  have hE : (FloatKind.f64.format.order 4603804719079489536 4603804719079489536 == some .eq) = true := by rw [ord_eq]; decide
  unfold hV at *
  clear hn
  go_enter Try.func18, Try.ntmps18
  go_wp2_with fail
  refine Calls.mono (H0.out _) ?_
  rintro e w1 ⟨rfl, hb1⟩
  go_wp2_with fail
  refine Calls.mono (H1.out _) ?_
  rintro e w2 ⟨rfl, hb2⟩
  have HB2 := Lib.hid (hb1.trans (hb2.mono hb1.size))
  clear hb1 hb2
  go_wp2_with fail
  refine Calls.mono (H2.out _) ?_
  rintro e w3 ⟨rfl, hb3⟩
  have HB3 := Lib.hid ((HB2.out.alloc HB2.out.size _).trans (hb3.mono (by have := HB2.out.size; simp; omega)))
  clear hb3
  go_wp2_with fail
  refine Calls.mono (H3.out _) ?_
  rintro e w' ⟨rfl, he⟩
  have he := he.symm
  subst he
  go_wp2_with fail
  refine Calls.mono (H3.out _) ?_
  rintro e w' ⟨rfl, he⟩
  have he := he.symm
  subst he
  go_wp2_with fail
  go_ret
  exact ⟨rfl, HB3.out.alloc HB3.out.size _⟩

/-- A list of pairs of words in memory, one behind the other. -/
def PsAt (w : World) (v : Value) (l : List (Nat × Nat)) : Prop :=
  ∃ A c, v = .slice A l.length c ∧ l.length ≤ maxLen ∧ (∀ x ∈ l, x.1 < 18446744073709551616 ∧ x.2 < 18446744073709551616) ∧ (l ≠ [] → ∃ b o, A = some ⟨b, o, none⟩ ∧ b < w.heap.size ∧ ∀ i (hi : i < l.length), w.cell? ⟨b, o + i * 2, none⟩ = some (.int .u64 (l[i].1 : Int)) ∧ w.cell? ⟨b, o + i * 2 + 1, none⟩ = some (.int .u64 (l[i].2 : Int)))
end Go.Proofs.Ythkgahdnjhjobaa

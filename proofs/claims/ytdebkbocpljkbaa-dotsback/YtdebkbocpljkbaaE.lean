/-
  Stuff and Take of package dots, and wakes of the statements' text, walked: Stuff answers a text as it is sent, or the error of form; Take answers what a line is; wakes answers true.
  Conditions: the library's variable internal/bytealg.MaxLen holds some number.
-/
import Derived.Test.YtdebkbocpljkbaaD
namespace Go.Proofs.Ytdebkbocpljkbaa
open Go.RowKit

/-- What Stuff answers beside its error. -/
def sentOf : Option (List (List UInt8)) → List UInt8
  | none => []
  | some rows => sentL rows

theorem builder_set {B b k : Nat} {bs : List Value} {w : World} (h : Lib.IsBuilderF 40 5 B b bs w) (hk : ∃ c fz, w.heap[k]? = some (.cells c 26 fz)) (v : Value) : Lib.IsBuilderF 40 5 B b bs (w.setCell ⟨k, 0, none⟩ v) := by
  refine builder_blocks h fun j c t fz ht hj => ?_
  rw [Below.heap_setCell _ _ _ _ (fun e => ?_)]
  · exact hj
  · obtain ⟨c', fz', hk'⟩ := hk
    subst e
    rw [hj] at hk'
    cases hk'
    rcases ht with ht | ht <;> cases ht

set_option maxHeartbeats 1000000 in
theorem stuff_any (s : List UInt8) (m : Int) (w : World) (hm : w.cell? ⟨0, 0, none⟩ = some (.int .i64 m)) (h0 : 0 < w.heap.size) (hs : s.length ≤ maxLen) :
    Calls Try.prog 9 #[.string ⟨s.toArray⟩] w fun e w' => e = .returned (.tuple #[.string ⟨(sentOf (textL s)).toArray⟩, .int .i64 (errOf (textL s).isSome)]) ∧ Below w.heap.size w w' := by
  have hmf : ∀ (fn : Fn) (first cap : Array Value) (w : World), (Instr.makeFunc fn first cap).run Try.prog w = .ok (.func fn first cap) w := fun _ _ _ _ => rfl
  obtain ⟨w2, hw2⟩ : ∃ w2, w2 = (w.alloc (.cells #[.string ⟨s.toArray⟩] 9)).alloc (.cells #[.pointer none, .slice none 0 0] 40) := ⟨_, rfl⟩
  have hsz2 : w2.heap.size = w.heap.size + 2 := by rw [hw2]; simp
  have hb2 : Below w.heap.size w w2 := by rw [hw2]; exact ((Below.refl _ _).alloc (Nat.le_refl _) _).alloc (by simp) _
  have hm2 : w2.cell? ⟨0, 0, none⟩ = some (.int .i64 m) := (hb2.cell (p := ⟨0, 0, none⟩) h0).trans hm
  have hbu2 : Lib.IsBuilderF 40 5 (w.heap.size + 1) (w.heap.size + 1) [] w2 := by
    have := Lib.IsBuilderF.of (Lib.fresh_isBuilder 40 5 (w.alloc (.cells #[.string ⟨s.toArray⟩] 9)))
    rw [hw2]
    simpa using this
  obtain ⟨w3, hw3⟩ : ∃ w3, w3 = w2.alloc (.cells #[.int .i64 0] 26) := ⟨_, rfl⟩
  have hb3 : Below w2.heap.size w2 w3 := by rw [hw3]; exact (Below.refl _ _).alloc (Nat.le_refl _) _
  have hsz3 : w3.heap.size = w.heap.size + 3 := by rw [hw3]; simp [hsz2]
  have hS : Sends w.heap.size w3 [] w3 := by
    refine ⟨builder_below hbu2 hb3, Below.refl _ _, ?_, by omega, by simp [joinL]⟩
    rw [hw3, ← hsz2]
    exact heap_alloc_new _ _
  have hc3 : w3.cell? ⟨w.heap.size, 0, none⟩ = some (.string ⟨s.toArray⟩) := by
    rw [hb3.cell (p := ⟨w.heap.size, 0, none⟩) (by simp only; omega), hw2]
    simp
  have H := Lib.hid (stuff1_any s m w.heap.size w3 ((hb3.cell (p := ⟨0, 0, none⟩) (by simp only; omega)).trans hm2) hs hS hc3)
  have HB2 := Lib.hid hb2
  have HB3 := Lib.hid hb3
  have HW2 := Lib.hid hw2
  have HW3 := Lib.hid hw3
  clear hS hc3 hbu2 hb2 hb3 hw3
  cases hv : textL s with
  | none =>
    rw [hv] at H
    clear hv
    go_enter Try.func9, Try.ntmps9
    go_wp2_with fail
    rw [← hw2]
    clear hw2
    refine (catch_fault 18 _ 1 _ (fun w' => ∃ rows, Sends w.heap.size w3 rows w') (enter18 _) ?_).mono ?_
    · rw [← HW3.out]
      refine H.out.mono ?_
      rintro e w' ⟨rfl, rows, hb⟩
      exact ⟨rfl, ⟨rows, hb⟩, by rw [hsz2]; exact hb.cell⟩
    rintro e w' ⟨rfl, w4, ⟨rows, hb⟩, rfl⟩
    have hsz := hb.size
    have hbb := hb.below
    go_wp2
    go_ret2
    refine ⟨rfl, ((HB2.out.trans (HB3.out.mono (by omega))).trans (hbb.mono (by omega)) |>.alloc (by omega) _).setCell (by simp only; omega) _⟩
  | some rows =>
    rw [hv] at H
    clear hv
    go_enter Try.func9, Try.ntmps9
    go_wp2_with fail
    rw [← hw2]
    clear hw2
    refine (catch_ret 18 _ _ (fun w' => Sends w.heap.size w3 rows w') (enter18 _) ?_).mono ?_
    · rw [← HW3.out]
      refine H.out.mono ?_
      rintro e w' ⟨rfl, hb⟩
      exact ⟨rfl, hb, by rw [hsz2]; exact hb.cell⟩
    rintro e w' ⟨rfl, w4, hb, rfl⟩
    have hsz := hb.size
    have hbb := hb.below
    have hlen := joinL_len rows
    have hsh := hb.short
    have hbu := Lib.hid (builder_set hb.built ⟨_, _, hb.cell⟩ (.int .i64 0))
    have hb5 : Below (w.heap.size + 1) w4 (w4.setCell ⟨w.heap.size + 2, 0, none⟩ (.int .i64 0)) := (Below.refl _ _).setCell (by simp only; omega) _
    have hs5 := hb5.size
    rw [hsz2]
    clear hb
    generalize w4.setCell ⟨w.heap.size + 2, 0, none⟩ (.int .i64 0) = w5 at *
    go_wp2_with fail
    refine (writeL (w.heap.size + 1) (w.heap.size + 1) (stuffL rows) [46, 13, 10] w5 hbu.out (by simp; omega) (by omega)).mono ?_
    rintro e w6 ⟨rfl, hi6, hb6, _⟩
    have HI6 := Lib.hid hi6
    have hs6 := hb6.size
    clear hi6
    go_wp2_with fail
    refine (Try.Builder_String_any_k (w.heap.size + 1) (w.heap.size + 1) (stuffL rows ++ [46, 13, 10]) w6 HI6.out (by omega)).mono ?_
    rintro e w7 ⟨rfl, _, hb7, _⟩
    go_wp2_with fail
    go_ret2
    refine ⟨rfl, ?_⟩
    exact (HB2.out.trans (HB3.out.mono (by omega))).trans ((((hbb.trans hb5).trans hb6).trans hb7).mono (by omega))

theorem trimDot (ln : List UInt8) (w : World) : Calls Try.prog 26 #[.string ⟨ln.toArray⟩, .string ⟨#[46]⟩] w fun e w' => e = .returned (.string ⟨(Lib.trimPrefix ln [46]).toArray⟩) ∧ w' = w :=
  Try.strings_TrimPrefix ⟨ln.toArray⟩ ⟨#[46]⟩ w

theorem take_any (ln : List UInt8) (w : World) :
    Calls Try.prog 13 #[.string ⟨ln.toArray⟩] w fun e w' => e = .returned (.tuple #[.string ⟨(takeL ln).1.toArray⟩, .bool (takeL ln).2]) ∧ w = w' := by
  by_cases h : ln = [46]
  · subst h
    go_enter Try.func13, Try.ntmps13
    go_wp2_with fail
    go_ret2
    exact ⟨rfl, rfl⟩
  · have hb : (ln == [46]) = false := beq_eq_false_iff_ne.2 h
    have ht : takeL ln = (Lib.trimPrefix ln [46], false) := if_neg h
    rw [ht]
    clear ht h
    go_enter Try.func13, Try.ntmps13
    go_wp2_with fail
    refine (trimDot ln w).mono ?_
    rintro e w1 ⟨rfl, rfl⟩
    go_wp2_with fail
    go_ret2
    exact ⟨rfl, rfl⟩

theorem wakes_any (m : Int) (w : World) (hm : w.cell? ⟨0, 0, none⟩ = some (.int .i64 m)) (h0 : 0 < w.heap.size) :
    Calls Try.prog 12 #[] w fun e w' => e = .returned (.bool true) ∧ Below w.heap.size w w' := by
  go_enter Try.func12, Try.ntmps12
  go_wp2_with fail
  refine (stuff_any [] m w hm h0 (by simp)).mono ?_
  rintro e w1 ⟨rfl, hb⟩
  rw [show textL [] = some [] from rfl]
  rw [show sentOf (some []) = [46, 13, 10] from rfl, show errOf (some ([] : List (List UInt8))).isSome = 0 from rfl]
  go_wp2_with fail
  refine (num_any 0 w1).mono ?_
  rintro e w2 ⟨rfl, rfl⟩
  go_wp2_with fail
  go_ret
  exact ⟨rfl, hb⟩
end Go.Proofs.Ytdebkbocpljkbaa

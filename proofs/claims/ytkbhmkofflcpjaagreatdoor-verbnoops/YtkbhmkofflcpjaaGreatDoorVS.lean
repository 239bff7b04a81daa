/-
  isDomain, validFrom and valid of package verb, walked: which commands may be.
  Conditions: as each theorem states them.
-/
import Derived.Test.YtkbhmkofflcpjaaGreatDoorVP
namespace Go.Proofs.YtkbhmkofflcpjaaGreatDoor
open Go.RowKit

theorem dom_same (s : List UInt8) : domL s = (domL (lowL s) && lowL s == s) := by
  cases h : domL s with
  | true =>
    have := low_dom h
    rw [this, h]
    simp
  | false =>
    cases h2 : (domL (lowL s) && lowL s == s) with
    | false => rfl
    | true =>
      simp only [Bool.and_eq_true, beq_iff_eq] at h2
      rw [h2.2, h] at h2
      cases h2.1

set_option maxHeartbeats 1000000 in
theorem visDomain_any (s : List UInt8) (w : World) (hs : s.length ≤ 100000) :
    Calls Tryz.prog 47 #[.string ⟨s.toArray⟩] w fun e w' => e = .returned (.bool (domL s)) ∧ Below w.heap.size w w' := by
  have HD := Lib.hid (domain_any s w hs)
  have HS := Lib.hid (dom_same s)
  cases h : domL (lowL s) with
  | true =>
    have HD2 := Lib.hid (show Calls Tryz.prog 70 #[.string ⟨s.toArray⟩] w fun e w' => e = .returned (.tuple #[.string ⟨(lowL s).toArray⟩, .int .i64 0]) ∧ Below w.heap.size w w' by
      have := HD.out
      rwa [show domT s = lowL s by simp [domT, h], show domN s = 0 by simp [domN, h]] at this)
    have HE := Lib.hid (show domL s = (lowL s == s) by rw [HS.out, h, Bool.true_and])
    clear h HD HS
    go_enter Tryz.func47, Tryz.ntmps47
    go_wp2_with fail
    refine Calls.mono HD2.out ?_
    rintro e w1 ⟨rfl, hb⟩
    have HB := Lib.hid hb
    clear hb
    go_wp2_with fail
    go_ret
    exact ⟨ret_bool HE.out.symm, HB.out⟩
  | false =>
    have HD2 := Lib.hid (show Calls Tryz.prog 70 #[.string ⟨s.toArray⟩] w fun e w' => e = .returned (.tuple #[.string ⟨#[]⟩, .int .i64 8]) ∧ Below w.heap.size w w' by
      have := HD.out
      rwa [show domT s = [] by simp [domT, h], show domN s = 8 by simp [domN, h]] at this)
    have HE := Lib.hid (show domL s = false by rw [HS.out, h, Bool.false_and])
    clear h HD HS
    go_enter Tryz.func47, Tryz.ntmps47
    go_wp2_with fail
    refine Calls.mono HD2.out ?_
    rintro e w1 ⟨rfl, hb⟩
    have HB := Lib.hid hb
    clear hb
    go_wp2_with fail
    go_ret
    exact ⟨ret_bool HE.out.symm, HB.out⟩

/-- Are two commands the same, field by field? -/
def eqVb (a b : Vb) : Bool := a.kind == b.kind && (a.word == b.word && (a.null == b.null && ((a.l == b.l && a.d == b.d) && a.size == b.size)))
theorem eqVb_iff (a b : Vb) : eqVb a b = true ↔ a = b := by
  obtain ⟨k, wd, x, l, d, z⟩ := a
  obtain ⟨k', wd', x', l', d', z'⟩ := b
  simp only [eqVb, Bool.and_eq_true, beq_iff_eq, Vb.mk.injEq]
  constructor
  · rintro ⟨h1, h2, h3, ⟨h4, h5⟩, h6⟩
    exact ⟨h1, h2, h3, h4, h5, h6⟩
  · rintro ⟨h1, h2, h3, h4, h5, h6⟩
    exact ⟨h1, h2, h3, ⟨h4, h5⟩, h6⟩

theorem list_bytes (a : List UInt8) : (⟨a.toArray⟩ : ByteArray).toList = a := by rw [ByteArray.toList_eq]

theorem eq_box_in (dp : Nat) (l d l' d' : List UInt8) (w : World) : (Op.equalIn (dp + 2) 25 (.agg #[.string ⟨l.toArray⟩, .string ⟨d.toArray⟩]) (.agg #[.string ⟨l'.toArray⟩, .string ⟨d'.toArray⟩])).run Tryz.prog w = .ok (l == l' && d == d') w := by
  cases h1 : (l == l') <;> cases h2 : (d == d') <;> simp [go_sem, h1, h2]

theorem eq_verb (a b : Vb) (w : World) : (binOp .eql 27 (.agg #[.int .i64 a.kind, .string ⟨a.word.toArray⟩, .bool a.null, .string ⟨a.l.toArray⟩, .string ⟨a.d.toArray⟩, .int .i64 a.size]) (.agg #[.int .i64 b.kind, .string ⟨b.word.toArray⟩, .bool b.null, .string ⟨b.l.toArray⟩, .string ⟨b.d.toArray⟩, .int .i64 b.size])).run Tryz.prog w = .ok (.bool (eqVb a b)) w := by
  obtain ⟨k, wd, x, l, d, z⟩ := a
  obtain ⟨k', wd', x', l', d', z'⟩ := b
  simp only [eqVb]
  cases h1 : (k == k') <;> cases h2 : (wd == wd') <;> cases h3 : (x == x') <;> cases h4 : (l == l') <;> cases h5 : (d == d')
  all_goals simp only [beq_eq_false_iff_ne, beq_iff_eq, ne_eq] at h1 h2 h3 h4 h5
  all_goals simp [go_sem, h1, h2, h3, h4, h5]
  all_goals (by_cases h6 : z = z' <;> simp [h6])
end Go.Proofs.YtkbhmkofflcpjaaGreatDoor

namespace Go.Proofs.YtkbhmkofflcpjaaGreatDoor
open Go.RowKit

def fromB (v : Vb) : Bool := (v.null && v.l.isEmpty && v.d.isEmpty) || (!v.null && boxL v.l v.d)
/-- The fields of a command are short. -/
def Short (n : Nat) (v : Vb) : Prop := v.word.length ≤ n ∧ v.l.length ≤ n ∧ v.d.length ≤ n

theorem empty_eq (l : List UInt8) : (l == []) = l.isEmpty := by cases l <;> rfl
theorem chk_eq (b : Bool) : (chk b == 0) = b := by cases b <;> rfl

set_option maxHeartbeats 1000000 in
theorem vvalidFrom_any (v : Vb) (w : World) (hv : Short 100000 v) :
    Calls Tryz.prog 48 #[.agg #[.int .i64 v.kind, .string ⟨v.word.toArray⟩, .bool v.null, .string ⟨v.l.toArray⟩, .string ⟨v.d.toArray⟩, .int .i64 v.size]] w fun e w' => e = .returned (.bool (fromB v)) ∧ Below w.heap.size w w' := by
  have HA := Lib.hid ((Below.refl _ w).alloc (Nat.le_refl _) (.cells #[.int .i64 v.kind, .string ⟨v.word.toArray⟩, .bool v.null, .string ⟨v.l.toArray⟩, .string ⟨v.d.toArray⟩, .int .i64 v.size] 27))
  obtain ⟨k, wd, x, l, d, z⟩ := v
  obtain ⟨_, hl, hd⟩ := hv
  simp only at hl hd HA ⊢
  have HC := Lib.hid (fun W => check_any l d W hl hd)
  cases x with
  | true =>
    have HE := Lib.hid (show (l == [] && d == []) = fromB ⟨k, wd, true, l, d, z⟩ by simp [fromB])
    have heq : ∀ w, (binOp .eql 25 (.agg #[.string ⟨l.toArray⟩, .string ⟨d.toArray⟩]) (.agg #[.string ⟨#[]⟩, .string ⟨#[]⟩])).run Tryz.prog w = .ok (.bool (l == [] && d == [])) w := fun w => by
      rw [run_eql_struct, show (10000 : Nat) = 9998 + 2 from rfl, eq_box_in 9998 l d [] [] w]
      rfl
    generalize (l == [] && d == []) = q at *
    generalize fromB ⟨k, wd, true, l, d, z⟩ = r at *
    go_enter Tryz.func48, Tryz.ntmps48
    go_wp2_with fail
    go_ret
    exact ⟨ret_bool HE.out, HA.out⟩
  | false =>
    have HE := Lib.hid (show (chk (boxL l d) == 0) = fromB ⟨k, wd, false, l, d, z⟩ by simp [fromB, chk_eq])
    generalize fromB ⟨k, wd, false, l, d, z⟩ = r at *
    generalize chk (boxL l d) = c at *
    go_enter Tryz.func48, Tryz.ntmps48
    go_wp2_with fail
    refine Calls.mono (HC.out _) ?_
    rintro e w1 ⟨rfl, hb⟩
    have HB := Lib.hid (HA.out.trans (hb.mono HA.out.size))
    clear hb
    go_wp2_with fail
    go_ret
    exact ⟨ret_bool HE.out, HB.out⟩
end Go.Proofs.YtkbhmkofflcpjaaGreatDoor

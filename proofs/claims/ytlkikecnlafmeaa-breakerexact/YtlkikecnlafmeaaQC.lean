/-
  Whether a try may begin, and what a breaker is then: package breaker's allows, May and Begin, the page's May and Begin, walked.
  Conditions: as each theorem states them: a word is below 2 to the 64.
-/
import Derived.Test.YtlkikecnlafmeaaQB
namespace Go.Proofs.Ytlkikecnlafmeaa
open Go.RowKit

/-- May a try begin? -/
def mayB (b : BR) (now : Int) : Bool := b.t == 0 || (b.t == 1 && decide (b.u ≤ now))
/-- What a breaker is when one begins. -/
def beginB (b : BR) : BR := if b.t = 1 then ⟨2, b.f, 0, b.s, b.c⟩ else b
/-- May it be asked? -/
def askB (b : BR) (now : Int) : Bool := okB b && inB now 0 1099511627776
def outM (b : BR) (now : Int) : Value := if askB b now then .tuple #[.bool (mayB b now), .int .i64 0] else .tuple #[.bool false, .int .i64 1]
def outB (r : Except Int BR) : Value := match r with | .ok x => .tuple #[bV x, .int .i64 0] | .error k => .tuple #[bV zB, .int .i64 k]
def beginR (b : BR) (now : Int) : Except Int BR := if askB b now then (if mayB b now then .ok (beginB b) else .error 9) else .error 1

theorem allows_any (b : BR) (now : Int) (w : World) : Calls Try.prog 36 #[bV b, .int .i64 now] w fun e w' => e = .returned (.bool (mayB b now)) ∧ Below w.heap.size w w' := by
  have HA := Lib.hid ((Below.refl _ w).alloc (Nat.le_refl _) (.cells #[.int .i64 b.t, .int .i64 b.f, .int .i64 b.u, .float .f64 b.s, .int .i64 b.c] 26))
  have HE := Lib.hid (show mayB b now = (b.t == 0 || (b.t == 1 && decide (b.u ≤ now))) from rfl)
  unfold bV
  cases h0 : (b.t == 0) with
  | true =>
    rw [h0] at HE
    go_enter Try.func36, Try.ntmps36
    go_wp2_with fail
    go_ret
    exact ⟨by first | rfl | (rw [HE.out]; rfl), HA.out⟩
  | false =>
    rw [h0] at HE
    cases h1 : (b.t == 1) with
    | false =>
      rw [h1] at HE
      go_enter Try.func36, Try.ntmps36
      go_wp2_with fail
      go_ret
      exact ⟨by first | rfl | (rw [HE.out]; rfl), HA.out⟩
    | true =>
      rw [h1] at HE
      by_cases h2 : b.u ≤ now
      · rw [decide_eq_true h2] at HE
        go_enter Try.func36, Try.ntmps36
        go_wp2_with fail
        go_ret
        exact ⟨by first | rfl | (rw [HE.out]; rfl), HA.out⟩
      · have h2d : decide (b.u ≤ now) = false := decide_eq_false h2
        rw [h2d] at HE
        go_enter Try.func36, Try.ntmps36
        go_wp2_with fail
        go_ret
        exact ⟨by first | rfl | (rw [HE.out]; rfl), HA.out⟩
theorem rMay_any (b : BR) (now : Int) (w : World) : Calls Try.prog 28 #[bV b, .int .i64 now] w fun e w' => e = .returned (.bool (mayB b now)) ∧ Below w.heap.size w w' := by
  have HA := Lib.hid ((Below.refl _ w).alloc (Nat.le_refl _) (.cells #[.int .i64 b.t, .int .i64 b.f, .int .i64 b.u, .float .f64 b.s, .int .i64 b.c] 26))
  have HE := Lib.hid (show mayB b now = (b.t == 0 || (b.t == 1 && decide (b.u ≤ now))) from rfl)
  unfold bV
  cases h0 : (b.t == 0) with
  | true =>
    rw [h0] at HE
    go_enter Try.func28, Try.ntmps28
    go_wp2_with fail
    go_ret
    exact ⟨by first | rfl | (rw [HE.out]; rfl), HA.out⟩
  | false =>
    rw [h0] at HE
    cases h1 : (b.t == 1) with
    | false =>
      rw [h1] at HE
      go_enter Try.func28, Try.ntmps28
      go_wp2_with fail
      go_ret
      exact ⟨by first | rfl | (rw [HE.out]; rfl), HA.out⟩
    | true =>
      rw [h1] at HE
      by_cases h2 : b.u ≤ now
      · rw [decide_eq_true h2] at HE
        go_enter Try.func28, Try.ntmps28
        go_wp2_with fail
        go_ret
        exact ⟨by first | rfl | (rw [HE.out]; rfl), HA.out⟩
      · have h2d : decide (b.u ≤ now) = false := decide_eq_false h2
        rw [h2d] at HE
        go_enter Try.func28, Try.ntmps28
        go_wp2_with fail
        go_ret
        exact ⟨by first | rfl | (rw [HE.out]; rfl), HA.out⟩
theorem bmay_any (b : BR) (now : Int) (w : World) (hs : b.s < 18446744073709551616) : Calls Try.prog 22 #[bV b, .int .i64 now] w fun e w' => e = .returned (outM b now) ∧ Below w.heap.size w w' := by
  have HA := Lib.hid ((Below.refl _ w).alloc (Nat.le_refl _) (.cells #[.int .i64 b.t, .int .i64 b.f, .int .i64 b.u, .float .f64 b.s, .int .i64 b.c] 26))
  have HX := Lib.hid (BAt.new w b)
  have HV := Lib.hid (fun W => bvalid_any b W hs)
  have HT := Lib.hid (fun W => validTick_any now W)
  have HL := Lib.hid (fun W => allows_any b now W)
  have HE := Lib.hid (show outM b now = if okB b && inB now 0 1099511627776 then .tuple #[.bool (mayB b now), .int .i64 0] else .tuple #[.bool false, .int .i64 1] from rfl)
  generalize okB b = q1 at *
  generalize inB now 0 1099511627776 = q2 at *
  generalize mayB b now = q3 at *
  unfold bV at *
  clear hs
  go_enter Try.func22, Try.ntmps22
  go_wp2_with fail
  refine Calls.mono (HV.out _) ?_
  rintro e w1 ⟨rfl, hb⟩
  have HB := Lib.hid (HA.out.trans (hb.mono (by simp)))
  have HX1 := Lib.hid (HX.out.later hb)
  have m0 := HX1.out.c0
  have m1 := HX1.out.c1
  have m2 := HX1.out.c2
  have m3 := HX1.out.c3
  have m4 := HX1.out.c4
  clear hb
  cases q1 with
  | false =>
    go_wp2_with fail
    go_ret2
    exact ⟨by rw [HE.out]; rfl, HB.out⟩
  | true =>
    cases q2 with
    | false =>
      go_wp2_with fail
      refine Calls.mono (HT.out _) ?_
      rintro e w' ⟨rfl, he⟩
      have he := he.symm
      subst he
      go_wp2_with fail
      go_ret2
      exact ⟨by rw [HE.out]; rfl, HB.out⟩
    | true =>
      go_wp2_with fail
      refine Calls.mono (HT.out _) ?_
      rintro e w' ⟨rfl, he⟩
      have he := he.symm
      subst he
      go_wp2_with fail
      refine Calls.mono (HL.out _) ?_
      rintro e w2 ⟨rfl, hb2⟩
      have HB2 := Lib.hid (HB.out.trans (hb2.mono HB.out.size))
      clear hb2
      go_wp2_with fail
      go_ret2
      exact ⟨by rw [HE.out]; rfl, HB2.out⟩
theorem rBegin_any (b : BR) (w : World) : Calls Try.prog 29 #[bV b] w fun e w' => e = .returned (bV (beginB b)) ∧ Below w.heap.size w w' := by
  have hst := store_float
  obtain ⟨z, hz⟩ : ∃ z, Ending.returned (bV (beginB b)) = z := ⟨_, rfl⟩
  rw [hz]
  cases h1 : (b.t == 1) with
  | true =>
    have HE := Lib.hid (show Ending.returned (bV ⟨2, b.f, 0, b.s, b.c⟩) = z by rw [← hz]; unfold beginB; rw [if_pos (beq_iff_eq.1 h1)])
    clear hz
    unfold bV
    go_enter Try.func29, Try.ntmps29
    go_wp2_with fail
    exact bodyPost_ret (v := bV ⟨2, b.f, 0, b.s, b.c⟩) (by simp [results, Try.results29, go_sem, bV]) rfl ⟨HE.out, ((Below.refl _ w).alloc (Nat.le_refl _) _).alloc (by simp) _⟩
  | false =>
    have HE := Lib.hid (show Ending.returned (bV b) = z by rw [← hz]; unfold beginB; rw [if_neg (beq_eq_false_iff_ne.1 h1)])
    clear hz
    unfold bV
    go_enter Try.func29, Try.ntmps29
    go_wp2_with fail
    exact bodyPost_ret (v := bV b) (by simp [results, Try.results29, go_sem, bV]) rfl ⟨HE.out, ((Below.refl _ w).alloc (Nat.le_refl _) _).alloc (by simp) _⟩
end Go.Proofs.Ytlkikecnlafmeaa

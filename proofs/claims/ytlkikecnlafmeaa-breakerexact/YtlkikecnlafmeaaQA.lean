/-
  A breaker of whole numbers and a score by its word: whether it may be, its value, the block that holds it; the small functions of package breaker, of the page and of the statements' own text, walked.
  Conditions: as each theorem states them: a word is below 2 to the 64.
-/
import Derived.Test.YtlkikecnlafmeaaHE
namespace Go.Proofs.Ytlkikecnlafmeaa
open Go.RowKit

/-- A breaker: its state, its failures, its tick, its health's score by its word, its health's count. -/
structure BR where
  t : Int
  f : Int
  u : Int
  s : Nat
  c : Int
/-- Its value. -/
def bV (b : BR) : Value := .agg #[.int .i64 b.t, .int .i64 b.f, .int .i64 b.u, .float .f64 b.s, .int .i64 b.c]
def inB (x lo hi : Int) : Bool := decide (lo ≤ x) && decide (x ≤ hi)
theorem inB_iff {x lo hi : Int} : inB x lo hi = true ↔ lo ≤ x ∧ x ≤ hi := by
  unfold inB
  rw [Bool.and_eq_true, decide_eq_true_eq, decide_eq_true_eq]
theorem inB_not {x lo hi : Int} : inB x lo hi = false ↔ ¬ (lo ≤ x ∧ x ≤ hi) := by
  rw [← inB_iff]
  cases inB x lo hi <;> simp
/-- May it be? -/
def okB (b : BR) : Bool := inB b.t 0 2 && inB b.f 0 1048576 && inB b.u 0 2199023255552 && (b.u == 0 || b.t == 1) && okH b.s b.c
theorem okB_iff {b : BR} : okB b = true ↔ (0 ≤ b.t ∧ b.t ≤ 2) ∧ (0 ≤ b.f ∧ b.f ≤ 1048576) ∧ (0 ≤ b.u ∧ b.u ≤ 2199023255552) ∧ (b.u = 0 ∨ b.t = 1) ∧ okH b.s b.c = true := by
  unfold okB
  simp only [Bool.and_eq_true, inB_iff, and_assoc, Bool.or_eq_true, beq_iff_eq]
theorem wrap_id {x : Int} (h1 : -9223372036854775808 ≤ x) (h2 : x < 9223372036854775808) : IntKind.i64.wrap x = x := by
  have : IntKind.i64.wrap x = (x + 9223372036854775808) % 18446744073709551616 - 9223372036854775808 := by
    simp [IntKind.wrap, IntKind.bits, IntKind.signed]
    split <;> omega
  omega
/-- A breaker in a block. -/
def BAt (w : World) (k : Nat) (b : BR) : Prop := w.heap[k]? = some (.cells #[.int .i64 b.t, .int .i64 b.f, .int .i64 b.u, .float .f64 b.s, .int .i64 b.c] 26 (0, 0))
section
variable {w w' : World} {k : Nat} {b : BR}
theorem BAt.lt (h : BAt w k b) : k < w.heap.size := (Array.getElem?_eq_some_iff.1 h).1
theorem BAt.c0 (h : BAt w k b) : w.cell? ⟨k, 0, none⟩ = some (.int .i64 b.t) := by
  have h' : w.heap[k]? = some (.cells #[.int .i64 b.t, .int .i64 b.f, .int .i64 b.u, .float .f64 b.s, .int .i64 b.c] 26 (0, 0)) := h
  simp [World.cell?, h']
theorem BAt.c1 (h : BAt w k b) : w.cell? ⟨k, 1, none⟩ = some (.int .i64 b.f) := by
  have h' : w.heap[k]? = some (.cells #[.int .i64 b.t, .int .i64 b.f, .int .i64 b.u, .float .f64 b.s, .int .i64 b.c] 26 (0, 0)) := h
  simp [World.cell?, h']
theorem BAt.c2 (h : BAt w k b) : w.cell? ⟨k, 2, none⟩ = some (.int .i64 b.u) := by
  have h' : w.heap[k]? = some (.cells #[.int .i64 b.t, .int .i64 b.f, .int .i64 b.u, .float .f64 b.s, .int .i64 b.c] 26 (0, 0)) := h
  simp [World.cell?, h']
theorem BAt.c3 (h : BAt w k b) : w.cell? ⟨k, 3, none⟩ = some (.float .f64 b.s) := by
  have h' : w.heap[k]? = some (.cells #[.int .i64 b.t, .int .i64 b.f, .int .i64 b.u, .float .f64 b.s, .int .i64 b.c] 26 (0, 0)) := h
  simp [World.cell?, h']
theorem BAt.c4 (h : BAt w k b) : w.cell? ⟨k, 4, none⟩ = some (.int .i64 b.c) := by
  have h' : w.heap[k]? = some (.cells #[.int .i64 b.t, .int .i64 b.f, .int .i64 b.u, .float .f64 b.s, .int .i64 b.c] 26 (0, 0)) := h
  simp [World.cell?, h']
theorem BAt.fz (h : BAt w k b) (j : Nat) : w.frozen? ⟨k, j, none⟩ = false := by
  have h' : w.heap[k]? = some (.cells #[.int .i64 b.t, .int .i64 b.f, .int .i64 b.u, .float .f64 b.s, .int .i64 b.c] 26 (0, 0)) := h
  simp [World.frozen?, h']
theorem BAt.later (h : BAt w k b) (hb : Below w.heap.size w w') : BAt w' k b := (hb.block k h.lt).trans h
theorem BAt.alloc (h : BAt w k b) (o : Obj) : BAt (w.alloc o) k b := (Below.heap_alloc w o k h.lt).trans h
theorem BAt.other (h : BAt w k b) {p : Addr} (hp : k ≠ p.block) (v : Value) : BAt (w.setCell p v) k b := (Below.heap_setCell w p v k hp).trans h
theorem BAt.drew (h : BAt w k b) : BAt w.drew k b := h
theorem BAt.set0 (h : BAt w k b) (x : Int) : BAt (w.setCell ⟨k, 0, none⟩ (.int .i64 x)) k ⟨x, b.f, b.u, b.s, b.c⟩ := by
  have h' : w.heap[k]? = some (.cells #[.int .i64 b.t, .int .i64 b.f, .int .i64 b.u, .float .f64 b.s, .int .i64 b.c] 26 (0, 0)) := h
  show (w.setCell ⟨k, 0, none⟩ _).heap[k]? = _
  simp only [World.setCell, Array.getElem?_modify, if_true, h']
  rfl
theorem BAt.set1 (h : BAt w k b) (x : Int) : BAt (w.setCell ⟨k, 1, none⟩ (.int .i64 x)) k ⟨b.t, x, b.u, b.s, b.c⟩ := by
  have h' : w.heap[k]? = some (.cells #[.int .i64 b.t, .int .i64 b.f, .int .i64 b.u, .float .f64 b.s, .int .i64 b.c] 26 (0, 0)) := h
  show (w.setCell ⟨k, 1, none⟩ _).heap[k]? = _
  simp only [World.setCell, Array.getElem?_modify, if_true, h']
  rfl
theorem BAt.set2 (h : BAt w k b) (x : Int) : BAt (w.setCell ⟨k, 2, none⟩ (.int .i64 x)) k ⟨b.t, b.f, x, b.s, b.c⟩ := by
  have h' : w.heap[k]? = some (.cells #[.int .i64 b.t, .int .i64 b.f, .int .i64 b.u, .float .f64 b.s, .int .i64 b.c] 26 (0, 0)) := h
  show (w.setCell ⟨k, 2, none⟩ _).heap[k]? = _
  simp only [World.setCell, Array.getElem?_modify, if_true, h']
  rfl
theorem BAt.set3 (h : BAt w k b) (x : Nat) : BAt (w.setCell ⟨k, 3, none⟩ (.float .f64 x)) k ⟨b.t, b.f, b.u, x, b.c⟩ := by
  have h' : w.heap[k]? = some (.cells #[.int .i64 b.t, .int .i64 b.f, .int .i64 b.u, .float .f64 b.s, .int .i64 b.c] 26 (0, 0)) := h
  show (w.setCell ⟨k, 3, none⟩ _).heap[k]? = _
  simp only [World.setCell, Array.getElem?_modify, if_true, h']
  rfl
theorem BAt.set4 (h : BAt w k b) (x : Int) : BAt (w.setCell ⟨k, 4, none⟩ (.int .i64 x)) k ⟨b.t, b.f, b.u, b.s, x⟩ := by
  have h' : w.heap[k]? = some (.cells #[.int .i64 b.t, .int .i64 b.f, .int .i64 b.u, .float .f64 b.s, .int .i64 b.c] 26 (0, 0)) := h
  show (w.setCell ⟨k, 4, none⟩ _).heap[k]? = _
  simp only [World.setCell, Array.getElem?_modify, if_true, h']
  rfl
theorem BAt.set5 (h : BAt w k b) (t f u : Int) (s : Nat) (c : Int) : BAt (((((w.setCell ⟨k, 0, none⟩ (.int .i64 t)).setCell ⟨k, 1, none⟩ (.int .i64 f)).setCell ⟨k, 2, none⟩ (.int .i64 u)).setCell ⟨k, 3, none⟩ (.float .f64 s)).setCell ⟨k, 4, none⟩ (.int .i64 c)) k ⟨t, f, u, s, c⟩ :=
  ((((h.set0 t).set1 f).set2 u).set3 s).set4 c
theorem below_set5 {B : Nat} (h : Below B w w') (hk : B ≤ k) (t f u : Int) (s : Nat) (c : Int) : Below B w (((((w'.setCell ⟨k, 0, none⟩ (.int .i64 t)).setCell ⟨k, 1, none⟩ (.int .i64 f)).setCell ⟨k, 2, none⟩ (.int .i64 u)).setCell ⟨k, 3, none⟩ (.float .f64 s)).setCell ⟨k, 4, none⟩ (.int .i64 c)) :=
  ((((h.setCell (p := ⟨k, 0, none⟩) hk _).setCell (p := ⟨k, 1, none⟩) hk _).setCell (p := ⟨k, 2, none⟩) hk _).setCell (p := ⟨k, 3, none⟩) hk _).setCell (p := ⟨k, 4, none⟩) hk _
theorem BAt.other5 (h : BAt w k b) {m : Nat} (hp : k ≠ m) (t f u : Int) (s : Nat) (c : Int) : BAt (((((w.setCell ⟨m, 0, none⟩ (.int .i64 t)).setCell ⟨m, 1, none⟩ (.int .i64 f)).setCell ⟨m, 2, none⟩ (.int .i64 u)).setCell ⟨m, 3, none⟩ (.float .f64 s)).setCell ⟨m, 4, none⟩ (.int .i64 c)) k b :=
  ((((h.other (p := ⟨m, 0, none⟩) hp _).other (p := ⟨m, 1, none⟩) hp _).other (p := ⟨m, 2, none⟩) hp _).other (p := ⟨m, 3, none⟩) hp _).other (p := ⟨m, 4, none⟩) hp _
end
theorem BAt.new (w : World) (b : BR) : BAt (w.alloc (.cells #[.int .i64 b.t, .int .i64 b.f, .int .i64 b.u, .float .f64 b.s, .int .i64 b.c] 26)) w.heap.size b := heap_alloc_new w _
theorem BAt.new1 (w : World) (o : Obj) (b : BR) : BAt ((w.alloc o).alloc (.cells #[.int .i64 b.t, .int .i64 b.f, .int .i64 b.u, .float .f64 b.s, .int .i64 b.c] 26)) (w.heap.size + 1) b := by
  have := BAt.new (w.alloc o) b
  rwa [show (w.alloc o).heap.size = w.heap.size + 1 by simp] at this
theorem BAt.new2 (w : World) (o o2 : Obj) (b : BR) : BAt (((w.alloc o).alloc o2).alloc (.cells #[.int .i64 b.t, .int .i64 b.f, .int .i64 b.u, .float .f64 b.s, .int .i64 b.c] 26)) (w.heap.size + 1 + 1) b := by
  have := BAt.new1 (w.alloc o) o2 b
  rwa [show (w.alloc o).heap.size = w.heap.size + 1 by simp] at this
/-- The breaker of nothing but zeros. -/
def zB : BR := ⟨0, 0, 0, 0, 0⟩

/-- A number brought from 0 below another one. -/
def modI (i n : Int) : Int := i % 18446744073709551616 % n
theorem modI_in {i n : Int} (h : 0 < n) : 0 ≤ modI i n ∧ modI i n < n := by
  unfold modI
  exact ⟨Int.emod_nonneg _ (by omega), Int.emod_lt_of_pos _ h⟩
theorem lWithin_any (i n : Int) (w : World) (h1 : 0 < n) (h2 : n < 9223372036854775808) : Calls Try.prog 20 #[.int .i64 i, .int .i64 n] w fun e w' => e = .returned (.int .i64 (modI i n)) ∧ w' = w := by
  obtain ⟨m1, m2⟩ := modI_in (i := i) h1
  have hw : (IntKind.u64.wrap i).tmod n = modI i n := by
    have : IntKind.u64.wrap i = i % 18446744073709551616 := by simp [IntKind.wrap, IntKind.bits, IntKind.signed]
    rw [this, Int.tmod_eq_emod_of_nonneg (Int.emod_nonneg _ (by decide))]
    rfl
  have hn0 : n ≠ 0 := by omega
  generalize modI i n = m at *
  go_enter Try.func20, Try.ntmps20
  go_wp2_with fail
  go_ret
  exact ⟨rfl, rfl⟩
theorem within_any (x lo hi : Int) (w : World) : Calls Try.prog 41 #[.int .i64 x, .int .i64 lo, .int .i64 hi] w fun e w' => e = .returned (.bool (inB x lo hi)) ∧ w' = w := by
  by_cases h1 : lo ≤ x
  · by_cases h2 : x ≤ hi
    · have HE := Lib.hid (inB_iff.2 ⟨h1, h2⟩)
      go_enter Try.func41, Try.ntmps41
      go_wp2_with fail
      go_ret
      exact ⟨by first | rfl | (rw [HE.out]; rfl), rfl⟩
    · have h2d : decide (x ≤ hi) = false := decide_eq_false h2
      have HE := Lib.hid (inB_not.2 (fun h => h2 h.2 : ¬ (lo ≤ x ∧ x ≤ hi)))
      go_enter Try.func41, Try.ntmps41
      go_wp2_with fail
      go_ret
      exact ⟨by first | rfl | (rw [HE.out]; rfl), rfl⟩
  · have h1d : decide (lo ≤ x) = false := decide_eq_false h1
    have HE := Lib.hid (inB_not.2 (fun h => h1 h.1 : ¬ (lo ≤ x ∧ x ≤ hi)))
    go_enter Try.func41, Try.ntmps41
    go_wp2_with fail
    go_ret
    exact ⟨by first | rfl | (rw [HE.out]; rfl), rfl⟩
theorem rNumB_any (x hi : Int) (w : World) : Calls Try.prog 26 #[.int .i64 x, .int .i64 hi] w fun e w' => e = .returned (.bool (inB x 0 hi)) ∧ w' = w := rNum_any x hi w
theorem validTick_any (n : Int) (w : World) : Calls Try.prog 35 #[.int .i64 n] w fun e w' => e = .returned (.bool (inB n 0 1099511627776)) ∧ w' = w := by
  have HW := Lib.hid (fun W => within_any n 0 1099511627776 W)
  generalize inB n 0 1099511627776 = q at *
  go_enter Try.func35, Try.ntmps35
  go_wp2_with fail
  refine Calls.mono (HW.out _) ?_
  rintro e w' ⟨rfl, he⟩
  have he := he.symm
  subst he
  go_wp2_with fail
  go_ret
  exact ⟨rfl, rfl⟩
theorem validState_any (t : Int) (w : World) : Calls Try.prog 40 #[.int .i64 t] w fun e w' => e = .returned (.bool (inB t 0 2)) ∧ w' = w := by
  by_cases h0 : t = 0
  · subst h0
    go_enter Try.func40, Try.ntmps40
    go_wp2_with fail
    go_ret
    exact ⟨rfl, rfl⟩
  · have h0b : (t == 0) = false := beq_eq_false_iff_ne.2 h0
    by_cases h1 : t = 1
    · subst h1
      go_enter Try.func40, Try.ntmps40
      go_wp2_with fail
      go_ret
      exact ⟨rfl, rfl⟩
    · have h1b : (t == 1) = false := beq_eq_false_iff_ne.2 h1
      by_cases h2 : t = 2
      · subst h2
        go_enter Try.func40, Try.ntmps40
        go_wp2_with fail
        go_ret
        exact ⟨rfl, rfl⟩
      · have h2b : (t == 2) = false := beq_eq_false_iff_ne.2 h2
        have HE := Lib.hid (inB_not.2 (show ¬ (0 ≤ t ∧ t ≤ 2) by omega))
        clear h0 h1 h2
        go_enter Try.func40, Try.ntmps40
        go_wp2_with fail
        go_ret
        exact ⟨by rw [HE.out]; rfl, rfl⟩
theorem bvalid_any (b : BR) (w : World) (hs : b.s < 18446744073709551616) : Calls Try.prog 25 #[bV b] w fun e w' => e = .returned (.bool (okB b)) ∧ Below w.heap.size w w' := by
  have HA := Lib.hid ((Below.refl _ w).alloc (Nat.le_refl _) (.cells #[.int .i64 b.t, .int .i64 b.f, .int .i64 b.u, .float .f64 b.s, .int .i64 b.c] 26))
  have HE := Lib.hid (show okB b = (inB b.t 0 2 && inB b.f 0 1048576 && inB b.u 0 2199023255552 && (b.u == 0 || b.t == 1) && okH b.s b.c) from rfl)
  have H1 := Lib.hid (fun W => validState_any b.t W)
  have H2 := Lib.hid (fun W => within_any b.f 0 1048576 W)
  have H3 := Lib.hid (fun W => within_any b.u 0 2199023255552 W)
  have H5 := Lib.hid (fun W => check_any b.s b.c W hs)
  unfold bV
  unfold hV at H5
  clear hs
  generalize inB b.t 0 2 = q1 at *
  generalize inB b.f 0 1048576 = q2 at *
  generalize inB b.u 0 2199023255552 = q3 at *
  generalize okH b.s b.c = q5 at *
  cases q1 with
  | false =>
    go_enter Try.func25, Try.ntmps25
    go_wp2_with fail
    refine Calls.mono (H1.out _) ?_
    rintro e w' ⟨rfl, he⟩
    have he := he.symm
    subst he
    go_wp2_with fail
    go_ret
    exact ⟨by rw [HE.out]; rfl, HA.out⟩
  | true =>
    cases q2 with
    | false =>
      go_enter Try.func25, Try.ntmps25
      go_wp2_with fail
      refine Calls.mono (H1.out _) ?_
      rintro e w' ⟨rfl, he⟩
      have he := he.symm
      subst he
      go_wp2_with fail
      refine Calls.mono (H2.out _) ?_
      rintro e w' ⟨rfl, he⟩
      have he := he.symm
      subst he
      go_wp2_with fail
      go_ret
      exact ⟨by rw [HE.out]; rfl, HA.out⟩
    | true =>
      cases q3 with
      | false =>
        go_enter Try.func25, Try.ntmps25
        go_wp2_with fail
        refine Calls.mono (H1.out _) ?_
        rintro e w' ⟨rfl, he⟩
        have he := he.symm
        subst he
        go_wp2_with fail
        refine Calls.mono (H2.out _) ?_
        rintro e w' ⟨rfl, he⟩
        have he := he.symm
        subst he
        go_wp2_with fail
        refine Calls.mono (H3.out _) ?_
        rintro e w' ⟨rfl, he⟩
        have he := he.symm
        subst he
        go_wp2_with fail
        go_ret
        exact ⟨by rw [HE.out]; rfl, HA.out⟩
      | true =>
        cases hu : (b.u == 0) with
        | true =>
          rw [hu] at HE
          cases ht : (b.t == 1) with
          | true =>
            rw [ht] at HE
            go_enter Try.func25, Try.ntmps25
            go_wp2_with fail
            refine Calls.mono (H1.out _) ?_
            rintro e w' ⟨rfl, he⟩
            have he := he.symm
            subst he
            go_wp2_with fail
            refine Calls.mono (H2.out _) ?_
            rintro e w' ⟨rfl, he⟩
            have he := he.symm
            subst he
            go_wp2_with fail
            refine Calls.mono (H3.out _) ?_
            rintro e w' ⟨rfl, he⟩
            have he := he.symm
            subst he
            go_wp2_with fail
            refine Calls.mono (H5.out _) ?_
            rintro e w1 ⟨rfl, hb⟩
            have HB := Lib.hid (HA.out.trans (hb.mono (by simp)))
            clear hb
            cases q5 <;>
              (go_wp2_with fail
               go_ret
               exact ⟨by rw [HE.out]; rfl, HB.out⟩)
          | false =>
            rw [ht] at HE
            go_enter Try.func25, Try.ntmps25
            go_wp2_with fail
            refine Calls.mono (H1.out _) ?_
            rintro e w' ⟨rfl, he⟩
            have he := he.symm
            subst he
            go_wp2_with fail
            refine Calls.mono (H2.out _) ?_
            rintro e w' ⟨rfl, he⟩
            have he := he.symm
            subst he
            go_wp2_with fail
            refine Calls.mono (H3.out _) ?_
            rintro e w' ⟨rfl, he⟩
            have he := he.symm
            subst he
            go_wp2_with fail
            refine Calls.mono (H5.out _) ?_
            rintro e w1 ⟨rfl, hb⟩
            have HB := Lib.hid (HA.out.trans (hb.mono (by simp)))
            clear hb
            cases q5 <;>
              (go_wp2_with fail
               go_ret
               exact ⟨by rw [HE.out]; rfl, HB.out⟩)
        | false =>
          rw [hu] at HE
          cases ht : (b.t == 1) with
          | true =>
            rw [ht] at HE
            go_enter Try.func25, Try.ntmps25
            go_wp2_with fail
            refine Calls.mono (H1.out _) ?_
            rintro e w' ⟨rfl, he⟩
            have he := he.symm
            subst he
            go_wp2_with fail
            refine Calls.mono (H2.out _) ?_
            rintro e w' ⟨rfl, he⟩
            have he := he.symm
            subst he
            go_wp2_with fail
            refine Calls.mono (H3.out _) ?_
            rintro e w' ⟨rfl, he⟩
            have he := he.symm
            subst he
            go_wp2_with fail
            refine Calls.mono (H5.out _) ?_
            rintro e w1 ⟨rfl, hb⟩
            have HB := Lib.hid (HA.out.trans (hb.mono (by simp)))
            clear hb
            cases q5 <;>
              (go_wp2_with fail
               go_ret
               exact ⟨by rw [HE.out]; rfl, HB.out⟩)
          | false =>
            rw [ht] at HE
            go_enter Try.func25, Try.ntmps25
            go_wp2_with fail
            refine Calls.mono (H1.out _) ?_
            rintro e w' ⟨rfl, he⟩
            have he := he.symm
            subst he
            go_wp2_with fail
            refine Calls.mono (H2.out _) ?_
            rintro e w' ⟨rfl, he⟩
            have he := he.symm
            subst he
            go_wp2_with fail
            refine Calls.mono (H3.out _) ?_
            rintro e w' ⟨rfl, he⟩
            have he := he.symm
            subst he
            go_wp2_with fail
            go_ret
            exact ⟨by rw [HE.out]; rfl, HA.out⟩
theorem bcheck_any (b : BR) (w : World) (hs : b.s < 18446744073709551616) : Calls Try.prog 12 #[bV b] w fun e w' => e = .returned (.int .i64 (errN (okB b))) ∧ Below w.heap.size w w' := by
  have HA := Lib.hid ((Below.refl _ w).alloc (Nat.le_refl _) (.cells #[.int .i64 b.t, .int .i64 b.f, .int .i64 b.u, .float .f64 b.s, .int .i64 b.c] 26))
  have HV := Lib.hid (fun W => bvalid_any b W hs)
  generalize okB b = q at *
  unfold bV at *
  clear hs
  go_enter Try.func12, Try.ntmps12
  go_wp2_with fail
  refine Calls.mono (HV.out _) ?_
  rintro e w1 ⟨rfl, hb⟩
  have HB := Lib.hid (HA.out.trans (hb.mono (by simp)))
  clear hb
  cases q <;>
    (go_wp2_with fail
     go_ret
     exact ⟨rfl, HB.out⟩)
end Go.Proofs.Ytlkikecnlafmeaa

/-
  Buckets of whole numbers that may be are those of plain mathematics; two of them compared; what keeps the statements awake, walked; the argument in memory.
  Conditions: as each theorem states them.
-/
import Derived.Test.YtcnkejndblcbhaaKG
namespace Go.Proofs.Ytcnkejndblcbhaa
open Go.RowKit

/-- A bucket of plain mathematics as one of whole numbers. -/
def ofN (k : Bk) : BI := ⟨k.l, k.c, k.f, k.e, k.d⟩
theorem ok_of {k : Bk} (h : k.ok) : okB (ofN k) = true := by
  obtain ⟨h1, h2, h3, h4, h5, h6⟩ := h
  rw [okB_iff]
  simp only [ofN]
  omega
theorem of_ok {b : BI} (h : okB b = true) : ∃ k : Bk, k.ok ∧ b = ofN k := by
  obtain ⟨l, c, f, e, d⟩ := b
  have h := okB_iff.1 h
  simp only at h
  refine ⟨⟨l.toNat, c.toNat, f.toNat, e.toNat, d.toNat⟩, ⟨?_, ?_, ?_, ?_, ?_, ?_⟩, ?_⟩
  · simp only; omega
  · simp only; omega
  · simp only; omega
  · simp only; omega
  · simp only; omega
  · simp only; omega
  · simp only [ofN, BI.mk.injEq]
    omega
theorem pass_of (k : Bk) (n : Nat) : passI (ofN k) (n : Int) = ofN (k.pass n) := by
  simp only [passI, ofN, Bk.pass, BI.mk.injEq, true_and]
  constructor
  · have h : ((k.d : Int) + (n : Int)) / (k.e : Int) * (k.f : Int) = (((k.d + n) / k.e * k.f : Nat) : Int) := by
      rw [Int.natCast_mul, Int.natCast_ediv, Int.natCast_add]
    rw [h]
    generalize (k.d + n) / k.e * k.f = p
    omega
  · rw [Int.natCast_emod, Int.natCast_add]
theorem take_of {k : Bk} {n : Nat} (h : n ≤ k.l) : takeI (ofN k) (n : Int) = ofN (k.take n) := by
  simp only [takeI, ofN, Bk.take, BI.mk.injEq, and_true]
  omega
/-- How long it is waited, as the program tells it. -/
def waitN (k : Bk) (n : Nat) : Int := match k.wait n with | some w => (w : Int) | none => -1
theorem wait_of {k : Bk} {n : Nat} (h : k.ok) : waitI (ofN k) (n : Int) = waitN k n := by
  obtain ⟨h1, h2, h3, h4, h5, h6⟩ := h
  by_cases h : n ≤ k.l
  · have e1 : k.wait n = some 0 := by unfold Bk.wait; rw [if_pos h]
    have e2 : waitI (ofN k) (n : Int) = 0 := by
      unfold waitI
      rw [if_pos (show (n : Int) ≤ (ofN k).l by simp only [ofN]; omega)]
    rw [e2, waitN, e1]
    rfl
  · by_cases hc : k.c < n ∨ k.f = 0
    · have e1 : k.wait n = none := by unfold Bk.wait; rw [if_neg h, if_pos hc]
      have e2 : waitI (ofN k) (n : Int) = -1 := by
        unfold waitI
        rw [if_neg (show ¬ (n : Int) ≤ (ofN k).l by simp only [ofN]; omega), if_pos (show (ofN k).c < (n : Int) ∨ (ofN k).f = 0 by simp only [ofN]; omega)]
      rw [e2, waitN, e1]
    · have e1 : k.wait n = some (k.fills n * k.e - k.d) := by unfold Bk.wait; rw [if_neg h, if_neg hc]
      have e2 : waitI (ofN k) (n : Int) = ((n : Int) - k.l + k.f - 1) / k.f * k.e - k.d := by
        unfold waitI
        rw [if_neg (show ¬ (n : Int) ≤ (ofN k).l by simp only [ofN]; omega), if_neg (show ¬ ((ofN k).c < (n : Int) ∨ (ofN k).f = 0) by simp only [ofN]; omega)]
        rfl
      have h7 := (fills_le (b := k) (n := n) (by omega) (by omega)).2.1
      have h8 : k.e ≤ k.fills n * k.e := Nat.le_mul_of_pos_left _ (by omega)
      have h9 : ((k.fills n : Nat) : Int) = ((n : Int) - k.l + k.f - 1) / k.f := by
        unfold Bk.fills
        rw [Int.natCast_ediv, show ((n - k.l + k.f - 1 : Nat) : Int) = (n : Int) - k.l + k.f - 1 by omega]
      rw [e2, waitN, e1]
      show _ = ((k.fills n * k.e - k.d : Nat) : Int)
      rw [Int.natCast_sub (by omega), Int.natCast_mul, h9]
theorem inN {n m : Nat} (h : n ≤ m) : inB (n : Int) 0 (m : Int) = true := by
  rw [inB_iff]
  omega
theorem passR_of {k : Bk} {n : Nat} (h : k.ok) (hn : n ≤ 1099511627776) : passR (ofN k) (n : Int) = .ok (ofN (k.pass n)) := by
  unfold passR
  rw [ok_of h, show inB (n : Int) 0 1099511627776 = true from inN hn, pass_of]
  rfl
theorem takeR_of {k : Bk} {n : Nat} (h : k.ok) (hn : n ≤ 1048576) (hl : n ≤ k.l) : takeR (ofN k) (n : Int) = .ok (ofN (k.take n)) := by
  unfold takeR
  rw [ok_of h, show inB (n : Int) 0 1048576 = true from inN hn, take_of hl, if_pos (show (true && true) = true from rfl), if_pos]
  simp only [ofN]
  omega
theorem takeR_later {k : Bk} {n : Nat} (h : k.ok) (hn : n ≤ 1048576) (hl : k.l < n) : takeR (ofN k) (n : Int) = .error 9 := by
  unfold takeR
  rw [ok_of h, show inB (n : Int) 0 1048576 = true from inN hn, if_pos (show (true && true) = true from rfl), if_neg]
  simp only [ofN]
  omega
theorem waitR_of {k : Bk} {n : Nat} (h : k.ok) (hn : n ≤ 1048576) : waitR (ofN k) (n : Int) = .ok (waitN k n) := by
  unfold waitR
  rw [ok_of h, show inB (n : Int) 0 1048576 = true from inN hn, wait_of h]
  rfl
theorem take_ok {k : Bk} (h : k.ok) (n : Nat) : (k.take n).ok := by
  obtain ⟨h1, h2, h3, h4, h5, h6⟩ := h
  exact ⟨h1, h2, by simp only [Bk.take]; omega, h4, h5, h6⟩

/-- Are two the same? -/
def eqBI (a b : BI) : Bool := a.l == b.l && (a.c == b.c && (a.f == b.f && (a.e == b.e && a.d == b.d)))
theorem eqBI_self (a : BI) : eqBI a a = true := by simp [eqBI]
theorem eqBI_iff {a b : BI} : eqBI a b = true ↔ a = b := by
  obtain ⟨l, c, f, e, d⟩ := a
  obtain ⟨l', c', f', e', d'⟩ := b
  simp [eqBI]
theorem eq_bucket (a b : BI) (w : World) : (binOp .eql 23 (bV a) (bV b)).run Try.prog w = .ok (.bool (eqBI a b)) w := by
  obtain ⟨l, c, f, e, d⟩ := a
  obtain ⟨l', c', f', e', d'⟩ := b
  simp only [eqBI, bV]
  cases h1 : (l == l') <;> cases h2 : (c == c') <;> cases h3 : (f == f') <;> cases h4 : (e == e')
  all_goals simp only [beq_eq_false_iff_ne, beq_iff_eq, ne_eq] at h1 h2 h3 h4
  all_goals simp [go_sem, h1, h2, h3, h4]
  all_goals (by_cases h6 : d = d' <;> simp [h6])
theorem in_bucket (a b : BI) (w : World) : (Op.equalIn 10000 23 (bV a) (bV b)).run Try.prog w = .ok (eqBI a b) w := by
  have h := eq_bucket a b w
  unfold bV at *
  rw [run_eql_struct] at h
  generalize (Op.equalIn 10000 23 _ _).run Try.prog w = X at h ⊢
  cases X with
  | ok x w' =>
    simp only [Result.andThen] at h
    cases h
    rfl
  | halt x w' => cases h
theorem neq_bucket (a b : BI) (w : World) : (binOp .neq 23 (bV a) (bV b)).run Try.prog w = .ok (.bool (!eqBI a b)) w := by
  have h := in_bucket a b w
  unfold bV at *
  rw [run_neq_struct, h]
  rfl

theorem wakes_any (w : World) : Calls Try.prog 19 #[] w fun e w' => e = .returned (.bool true) ∧ Below w.heap.size w w' := by
  have H1 := Lib.hid (fun W => new_any 2 1 3 W)
  have H2 := Lib.hid (fun W => take_any ⟨2, 2, 1, 3, 0⟩ 2 W)
  have H3 := Lib.hid (fun W => wait_any ⟨0, 2, 1, 3, 0⟩ 1 W)
  rw [show newR 2 1 3 = .ok ⟨2, 2, 1, 3, 0⟩ by rfl] at H1
  rw [show takeR ⟨2, 2, 1, 3, 0⟩ 2 = .ok ⟨0, 2, 1, 3, 0⟩ by rfl] at H2
  rw [show waitR ⟨0, 2, 1, 3, 0⟩ 1 = .ok 3 by rfl] at H3
  have H4 := Lib.hid (fun W => num_any 0 W)
  unfold outB at H1 H2
  unfold outI at H3
  unfold bV at *
  go_enter Try.func19, Try.ntmps19
  go_wp2_with fail
  refine Calls.mono (H1.out _) ?_
  rintro e w1 ⟨rfl, hb1⟩
  have HB1 := Lib.hid hb1
  have HN1 := Lib.hid (BAt.new w1 ⟨2, 2, 1, 3, 0⟩)
  clear hb1
  go_wp2_with fail
  refine Calls.mono (H2.out _) ?_
  rintro e w2 ⟨rfl, hb2⟩
  have HB2 := Lib.hid ((HB1.out.alloc HB1.out.size (.cells #[.int .i64 (BI.mk 2 2 1 3 0).l, .int .i64 (BI.mk 2 2 1 3 0).c, .int .i64 (BI.mk 2 2 1 3 0).f, .int .i64 (BI.mk 2 2 1 3 0).e, .int .i64 (BI.mk 2 2 1 3 0).d] 23)).trans (hb2.mono (by have := HB1.out.size; simp; omega)))
  have HN2 := Lib.hid (HN1.out.later hb2)
  have c0 := HN2.out.c0
  have cz0 := HN2.out.fz 0
  have c1 := HN2.out.c1
  have cz1 := HN2.out.fz 1
  have c2 := HN2.out.c2
  have cz2 := HN2.out.fz 2
  have c3 := HN2.out.c3
  have cz3 := HN2.out.fz 3
  have c4 := HN2.out.c4
  have cz4 := HN2.out.fz 4
  have clt := HN2.out.lt
  have hw1 := HB1.out.size
  have HB3 := Lib.hid (below_set5 (k := w1.heap.size) HB2.out hw1 0 2 1 3 0)
  have HN3 := Lib.hid (HN2.out.set5 0 2 1 3 0)
  clear hb2 HB1
  go_wp2_with fail
  refine Calls.mono (H3.out _) ?_
  rintro e w3 ⟨rfl, hb3⟩
  have HB4 := Lib.hid (HB3.out.trans (hb3.mono HB3.out.size))
  clear hb3
  go_wp2_with fail
  refine Calls.mono (H4.out _) ?_
  rintro e w' ⟨rfl, he⟩
  have he := he.symm
  subst he
  go_wp2_with fail
  refine Calls.mono (H4.out _) ?_
  rintro e w' ⟨rfl, he⟩
  have he := he.symm
  subst he
  go_wp2_with fail
  refine Calls.mono (H4.out _) ?_
  rintro e w' ⟨rfl, he⟩
  have he := he.symm
  subst he
  go_wp2_with fail
  go_ret
  exact ⟨rfl, HB4.out⟩
end Go.Proofs.Ytcnkejndblcbhaa

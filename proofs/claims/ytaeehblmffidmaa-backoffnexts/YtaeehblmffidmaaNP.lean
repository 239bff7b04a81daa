/-
  Plain mathematics of tables of waiting times: whether one may be, the time behind a try, the greatest one, the sum of the first ones.
  Conditions: as each theorem states them.
-/
import Derived.Test.YtaeehblmffidmaaRows
namespace Go.Proofs.Ytaeehblmffidmaa

def inB (x lo hi : Int) : Bool := decide (lo ≤ x) && decide (x ≤ hi)
theorem inB_iff {x lo hi : Int} : inB x lo hi = true ↔ lo ≤ x ∧ x ≤ hi := by
  unfold inB
  rw [Bool.and_eq_true, decide_eq_true_eq, decide_eq_true_eq]
theorem inB_not {x lo hi : Int} : inB x lo hi = false ↔ ¬ (lo ≤ x ∧ x ≤ hi) := by
  rw [← inB_iff]
  cases inB x lo hi <;> simp
/-- One number of a table. -/
def tick (x : Int) : Bool := inB x 1 1099511627776
/-- May a table be? -/
def okL (l : List Int) : Bool := inB l.length 1 16 && l.all tick
/-- The waiting time behind the n-th try. -/
def nxL (l : List Int) (n : Nat) : Int := l.getD (min n l.length - 1) 0
def lastL (l : List Int) : Int := l.getD (l.length - 1) 0
def maxL (l : List Int) : Int := l.foldl max 0
def totL (l : List Int) (n : Nat) : Int := ((n : Int) - (min n l.length : Nat)) * lastL l + (l.take (min n l.length)).sum

theorem okL_iff {l : List Int} : okL l = true ↔ (1 ≤ l.length ∧ l.length ≤ 16) ∧ ∀ x ∈ l, 1 ≤ x ∧ x ≤ 1099511627776 := by
  unfold okL tick
  rw [Bool.and_eq_true, inB_iff, List.all_eq_true]
  constructor
  · rintro ⟨h1, h2⟩
    exact ⟨by omega, fun x hx => inB_iff.1 (h2 x hx)⟩
  · rintro ⟨h1, h2⟩
    exact ⟨by omega, fun x hx => inB_iff.2 (h2 x hx)⟩
theorem foldl_max_ge (l : List Int) : ∀ a, a ≤ l.foldl max a ∧ ∀ x ∈ l, x ≤ l.foldl max a := by
  induction l with
  | nil => intro a; exact ⟨Int.le_refl _, fun x hx => by cases hx⟩
  | cons b r ih =>
    intro a
    obtain ⟨h1, h2⟩ := ih (max a b)
    rw [List.foldl_cons]
    refine ⟨Int.le_trans (Int.le_max_left a b) h1, fun x hx => ?_⟩
    rcases List.mem_cons.1 hx with rfl | hx
    · exact Int.le_trans (Int.le_max_right a x) h1
    · exact h2 x hx
theorem foldl_max_le (l : List Int) (k : Int) (h : ∀ x ∈ l, x ≤ k) : ∀ a, a ≤ k → l.foldl max a ≤ k := by
  induction l with
  | nil => intro a ha; exact ha
  | cons b r ih =>
    intro a ha
    rw [List.foldl_cons]
    exact ih (fun x hx => h x (List.mem_cons_of_mem _ hx)) _ (Int.max_le.2 ⟨ha, h b (List.mem_cons_self ..)⟩)
theorem maxL_in {l : List Int} (h : okL l = true) : 1 ≤ maxL l ∧ maxL l ≤ 1099511627776 := by
  obtain ⟨h1, h2⟩ := okL_iff.1 h
  refine ⟨?_, foldl_max_le l _ (fun x hx => (h2 x hx).2) 0 (by omega)⟩
  match l, h1.1 with
  | a :: r, _ => exact Int.le_trans (h2 a (List.mem_cons_self ..)).1 ((foldl_max_ge (a :: r) 0).2 a (List.mem_cons_self ..))
theorem getD_mem {l : List Int} {i : Nat} (h : i < l.length) : l.getD i 0 = l[i] := by
  simp [List.getD, List.getElem?_eq_getElem h]
theorem nx_at {l : List Int} (h : okL l = true) (n : Nat) : ∃ hj : min n l.length - 1 < l.length, nxL l n = l[min n l.length - 1] := by
  have h1 := (okL_iff.1 h).1
  exact ⟨by omega, getD_mem (by omega)⟩
theorem nx_in {l : List Int} (h : okL l = true) (n : Nat) : 1 ≤ nxL l n ∧ nxL l n ≤ maxL l := by
  obtain ⟨hj, e⟩ := nx_at h n
  rw [e]
  exact ⟨((okL_iff.1 h).2 _ (List.getElem_mem hj)).1, (foldl_max_ge l 0).2 _ (List.getElem_mem hj)⟩
theorem last_in {l : List Int} (h : okL l = true) : 1 ≤ lastL l ∧ lastL l ≤ 1099511627776 := by
  have h1 := (okL_iff.1 h).1
  have e : lastL l = l[l.length - 1] := getD_mem (by omega)
  rw [e]
  exact (okL_iff.1 h).2 _ (List.getElem_mem _)
theorem tot_zero (l : List Int) : totL l 0 = 0 := by simp [totL]
theorem sum_take_succ {l : List Int} {i : Nat} (h : i < l.length) : (l.take (i + 1)).sum = (l.take i).sum + l[i] := by
  rw [List.take_add_one, List.getElem?_eq_getElem h, List.sum_append]
  simp
theorem tot_step {l : List Int} (h : okL l = true) (n : Nat) : totL l (n + 1) = totL l n + nxL l (n + 1) := by
  have h1 := (okL_iff.1 h).1
  unfold totL nxL
  by_cases hn : n + 1 ≤ l.length
  · have e1 : min (n + 1) l.length = n + 1 := by omega
    have e2 : min n l.length = n := by omega
    rw [e1, e2, sum_take_succ (by omega), Nat.add_sub_cancel, getD_mem (by omega)]
    have e3 : ((n + 1 : Nat) : Int) - ((n + 1 : Nat) : Int) = 0 := by omega
    have e4 : (n : Int) - (n : Int) = 0 := by omega
    rw [e3, e4]
    omega
  · have e1 : min (n + 1) l.length = l.length := by omega
    have e2 : min n l.length = l.length := by omega
    rw [e1, e2]
    have e3 : ((n + 1 : Nat) : Int) - (l.length : Int) = ((n : Int) - l.length) + 1 := by omega
    rw [e3, Int.add_mul, Int.one_mul]
    show _ + lastL l + _ = _ + lastL l
    omega
theorem tot_in {l : List Int} (h : okL l = true) (n : Nat) : (n : Int) ≤ totL l n ∧ totL l n ≤ n * maxL l := by
  induction n with
  | zero => rw [tot_zero]; simp
  | succ n ih =>
    rw [tot_step h]
    obtain ⟨h1, h2⟩ := nx_in h (n + 1)
    have e : ((n + 1 : Nat) : Int) * maxL l = n * maxL l + maxL l := by rw [show ((n + 1 : Nat) : Int) = n + 1 by omega, Int.add_mul, Int.one_mul]
    rw [e]
    omega
/-- How great a sum's first part is, and the sum of the first ones behind it. -/
theorem part_in {l : List Int} (h : okL l = true) {n : Nat} (hn : n ≤ 1048576) : 0 ≤ ((n : Int) - (min n l.length : Nat)) * lastL l ∧ ((n : Int) - (min n l.length : Nat)) * lastL l ≤ 1152921504606846976 := by
  obtain ⟨h1, h2⟩ := last_in h
  refine ⟨Int.mul_nonneg (by omega) (by omega), ?_⟩
  have h3 : ((n : Int) - (min n l.length : Nat)) * lastL l ≤ 1048576 * 1099511627776 := Int.mul_le_mul (by omega) h2 (by omega) (by omega)
  omega
theorem sum_in {l : List Int} (h : okL l = true) : ∀ i, i ≤ l.length → 0 ≤ (l.take i).sum ∧ (l.take i).sum ≤ i * 1099511627776 := by
  intro i
  induction i with
  | zero => intro _; simp
  | succ i ih =>
    intro hi
    rw [sum_take_succ (by omega)]
    have := ih (by omega)
    have := (okL_iff.1 h).2 _ (List.getElem_mem (show i < l.length by omega))
    omega
theorem take_max {l : List Int} {i : Nat} (h : i < l.length) : maxL (l.take (i + 1)) = max (maxL (l.take i)) l[i] := by
  unfold maxL
  rw [List.take_add_one, List.getElem?_eq_getElem h, List.foldl_append]
  rfl
theorem all_take {l : List Int} {i : Nat} (h : i < l.length) (p : Int → Bool) : (l.take (i + 1)).all p = ((l.take i).all p && p l[i]) := by
  rw [List.take_add_one, List.getElem?_eq_getElem h, List.all_append]
  simp
theorem all_take_false {l : List Int} {i : Nat} (h : i < l.length) {p : Int → Bool} (hp : p l[i] = false) : l.all p = false := by
  rw [List.all_eq_false]
  exact ⟨_, List.getElem_mem h, by simp [hp]⟩
theorem okL_bad {l : List Int} {i : Nat} (h : i < l.length) (hp : tick l[i] = false) : okL l = false := by
  unfold okL
  rw [all_take_false h hp, Bool.and_false]
theorem okL_len {l : List Int} (h : inB l.length 1 16 = false) : okL l = false := by
  unfold okL
  rw [h, Bool.false_and]
theorem okL_good {l : List Int} (h : inB l.length 1 16 = true) (ha : (l.take l.length).all tick = true) : okL l = true := by
  rw [List.take_length] at ha
  unfold okL
  rw [h, ha, Bool.and_self]
end Go.Proofs.Ytaeehblmffidmaa

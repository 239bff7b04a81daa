/-
  Token buckets by plain mathematics: so many ticks passed at once, in two parts, one by one; how long it is waited; what is given in the long run.
  Conditions: as each theorem states them.
-/
namespace Go.Proofs.Ytcnkejndblcbhaa

/-- A bucket: what it holds, holds at most, is filled with, how often, and for how long it has not been. -/
structure Bk where
  l : Nat
  c : Nat
  f : Nat
  e : Nat
  d : Nat

/-- May it be? -/
def Bk.ok (b : Bk) : Prop := b.c ≤ 1048576 ∧ b.f ≤ 1048576 ∧ b.l ≤ b.c ∧ 1 ≤ b.e ∧ b.e ≤ 1048576 ∧ b.d < b.e
/-- So many ticks later. -/
def Bk.pass (b : Bk) (n : Nat) : Bk := { b with l := min b.c (b.l + (b.d + n) / b.e * b.f), d := (b.d + n) % b.e }
/-- So many less. -/
def Bk.take (b : Bk) (n : Nat) : Bk := { b with l := b.l - n }
/-- How often it must be filled, and how long it is waited. -/
def Bk.fills (b : Bk) (n : Nat) : Nat := (n - b.l + b.f - 1) / b.f
def Bk.wait (b : Bk) (n : Nat) : Option Nat := if n ≤ b.l then some 0 else if b.c < n ∨ b.f = 0 then none else some (b.fills n * b.e - b.d)

theorem pass_ok {b : Bk} (h : b.ok) (n : Nat) : (b.pass n).ok := by
  obtain ⟨h1, h2, h3, h4, h5, h6⟩ := h
  exact ⟨h1, h2, Nat.min_le_left _ _, h4, h5, Nat.mod_lt _ h4⟩
theorem pass_zero {b : Bk} (h : b.ok) : b.pass 0 = b := by
  obtain ⟨h1, h2, h3, h4, h5, h6⟩ := h
  obtain ⟨l, c, f, e, d⟩ := b
  simp only [Bk.pass, Nat.add_zero] at *
  rw [Nat.div_eq_of_lt h6, Nat.mod_eq_of_lt h6, Nat.zero_mul, Nat.add_zero, Nat.min_eq_right h3]
theorem ticks_split (d n k e : Nat) : (d + n) / e + ((d + n) % e + k) / e = (d + (n + k)) / e ∧ ((d + n) % e + k) % e = (d + (n + k)) % e := by
  have h0 := Nat.div_add_mod (d + n) e
  by_cases he : e = 0
  · subst he
    simp [Nat.add_assoc]
  have h : d + (n + k) = (d + n) % e + k + e * ((d + n) / e) := by omega
  rw [h, Nat.add_mul_div_left _ _ (by omega), Nat.add_mul_mod_self_left]
  omega
/-- In two parts it is the same. -/
theorem pass_pass (b : Bk) (n k : Nat) : (b.pass n).pass k = b.pass (n + k) := by
  obtain ⟨l, c, f, e, d⟩ := b
  simp only [Bk.pass, Bk.mk.injEq, true_and]
  obtain ⟨h1, h2⟩ := ticks_split d n k e
  refine ⟨?_, h2⟩
  rw [← h1, Nat.add_mul]
  omega
theorem pass_up (b : Bk) (h : b.l ≤ b.c) (n : Nat) : b.l ≤ (b.pass n).l := by
  simp only [Bk.pass]
  omega

/-- Behind so many ticks as are told there is enough; one tick earlier there is not. -/
theorem fills_le {b : Bk} {n : Nat} (hl : b.l < n) (hf : b.f ≠ 0) : n ≤ b.l + b.fills n * b.f ∧ 1 ≤ b.fills n ∧ b.l + (b.fills n - 1) * b.f < n := by
  unfold Bk.fills
  have hp : 0 < b.f := by omega
  have h1 := Nat.div_add_mod (n - b.l + b.f - 1) b.f
  have h2 := Nat.mod_lt (n - b.l + b.f - 1) hp
  have h3 : 1 ≤ (n - b.l + b.f - 1) / b.f := (Nat.le_div_iff_mul_le hp).2 (by omega)
  generalize (n - b.l + b.f - 1) / b.f = q at *
  generalize (n - b.l + b.f - 1) % b.f = r at *
  obtain ⟨p, rfl⟩ : ∃ p, q = p + 1 := ⟨q - 1, by omega⟩
  have h4 : b.f * (p + 1) = p * b.f + b.f := by rw [Nat.mul_comm, Nat.add_mul, Nat.one_mul]
  rw [h4] at h1
  rw [Nat.add_mul, Nat.one_mul, Nat.add_sub_cancel]
  omega
theorem wait_enough {b : Bk} {n w : Nat} (h : b.ok) (hw : b.wait n = some w) : n ≤ (b.pass w).l := by
  unfold Bk.wait at hw
  split at hw
  · rename_i hl
    cases hw
    exact Nat.le_trans hl (pass_up b h.2.2.1 0)
  · rename_i hl
    split at hw
    · cases hw
    · rename_i hc
      cases hw
      obtain ⟨k1, k2, _⟩ := fills_le (b := b) (n := n) (by omega) (by omega)
      obtain ⟨_, _, _, he, _, hd⟩ := h
      have hge : b.e ≤ b.fills n * b.e := Nat.le_mul_of_pos_left _ (by omega)
      simp only [Bk.pass]
      rw [show b.d + (b.fills n * b.e - b.d) = b.fills n * b.e by omega, Nat.mul_div_cancel _ (by omega)]
      omega
theorem wait_not_before {b : Bk} {n w : Nat} (h : b.ok) (hw : b.wait n = some (w + 1)) : (b.pass w).l < n := by
  unfold Bk.wait at hw
  split at hw
  · cases hw
  · rename_i hl
    split at hw
    · cases hw
    · rename_i hc
      obtain ⟨_, k2, k3⟩ := fills_le (b := b) (n := n) (by omega) (by omega)
      obtain ⟨_, _, _, he, _, hd⟩ := h
      have hge : b.e ≤ b.fills n * b.e := Nat.le_mul_of_pos_left _ (by omega)
      simp only [Option.some.injEq] at hw
      have hdw : b.d + w = b.fills n * b.e - 1 := by omega
      obtain ⟨p, hp⟩ : ∃ p, b.fills n = p + 1 := ⟨b.fills n - 1, by omega⟩
      simp only [Bk.pass]
      rw [hp, Nat.add_sub_cancel] at k3
      have hq : (b.d + w) / b.e = p := by
        rw [hdw, hp, Nat.add_mul, Nat.one_mul, show p * b.e + b.e - 1 = (b.e - 1) + b.e * p by rw [Nat.mul_comm]; omega, Nat.add_mul_div_left _ _ (by omega), Nat.div_eq_of_lt (by omega), Nat.zero_add]
      rw [hq]
      omega
theorem wait_never {b : Bk} {n : Nat} (hl : b.l ≤ b.c) (hw : b.wait n = none) (k : Nat) : (b.pass k).l < n := by
  unfold Bk.wait at hw
  split at hw
  · cases hw
  · rename_i hn
    split at hw
    · rename_i hc
      simp only [Bk.pass]
      rcases hc with hc | hc
      · omega
      · rw [hc, Nat.mul_zero]
        omega
    · cases hw
/-- The longest wait that there is. -/
theorem wait_le {b : Bk} {n w : Nat} (h : b.ok) (hw : b.wait n = some w) : w ≤ 1099511627776 := by
  unfold Bk.wait at hw
  split at hw
  · cases hw
    omega
  · rename_i hl
    split at hw
    · cases hw
    · rename_i hc
      cases hw
      obtain ⟨_, k2, k3⟩ := fills_le (b := b) (n := n) (by omega) (by omega)
      obtain ⟨_, _, _, _, he, _⟩ := h
      have hq : b.fills n ≤ 1048576 := by
        have : (b.fills n - 1) * 1 ≤ (b.fills n - 1) * b.f := Nat.mul_le_mul_left _ (by omega)
        omega
      have := Nat.mul_le_mul hq he
      omega

/-- What a bucket that is emptied each tick holds at the beginning of a tick, and what it has given till then. -/
def rateL (m f e t : Nat) : Nat := if t = 0 then m else if t % e = 0 then min m f else 0
def rateG (m f e t : Nat) : Nat := if t = 0 then 0 else m + (t - 1) / e * min m f
theorem rate_step {m f e : Nat} (he : 1 ≤ e) (t : Nat) : (Bk.mk 0 m f e (t % e)).pass 1 = ⟨rateL m f e (t + 1), m, f, e, (t + 1) % e⟩ ∧ rateG m f e t + rateL m f e t = rateG m f e (t + 1) := by
  have h0 := Nat.div_add_mod t e
  have hlt := Nat.mod_lt t he
  constructor
  · simp only [Bk.pass, Bk.mk.injEq, true_and, Nat.zero_add]
    have hm : (t % e + 1) % e = (t + 1) % e := by
      rw [Nat.add_mod, Nat.mod_mod, ← Nat.add_mod]
    refine ⟨?_, hm⟩
    unfold rateL
    rw [if_neg (by omega)]
    by_cases k : t % e + 1 = e
    · rw [k, Nat.div_self he, Nat.one_mul, if_pos]
      rw [← hm, k, Nat.mod_self]
    · rw [Nat.div_eq_of_lt (by omega), Nat.zero_mul, if_neg]
      · omega
      · rw [← hm, Nat.mod_eq_of_lt (by omega)]
        omega
  · unfold rateG rateL
    rw [if_neg (show ¬ t + 1 = 0 by omega), Nat.add_sub_cancel]
    by_cases k : t = 0
    · subst k
      rw [if_pos rfl, if_pos rfl, Nat.zero_div, Nat.zero_mul]
      omega
    · rw [if_neg k, if_neg k]
      obtain ⟨s, rfl⟩ : ∃ s, t = s + 1 := ⟨t - 1, by omega⟩
      rw [Nat.add_sub_cancel]
      have hs := Nat.div_add_mod s e
      have hsl := Nat.mod_lt s he
      by_cases k2 : (s + 1) % e = 0
      · rw [if_pos k2]
        have hd : (s + 1) / e = s / e + 1 := by
          rw [Nat.succ_div]
          rw [if_pos (Nat.dvd_of_mod_eq_zero k2)]
        rw [hd, Nat.add_mul, Nat.one_mul]
        omega
      · rw [if_neg k2]
        have hd : (s + 1) / e = s / e := by
          rw [Nat.succ_div, if_neg (fun h => k2 (Nat.mod_eq_zero_of_dvd h)), Nat.add_zero]
        rw [hd]
        omega
theorem rate_end {m f e : Nat} (he : 1 ≤ e) : rateG m f e (20 * e) = m + 19 * min m f := by
  unfold rateG
  rw [if_neg (by omega), show (20 * e - 1) / e = 19 by
    rw [show 20 * e - 1 = (e - 1) + e * 19 by omega, Nat.add_mul_div_left _ _ he, Nat.div_eq_of_lt (by omega)]]
end Go.Proofs.Ytcnkejndblcbhaa

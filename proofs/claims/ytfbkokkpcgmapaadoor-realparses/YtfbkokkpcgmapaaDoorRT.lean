/-
  The texts of floats: an odd whole number, a power of two, and back; what two readers of such texts answer (the program's and the page's), and that they answer the same.
  Conditions: as each theorem states them.
-/
import Derived.Test.YtfbkokkpcgmapaaDoorRP
namespace Go.Proofs.YtfbkokkpcgmapaaDoor

def digB (c : UInt8) : Bool := decide (48 ≤ c.toNat) && decide (c.toNat ≤ 57)
/-- The number that some digits write. -/
def valN (t : List UInt8) : Nat := t.foldl (fun n c => 10 * n + (c.toNat - 48)) 0
/-- What stands between a byte. -/
def splitB (b : UInt8) : List UInt8 → List (List UInt8)
  | [] => [[]]
  | c :: t => if c = b then [] :: splitB b t else match splitB b t with
    | [] => [[c]]
    | p :: r => (c :: p) :: r
theorem split_none {b : UInt8} : ∀ {p : List UInt8}, b ∉ p → splitB b p = [p] := by
  intro p
  induction p with
  | nil => intro _; rfl
  | cons c t ih =>
    intro h
    simp only [List.mem_cons, not_or] at h
    rw [splitB, if_neg (fun e => h.1 e.symm), ih h.2]
theorem split_some {b : UInt8} {r : List UInt8} : ∀ {p : List UInt8}, b ∉ p → splitB b (p ++ b :: r) = p :: splitB b r := by
  intro p
  induction p with
  | nil => intro _; rw [List.nil_append, splitB, if_pos rfl]
  | cons c t ih =>
    intro h
    simp only [List.mem_cons, not_or] at h
    rw [List.cons_append, splitB, if_neg (fun e => h.1 e.symm), ih h.2]
theorem dig_lt {c : UInt8} (h : digB c = true) : 48 ≤ c.toNat ∧ c.toNat ≤ 57 := by
  simpa [digB] using h
theorem dig_ofNat {k : Nat} (h : k < 10) : digB (UInt8.ofNat (48 + k)) = true ∧ (UInt8.ofNat (48 + k)).toNat - 48 = k := by
  have e : (UInt8.ofNat (48 + k)).toNat = 48 + k := UInt8.toNat_ofNat_of_lt' (by show 48 + k < 256; omega)
  refine ⟨?_, by omega⟩
  unfold digB
  rw [e, decide_eq_true (by omega), decide_eq_true (by omega)]
  rfl
theorem dec_all (n : Nat) : (Lib.decDigits n).all digB = true := by
  induction n using Nat.strongRecOn with
  | _ n ih =>
    rw [Lib.decDigits]
    split
    · rename_i h
      rw [List.all_cons, List.all_nil, (dig_ofNat h).1]
      rfl
    · rw [List.all_append, ih (n / 10) (by omega)]
      rw [List.all_cons, List.all_nil, (dig_ofNat (k := n % 10) (by omega)).1]
      rfl
theorem dec_val (n : Nat) : valN (Lib.decDigits n) = n := by
  induction n using Nat.strongRecOn with
  | _ n ih =>
    rw [Lib.decDigits]
    split
    · rename_i h
      have := (dig_ofNat h).2
      show 10 * 0 + _ = n
      omega
    · have h1 := ih (n / 10) (by omega)
      have h2 := (dig_ofNat (k := n % 10) (by omega)).2
      unfold valN at h1 ⊢
      rw [List.foldl_append, h1]
      show 10 * (n / 10) + _ = n
      omega
theorem dec_len : ∀ (m n : Nat), n < 10 ^ (m + 1) → (Lib.decDigits n).length ≤ m + 1 := by
  intro m
  induction m with
  | zero =>
    intro n h
    rw [Lib.decDigits, dif_pos (by simpa using h)]
    simp
  | succ m ih =>
    intro n h
    rw [Lib.decDigits]
    split
    · simp
    · have := ih (n / 10) (by rw [Nat.pow_succ] at h; omega)
      simp
      omega
theorem dec_pos (n : Nat) : 1 ≤ (Lib.decDigits n).length := by
  rw [Lib.decDigits]
  split <;> simp
/-- What Value answers. -/
def okV (s : List UInt8) : Bool := !s.isEmpty && decide (s.length ≤ 16) && !(decide (1 < s.length) && s.head? == some 48) && s.all digB
def valV (s : List UInt8) : Int := if okV s then (valN s : Int) else 0

theorem dec_digit {n : Nat} {c : UInt8} (h : c ∈ Lib.decDigits n) : 48 ≤ c.toNat ∧ c.toNat ≤ 57 := dig_lt (List.all_eq_true.1 (dec_all n) c h)
theorem dec_no (n : Nat) {c : UInt8} (h : c.toNat < 48 ∨ 57 < c.toNat) : c ∉ Lib.decDigits n := fun k => by
  have := dec_digit k
  omega
theorem dec_head (n : Nat) : ∃ c t, Lib.decDigits n = c :: t ∧ 48 ≤ c.toNat ∧ c.toNat ≤ 57 := by
  cases h : Lib.decDigits n with
  | nil => have := dec_pos n; rw [h] at this; simp at this
  | cons c t => exact ⟨c, t, rfl, dec_digit (n := n) (by rw [h]; exact List.mem_cons_self)⟩
theorem dec_zero {n : Nat} (h : 10 ≤ n) : (Lib.decDigits n).head? ≠ some 48 := by
  induction n using Nat.strongRecOn with
  | _ n ih =>
    rw [Lib.decDigits, dif_neg (by omega)]
    by_cases hs : n / 10 < 10
    · rw [Lib.decDigits, dif_pos hs]
      intro e
      have h1 : UInt8.ofNat (48 + n / 10) = 48 := by simpa using e
      have h2 := congrArg UInt8.toNat h1
      rw [UInt8.toNat_ofNat'] at h2
      have h3 : (48 : UInt8).toNat = 48 := rfl
      omega
    · have := ih (n / 10) (by omega) (by omega)
      obtain ⟨c, t, hc, _⟩ := dec_head (n / 10)
      rw [hc] at this ⊢
      simpa using this
theorem ok_dec {n : Nat} (h : n < 10000000000000000) : okV (Lib.decDigits n) = true := by
  have h1 := dec_len 15 n (by omega)
  have h2 := dec_all n
  have h3 := dec_pos n
  have h4 : (Lib.decDigits n).isEmpty = false := by cases hd : Lib.decDigits n with
    | nil => rw [hd] at h3; simp at h3
    | cons c t => rfl
  have h5 : (decide (1 < (Lib.decDigits n).length) && (Lib.decDigits n).head? == some 48) = false := by
    by_cases k : n < 10
    · rw [Lib.decDigits, dif_pos k]
      rfl
    · rw [Bool.and_eq_false_iff]
      exact .inr (beq_eq_false_iff_ne.2 (dec_zero (by omega)))
  unfold okV
  rw [h2, h4, h5, decide_eq_true (show (Lib.decDigits n).length ≤ 16 by omega)]
  rfl

theorem parse_app (M : Nat) (r : List UInt8) : ∀ (l : List UInt8) (a u : Nat), Lib.parseUintM M a l = .ok u → Lib.parseUintM M a (l ++ r) = Lib.parseUintM M u r := by
  intro l
  induction l with
  | nil => intro a u h; simp only [Lib.parseUintM] at h; injection h with h; rw [h]; rfl
  | cons c t ih =>
    intro a u h
    rw [List.cons_append]
    simp only [Lib.parseUintM] at h ⊢
    split at h
    · rename_i h0
      rw [if_pos h0]
      split at h
      · cases h
      · rename_i h1
        rw [if_neg h1]
        split at h
        · cases h
        · rename_i h2
          rw [if_neg h2]
          exact ih _ _ h
    · cases h
theorem parse_dec (n : Nat) (h : n < 18446744073709551616) : Lib.parseUintM 18446744073709551615 0 (Lib.decDigits n) = .ok n := by
  induction n using Nat.strongRecOn with
  | _ n ih =>
    rw [Lib.decDigits]
    split
    · rename_i hs
      have := (dig_ofNat hs).2
      have := dig_lt (dig_ofNat hs).1
      simp only [Lib.parseUintM]
      rw [if_pos (by omega), if_neg (by omega), if_neg (by omega)]
      congr 1
      omega
    · have := (dig_ofNat (k := n % 10) (by omega)).2
      have := dig_lt (dig_ofNat (k := n % 10) (by omega)).1
      rw [parse_app _ _ _ _ _ (ih (n / 10) (by omega) (by omega))]
      simp only [Lib.parseUintM]
      rw [if_pos (by omega), if_neg (by omega), if_neg (by omega)]
      congr 1
      omega
theorem dec_ne (n : Nat) : Lib.decDigits n ≠ [] := fun h => by have := dec_pos n; rw [h] at this; simp at this
theorem uint_dec {n : Nat} (h : n < 18446744073709551616) : Lib.parseUintB 64 (Lib.decDigits n) = .ok n := by
  unfold Lib.parseUintB
  rw [if_neg (dec_ne n)]
  exact parse_dec n h
theorem mag_dec {n : Nat} (h : n < 18446744073709551616) : Lib.parseMag (Lib.decDigits n) = .ok n := by
  unfold Lib.parseMag
  rw [if_neg (dec_ne n), ← Lib.parseUintM_64]
  exact parse_dec n h
theorem atoi_dec {z : Int} (h1 : -1000000 ≤ z) (h2 : z ≤ 1000000) : Lib.atoiAll (Lib.itoa z) = .ok z := by
  unfold Lib.itoa
  by_cases hz : z < 0
  · rw [if_pos hz]
    simp only [Lib.atoiAll]
    rw [if_pos (show UInt8.toNat 45 = 43 ∨ UInt8.toNat 45 = 45 from .inr rfl), mag_dec (by omega)]
    simp only
    rw [if_neg (fun h => h.1 rfl), if_neg (by omega), if_pos (show UInt8.toNat 45 = 45 from rfl)]
    congr 1
    omega
  · rw [if_neg hz]
    obtain ⟨c, t, hc, hd⟩ := dec_head z.toNat
    have hm := mag_dec (n := z.toNat) (by omega)
    rw [hc] at hm ⊢
    simp only [Lib.atoiAll]
    rw [if_neg (by omega), hm]
    simp only
    rw [if_neg (by omega), if_neg (by omega), if_neg (by omega)]
    congr 1
    omega

/-- How often two divides. -/
def tzN (m : Nat) : Nat := Lib.ntzAux 64 m
theorem ntz_spec : ∀ (f m : Nat), 0 < m → m < 2 ^ f → (∃ k, m = 2 ^ Lib.ntzAux f m * (2 * k + 1)) ∧ Lib.ntzAux f m < f := by
  intro f
  induction f with
  | zero => intro m h0 h1; simp at h1; omega
  | succ f ih =>
    intro m h0 h1
    rw [Lib.ntzAux]
    split
    · exact ⟨⟨m / 2, by omega⟩, by omega⟩
    · rename_i hm
      obtain ⟨⟨k, hk⟩, hl⟩ := ih (m / 2) (by omega) (by rw [Nat.pow_succ] at h1; omega)
      refine ⟨⟨k, ?_⟩, by omega⟩
      rw [Nat.pow_add, Nat.mul_assoc, ← hk]
      omega
def oddM (r : Nat) : Nat := magF r / 2 ^ tzN (magF r)
def oddE (r : Nat) : Int := -1074 + (expF r : Int) + (tzN (magF r) : Int)
def bodyF (r : Nat) : List UInt8 := Lib.decDigits (oddM r) ++ 112 :: Lib.itoa (oddE r)
/-- The text of a float. -/
def textF (a : Nat) : List UInt8 :=
  if nanF a then [110, 97, 110]
  else if a % 9223372036854775808 = 9218868437227405312 then (if negF a then [45, 105, 110, 102] else [43, 105, 110, 102])
  else if a % 9223372036854775808 = 0 then (if negF a then [45, 48] else [48])
  else if negF a then 45 :: bodyF (a % 9223372036854775808) else bodyF (a % 9223372036854775808)

theorem mag_pos {r : Nat} (h : 0 < r) : 0 < magF r := by unfold magF; split <;> omega
theorem mag_lt (r : Nat) : magF r < 9007199254740992 := by unfold magF; split <;> omega
theorem exp_le {r : Nat} (h : r < 9218868437227405312) : expF r ≤ 2045 := by unfold expF; omega
theorem odd_spec {r : Nat} (h : 0 < r) : oddM r * 2 ^ tzN (magF r) = magF r ∧ oddM r % 2 = 1 ∧ oddM r < 9007199254740992 ∧ tzN (magF r) ≤ 52 := by
  have h1 := mag_lt r
  obtain ⟨⟨k, hk⟩, _⟩ := ntz_spec 64 (magF r) (mag_pos h) (by omega)
  have hp := Nat.two_pow_pos (Lib.ntzAux 64 (magF r))
  have hm : oddM r = 2 * k + 1 := by
    unfold oddM tzN
    rw (occs := .pos [1]) [hk]
    rw [Nat.mul_div_cancel_left _ hp]
  have he : oddM r * 2 ^ tzN (magF r) = magF r := by
    rw [hm, Nat.mul_comm]
    exact hk.symm
  refine ⟨he, by omega, ?_, ?_⟩
  · refine Nat.lt_of_le_of_lt ?_ h1
    rw [← he]
    exact Nat.le_mul_of_pos_right _ hp
  · apply Nat.le_of_not_lt
    intro h53
    have h2 : (2 : Nat) ^ 53 ≤ 2 ^ tzN (magF r) := Nat.pow_le_pow_right (by omega) h53
    have h3 : 2 ^ tzN (magF r) ≤ oddM r * 2 ^ tzN (magF r) := Nat.le_mul_of_pos_left _ (by omega)
    rw [he] at h3
    have : (2 : Nat) ^ 53 = 9007199254740992 := by decide
    omega
theorem oddE_in {r : Nat} (h0 : 0 < r) (h : r < 9218868437227405312) : -1074 ≤ oddE r ∧ oddE r ≤ 1023 := by
  have := (odd_spec h0).2.2.2
  have := exp_le h
  unfold oddE
  omega

theorem len_one {x k : Nat} (h1 : 2 ^ k ≤ x) (h2 : x < 2 ^ (k + 1)) (hk : k < 64) : Lib.bitLen x = k + 1 := by
  have h3 : x < 2 ^ 64 := Nat.lt_of_lt_of_le h2 (Nat.pow_le_pow_right (by omega) (by omega))
  rw [Lib.bitLen_shift k x h1 h3]
  have hp := Nat.two_pow_pos k
  have : x / 2 ^ k = 1 := by
    rw [Nat.pow_succ] at h2
    refine Nat.div_eq_of_lt_le ?_ ?_
    · omega
    · omega
  rw [this]
  rfl
/-- How many bits the odd number has. -/
theorem odd_len {r : Nat} (h0 : 0 < r) : Lib.bitLen (oddM r) + tzN (magF r) = Lib.bitLen (magF r) := by
  obtain ⟨he, _, _, _⟩ := odd_spec h0
  have h1 := mag_lt r
  have hp := Nat.two_pow_pos (tzN (magF r))
  have h2 : 2 ^ tzN (magF r) ≤ magF r := by
    rw (occs := .pos [2]) [← he]
    exact Nat.le_mul_of_pos_left _ (by have := (odd_spec h0).2.1; omega)
  rw [Lib.bitLen_shift (tzN (magF r)) (magF r) h2 (by omega)]
  unfold oddM
  omega
theorem len_normal {r : Nat} (h : 4503599627370496 ≤ r) : Lib.bitLen (magF r) = 53 := by
  have h1 := mag_lt r
  refine len_one (k := 52) ?_ (by omega) (by omega)
  unfold magF
  rw [if_neg (by omega)]
  omega
theorem len_small {r : Nat} (h : r < 4503599627370496) : Lib.bitLen (magF r) ≤ 52 := by
  refine Lib.bitLen_le _ 52 (by omega) ?_
  unfold magF
  rw [if_pos h]
  exact h

/-- The program's test and its float of a whole number and a power. -/
def fitsL (m : Nat) (e : Int) : Bool := decide (Lib.bitLen m ≤ 53) && decide (-1074 ≤ e) && decide (e ≤ 1024 - (Lib.bitLen m : Int))
def upL (m : Nat) (e : Int) : Nat := min (53 - Lib.bitLen m) (e + 1074).toNat
def joinL (m : Nat) (e : Int) : Nat := ((e + 1074).toNat - upL m e) * 4503599627370496 + m * 2 ^ upL m e
theorem up_odd {r : Nat} (h0 : 0 < r) : upL (oddM r) (oddE r) = tzN (magF r) := by
  have h1 := odd_len h0
  have h2 : (oddE r + 1074).toNat = expF r + tzN (magF r) := by unfold oddE; omega
  unfold upL
  rw [h2]
  by_cases hr : 4503599627370496 ≤ r
  · have := len_normal hr
    omega
  · have := len_small (Nat.lt_of_not_le hr)
    have : expF r = 0 := by unfold expF; omega
    omega
theorem join_odd {r : Nat} (h0 : 0 < r) : joinL (oddM r) (oddE r) = r := by
  have h2 : (oddE r + 1074).toNat = expF r + tzN (magF r) := by unfold oddE; omega
  unfold joinL
  rw [up_odd h0, h2, (odd_spec h0).1, Nat.add_sub_cancel]
  unfold expF magF
  split <;> omega
theorem fits_odd {r : Nat} (h0 : 0 < r) (h : r < 9218868437227405312) : fitsL (oddM r) (oddE r) = true := by
  have h1 := odd_len h0
  have h2 := oddE_in h0 h
  have h3 := exp_le h
  have h4 := (odd_spec h0).2.2.2
  unfold fitsL
  simp only [Bool.and_eq_true, decide_eq_true_eq]
  by_cases hr : 4503599627370496 ≤ r
  · have := len_normal hr
    refine ⟨⟨by omega, h2.1⟩, ?_⟩
    unfold oddE
    omega
  · have := len_small (Nat.lt_of_not_le hr)
    refine ⟨⟨by omega, h2.1⟩, ?_⟩
    have : expF r = 0 := by unfold expF; omega
    unfold oddE
    omega
theorem len_lt {m : Nat} (h : m < 18446744073709551616) : m < 2 ^ Lib.bitLen m := by
  by_cases h0 : m = 0
  · subst h0; exact Nat.two_pow_pos _
  · exact (Lib.bitLenAux_bounds 64 m (by omega) h0).2.2
theorem join_lt {m : Nat} {e : Int} (hm : m < 18446744073709551616) (h : fitsL m e = true) : joinL m e < 9218868437227405312 := by
  unfold fitsL at h
  simp only [Bool.and_eq_true, decide_eq_true_eq] at h
  have h1 := len_lt hm
  have hu : upL m e ≤ 53 - Lib.bitLen m := by unfold upL; omega
  have h2 : m * 2 ^ upL m e < 2 ^ Lib.bitLen m * 2 ^ upL m e := Nat.mul_lt_mul_of_pos_right h1 (Nat.two_pow_pos _)
  have h3 : 2 ^ Lib.bitLen m * 2 ^ upL m e ≤ 2 ^ 53 := by
    rw [← Nat.pow_add]
    exact Nat.pow_le_pow_right (by omega) (by omega)
  have h4 : (2 : Nat) ^ 53 = 9007199254740992 := by decide
  have h5 : (e + 1074).toNat - upL m e ≤ 2045 := by unfold upL; omega
  unfold joinL
  have h6 : ((e + 1074).toNat - upL m e) * 4503599627370496 ≤ 2045 * 4503599627370496 := Nat.mul_le_mul_right _ h5
  omega

/-- What stands before and behind the first mark. -/
def cutP : List UInt8 → Option (List UInt8 × List UInt8)
  | [] => none
  | c :: t => if c = 112 then some ([], t) else (cutP t).map fun x => (c :: x.1, x.2)
theorem cutP_some {r : List UInt8} : ∀ {p : List UInt8}, 112 ∉ p → cutP (p ++ 112 :: r) = some (p, r) := by
  intro p
  induction p with
  | nil => intro _; rfl
  | cons c t ih =>
    intro h
    simp only [List.mem_cons, not_or] at h
    rw [List.cons_append, cutP, if_neg (fun e => h.1 e.symm), ih h.2]
    rfl
theorem cutP_none : ∀ {p : List UInt8}, 112 ∉ p → cutP p = none := by
  intro p
  induction p with
  | nil => intro _; rfl
  | cons c t ih =>
    intro h
    simp only [List.mem_cons, not_or] at h
    rw [cutP, if_neg (fun e => h.1 e.symm), ih h.2]
    rfl
def pairL (p q : List UInt8) : Option Nat :=
  match Lib.parseUintB 64 p, Lib.atoiAll q with
  | .ok m, .ok e => if fitsL m e then some (joinL m e) else none
  | _, _ => none
def productL (t : List UInt8) : Option Nat := (cutP t).bind fun x => pairL x.1 x.2
def readL (s : List UInt8) : Option Nat := if s.head? = some 45 then (productL s.tail).map (· + 9223372036854775808) else productL s
/-- What the program's Parse answers. -/
def progL (s : List UInt8) : Option Nat :=
  if s = [110, 97, 110] then some 9221120237041090561
  else if s = [45, 105, 110, 102] then some 18442240474082181120
  else if s = [45, 48] then some 9223372036854775808
  else if s = [48] then some 0
  else if s = [43, 105, 110, 102] then some 9218868437227405312
  else (readL s).bind fun x => if textF x = s then some x else none

/-- A float as it is handed out: one NaN alone. -/
def Canon (a : Nat) : Prop := a < 18446744073709551616 ∧ (nanF a = true → a = 9221120237041090561)

theorem uint_lt {p : List UInt8} {m : Nat} (h : Lib.parseUintB 64 p = .ok m) : m < 18446744073709551616 := by
  unfold Lib.parseUintB at h
  split at h
  · cases h
  · have := Lib.parseUintM_le _ _ _ _ (Nat.zero_le _) h
    have e : (2 : Nat) ^ 64 = 18446744073709551616 := by decide
    omega
theorem pair_lt {p q : List UInt8} {x : Nat} (h : pairL p q = some x) : x < 9218868437227405312 := by
  unfold pairL at h
  split at h
  · rename_i m e h1 h2
    split at h
    · rename_i hf
      cases h
      exact join_lt (uint_lt h1) hf
    · cases h
  · cases h
theorem product_lt {t : List UInt8} {x : Nat} (h : productL t = some x) : x < 9218868437227405312 := by
  unfold productL at h
  cases hc : cutP t with
  | none => rw [hc] at h; cases h
  | some y => rw [hc] at h; exact pair_lt h
theorem read_lt {s : List UInt8} {x : Nat} (h : readL s = some x) : x < 18446744073709551616 ∧ nanF x = false := by
  unfold readL at h
  split at h
  · cases hp : productL s.tail with
    | none => rw [hp] at h; cases h
    | some y =>
      rw [hp] at h
      obtain rfl : y + 9223372036854775808 = x := Option.some.inj h
      have := product_lt hp
      refine ⟨by omega, ?_⟩
      unfold nanF
      exact decide_eq_false (by omega)
  · have := product_lt h
    refine ⟨by omega, ?_⟩
    unfold nanF
    exact decide_eq_false (by omega)

theorem prog_sound {s : List UInt8} {x : Nat} (h : progL s = some x) : textF x = s ∧ Canon x := by
  unfold progL at h
  split at h
  · rename_i e; cases h; subst e; exact ⟨by decide, by decide, fun _ => rfl⟩
  split at h
  · rename_i e; cases h; subst e; exact ⟨by decide, by decide, by decide⟩
  split at h
  · rename_i e; cases h; subst e; exact ⟨by decide, by decide, by decide⟩
  split at h
  · rename_i e; cases h; subst e; exact ⟨by decide, by decide, by decide⟩
  split at h
  · rename_i e; cases h; subst e; exact ⟨by decide, by decide, by decide⟩
  cases hr : readL s with
  | none => rw [hr] at h; cases h
  | some y =>
    rw [hr] at h
    simp only [Option.bind_some] at h
    split at h
    · rename_i ht
      cases h
      have := read_lt hr
      exact ⟨ht, this.1, fun k => by rw [this.2] at k; cases k⟩
    · cases h

theorem body_head (r : Nat) : (bodyF r).head? ≠ some 45 := by
  unfold bodyF
  obtain ⟨c, t, hc, hd⟩ := dec_head (oddM r)
  rw [hc]
  intro e
  have h1 : c = 45 := by simpa using e
  rw [h1] at hd
  exact absurd hd.1 (by decide)
theorem body_mark (r : Nat) : 112 ∈ bodyF r := by unfold bodyF; simp
theorem product_body {r : Nat} (h0 : 0 < r) (h : r < 9218868437227405312) : productL (bodyF r) = some r := by
  have h1 := oddE_in h0 h
  unfold productL bodyF
  rw [cutP_some (dec_no _ (.inr (by decide)))]
  simp only [Option.bind_some]
  unfold pairL
  rw [uint_dec (by have := (odd_spec h0).2.2.1; omega), atoi_dec (by omega) (by omega)]
  simp only
  rw [if_pos (fits_odd h0 h), join_odd h0]

/-- The cases of a float's text. -/
theorem text_cases {a : Nat} (hc : Canon a) : a = 9221120237041090561 ∨ a = 18442240474082181120 ∨ a = 9223372036854775808 ∨ a = 0 ∨ a = 9218868437227405312 ∨
    (nanF a = false ∧ ∃ r, 0 < r ∧ r < 9218868437227405312 ∧ a % 9223372036854775808 = r ∧ ((a = r ∧ textF a = bodyF r) ∨ (a = r + 9223372036854775808 ∧ textF a = 45 :: bodyF r))) := by
  obtain ⟨hl, hn⟩ := hc
  by_cases n : nanF a = true
  · exact .inl (hn n)
  have n' : ¬ (9218868437227405312 < a % 9223372036854775808) := fun h => n (decide_eq_true h)
  rw [Bool.not_eq_true] at n
  have hg := neg_iff hl
  by_cases hi : a % 9223372036854775808 = 9218868437227405312
  · omega
  by_cases hz : a % 9223372036854775808 = 0
  · omega
  refine .inr (.inr (.inr (.inr (.inr ⟨n, a % 9223372036854775808, by omega, by omega, rfl, ?_⟩))))
  have ht : textF a = if negF a then 45 :: bodyF (a % 9223372036854775808) else bodyF (a % 9223372036854775808) := by
    unfold textF
    rw [n, if_neg hi, if_neg hz]
    simp
  rw [ht, hg]
  by_cases k : 9223372036854775808 ≤ a
  · rw [decide_eq_true k]
    exact .inr ⟨by omega, by simp⟩
  · rw [decide_eq_false k]
    exact .inl ⟨by omega, by simp⟩

theorem no_mark {s t : List UInt8} (h : 112 ∈ s) (k : 112 ∉ t) : ¬ (s = t) := fun e => k (e ▸ h)
theorem prog_full {a : Nat} (hc : Canon a) : progL (textF a) = some a := by
  rcases text_cases hc with rfl | rfl | rfl | rfl | rfl | ⟨hn, r, h0, h1, hr, h | h⟩
  · decide
  · decide
  · decide
  · decide
  · decide
  · have hm : 112 ∈ textF a := by rw [h.2]; exact body_mark r
    unfold progL
    rw [if_neg (no_mark hm (by decide)), if_neg (no_mark hm (by decide)), if_neg (no_mark hm (by decide)), if_neg (no_mark hm (by decide)), if_neg (no_mark hm (by decide))]
    have hd : readL (textF a) = some a := by
      unfold readL
      rw [h.2, if_neg (body_head r), product_body h0 h1, h.1]
    rw [hd]
    simp
  · have hm : 112 ∈ textF a := by rw [h.2]; exact List.mem_cons_of_mem _ (body_mark r)
    unfold progL
    rw [if_neg (no_mark hm (by decide)), if_neg (no_mark hm (by decide)), if_neg (no_mark hm (by decide)), if_neg (no_mark hm (by decide)), if_neg (no_mark hm (by decide))]
    have hd : readL (textF a) = some a := by
      unfold readL
      rw [h.2, if_pos (show (45 :: bodyF r).head? = some 45 from rfl), List.tail_cons, product_body h0 h1, h.1]
      rfl
    rw [hd]
    simp

/-- The page's float of an odd number and a power. -/
def madeL (m : Nat) (e : Int) : Option Nat :=
  if e < -1074 ∨ 1023 < e + (Lib.bitLen m : Int) - 1 then none
  else if e + (Lib.bitLen m : Int) - 1 < -1022 then some (m * 2 ^ (e + 1074).toNat)
  else some (m * 2 ^ (53 - Lib.bitLen m) % 4503599627370496 + (e + (Lib.bitLen m : Int) + 1022).toNat * 4503599627370496)
/-- The page's number of the text behind its sign: the parts, the whole number, the power. -/
def powL (q : List UInt8) : List UInt8 := if q.head? = some 45 then q.tail else q
def expL (q : List UInt8) : Int := if q.head? = some 45 then -(valN (powL q) : Int) else (valN (powL q) : Int)
def goodL (p q : List UInt8) : Bool := okV p && okV (powL q) && decide (1 ≤ valN p) && decide (valN p < 9007199254740992) && decide (valN p % 2 = 1) && decide (valN (powL q) ≤ 2000)
def partsL (w : List UInt8) : Option Nat :=
  match splitB 112 w with
  | [p, q] => if goodL p q then madeL (valN p) (expL q) else none
  | _ => none
def pageL (s : List UInt8) : Option Nat :=
  if s = [110, 97, 110] then some 9221120237041090561
  else if s = [45, 105, 110, 102] then some 18442240474082181120
  else if s = [43, 105, 110, 102] then some 9218868437227405312
  else if s = [45, 48] then some 9223372036854775808
  else if s = [48] then some 0
  else ((if s.head? = some 45 then (partsL s.tail).map (· + 9223372036854775808) else partsL s)).bind fun x => if textF x = s then some x else none

theorem made_odd {r : Nat} (h0 : 0 < r) (h : r < 9218868437227405312) : madeL (oddM r) (oddE r) = some r := by
  have h1 := odd_len h0
  have h2 := oddE_in h0 h
  have h3 := exp_le h
  have h4 := (odd_spec h0).2.2.2
  have h5 := (odd_spec h0).1
  unfold madeL
  by_cases hr : 4503599627370496 ≤ r
  · have hl := len_normal hr
    have h6 : oddE r + (Lib.bitLen (oddM r) : Int) = -1074 + (expF r : Int) + 53 := by unfold oddE; omega
    rw [if_neg (by omega), if_neg (by omega), h6, show 53 - Lib.bitLen (oddM r) = tzN (magF r) by omega, h5]
    congr 1
    unfold expF magF
    rw [if_neg (by omega)]
    omega
  · have hl := len_small (Nat.lt_of_not_le hr)
    have h7 : expF r = 0 := by unfold expF; omega
    have h6 : oddE r + (Lib.bitLen (oddM r) : Int) = -1074 + (Lib.bitLen (magF r) : Int) := by unfold oddE; omega
    rw [if_neg (by omega), if_pos (by omega), show (oddE r + 1074).toNat = tzN (magF r) by unfold oddE; omega, h5]
    unfold magF
    rw [if_pos (by omega)]

theorem exp_itoa {z : Int} (h1 : -2000 ≤ z) (h2 : z ≤ 2000) : expL (Lib.itoa z) = z ∧ okV (powL (Lib.itoa z)) = true ∧ valN (powL (Lib.itoa z)) ≤ 2000 ∧ 112 ∉ Lib.itoa z := by
  unfold expL powL Lib.itoa
  by_cases hz : z < 0
  · simp only [if_pos hz, List.head?_cons, if_true, List.tail_cons]
    rw [dec_val]
    refine ⟨by omega, ok_dec (by omega), by omega, ?_⟩
    intro h
    rcases List.mem_cons.1 h with h | h
    · exact absurd h (by decide)
    · exact dec_no _ (.inr (by decide)) h
  · simp only [if_neg hz]
    have hh : ¬ ((Lib.decDigits z.toNat).head? = some 45) := by
      obtain ⟨c, t, hc, hd⟩ := dec_head z.toNat
      rw [hc]
      intro e
      have h1 : c = 45 := by simpa using e
      rw [h1] at hd
      exact absurd hd.1 (by decide)
    simp only [if_neg hh]
    rw [dec_val]
    exact ⟨by omega, ok_dec (by omega), by omega, dec_no _ (.inr (by decide))⟩
theorem parts_body {r : Nat} (h0 : 0 < r) (h : r < 9218868437227405312) : partsL (bodyF r) = some r := by
  have h1 := oddE_in h0 h
  obtain ⟨e1, e2, e3, e4⟩ := exp_itoa (z := oddE r) (by omega) (by omega)
  have ho := odd_spec h0
  unfold partsL bodyF
  rw [split_some (dec_no _ (.inr (by decide))), split_none e4]
  simp only
  have hg : goodL (Lib.decDigits (oddM r)) (Lib.itoa (oddE r)) = true := by
    unfold goodL
    rw [dec_val, ok_dec (by omega), e2, decide_eq_true (show 1 ≤ oddM r by omega), decide_eq_true ho.2.2.1, decide_eq_true ho.2.1, decide_eq_true e3]
    rfl
  rw [if_pos hg, dec_val, e1, made_odd h0 h]
theorem page_full {a : Nat} (hc : Canon a) : pageL (textF a) = some a := by
  rcases text_cases hc with rfl | rfl | rfl | rfl | rfl | ⟨hn, r, h0, h1, hr, h | h⟩
  · decide
  · decide
  · decide
  · decide
  · decide
  · have hm : 112 ∈ textF a := by rw [h.2]; exact body_mark r
    unfold pageL
    rw [if_neg (no_mark hm (by decide)), if_neg (no_mark hm (by decide)), if_neg (no_mark hm (by decide)), if_neg (no_mark hm (by decide)), if_neg (no_mark hm (by decide))]
    rw [if_neg (by rw [h.2]; exact body_head r)]
    have hp : partsL (textF a) = some a := by rw [h.2, parts_body h0 h1, h.1]
    rw [hp]
    simp
  · have hm : 112 ∈ textF a := by rw [h.2]; exact List.mem_cons_of_mem _ (body_mark r)
    unfold pageL
    rw [if_neg (no_mark hm (by decide)), if_neg (no_mark hm (by decide)), if_neg (no_mark hm (by decide)), if_neg (no_mark hm (by decide)), if_neg (no_mark hm (by decide))]
    rw [if_pos (by rw [h.2]; rfl)]
    have hp : (partsL (textF a).tail).map (· + 9223372036854775808) = some a := by rw [h.2, List.tail_cons, parts_body h0 h1, h.1]; rfl
    rw [hp]
    simp

theorem made_lt {m : Nat} {e : Int} {x : Nat} (hm : m < 9007199254740992) (hb : Lib.bitLen m ≤ 53) (h : madeL m e = some x) : x < 9218868437227405312 := by
  unfold madeL at h
  split at h
  · cases h
  · rename_i h1
    split at h
    · rename_i h2
      cases h
      have h3 := len_lt (m := m) (by omega)
      have h4 : m * 2 ^ (e + 1074).toNat < 2 ^ Lib.bitLen m * 2 ^ (e + 1074).toNat := Nat.mul_lt_mul_of_pos_right h3 (Nat.two_pow_pos _)
      have h5 : 2 ^ Lib.bitLen m * 2 ^ (e + 1074).toNat ≤ 2 ^ 53 := by
        rw [← Nat.pow_add]
        exact Nat.pow_le_pow_right (by omega) (by omega)
      have h6 : (2 : Nat) ^ 53 = 9007199254740992 := by decide
      omega
    · cases h
      omega
theorem parts_lt {w : List UInt8} {x : Nat} (h : partsL w = some x) : x < 9218868437227405312 := by
  unfold partsL at h
  split at h
  · split at h
    · rename_i hg
      unfold goodL at hg
      simp only [Bool.and_eq_true, decide_eq_true_eq] at hg
      have hv := hg.1.1.2
      exact made_lt hv (Lib.bitLen_le _ 53 (by omega) (by omega)) h
    · cases h
  · cases h
theorem page_sound {s : List UInt8} {x : Nat} (h : pageL s = some x) : textF x = s ∧ Canon x := by
  unfold pageL at h
  split at h
  · rename_i e; cases h; subst e; exact ⟨by decide, by decide, fun _ => rfl⟩
  split at h
  · rename_i e; cases h; subst e; exact ⟨by decide, by decide, by decide⟩
  split at h
  · rename_i e; cases h; subst e; exact ⟨by decide, by decide, by decide⟩
  split at h
  · rename_i e; cases h; subst e; exact ⟨by decide, by decide, by decide⟩
  split at h
  · rename_i e; cases h; subst e; exact ⟨by decide, by decide, by decide⟩
  have key : ∀ y, (if s.head? = some 45 then (partsL s.tail).map (· + 9223372036854775808) else partsL s) = some y → y < 18446744073709551616 ∧ nanF y = false := by
    intro y hy
    split at hy
    · cases hp : partsL s.tail with
      | none => rw [hp] at hy; cases hy
      | some v =>
        rw [hp] at hy
        obtain rfl : v + 9223372036854775808 = y := Option.some.inj hy
        have := parts_lt hp
        exact ⟨by omega, decide_eq_false (by omega)⟩
    · have := parts_lt hy
      exact ⟨by omega, decide_eq_false (by omega)⟩
  cases hr : (if s.head? = some 45 then (partsL s.tail).map (· + 9223372036854775808) else partsL s) with
  | none => rw [hr] at h; cases h
  | some y =>
    rw [hr] at h
    simp only [Option.bind_some] at h
    split at h
    · rename_i ht
      cases h
      have := key x hr
      exact ⟨ht, this.1, fun k => by rw [this.2] at k; cases k⟩
    · cases h
/-- Both readers answer the same. -/
theorem prog_page (s : List UInt8) : progL s = pageL s := by
  cases h : progL s with
  | some x =>
    obtain ⟨h1, h2⟩ := prog_sound h
    rw [← h1, page_full h2]
  | none =>
    cases k : pageL s with
    | none => rfl
    | some y =>
      obtain ⟨h1, h2⟩ := page_sound k
      rw [← h1, prog_full h2] at h
      cases h
/-- The float of a float's text. -/
theorem prog_text {a : Nat} (h : a < 18446744073709551616) : ∃ y, progL (textF a) = some y ∧ eqF y a = true ∧ y < 18446744073709551616 := by
  cases hn : nanF a with
  | false => exact ⟨a, prog_full ⟨h, fun k => by rw [hn] at k; cases k⟩, eq_self a, h⟩
  | true =>
    refine ⟨9221120237041090561, ?_, ?_, by decide⟩
    · have : textF a = [110, 97, 110] := by unfold textF; rw [hn]; rfl
      rw [this]
      decide
    · unfold eqF
      rw [hn, show nanF 9221120237041090561 = true by decide]
      rfl
end Go.Proofs.YtfbkokkpcgmapaaDoor

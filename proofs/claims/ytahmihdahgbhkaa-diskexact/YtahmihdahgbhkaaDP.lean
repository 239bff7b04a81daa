/-
  Plain mathematics of a disk: three files, what was done to each since it was made durable, and a power that goes at a call that was said.
  Conditions: as each theorem states them.
-/
namespace Go.Proofs.Ytahmihdahgbhkaa

/-- A change: a write of b at the place n, or, with no b, a cut behind n bytes. -/
structure Ch where
  n : Nat
  b : Option (List UInt8)
/-- Bytes with a change done to them. -/
def doC (x : List UInt8) (c : Ch) : List UInt8 :=
  match c.b with
  | some b => x.take c.n ++ b ++ x.drop (c.n + b.length)
  | none => x.take c.n
/-- A file: what is durable, and what was done since. -/
structure Fl where
  kept : List UInt8
  done : List Ch
def Fl.now (f : Fl) : List UInt8 := f.done.foldl doC f.kept
/-- The power: off (none); on, without an end (some none); on, and so many calls that count go on (some (some k)). -/
abbrev Pw := Option (Option Nat)
/-- A call that counts. -/
def tickP : Pw → Pw
  | none => none
  | some none => some none
  | some (some 0) => none
  | some (some (k + 1)) => some (some k)
def deadP (p : Pw) : Bool := p.isNone
/-- It shall go just ahead of the n-th call that counts. -/
def setP (n : Int) (p : Pw) : Pw := if p.isNone then none else if n < 1 then none else some (some (n - 1).toNat)
structure Dk where
  f : Nat → Fl
  p : Pw
def Dk.put (d : Dk) (n : Nat) (g : Fl) : Dk := ⟨fun m => if m = n then g else d.f m, d.p⟩
theorem Dk.put_same (d : Dk) (n : Nat) (g : Fl) : (d.put n g).f n = g := by simp [Dk.put]
theorem Dk.put_else (d : Dk) {n m : Nat} (g : Fl) (h : m ≠ n) : (d.put n g).f m = d.f m := by simp [Dk.put, h]
theorem Dk.put_p (d : Dk) (n : Nat) (g : Fl) : (d.put n g).p = d.p := rfl
theorem tickP_none : tickP none = none := rfl
theorem tickP_on : tickP (some none) = some none := rfl
theorem tickP_zero : tickP (some (some 0)) = none := rfl
theorem tickP_succ (k : Nat) : tickP (some (some (k + 1))) = some (some k) := rfl
theorem setP_dead (n : Int) : setP n none = none := rfl
theorem setP_low {n : Int} (h : n < 1) (p : Pw) : setP n p = none := by
  unfold setP
  rw [if_pos h, ite_self]
theorem setP_on {n : Int} (h : 1 ≤ n) (q : Option Nat) : setP n (some q) = some (some (n - 1).toNat) := by
  unfold setP
  simp [show ¬n < 1 by omega]
/-- Which files there are. -/
def fileOk (n : Int) : Bool := decide (0 ≤ n) && decide (n ≤ 2)
theorem fileOk_iff {n : Int} : fileOk n = true ↔ 0 ≤ n ∧ n ≤ 2 := by
  unfold fileOk
  rw [Bool.and_eq_true, decide_eq_true_eq, decide_eq_true_eq]

theorem now_nil (x : List UInt8) : (Fl.mk x []).now = x := rfl
theorem now_more (f : Fl) (c : Ch) : (Fl.mk f.kept (f.done ++ [c])).now = doC f.now c := by
  simp [Fl.now, List.foldl_append]
theorem doC_wr (x : List UInt8) (n : Nat) (b : List UInt8) : doC x ⟨n, some b⟩ = x.take n ++ b ++ x.drop (n + b.length) := rfl
theorem doC_cu (x : List UInt8) (n : Nat) : doC x ⟨n, none⟩ = x.take n := rfl
theorem doC_wr_end (x b : List UInt8) : doC x ⟨x.length, some b⟩ = x ++ b := by
  simp [doC, List.drop_of_length_le (show x.length ≤ x.length + b.length by omega)]
theorem doC_len (x : List UInt8) (n : Nat) (b : List UInt8) (h : n ≤ x.length) : (doC x ⟨n, some b⟩).length = max x.length (n + b.length) := by
  simp only [doC, List.length_append, List.length_take, List.length_drop]
  omega
theorem doC_cut_len (x : List UInt8) (k : Nat) (h : k ≤ x.length) : (doC x ⟨k, none⟩).length = k := by
  simp [doC, h]

/-- A change that may be done to bytes. -/
def fitC (x : List UInt8) (c : Ch) : Prop :=
  c.n ≤ x.length ∧ ∀ b, c.b = some b → c.n + b.length ≤ 4194304
/-- Changes that may be done one behind the other. -/
def fitL : List UInt8 → List Ch → Prop
  | _, [] => True
  | x, c :: r => fitC x c ∧ fitL (doC x c) r
theorem fitL_more : ∀ {l : List Ch} {x : List UInt8} {c : Ch}, fitL x l → fitC (l.foldl doC x) c → fitL x (l ++ [c]) := by
  intro l
  induction l with
  | nil => intro x c _ h; exact ⟨h, trivial⟩
  | cons a r ih => intro x c h hc; exact ⟨h.1, ih h.2 hc⟩
theorem fitL_at : ∀ {l : List Ch} {x : List UInt8} (_ : fitL x l) (i : Nat) (hi : i < l.length), fitC ((l.take i).foldl doC x) l[i] := by
  intro l
  induction l with
  | nil => intro x _ i hi; exact absurd hi (by simp)
  | cons a r ih =>
    intro x h i hi
    cases i with
    | zero => exact h.1
    | succ i =>
      have := ih h.2 i (by simpa using hi)
      simpa [List.take_succ_cons, List.foldl_cons] using this
theorem fitC_len {x : List UInt8} {c : Ch} (hx : x.length ≤ 4194304) (h : fitC x c) : (doC x c).length ≤ 4194304 := by
  obtain ⟨n, b⟩ := c
  cases b with
  | none => rw [doC_cut_len x n h.1]; exact Nat.le_trans h.1 hx
  | some b =>
    rw [doC_len x n b h.1]
    have := h.2 b rfl
    simp only at this
    omega
theorem fitL_len : ∀ {l : List Ch} {x : List UInt8} (_ : x.length ≤ 4194304) (_ : fitL x l) (i : Nat), ((l.take i).foldl doC x).length ≤ 4194304 := by
  intro l
  induction l with
  | nil => intro x hx _ i; simpa using hx
  | cons a r ih =>
    intro x hx h i
    cases i with
    | zero => simpa using hx
    | succ i =>
      rw [List.take_succ_cons, List.foldl_cons]
      exact ih (fitC_len hx h.1) h.2 i

/-- The next pick, and those behind it. -/
def pickC (l : List Int) (n : Nat) : Nat := ((l.headD 0) % (n : Int)).toNat
theorem pickC_lt (l : List Int) {n : Nat} (h : 0 < n) : pickC l n < n := by
  unfold pickC
  have h1 := Int.emod_nonneg (l.headD 0) (show (n : Int) ≠ 0 by omega)
  have h2 := Int.emod_lt_of_pos (l.headD 0) (show (0 : Int) < n by omega)
  omega
theorem pickC_nil (n : Nat) : pickC [] n = 0 := by simp [pickC]
theorem pickC_drop (l : List Int) (k n : Nat) : pickC (l.drop k) n = if h : k < l.length then (l[k] % (n : Int)).toNat else 0 := by
  unfold pickC
  split
  · next h => rw [List.drop_eq_getElem_cons h]; rfl
  · next h => rw [List.drop_eq_nil_of_le (by omega)]; simp
/-- What a crash leaves of a file, and how many picks it takes. -/
def crashF (f : Fl) (l : List Int) : List UInt8 × Nat :=
  let p := pickC l (f.done.length + 1)
  let x := (f.done.take p).foldl doC f.kept
  match f.done[p]? with
  | some ⟨n, some b⟩ => (doC x ⟨n, some (b.take (pickC (l.drop 1) (b.length + 1)))⟩, 2)
  | _ => (x, 1)
def crashD (d : Dk) (l : List Int) : List (List UInt8) :=
  let a := crashF (d.f 0) l
  let b := crashF (d.f 1) (l.drop a.2)
  let c := crashF (d.f 2) (l.drop (a.2 + b.2))
  [a.1, b.1, c.1]
theorem crashD_len (d : Dk) (l : List Int) : (crashD d l).length = 3 := rfl
theorem crashF_synced (x : List UInt8) (l : List Int) : crashF ⟨x, []⟩ l = (x, 1) := by
  simp [crashF]
/-- What a crash leaves is a file that may be. -/
theorem crashF_len {f : Fl} (hk : f.kept.length ≤ 4194304) (h : fitL f.kept f.done) (l : List Int) : (crashF f l).1.length ≤ 4194304 := by
  unfold crashF
  simp only []
  generalize hp : pickC l (f.done.length + 1) = p
  have hx := fitL_len hk h p
  cases hd : f.done[p]? with
  | none => exact hx
  | some c =>
    obtain ⟨hi, hc⟩ := List.getElem?_eq_some_iff.1 hd
    have hf := fitL_at h p hi
    rw [hc] at hf
    obtain ⟨n, b⟩ := c
    cases b with
    | none => exact hx
    | some b =>
      refine fitC_len (c := ⟨n, some (b.take (pickC (l.drop 1) (b.length + 1)))⟩) hx ⟨hf.1, fun b' e => ?_⟩
      cases e
      have := hf.2 b rfl
      simp only [List.length_take] at *
      omega

/-- The bytes that count on from a number. -/
def seqB (a n : Nat) : List UInt8 := (List.range n).map fun k => UInt8.ofNat (a + k)
theorem seqB_len (a n : Nat) : (seqB a n).length = n := by simp [seqB]
theorem seqB_zero (a : Nat) : seqB a 0 = [] := rfl
theorem seqB_app (a n m : Nat) : seqB a n ++ seqB (a + n) m = seqB a (n + m) := by
  unfold seqB
  rw [List.range_add, List.map_append, List.map_map]
  congr 1
  exact List.map_congr_left fun k _ => by simp [Function.comp, Nat.add_assoc]
theorem seqB_take (a n k : Nat) : (seqB a n).take k = seqB a (min k n) := by
  unfold seqB
  rw [← List.map_take, List.take_range]
theorem seqB_at (a n k : Nat) (h : k < n) : (seqB a n)[k]'(by rw [seqB_len]; exact h) = UInt8.ofNat (a + k) := by simp [seqB]
/-- Changes that write on, each at the end of what was there. -/
def Grows : Nat → List Ch → Nat → Prop
  | a, [], c => a = c
  | a, x :: r, c => x.n = a ∧ ∃ k, x.b = some (seqB a k) ∧ Grows (a + k) r c
theorem grows_le : ∀ {l : List Ch} {a c : Nat}, Grows a l c → a ≤ c := by
  intro l
  induction l with
  | nil => intro a c h; exact Nat.le_of_eq h
  | cons x r ih =>
    intro a c h
    obtain ⟨_, k, _, hr⟩ := h
    have := ih hr
    omega
theorem grows_more : ∀ {l : List Ch} {a c : Nat} (k : Nat), Grows a l c → Grows a (l ++ [⟨c, some (seqB c k)⟩]) (c + k) := by
  intro l
  induction l with
  | nil => intro a c k h; cases h; exact ⟨rfl, k, rfl, rfl⟩
  | cons x r ih =>
    intro a c k h
    obtain ⟨h1, j, h2, hr⟩ := h
    exact ⟨h1, j, h2, ih k hr⟩
theorem doC_seq (n k : Nat) : doC (seqB 0 n) ⟨n, some (seqB n k)⟩ = seqB 0 (n + k) := by
  have h := doC_wr_end (seqB 0 n) (seqB n k)
  rw [seqB_len] at h
  rw [h]
  have h2 := seqB_app 0 n k
  rwa [Nat.zero_add] at h2
theorem grows_part : ∀ {l : List Ch} {a c : Nat} (p : Nat), Grows a l c → ∃ m, a ≤ m ∧ m ≤ c ∧ (l.take p).foldl doC (seqB 0 a) = seqB 0 m ∧ Grows m (l.drop p) c := by
  intro l
  induction l with
  | nil => intro a c p h; cases h; exact ⟨a, Nat.le_refl _, Nat.le_refl _, by simp, by simp [Grows]⟩
  | cons x r ih =>
    intro a c p h
    cases p with
    | zero => exact ⟨a, Nat.le_refl _, grows_le h, rfl, h⟩
    | succ p =>
      obtain ⟨n, b⟩ := x
      obtain ⟨h1, k, h2, hr⟩ := h
      simp only at h1 h2
      subst h1 h2
      obtain ⟨m, m1, m2, m3, m4⟩ := ih p hr
      refine ⟨m, by omega, m2, ?_, m4⟩
      rw [List.take_succ_cons, List.foldl_cons, doC_seq]
      exact m3
/-- All of such changes done. -/
theorem grows_now {l : List Ch} {a c : Nat} (h : Grows a l c) : l.foldl doC (seqB 0 a) = seqB 0 c := by
  obtain ⟨m, _, _, m3, m4⟩ := grows_part l.length h
  rw [List.take_length] at m3
  rw [List.drop_length] at m4
  cases m4
  exact m3
/-- Such a file, whatever a crash leaves of it: the bytes that count on, from what was durable to all. -/
theorem grows_crash {f : Fl} {a c : Nat} (hk : f.kept = seqB 0 a) (h : Grows a f.done c) (l : List Int) : ∃ m, a ≤ m ∧ m ≤ c ∧ (crashF f l).1 = seqB 0 m := by
  obtain ⟨m, m1, m2, m3, m4⟩ := grows_part (pickC l (f.done.length + 1)) h
  unfold crashF
  simp only []
  rw [hk, m3]
  generalize pickC l (f.done.length + 1) = p at *
  cases hd : f.done[p]? with
  | none => exact ⟨m, m1, m2, rfl⟩
  | some x =>
    obtain ⟨hp, hx⟩ := List.getElem?_eq_some_iff.1 hd
    rw [List.drop_eq_getElem_cons hp, hx] at m4
    obtain ⟨n, b⟩ := x
    obtain ⟨h1, k, h2, hr⟩ := m4
    simp only at h1 h2
    subst h1 h2
    have hle := grows_le hr
    simp only [seqB_len, seqB_take]
    generalize pickC (l.drop 1) (k + 1) = q
    exact ⟨n + min q k, by omega, by omega, doC_seq n (min q k)⟩
end Go.Proofs.Ytahmihdahgbhkaa

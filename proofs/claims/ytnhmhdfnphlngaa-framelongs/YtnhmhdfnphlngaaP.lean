/-
  The plain mathematics of package frame: what a framer is, what one byte makes of a reader, what a stream of bytes makes of it; no program in it.
  No condition beyond those that each theorem states.
-/
import Derived.Lib.IndexMore
namespace Go.Proofs.Ytnhmhdfnphlngaa
open Go.Lib

/-- May a framer with these bytes and this mark be? -/
def validL (l : List UInt8) (k : Bool) : Bool := if k then (l == [] || l == [13]) else decide (l.length < 512) && !Lib.contains l [13, 10]

/-- What is kept of a line that is passed over. -/
def tailB (c : UInt8) : List UInt8 := if c = 13 then [13] else []

/-- A reader: its rest, its mark, the lines that it has told. -/
structure Rd where
  rest : List UInt8
  skip : Bool
  lines : List (List UInt8 × Bool)

def endsCR (l : List UInt8) : Bool := l.getLast? == some 13

/-- What one byte makes of a reader. -/
def Rd.take (r : Rd) (c : UInt8) : Rd :=
  if c = 10 ∧ endsCR r.rest = true then ⟨[], false, r.lines ++ [(r.rest.dropLast, r.skip)]⟩
  else if r.skip || decide (512 ≤ r.rest.length + 1) then ⟨tailB c, true, r.lines⟩ else ⟨r.rest ++ [c], false, r.lines⟩

def Rd.feed (r : Rd) (x : List UInt8) : Rd := x.foldl Rd.take r

theorem Rd.feed_snoc (r : Rd) (x : List UInt8) (c : UInt8) : r.feed (x ++ [c]) = (r.feed x).take c := by simp [Rd.feed]
theorem Rd.feed_append (r : Rd) (x y : List UInt8) : r.feed (x ++ y) = (r.feed x).feed y := by simp [Rd.feed]

theorem least (p : Nat → Bool) : ∀ i, p i = true → ∃ j, j ≤ i ∧ p j = true ∧ ∀ k, k < j → p k = false := by
  intro i
  induction i using Nat.strongRecOn with
  | ind i ih =>
    intro h
    rcases Classical.em (∃ k, k < i ∧ p k = true) with ⟨k, hk, hp⟩ | hn
    · obtain ⟨j, hj, h1, h2⟩ := ih k hk hp
      exact ⟨j, by omega, h1, h2⟩
    · exact ⟨i, Nat.le_refl _, h, fun k hk => by
        cases hp : p k with
        | false => rfl
        | true => exact absurd ⟨k, hk, hp⟩ hn⟩

/-- The places of a CRLF. -/
theorem occ_iff (l : List UInt8) (i : Nat) : Lib.occAt l [13, 10] i = true ↔ l[i]? = some (13 : UInt8) ∧ l[i + 1]? = some (10 : UInt8) := by
  unfold Lib.occAt
  have h1 : l[i]? = (l.drop i)[0]? := by simp
  have h2 : l[i + 1]? = (l.drop i)[1]? := by simp
  rw [h1, h2]
  rcases l.drop i with _ | ⟨a, _ | ⟨b, t⟩⟩ <;> simp [List.isPrefixOf] <;> grind

theorem contains_iff (l : List UInt8) : Lib.contains l [13, 10] = true ↔ ∃ i : Nat, l[i]? = some (13 : UInt8) ∧ l[i + 1]? = some (10 : UInt8) := by
  constructor
  · intro h
    rcases Classical.em (∃ i : Nat, l[i]? = some (13 : UInt8) ∧ l[i + 1]? = some (10 : UInt8)) with he | he
    · exact he
    · exfalso
      have : Lib.index l [13, 10] = -1 := Lib.index_none fun j _ => by
        cases ho : Lib.occAt l [13, 10] j with
        | false => rfl
        | true => exact absurd ⟨j, (occ_iff l j).1 ho⟩ he
      simp [Lib.contains, this] at h
  · rintro ⟨i, hi⟩
    obtain ⟨j, _, h1, h2⟩ := least (Lib.occAt l [13, 10]) i ((occ_iff l i).2 hi)
    have hj := ((occ_iff l j).1 h1).1
    have hlt : j < l.length := by
      rcases Nat.lt_or_ge j l.length with h | h
      · exact h
      · rw [List.getElem?_eq_none h] at hj; cases hj
    have := Lib.index_hit (s := l) (sub := [13, 10]) h2 (Nat.le_of_lt hlt) h1
    simp [Lib.contains, this]

/-- The page's own step, and the program's: one, where the framer may be. -/
def Rd.page (r : Rd) (c : UInt8) : Rd :=
  if r.skip then (if r.rest = [13] ∧ c = 10 then ⟨[], false, r.lines ++ [([], true)]⟩ else ⟨tailB c, true, r.lines⟩)
  else if c = 10 ∧ endsCR r.rest = true then ⟨[], false, r.lines ++ [(r.rest.dropLast, false)]⟩
  else if 512 ≤ r.rest.length + 1 then ⟨tailB c, true, r.lines⟩ else ⟨r.rest ++ [c], false, r.lines⟩

/-- A reader whose rest is short, and that has just a last 13 of a line that is passed over. -/
def Rd.ok (r : Rd) : Prop := r.rest.length < 512 ∧ (r.skip = true → r.rest = [] ∨ r.rest = [13])

theorem tailB_ok (c : UInt8) (ls : List (List UInt8 × Bool)) : Rd.ok ⟨tailB c, true, ls⟩ := by
  unfold Rd.ok tailB
  split <;> simp

theorem Rd.ok_take (r : Rd) (c : UInt8) : (r.take c).ok := by
  unfold Rd.take
  split
  · simp [Rd.ok]
  · split
    · exact tailB_ok c _
    · rename_i h2
      simp only [Bool.or_eq_true, decide_eq_true_eq, not_or] at h2
      exact ⟨by simp; omega, fun h => by simp at h⟩

theorem Rd.ok_feed {r : Rd} (h : r.ok) (x : List UInt8) : (r.feed x).ok := by
  unfold Rd.feed
  induction x generalizing r with
  | nil => exact h
  | cons c x ih => exact ih (Rd.ok_take r c)

theorem Rd.page_take {r : Rd} (h : r.ok) (c : UInt8) : r.page c = r.take c := by
  unfold Rd.page Rd.take
  cases hk : r.skip with
  | false =>
    simp only [Bool.false_eq_true, if_false, Bool.false_or, decide_eq_true_eq]
  | true =>
    simp only [if_true, Bool.true_or]
    rcases h.2 hk with e | e
    · simp [e, endsCR]
    · by_cases hc : c = 10 <;> simp [e, endsCR, hc]

/-- Each byte tells at most one line. -/
theorem Rd.lines_take (r : Rd) (c : UInt8) : (r.take c).lines.length ≤ r.lines.length + 1 := by
  unfold Rd.take
  split
  · simp
  · split <;> simp

theorem Rd.lines_feed (r : Rd) (x : List UInt8) : (r.feed x).lines.length ≤ r.lines.length + x.length := by
  unfold Rd.feed
  induction x generalizing r with
  | nil => simp
  | cons c x ih =>
    have h1 := ih (r.take c)
    have h2 := r.lines_take c
    simp only [List.foldl_cons, List.length_cons]
    omega

/-- The reader that a framer is. -/
def Rd.of (l : List UInt8) (k : Bool) : Rd := ⟨l, k, []⟩

theorem Rd.ok_of {l : List UInt8} {k : Bool} (h : validL l k = true) : (Rd.of l k).ok := by
  unfold validL at h
  unfold Rd.of Rd.ok
  cases k with
  | false =>
    simp only [Bool.false_eq_true, if_false, Bool.and_eq_true, decide_eq_true_eq] at h
    exact ⟨h.1, fun h => by cases h⟩
  | true =>
    simp only [if_true, Bool.or_eq_true, beq_iff_eq] at h
    rcases h with h | h <;> simp [h]
end Go.Proofs.Ytnhmhdfnphlngaa

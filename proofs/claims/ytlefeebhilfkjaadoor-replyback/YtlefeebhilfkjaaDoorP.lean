/-
  Plain mathematics of replies as lines: what a line is, what a list of lines is, how a reply is sent.
  No condition beyond those that each theorem states.
-/
import Derived.Test.YtlefeebhilfkjaaDoorRows
namespace Go.Proofs.YtlefeebhilfkjaaDoor

/-- A byte that may stand in a line's text. -/
def okB (c : UInt8) : Bool := decide (32 ≤ c.toNat) && decide (c.toNat ≤ 126)
/-- A text that may stand in a line. -/
def textOk (s : List UInt8) : Bool := decide (s.length ≤ 506) && s.all okB
/-- A decimal digit. -/
def digB (c : UInt8) : Bool := decide (48 ≤ c.toNat) && decide (c.toNat ≤ 57)
/-- A code that may be. -/
def codeOk (n : Int) : Bool := decide (200 ≤ n) && decide (n ≤ 599)

/-- The number that three digits write. -/
def cod (a b c : UInt8) : Nat := 100 * (a.toNat - 48) + 10 * (b.toNat - 48) + (c.toNat - 48)

/-- Three bytes that are a code. -/
def codB (a b c : UInt8) : Bool := digB a && digB b && digB c && decide (50 ≤ a.toNat) && decide (a.toNat ≤ 53)

/-- What follows a line's code. -/
def restL (n : Nat) : List UInt8 → Option (Nat × Bool × List UInt8)
  | [] => some (n, false, [])
  | g :: u => if (g = 45 ∨ g = 32) ∧ textOk u = true then some (n, decide (g = 45), u) else none

/-- A line taken apart: its code, whether another one follows, its text. -/
def lineL : List UInt8 → Option (Nat × Bool × List UInt8)
  | a :: b :: c :: t => if codB a b c = true then restL (cod a b c) t else none
  | _ => none

/-- What lines are: an error's number, a code, texts. -/
structure Res where
  err : Int
  code : Nat
  rows : List (List UInt8)

def Res.form : Res := ⟨1, 0, []⟩
def Res.cut : Res := ⟨7, 0, []⟩

/-- Lines read one by one, behind what has been read. -/
def goL (more : Bool) (code : Nat) (acc : List (List UInt8)) : List (List UInt8) → Res
  | [] => if more then .cut else ⟨0, code, acc⟩
  | s :: t => match lineL s with
    | none => .form
    | some (c, m, x) => if more = false ∨ (acc ≠ [] ∧ c ≠ code) then .form else goL m c (acc ++ [x]) t

/-- The same as the page reads them: just the last line may have no other behind it. -/
def pgL (more : Bool) (code : Nat) (acc : List (List UInt8)) : List (List UInt8) → Res
  | [] => if more then .cut else ⟨0, code, acc⟩
  | s :: t => match lineL s with
    | none => .form
    | some (c, m, x) => if (m = false ∧ t ≠ []) ∨ (acc ≠ [] ∧ c ≠ code) then .form else pgL m c (acc ++ [x]) t

/-- What a list of lines is. -/
def parseL (l : List (List UInt8)) : Res := if l.length ≤ 16 then goL true 0 [] l else .form

theorem go_false (code : Nat) (acc : List (List UInt8)) (s : List UInt8) (t : List (List UInt8)) : goL false code acc (s :: t) = .form := by
  rw [goL]
  split
  · rfl
  · rw [if_pos (.inl rfl)]

theorem go_page (l : List (List UInt8)) : ∀ (code : Nat) (acc : List (List UInt8)), goL true code acc l = pgL true code acc l := by
  induction l with
  | nil => intro _ _; rfl
  | cons s t ih =>
    intro code acc
    rw [goL, pgL]
    cases h : lineL s with
    | none => rfl
    | some r =>
      obtain ⟨c, m, x⟩ := r
      show (if true = false ∨ (acc ≠ [] ∧ c ≠ code) then Res.form else goL m c (acc ++ [x]) t) = _
      by_cases hc : acc ≠ [] ∧ c ≠ code
      · rw [if_pos (.inr hc)]
        show _ = (if (m = false ∧ t ≠ []) ∨ (acc ≠ [] ∧ c ≠ code) then Res.form else pgL m c (acc ++ [x]) t)
        rw [if_pos (.inr hc)]
      · rw [if_neg (by simp only [not_or]; exact ⟨by simp, hc⟩)]
        show _ = (if (m = false ∧ t ≠ []) ∨ (acc ≠ [] ∧ c ≠ code) then Res.form else pgL m c (acc ++ [x]) t)
        cases m with
        | true =>
          rw [if_neg (by simp only [not_or]; exact ⟨by simp, hc⟩)]
          exact ih c (acc ++ [x])
        | false =>
          cases t with
          | nil =>
            rw [if_neg (by simp only [not_or]; exact ⟨by simp, hc⟩)]
            rfl
          | cons s' t' =>
            rw [if_pos (.inl ⟨rfl, by simp⟩), go_false]

theorem dig_lt {c : UInt8} (h : digB c = true) : 48 ≤ c.toNat ∧ c.toNat ≤ 57 := by
  simpa [digB] using h

theorem cod_ok {a b c : UInt8} (ha : digB a = true) (hb : digB b = true) (hc : digB c = true) : codeOk (cod a b c) = codB a b c := by
  have h1 := dig_lt ha
  have h2 := dig_lt hb
  have h3 := dig_lt hc
  rw [Bool.eq_iff_iff]
  simp only [codB, ha, hb, hc, codeOk, cod, Bool.and_eq_true, decide_eq_true_eq, true_and]
  constructor
  · rintro ⟨h4, h5⟩
    have h4 := of_decide_eq_true h4
    have h5 := of_decide_eq_true h5
    omega
  · rintro ⟨h4, h5⟩
    exact ⟨decide_eq_true (by omega), decide_eq_true (by omega)⟩

theorem cod_lt {a b c : UInt8} (h : codB a b c = true) : 200 ≤ cod a b c ∧ cod a b c ≤ 599 := by
  simp only [codB, Bool.and_eq_true, decide_eq_true_eq] at h
  obtain ⟨⟨⟨⟨h1, h2⟩, h3⟩, h4⟩, h5⟩ := h
  have h1 := dig_lt h1
  have h2 := dig_lt h2
  have h3 := dig_lt h3
  unfold cod
  omega

theorem line_text {s : List UInt8} {c : Nat} {m : Bool} {x : List UInt8} (h : lineL s = some (c, m, x)) : textOk x = true ∧ 200 ≤ c ∧ c ≤ 599 := by
  match s, h with
  | a :: b :: d :: t, h =>
    rw [lineL] at h
    split at h
    · rename_i hc
      have hl := cod_lt hc
      match t, h with
      | [], h =>
        simp only [restL, Option.some.injEq, Prod.mk.injEq] at h
        obtain ⟨rfl, rfl, rfl⟩ := h
        exact ⟨rfl, hl⟩
      | g :: u, h =>
        rw [restL] at h
        split at h
        · rename_i hg
          simp only [Option.some.injEq, Prod.mk.injEq] at h
          obtain ⟨rfl, rfl, rfl⟩ := h
          exact ⟨hg.2, hl⟩
        · cases h
    · cases h

theorem go_len (l : List (List UInt8)) : ∀ (more : Bool) (code : Nat) (acc : List (List UInt8)), (goL more code acc l).rows.length ≤ acc.length + l.length := by
  induction l with
  | nil =>
    intro more code acc
    rw [goL]
    split
    · exact Nat.zero_le _
    · exact Nat.le_refl _
  | cons s t ih =>
    intro more code acc
    rw [goL]
    split
    · exact Nat.zero_le _
    · rename_i c m x _
      split
      · exact Nat.zero_le _
      · have := ih m c (acc ++ [x])
        simp only [List.length_append, List.length_cons, List.length_nil] at this ⊢
        omega

theorem parse_len (l : List (List UInt8)) : (parseL l).rows.length ≤ 16 := by
  unfold parseL
  split
  · have := go_len l true 0 []
    simp only [List.length_nil] at this
    omega
  · exact Nat.zero_le _
end Go.Proofs.YtlefeebhilfkjaaDoor

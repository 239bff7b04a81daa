/-
  What is sent, read line by line, in plain mathematics: the state in which a reader stands at each place, and what it has at the end.
  Conditions: as each theorem states them; no program is run here.
-/
import Derived.Test.YtdebkbocpljkbaaH
namespace Go.Proofs.Ytdebkbocpljkbaa

/-- The lines as they come: each as it was sent, and the last one. -/
def sentPs (rows : List (List UInt8)) : List (List UInt8) := rows.map stRow ++ [[46]]

theorem sentPs_length (rows : List (List UInt8)) : (sentPs rows).length = rows.length + 1 := by simp [sentPs]

/-- At place k of what is sent: the line under way began at fr; idx lines have come. -/
structure Reads (S : List UInt8) (rows : List (List UInt8)) (fr k idx : Nat) : Prop where
  le : fr ≤ k
  top : k ≤ S.length
  one : 1 ≤ k
  few : idx ≤ rows.length + 1
  rest : pieces (curOf S fr k) (S.drop k) = ((sentPs rows).drop idx, [])
  last : fr = k → S[k - 1]? = some 10

theorem sentL_long (rows : List (List UInt8)) : 3 ≤ (sentL rows).length := by simp [sentL]

theorem Reads.start {rows : List (List UInt8)} (h : ∀ r ∈ rows, cleanL r = true) : Reads (sentL rows) rows 0 1 0 where
  le := Nat.zero_le _
  top := by have := sentL_long rows; omega
  one := Nat.le_refl _
  few := Nat.zero_le _
  rest := by
    have hl := sentL_long rows
    have h1 := pieces_sent h
    have h2 : (sentL rows).drop 0 = (sentL rows)[0] :: (sentL rows).drop 1 := List.drop_eq_getElem_cons (by omega)
    rw [List.drop_zero] at h2
    rw [h2, pieces, if_neg (fun h => by have := h.2; simp at this)] at h1
    rw [List.drop_zero]
    have h3 : curOf (sentL rows) 0 1 = [] ++ [(sentL rows)[0]] := by
      rw [cur_snoc (fr := 0) (i := 0) (Nat.le_refl _) (by omega), cur_same]
    rw [h3]
    exact h1
  last := fun h => by omega

section
variable {S : List UInt8} {rows : List (List UInt8)} {fr k idx : Nat}

/-- The place k ends a line just if 10 stands there behind 13. -/
theorem Reads.ends (h : Reads S rows fr k idx) (hk : k < S.length) : endsL (curOf S fr k) S[k] ↔ S[k] = 10 ∧ S[k - 1]'(by omega) = 13 := by
  rw [cur_ends h.le hk]
  refine ⟨fun e => ⟨e.1, e.2.2⟩, fun e => ⟨e.1, fun hf => ?_, e.2⟩⟩
  have h1 := h.last hf.symm
  rw [List.getElem?_eq_getElem (by omega), e.2] at h1
  exact absurd h1 (by decide)

theorem Reads.go (h : Reads S rows fr k idx) (hk : k < S.length) (hn : ¬ endsL (curOf S fr k) S[k]) : Reads S rows fr (k + 1) idx where
  le := by have := h.le; omega
  top := hk
  one := by omega
  few := h.few
  rest := by
    have h1 := h.rest
    rw [List.drop_eq_getElem_cons hk, pieces, if_neg hn, ← cur_snoc h.le hk] at h1
    exact h1
  last := fun e => by have := h.le; omega

theorem Reads.line (h : Reads S rows fr k idx) (hk : k < S.length) (he : endsL (curOf S fr k) S[k]) :
    fr < k ∧ idx < rows.length + 1 ∧ (sentPs rows)[idx]? = some (curOf S fr (k - 1)) ∧ Reads S rows (k + 1) (k + 1) (idx + 1) := by
  have hlt : fr < k := by
    have := ((cur_ends h.le hk).1 he).2.1
    have := h.le
    omega
  have h1 := h.rest
  rw [List.drop_eq_getElem_cons hk, pieces, if_pos he, cur_drop hlt (by omega)] at h1
  have h2 := congrArg Prod.fst h1
  have h3 := congrArg Prod.snd h1
  simp only at h2 h3
  have hidx : idx < (sentPs rows).length := by
    rcases Nat.lt_or_ge idx (sentPs rows).length with h' | h'
    · exact h'
    · rw [List.drop_eq_nil_of_le h'] at h2
      cases h2
  rw [List.drop_eq_getElem_cons hidx] at h2
  injection h2 with h4 h5
  refine ⟨hlt, by rw [sentPs_length] at hidx; exact hidx, by rw [List.getElem?_eq_getElem hidx, ← h4], ⟨Nat.le_refl _, hk, by omega, by rw [sentPs_length] at hidx; omega, ?_, fun _ => ?_⟩⟩
  · rw [cur_same, ← h5]
    exact Prod.ext rfl h3
  · rw [Nat.add_sub_cancel, List.getElem?_eq_getElem hk, ((cur_ends h.le hk).1 he).1]

theorem Reads.stop (h : Reads S rows fr S.length idx) : idx = rows.length + 1 ∧ fr = S.length := by
  have h1 := h.rest
  rw [List.drop_length, pieces] at h1
  have h2 := congrArg Prod.fst h1
  have h3 := congrArg Prod.snd h1
  simp only at h2 h3
  have h4 : (sentPs rows).length ≤ idx := List.drop_eq_nil_iff.1 h2.symm
  rw [sentPs_length] at h4
  have h5 := h.few
  refine ⟨by omega, ?_⟩
  unfold curOf at h3
  rw [List.take_of_length_le (by simp), List.drop_eq_nil_iff] at h3
  have := h.le
  omega

/-- What the line that comes is. -/
theorem took_row {p : List UInt8} (hi : idx < rows.length) (hp : (sentPs rows)[idx]? = some p) : takeL p = (rows[idx], false) := by
  have : (sentPs rows)[idx]? = some (stRow rows[idx]) := by
    unfold sentPs
    rw [List.getElem?_append_left (by simpa using hi)]
    simp [hi]
  rw [this] at hp
  cases hp
  exact takeL_row _

theorem took_last {p : List UInt8} (hp : (sentPs rows)[rows.length]? = some p) : takeL p = ([], true) := by
  have : (sentPs rows)[rows.length]? = some [46] := by simp [sentPs]
  rw [this] at hp
  cases hp
  rfl

theorem joinL_snoc (hi : idx < rows.length) : joinL (rows.take (idx + 1)) = joinL (rows.take idx) ++ (rows[idx] ++ [13, 10]) := by
  rw [List.take_add_one, List.getElem?_eq_getElem hi, joinL_append]
  simp [joinL_one]
end

theorem sentL_len (rows : List (List UInt8)) : (joinL rows).length + 3 ≤ (sentL rows).length ∧ (sentL rows).length ≤ 2 * (joinL rows).length + 3 := by
  have := joinL_len rows
  simp [sentL]
  omega
end Go.Proofs.Ytdebkbocpljkbaa

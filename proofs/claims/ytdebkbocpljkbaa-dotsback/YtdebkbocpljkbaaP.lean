/-
  Texts as lines, and their transmitted form, in plain mathematics: what a text's lines are, how they are found by a search for 13, 10, how they are stuffed with dots, and that what was stuffed falls into its lines again.
  No condition beyond those that each theorem states; no program is run here.
-/
import Derived.Lib.CutLaws
import Derived.Lib.Strings
import Derived.Lib.IndexAny
namespace Go.Proofs.Ytdebkbocpljkbaa

/-- A byte that may stand in a line. -/
def okB (c : UInt8) : Bool := c != 13 && c != 10

/-- A line that may be: at most 509 bytes, none of them 13 or 10. -/
def cleanL (l : List UInt8) : Bool := decide (l.length ≤ 509) && l.all okB

/-- Does the byte c end a line behind cur? -/
abbrev endsL (cur : List UInt8) (c : UInt8) : Prop := c = 10 ∧ cur.getLast? = some 13

/-- The lines of a text, of whose first line cur has been read. -/
def pg : List UInt8 → List UInt8 → Option (List (List UInt8))
  | cur, [] => if cur = [] then some [] else none
  | cur, c :: t => if endsL cur c then (if cleanL cur.dropLast then (pg [] t).map (cur.dropLast :: ·) else none) else pg (cur ++ [c]) t

/-- The lines of a text, where it is one. -/
def textL (s : List UInt8) : Option (List (List UInt8)) := if s.length ≤ 8192 then pg [] s else none

theorem pg_search (s : List UInt8) : ∀ cur : List UInt8, (cur.getLast? = some 13 → s.head? ≠ some 10) →
    (Lib.index s [13, 10] = -1 → pg cur s = if cur ++ s = [] then some [] else none) ∧
    (∀ i : Nat, Lib.index s [13, 10] = i → pg cur s = if cleanL (cur ++ s.take i) then (pg [] (s.drop (i + 2))).map ((cur ++ s.take i) :: ·) else none) := by
  induction s with
  | nil =>
    intro cur _
    refine ⟨fun _ => by simp [pg], fun i h => ?_⟩
    simp [Lib.index] at h
  | cons b l ih =>
    intro cur hcur
    have hne : ¬ endsL cur b := fun h => hcur h.2 (by rw [h.1]; rfl)
    have hstep : pg cur (b :: l) = pg (cur ++ [b]) l := by rw [pg, if_neg hne]
    by_cases hp : [13, 10].isPrefixOf (b :: l) = true
    · have hidx : Lib.index (b :: l) [13, 10] = 0 := by rw [Lib.index, if_pos hp]
      obtain ⟨rfl, t, rfl⟩ : b = 13 ∧ ∃ t, l = 10 :: t := by
        cases l with
        | nil => simp at hp
        | cons c t => simp at hp; exact ⟨hp.1.symm, t, by rw [hp.2]⟩
      refine ⟨fun h => by rw [hidx] at h; omega, fun i h => ?_⟩
      rw [hidx] at h
      obtain rfl : i = 0 := by omega
      rw [hstep, pg, if_pos ⟨rfl, by simp⟩]
      simp
    · have ih' := ih (cur ++ [b]) (fun h => by
        have hb : b = 13 := by simpa using h
        subst hb
        cases l with
        | nil => simp
        | cons c t =>
          simp
          intro e
          subst e
          simp at hp)
      have hidx : Lib.index (b :: l) [13, 10] = if Lib.index l [13, 10] == -1 then -1 else Lib.index l [13, 10] + 1 := by rw [Lib.index, if_neg hp]
      have hge := Lib.index_ge l [13, 10]
      refine ⟨fun h => ?_, fun i h => ?_⟩
      · rw [hidx] at h
        have : Lib.index l [13, 10] = -1 := by
          split at h
          · rename_i e; exact beq_iff_eq.1 e
          · omega
        rw [hstep, ih'.1 this]
        simp
      · rw [hidx] at h
        split at h
        · omega
        · rename_i hn
          have hn' : Lib.index l [13, 10] ≠ -1 := fun e => hn (beq_iff_eq.2 e)
          obtain ⟨j, rfl⟩ : ∃ j : Nat, i = j + 1 := ⟨i - 1, by omega⟩
          rw [hstep, ih'.2 j (by omega)]
          simp [List.take_succ_cons, List.append_assoc]

theorem pg_cut (s : List UInt8) (h : s ≠ []) :
    pg [] s = if (Lib.cut s [13, 10]).2.2 && cleanL (Lib.cut s [13, 10]).1 then (pg [] (Lib.cut s [13, 10]).2.1).map ((Lib.cut s [13, 10]).1 :: ·) else none := by
  have hs := pg_search s [] (by simp)
  have hge := Lib.index_ge s [13, 10]
  by_cases hi : 0 ≤ Lib.index s [13, 10]
  · rw [hs.2 (Lib.index s [13, 10]).toNat (by omega)]
    simp [Lib.cut, hi]
  · rw [hs.1 (by omega)]
    simp [Lib.cut, hi, h]

/-- The lines put together again. -/
def joinL (rows : List (List UInt8)) : List UInt8 := (rows.map (· ++ [13, 10])).flatten

theorem joinL_append (a b : List (List UInt8)) : joinL (a ++ b) = joinL a ++ joinL b := by simp [joinL]
theorem joinL_one (a : List UInt8) : joinL [a] = a ++ [13, 10] := by simp [joinL]
theorem joinL_nil : joinL [] = [] := rfl
theorem joinL_cons (a : List UInt8) (b : List (List UInt8)) : joinL (a :: b) = a ++ [13, 10] ++ joinL b := by simp [joinL]

theorem ends_split {cur : List UInt8} (h : cur.getLast? = some 13) : cur = cur.dropLast ++ [13] := by
  obtain ⟨l, rfl⟩ : ∃ l, cur = l ++ [13] := by
    rw [List.getLast?_eq_some_iff] at h
    exact h
  simp

theorem pg_join (s : List UInt8) : ∀ (cur : List UInt8) (rows : List (List UInt8)), pg cur s = some rows → cur ++ s = joinL rows ∧ ∀ r ∈ rows, cleanL r = true := by
  induction s with
  | nil =>
    intro cur rows h
    rw [pg] at h
    split at h
    · rename_i hc
      subst hc
      cases h
      exact ⟨rfl, by simp⟩
    · cases h
  | cons c t ih =>
    intro cur rows h
    rw [pg] at h
    split at h
    · rename_i he
      split at h
      · rename_i hc
        obtain ⟨r', hr', rfl⟩ := Option.map_eq_some_iff.1 h
        obtain ⟨h1, h2⟩ := ih [] r' hr'
        refine ⟨?_, ?_⟩
        · rw [joinL_cons, ← h1]
          conv => lhs; rw [ends_split he.2, he.1]
          simp
        · intro r hr
          rcases List.mem_cons.1 hr with rfl | hr
          · exact hc
          · exact h2 r hr
      · cases h
    · obtain ⟨h1, h2⟩ := ih _ _ h
      exact ⟨by rw [← h1]; simp, h2⟩

theorem text_join {s : List UInt8} {rows : List (List UInt8)} (h : textL s = some rows) : s = joinL rows ∧ (∀ r ∈ rows, cleanL r = true) ∧ s.length ≤ 8192 := by
  unfold textL at h
  split at h
  · rename_i hl
    obtain ⟨h1, h2⟩ := pg_join s [] rows h
    exact ⟨by simpa using h1, h2, hl⟩
  · cases h

/-- A line without 13 and 10 ahead of its end. -/
theorem pg_line (r : List UInt8) : ∀ (cur t : List UInt8), (cur ++ r).all okB = true →
    pg cur (r ++ 13 :: 10 :: t) = if cleanL (cur ++ r) then (pg [] t).map ((cur ++ r) :: ·) else none := by
  induction r with
  | nil =>
    intro cur t h
    rw [List.nil_append, pg, if_neg (fun h => by have := h.1; revert this; decide), pg, if_pos ⟨rfl, by simp⟩]
    simp
  | cons b l ih =>
    intro cur t h
    have hb : okB b = true := by
      rw [List.all_eq_true] at h
      exact h b (by simp)
    have hne : ¬ endsL cur b := fun h => by rw [h.1] at hb; revert hb; decide
    rw [List.cons_append, pg, if_neg hne, ih (cur ++ [b]) t (by simpa using h)]
    simp

/-- A line as it is sent, without its end. -/
def stRow (r : List UInt8) : List UInt8 := (if Lib.hasPrefix r [46] then [46] else []) ++ r

/-- The lines as they are sent. -/
def stuffL (rows : List (List UInt8)) : List UInt8 := joinL (rows.map stRow)

/-- A text as it is sent. -/
def sentL (rows : List (List UInt8)) : List UInt8 := stuffL rows ++ [46, 13, 10]

theorem stuffL_append (a b : List (List UInt8)) : stuffL (a ++ b) = stuffL a ++ stuffL b := by simp [stuffL, joinL_append]
theorem stuffL_one (a : List UInt8) : stuffL [a] = (if Lib.hasPrefix a [46] then [46] else []) ++ a ++ [13, 10] := by simp [stuffL, joinL_one, stRow]

theorem joinL_len (rows : List (List UInt8)) : (joinL rows).length ≤ (stuffL rows).length ∧ (stuffL rows).length ≤ 2 * (joinL rows).length := by
  induction rows with
  | nil => simp [joinL, stuffL]
  | cons r t ih =>
    have h1 : (stuffL (r :: t)).length = (stRow r).length + 2 + (stuffL t).length := by simp [stuffL, joinL_cons]; omega
    have h2 : (joinL (r :: t)).length = r.length + 2 + (joinL t).length := by simp [joinL_cons]; omega
    have h3 : r.length ≤ (stRow r).length ∧ (stRow r).length ≤ r.length + 1 := by
      unfold stRow
      split <;> simp <;> omega
    omega

/-- What a line is, as it comes. -/
def takeL (line : List UInt8) : List UInt8 × Bool := if line = [46] then ([], true) else (Lib.trimPrefix line [46], false)

theorem takeL_row (r : List UInt8) : takeL (stRow r) = (r, false) := by
  unfold stRow
  split
  · rename_i h
    have hr : r ≠ [] := by rintro rfl; simp [Lib.hasPrefix] at h
    rw [takeL, if_neg (by simp [hr]), Lib.trimPrefix, if_pos (by simp [Lib.hasPrefix])]
    simp
  · rename_i h
    rw [takeL, if_neg (by rintro e; simp at e; subst e; simp [Lib.hasPrefix] at h), Lib.trimPrefix, if_neg (by simpa using h)]
    simp

theorem takeL_dot : takeL [46] = ([], true) := rfl

/-- The pieces that end in a stream, and what is left. -/
def pieces : List UInt8 → List UInt8 → List (List UInt8) × List UInt8
  | cur, [] => ([], cur)
  | cur, c :: t => if endsL cur c then (cur.dropLast :: (pieces [] t).1, (pieces [] t).2) else pieces (cur ++ [c]) t

theorem pieces_line (r : List UInt8) : ∀ (cur t : List UInt8), (cur ++ r).all okB = true → pieces cur (r ++ 13 :: 10 :: t) = ((cur ++ r) :: (pieces [] t).1, (pieces [] t).2) := by
  induction r with
  | nil =>
    intro cur t h
    rw [List.nil_append, pieces, if_neg (fun h => by have := h.1; revert this; decide), pieces, if_pos ⟨rfl, by simp⟩]
    simp
  | cons b l ih =>
    intro cur t h
    have hb : okB b = true := by
      rw [List.all_eq_true] at h
      exact h b (by simp)
    have hne : ¬ endsL cur b := fun h => by rw [h.1] at hb; revert hb; decide
    rw [List.cons_append, pieces, if_neg hne, ih (cur ++ [b]) t (by simpa using h)]
    simp

theorem pieces_join (ps : List (List UInt8)) (h : ∀ p ∈ ps, p.all okB = true) : pieces [] (joinL ps) = (ps, []) := by
  induction ps with
  | nil => rfl
  | cons p t ih =>
    have e : joinL (p :: t) = p ++ 13 :: 10 :: joinL t := by simp [joinL_cons]
    rw [e, pieces_line p [] _ (by simpa using h p (by simp)), ih (fun q hq => h q (by simp [hq]))]
    simp

theorem stRow_ok {r : List UInt8} (h : cleanL r = true) : (stRow r).all okB = true := by
  have h2 : r.all okB = true := by
    unfold cleanL at h
    simp only [Bool.and_eq_true] at h
    exact h.2
  unfold stRow
  split
  · rw [List.all_append, h2]; rfl
  · rw [List.nil_append, h2]

theorem sentL_eq (rows : List (List UInt8)) : sentL rows = joinL (rows.map stRow ++ [[46]]) := by simp [sentL, stuffL, joinL_append, joinL_one]

theorem pieces_sent {rows : List (List UInt8)} (h : ∀ r ∈ rows, cleanL r = true) : pieces [] (sentL rows) = (rows.map stRow ++ [[46]], []) := by
  rw [sentL_eq]
  apply pieces_join
  intro p hp
  rcases List.mem_append.1 hp with hp | hp
  · obtain ⟨r, hr, rfl⟩ := List.mem_map.1 hp
    exact stRow_ok (h r hr)
  · obtain rfl : p = [46] := by simpa using hp
    rfl

end Go.Proofs.Ytdebkbocpljkbaa

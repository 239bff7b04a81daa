/-
  Plain mathematics of a reply that is sent and read again line by line.
  No condition beyond those that each theorem states.
-/
import Derived.Test.YtlefeebhilfkjaaDoorBytesW
namespace Go.Proofs.YtlefeebhilfkjaaDoor
open Go.RowKit

/-- Lines with their ends. -/
def joinC (rows : List (List UInt8)) : List UInt8 := rows.flatMap (· ++ [13, 10])

theorem joinC_append (a b : List (List UInt8)) : joinC (a ++ b) = joinC a ++ joinC b := by simp [joinC]
theorem joinC_one (a : List UInt8) : joinC [a] = a ++ [13, 10] := by simp [joinC]

/-- What a reader of lines has read ahead of place k: the lines, and where the next one begins. -/
def scanTo (s : List UInt8) : Nat → List (List UInt8) × Nat
  | 0 => ([], 0)
  | k + 1 => if 1 ≤ k ∧ s[k]? = some 10 ∧ s[k - 1]? = some 13 then ((scanTo s k).1 ++ [(s.drop (scanTo s k).2).take (k - 1 - (scanTo s k).2)], k + 1) else scanTo s k

theorem scan_hit {s : List UInt8} {k : Nat} (h1 : 1 ≤ k) (h2 : s[k]? = some 10) (h3 : s[k - 1]? = some 13) : scanTo s (k + 1) = ((scanTo s k).1 ++ [(s.drop (scanTo s k).2).take (k - 1 - (scanTo s k).2)], k + 1) := by
  rw [scanTo, if_pos ⟨h1, h2, h3⟩]
theorem scan_miss {s : List UInt8} {k : Nat} (h : ¬ (1 ≤ k ∧ s[k]? = some 10 ∧ s[k - 1]? = some 13)) : scanTo s (k + 1) = scanTo s k := by
  rw [scanTo, if_neg h]

theorem scan_inv (s : List UInt8) (k : Nat) : (scanTo s k).2 ≤ k ∧ (scanTo s k).1.length ≤ k ∧ ((scanTo s k).2 = 0 ∨ s[(scanTo s k).2 - 1]? = some 10) := by
  induction k with
  | zero => exact ⟨Nat.le_refl _, Nat.le_refl _, .inl rfl⟩
  | succ k ih =>
    by_cases h : 1 ≤ k ∧ s[k]? = some 10 ∧ s[k - 1]? = some 13
    · rw [scan_hit h.1 h.2.1 h.2.2]
      refine ⟨Nat.le_refl _, ?_, .inr ?_⟩
      · simp only [List.length_append, List.length_cons, List.length_nil]
        omega
      · exact h.2.1
    · rw [scan_miss h]
      exact ⟨by omega, by omega, ih.2.2⟩

/-- No byte 10. -/
def noLF (x : List UInt8) : Prop := ∀ c ∈ x, c ≠ 10

theorem scan_line (pre x post : List UInt8) (hx : noLF x) (rows : List (List UInt8)) (h : scanTo (pre ++ (x ++ [13, 10]) ++ post) pre.length = (rows, pre.length)) :
    scanTo (pre ++ (x ++ [13, 10]) ++ post) (pre.length + x.length + 2) = (rows ++ [x], pre.length + x.length + 2) := by
  have hat : ∀ i, (pre ++ (x ++ [13, 10]) ++ post)[pre.length + i]? = (x ++ [13, 10] ++ post)[i]? := fun i => by
    rw [List.append_assoc, List.getElem?_append_right (by omega), Nat.add_sub_cancel_left]
  have key : ∀ i, i ≤ x.length + 1 → scanTo (pre ++ (x ++ [13, 10]) ++ post) (pre.length + i) = (rows, pre.length) := by
    intro i
    induction i with
    | zero => intro _; exact h
    | succ i ih =>
      intro hi
      rw [← Nat.add_assoc, scan_miss]
      · exact ih (by omega)
      · rintro ⟨_, h2, _⟩
        rw [hat i, List.append_assoc] at h2
        rcases Nat.lt_or_ge i x.length with hlt | hge
        · rw [List.getElem?_append_left hlt] at h2
          exact hx _ (List.mem_of_getElem? h2) rfl
        · obtain rfl : i = x.length := by omega
          rw [List.getElem?_append_right (Nat.le_refl _), Nat.sub_self] at h2
          cases h2
  have hk := key (x.length + 1) (Nat.le_refl _)
  have h10 : (pre ++ (x ++ [13, 10]) ++ post)[pre.length + (x.length + 1)]? = some 10 := by
    rw [hat, List.append_assoc, List.getElem?_append_right (by omega), show x.length + 1 - x.length = 1 by omega]
    rfl
  have h13 : (pre ++ (x ++ [13, 10]) ++ post)[pre.length + (x.length + 1) - 1]? = some 13 := by
    rw [show pre.length + (x.length + 1) - 1 = pre.length + x.length by omega, hat, List.append_assoc, List.getElem?_append_right (Nat.le_refl _), Nat.sub_self]
    rfl
  rw [show pre.length + x.length + 2 = (pre.length + (x.length + 1)) + 1 by omega, scan_hit (by omega) h10 h13, hk]
  simp only [Prod.mk.injEq, and_true]
  congr 2
  rw [List.append_assoc, List.drop_left, show pre.length + (x.length + 1) - 1 - pre.length = x.length by omega, List.append_assoc, List.take_left]

theorem scan_some (rows : List (List UInt8)) (h : ∀ x ∈ rows, noLF x) : ∀ i, i ≤ rows.length → scanTo (joinC rows) (joinC (rows.take i)).length = (rows.take i, (joinC (rows.take i)).length) := by
  intro i
  induction i with
  | zero => intro _; rfl
  | succ i ih =>
    intro hi
    have hlt : i < rows.length := by omega
    have h1 := ih (by omega)
    have et : rows.take (i + 1) = rows.take i ++ [rows[i]] := by rw [List.take_add_one, List.getElem?_eq_getElem hlt]; rfl
    have er : rows = rows.take i ++ ([rows[i]] ++ rows.drop (i + 1)) := by
      rw [List.singleton_append, ← List.drop_eq_getElem_cons hlt, List.take_append_drop]
    have e : joinC rows = joinC (rows.take i) ++ (rows[i] ++ [13, 10]) ++ joinC (rows.drop (i + 1)) := by
      conv => lhs; rw [er]
      rw [joinC_append, joinC_append, joinC_one]
      simp only [List.append_assoc]
    rw [e] at h1
    have h2 := scan_line (joinC (rows.take i)) rows[i] (joinC (rows.drop (i + 1))) (h _ (List.getElem_mem hlt)) (rows.take i) h1
    rw [← e] at h2
    rw [et, show (joinC (rows.take i ++ [rows[i]])).length = (joinC (rows.take i)).length + rows[i].length + 2 by rw [joinC_append, joinC_one]; simp; omega]
    exact h2

theorem scan_all (rows : List (List UInt8)) (h : ∀ x ∈ rows, noLF x) : scanTo (joinC rows) (joinC rows).length = (rows, (joinC rows).length) := by
  have := scan_some rows h rows.length (Nat.le_refl _)
  rwa [List.take_length] at this

/-- Lines that ask for another one. -/
def dashed (n : Nat) (xs : List (List UInt8)) : List (List UInt8) := xs.map fun x => digs n ++ 45 :: x
/-- A reply's lines. -/
def wire (n : Nat) (xs : List (List UInt8)) (y : List UInt8) : List (List UInt8) := dashed n xs ++ [digs n ++ 32 :: y]

theorem dashed_append (n : Nat) (a b : List (List UInt8)) : dashed n (a ++ b) = dashed n a ++ dashed n b := by simp [dashed]
theorem dashed_one (n : Nat) (a : List UInt8) : dashed n [a] = [digs n ++ 45 :: a] := rfl

theorem wire_length (n : Nat) (xs : List (List UInt8)) (y : List UInt8) : (wire n xs y).length = (xs ++ [y]).length := by simp [wire, dashed]

theorem sent_dashed (n : Nat) (l : List (List UInt8)) : ∀ j, j < l.length → sentTo n l j = joinC (dashed n (l.take j)) := by
  intro j
  induction j with
  | zero => intro _; rfl
  | succ j ih =>
    intro h
    have hlt : j < l.length := by omega
    have et : l.take (j + 1) = l.take j ++ [l[j]] := by rw [List.take_add_one, List.getElem?_eq_getElem hlt]; rfl
    have hs : signL l j = 45 := if_neg (by omega)
    rw [sent_snoc n l hlt, ih hlt, et, hs, dashed_append, dashed_one, joinC_append, joinC_one]
    simp [lineB]

theorem sent_wire (n : Nat) (xs : List (List UInt8)) (y : List UInt8) : sentL n (xs ++ [y]) = joinC (wire n xs y) := by
  have hl : (xs ++ [y]).length = xs.length + 1 := by simp
  have hg : (xs ++ [y])[xs.length]'(by rw [hl]; omega) = y := by simp
  unfold sentL
  rw [hl, sent_snoc n _ (show xs.length < (xs ++ [y]).length by rw [hl]; omega), sent_dashed n _ _ (by rw [hl]; omega), hg]
  have hs : signL (xs ++ [y]) xs.length = 32 := if_pos (by rw [hl])
  rw [hs, List.take_left]
  simp [wire, joinC, lineB]

theorem digs_clean : ∀ n : Nat, n < 600 → 200 ≤ n → (digs n).all (fun c => c != 10) = true := by decide +kernel
theorem digs_code : ∀ n : Nat, n < 600 → 200 ≤ n → (codB (UInt8.ofNat (48 + n / 100)) (UInt8.ofNat (48 + n / 10 % 10)) (UInt8.ofNat (48 + n % 10)) = true ∧ cod (UInt8.ofNat (48 + n / 100)) (UInt8.ofNat (48 + n / 10 % 10)) (UInt8.ofNat (48 + n % 10)) = n) := by decide +kernel

theorem text_clean {x : List UInt8} (h : textOk x = true) : noLF x := by
  intro c hc e
  simp only [textOk, Bool.and_eq_true, List.all_eq_true] at h
  have := h.2 c hc
  rw [e] at this
  exact absurd this (by decide)

theorem row_clean {n : Nat} (h1 : 200 ≤ n) (h2 : n ≤ 599) (g : UInt8) (hg : g ≠ 10) {x : List UInt8} (h : textOk x = true) : noLF (digs n ++ g :: x) := by
  intro c hc
  rcases List.mem_append.1 hc with hc | hc
  · have := List.all_eq_true.1 (digs_clean n (by omega) h1) c hc
    simpa using this
  · rcases List.mem_cons.1 hc with rfl | hc
    · exact hg
    · exact text_clean h c hc

theorem line_row {n : Nat} (h1 : 200 ≤ n) (h2 : n ≤ 599) (g : UInt8) (hg : g = 45 ∨ g = 32) {x : List UInt8} (h : textOk x = true) : lineL (digs n ++ g :: x) = some (n, decide (g = 45), x) := by
  have hc := digs_code n (by omega) h1
  show (if codB (UInt8.ofNat (48 + n / 100)) (UInt8.ofNat (48 + n / 10 % 10)) (UInt8.ofNat (48 + n % 10)) = true then restL (cod (UInt8.ofNat (48 + n / 100)) (UInt8.ofNat (48 + n / 10 % 10)) (UInt8.ofNat (48 + n % 10))) (g :: x) else none) = _
  rw [if_pos hc.1, hc.2, restL, if_pos ⟨hg, h⟩]

theorem go_dashed {n : Nat} (h1 : 200 ≤ n) (h2 : n ≤ 599) (rest : List (List UInt8)) : ∀ (xs : List (List UInt8)) (code : Nat) (acc : List (List UInt8)), (∀ x ∈ xs, textOk x = true) → (acc ≠ [] → code = n) →
    ∃ c, goL true code acc (dashed n xs ++ rest) = goL true c (acc ++ xs) rest ∧ (acc ++ xs ≠ [] → c = n) := by
  intro xs
  induction xs with
  | nil => intro code acc _ hc; exact ⟨code, by simp [dashed], by simpa using hc⟩
  | cons x t ih =>
    intro code acc hx hc
    obtain ⟨c, hg, hcn⟩ := ih n (acc ++ [x]) (fun y hy => hx y (List.mem_cons_of_mem _ hy)) (fun _ => rfl)
    refine ⟨c, ?_, by simpa using hcn⟩
    show goL true code acc ((digs n ++ 45 :: x) :: (dashed n t ++ rest)) = _
    rw [goL, line_row h1 h2 45 (.inl rfl) (hx x List.mem_cons_self)]
    show (if true = false ∨ (acc ≠ [] ∧ n ≠ code) then Res.form else goL true n (acc ++ [x]) (dashed n t ++ rest)) = _
    rw [if_neg (fun e => e.elim (fun e => by cases e) (fun e => e.2 (hc e.1).symm)), hg]
    simp

theorem parse_dashed {n : Nat} (h1 : 200 ≤ n) (h2 : n ≤ 599) {xs : List (List UInt8)} (hx : ∀ x ∈ xs, textOk x = true) (hl : xs.length ≤ 16) : parseL (dashed n xs) = .cut := by
  obtain ⟨c, hg, _⟩ := go_dashed h1 h2 [] xs 0 [] hx (fun h => absurd rfl h)
  rw [List.append_nil] at hg
  unfold parseL
  rw [if_pos (by simpa [dashed] using hl), hg]
  rfl

theorem parse_wire {n : Nat} (h1 : 200 ≤ n) (h2 : n ≤ 599) {xs : List (List UInt8)} {y : List UInt8} (hx : ∀ x ∈ xs, textOk x = true) (hy : textOk y = true) (hl : (xs ++ [y]).length ≤ 16) : parseL (wire n xs y) = ⟨0, n, xs ++ [y]⟩ := by
  obtain ⟨c, hg, hc⟩ := go_dashed h1 h2 [digs n ++ 32 :: y] xs 0 [] hx (fun h => absurd rfl h)
  unfold parseL
  rw [if_pos (by rw [wire_length]; exact hl)]
  show goL true 0 [] (dashed n xs ++ [digs n ++ 32 :: y]) = _
  rw [hg, goL, line_row h1 h2 32 (.inr rfl) hy]
  show (if true = false ∨ (([] ++ xs : List (List UInt8)) ≠ [] ∧ n ≠ c) then Res.form else goL (decide ((32 : UInt8) = 45)) n (([] ++ xs) ++ [y]) []) = _
  rw [if_neg (fun e => e.elim (fun e => by cases e) (fun e => e.2 (hc e.1).symm))]
  rfl

theorem wire_take (n : Nat) (xs : List (List UInt8)) (y : List UInt8) {k : Nat} (h : k ≤ xs.length) : (wire n xs y).take k = dashed n (xs.take k) := by
  unfold wire dashed
  rw [List.take_append_of_le_length (by simpa using h), List.map_take]
end Go.Proofs.YtlefeebhilfkjaaDoor

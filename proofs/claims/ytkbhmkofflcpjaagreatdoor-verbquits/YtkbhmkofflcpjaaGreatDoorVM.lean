/-
  How a line is read, kind by kind, in the order in which package verb reads it: the same as the page's.
  No condition beyond those that each theorem states.
-/
import Derived.Test.YtkbhmkofflcpjaaGreatDoorVI
namespace Go.Proofs.YtkbhmkofflcpjaaGreatDoor

/-- A command as a value. -/
def vbCells (v : Vb) : Array Value := #[.int .i64 v.kind, .string ⟨v.word.toArray⟩, .bool v.null, .string ⟨v.l.toArray⟩, .string ⟨v.d.toArray⟩, .int .i64 v.size]
def vbV (v : Vb) : Value := .agg (vbCells v)

/-- What readCommand comes to. -/
def cmdE (s : List UInt8) : Ending := if (readV s).2 = 0 then .returned (vbV (readV s).1) else wrongV (readV s).2

theorem cmd_out {s : List UInt8} {v : Vb} (h : readV s = outV v) : cmdE s = endO (if validV v then some (vbV v) else none) := by
  unfold cmdE
  rw [h, outV]
  cases validV v <;> rfl
theorem cmd_bad {s : List UInt8} {n : Int} (h : readV s = (zeroV, n)) (hn : n ≠ 0) : cmdE s = wrongV n := by
  unfold cmdE
  rw [h]
  exact if_neg hn

theorem rest_iff (s : List UInt8) : restOk s = false ↔ (4 < s.length ∧ s.getD 4 0 ≠ 32) := by
  simp [restOk]
theorem read_none {s : List UInt8} (h : kindL s = 0 ∨ restOk s = false) : cmdE s = wrongV 3 := by
  refine cmd_bad ?_ (by decide)
  rw [rest_iff] at h
  unfold readV
  rw [if_pos h]

theorem read_pass {s : List UInt8} (hk : kindL s ≠ 0) (hr : restOk s = true) : ¬ (kindL s = 0 ∨ (4 < s.length ∧ s.getD 4 0 ≠ 32)) := by
  rw [← rest_iff, hr]
  simp [hk]

theorem past_one {s : List UInt8} (hr : restOk s = true) : pastL (s.drop 4) [32] = if s.drop 4 = [] then none else some (s.drop 5) := by
  by_cases hd : s.drop 4 = []
  · rw [hd, if_pos rfl]
    rfl
  · rw [if_neg hd]
    have h1 := (rest_head hd).symm.trans hr
    have h2 : (s.drop 4).head? = some 32 := by simpa using h1
    have h5 : s.drop 5 = (s.drop 4).drop 1 := by rw [List.drop_drop]
    rw [h5]
    generalize s.drop 4 = R at *
    cases R with
    | nil => exact absurd rfl hd
    | cons c t =>
      obtain rfl : c = 32 := by simpa using h2
      have hb : beginsL ([32] ++ t) [32] = true := begins_same rfl
      unfold pastL
      rw [if_pos (show beginsL (32 :: t) [32] = true from hb)]
      rfl

theorem read_helo {s : List UInt8} (hk : kindL s ≠ 0) (hr : restOk s = true) (h : kindL s = 1 ∨ kindL s = 2) : cmdE s = endO (((pastL (s.drop 4) [32]).bind domO).map fun x => vbV ⟨kindL s, x, false, [], [], 0⟩) := by
  rw [past_one hr]
  have e : readV s = if s.drop 4 = [] then (zeroV, 8) else outV ⟨kindL s, lowL (s.drop 5), false, [], [], 0⟩ := by
    unfold readV
    rw [if_neg (read_pass hk hr), if_pos h]
  by_cases hd : s.drop 4 = []
  · rw [if_pos hd] at e ⊢
    exact cmd_bad e (by decide)
  · rw [if_neg hd] at e ⊢
    rw [cmd_out e, Option.bind_some]
    have hv : validV ⟨kindL s, lowL (s.drop 5), false, [], [], 0⟩ = domL (lowL (s.drop 5)) := by
      simp [validV, bareV, h]
    rw [hv, domO]
    cases domL (lowL (s.drop 5)) <;> rfl

theorem valid_noop {x : List UInt8} (hx : x.isEmpty = false) : validV ⟨7, x, false, [], [], 0⟩ = wordsL x := by simp [validV, bareV, hx]

theorem read_noop {s : List UInt8} (hk : kindL s ≠ 0) (hr : restOk s = true) (h : kindL s = 7) : cmdE s = endO (if s.drop 4 = [] then some (vbV ⟨7, [], false, [], [], 0⟩) else ((pastL (s.drop 4) [32]).bind wordsO).map fun x => vbV ⟨7, x, false, [], [], 0⟩) := by
  rw [past_one hr]
  have e : readV s = if s.drop 4 = [32] then (zeroV, 8) else outV ⟨7, s.drop 5, false, [], [], 0⟩ := by
    unfold readV
    rw [if_neg (read_pass hk hr), if_neg (by rw [h]; decide), if_pos (.inl h), h]
  have h5 : s.drop 5 = (s.drop 4).drop 1 := by rw [List.drop_drop]
  rw [h5] at e ⊢
  by_cases hd : s.drop 4 = []
  · rw [hd] at e ⊢
    rw [if_pos rfl]
    rw [if_neg (by simp)] at e
    rw [cmd_out e]
    rfl
  · rw [if_neg hd, if_neg hd, Option.bind_some]
    by_cases h32 : s.drop 4 = [32]
    · rw [h32] at e ⊢
      rw [if_pos rfl] at e
      exact cmd_bad e (by decide)
    · rw [if_neg h32] at e
      have h1 := (rest_head hd).symm.trans hr
      have h2 : (s.drop 4).head? = some 32 := by simpa using h1
      have hne : ((s.drop 4).drop 1).isEmpty = false := by
        generalize s.drop 4 = R at *
        cases R with
        | nil => exact absurd rfl hd
        | cons c t =>
          obtain rfl : c = 32 := by simpa using h2
          cases t with
          | nil => exact absurd rfl h32
          | cons a b => rfl
      rw [cmd_out e]
      have hv := valid_noop hne
      rw [hv, wordsO]
      cases wordsL ((s.drop 4).drop 1) <;> rfl

theorem read_vrfy {s : List UInt8} (hk : kindL s ≠ 0) (hr : restOk s = true) (h : kindL s = 9) : cmdE s = endO (((pastL (s.drop 4) [32]).bind wordsO).map fun x => vbV ⟨9, x, false, [], [], 0⟩) := by
  rw [past_one hr]
  have e : readV s = if s.drop 4 = [32] then (zeroV, 8) else outV ⟨9, s.drop 5, false, [], [], 0⟩ := by
    unfold readV
    rw [if_neg (read_pass hk hr), if_neg (by rw [h]; decide), if_pos (.inr h), h]
  have hv : validV ⟨9, s.drop 5, false, [], [], 0⟩ = wordsL (s.drop 5) := by simp [validV, bareV]
  have h5 : s.drop 5 = (s.drop 4).drop 1 := by rw [List.drop_drop]
  by_cases hd : s.drop 4 = []
  · rw [if_pos hd]
    rw [hd, if_neg (by simp)] at e
    rw [cmd_out e, hv, h5, hd]
    rfl
  · rw [if_neg hd, Option.bind_some]
    by_cases h32 : s.drop 4 = [32]
    · rw [if_pos h32] at e
      rw [h5, h32]
      exact cmd_bad e (by decide)
    · rw [if_neg h32] at e
      rw [cmd_out e, hv, wordsO]
      cases wordsL (s.drop 5) <;> rfl

theorem read_bare {s : List UInt8} (hk : kindL s ≠ 0) (hr : restOk s = true) (h : kindL s = 5 ∨ kindL s = 6 ∨ kindL s = 8) : cmdE s = endO ((endL (s.drop 4)).map fun _ => vbV ⟨kindL s, [], false, [], [], 0⟩) := by
  have e : readV s = if s.drop 4 = [] then outV ⟨kindL s, [], false, [], [], 0⟩ else (zeroV, 8) := by
    unfold readV
    rw [if_neg (read_pass hk hr), if_neg (by omega), if_neg (by omega), if_neg (by omega), if_neg (by omega)]
  by_cases hd : s.drop 4 = []
  · rw [if_pos hd] at e
    rw [cmd_out e, endL, if_pos hd]
    have hv : validV ⟨kindL s, [], false, [], [], 0⟩ = true := by
      unfold validV
      rw [if_neg (by simp only; omega), if_neg (by simp only; omega), if_neg (by simp only; omega), if_neg (by simp only; omega), if_neg (by simp only; omega), if_pos h]
      rfl
    rw [hv]
    rfl
  · rw [if_neg hd] at e
    rw [endL, if_neg hd]
    exact cmd_bad e (by decide)

theorem path_valid {r : List UInt8} {l d : List UInt8} (h : pathL r = some (some (l, d))) : boxL l d = true := by
  cases r with
  | nil => cases h
  | cons c t =>
    rw [pathL] at h
    split at h
    · split at h
      · cases h
      · cases hp : parseL t.dropLast with
        | none => rw [hp] at h; cases h
        | some p =>
          rw [hp] at h
          cases h
          exact parse_valid hp
    · cases h

theorem read_rcpt {s : List UInt8} (hk : kindL s ≠ 0) (hr : restOk s = true) (h : kindL s = 4) : cmdE s = endO (((colonL (s.drop 4) [32, 84, 79, 58]).bind boxO).map fun p => vbV ⟨4, [], false, p.1, p.2, 0⟩) := by
  have e : readV s = if beginsL (s.drop 4) [32, 84, 79, 58] then rcptL (blankL (s.drop 8)) else (zeroV, 8) := by
    unfold readV
    rw [if_neg (read_pass hk hr), if_neg (by rw [h]; decide), if_neg (by rw [h]; decide), if_neg (by rw [h]; decide), if_pos h]
  unfold colonL pastL
  have h8 : s.drop 8 = (s.drop 4).drop 4 := by rw [List.drop_drop]
  cases hb : beginsL (s.drop 4) [32, 84, 79, 58] with
  | false =>
    rw [hb] at e
    exact cmd_bad e (by decide)
  | true =>
    rw [hb, if_pos rfl, h8] at e
    rw [if_pos rfl, Option.map_some, Option.bind_some]
    show cmdE s = endO ((boxO (blankL ((s.drop 4).drop 4))).map _)
    generalize blankL ((s.drop 4).drop 4) = r at *
    unfold boxO
    cases hp : pathL r with
    | none =>
      have : rcptL r = (zeroV, 8) := by unfold rcptL; rw [hp]; rfl
      exact cmd_bad (e.trans this) (by decide)
    | some o =>
      cases o with
      | none =>
        have : rcptL r = (zeroV, 8) := by unfold rcptL; rw [hp]; rfl
        exact cmd_bad (e.trans this) (by decide)
      | some p =>
        obtain ⟨l, d⟩ := p
        have : rcptL r = outV ⟨4, [], false, l, d, 0⟩ := by unfold rcptL; rw [hp]; rfl
        rw [cmd_out (e.trans this)]
        have hv : validV ⟨4, [], false, l, d, 0⟩ = true := by
          have := path_valid hp
          simp [validV, this]
        rw [hv]
        rfl

theorem tail_range {t : List UInt8} {z : Int} (h : tailL t = some z) : -1 ≤ z ∧ z ≤ 1073741824 := by
  unfold tailL at h
  split at h
  · cases h
    omega
  · split at h
    · cases hs : sizeL (t.drop 6) with
      | none => rw [hs] at h; cases h
      | some n =>
        rw [hs] at h
        cases h
        have := (size_len hs).2
        show -1 ≤ ((n : Nat) : Int) ∧ ((n : Nat) : Int) ≤ 1073741824
        omega
    · cases h

theorem read_mail {s : List UInt8} (hk : kindL s ≠ 0) (hr : restOk s = true) (h : kindL s = 3) : cmdE s = endO ((colonL (s.drop 4) [32, 70, 82, 79, 77, 58]).bind fun r => (cutL false r).bind fun n => (pathL (r.take n)).bind fun o => (tailL (r.drop n)).map fun z => vbV ⟨3, [], o.isNone, (o.getD ([], [])).1, (o.getD ([], [])).2, z⟩) := by
  have e : readV s = if beginsL (s.drop 4) [32, 70, 82, 79, 77, 58] then mailL (blankL (s.drop 10)) else (zeroV, 8) := by
    unfold readV
    rw [if_neg (read_pass hk hr), if_neg (by rw [h]; decide), if_neg (by rw [h]; decide), if_pos h]
  unfold colonL pastL
  have h8 : s.drop 10 = (s.drop 4).drop 6 := by rw [List.drop_drop]
  cases hb : beginsL (s.drop 4) [32, 70, 82, 79, 77, 58] with
  | false =>
    rw [hb] at e
    exact cmd_bad e (by decide)
  | true =>
    rw [hb, if_pos rfl, h8] at e
    rw [if_pos rfl, Option.map_some, Option.bind_some]
    show cmdE s = endO ((cutL false (blankL ((s.drop 4).drop 6))).bind _)
    generalize blankL ((s.drop 4).drop 6) = r at *
    cases hc : cutL false r with
    | none =>
      have hpe := (cut_pe r.length false r (Nat.le_refl _)).2 hc
      have hp : pathL r = none := by
        cases hp : pathL r with
        | none => rfl
        | some o =>
          have := cut_path hp
          rw [hc] at this
          cases this
      have : mailL r = (zeroV, 8) := by
        unfold mailL
        rw [hpe, List.take_length, hp]
        rfl
      exact cmd_bad (e.trans this) (by decide)
    | some n =>
      obtain ⟨hpe, _⟩ := (cut_pe r.length false r (Nat.le_refl _)).1 n hc
      rw [Option.bind_some]
      cases hp : pathL (r.take n) with
      | none =>
        have em : mailL r = (zeroV, 8) := by
          unfold mailL
          rw [hpe, hp]
          rfl
        exact cmd_bad (e.trans em) (by decide)
      | some o =>
        rw [Option.bind_some]
        cases ht : tailL (r.drop n) with
        | none =>
          have em : mailL r = (zeroV, 8) := by
            unfold mailL
            rw [hpe, hp, ht]
            cases o <;> rfl
          exact cmd_bad (e.trans em) (by decide)
        | some z =>
          obtain ⟨z1, z2⟩ := tail_range ht
          cases o with
          | none =>
            have em2 : mailL r = outV ⟨3, [], true, [], [], z⟩ := by
              unfold mailL
              rw [hpe, hp, ht]
              rfl
            rw [cmd_out (e.trans em2)]
            have hv : validV ⟨3, [], true, [], [], z⟩ = true := by simp [validV, z1, z2]
            rw [hv]
            rfl
          | some p =>
            obtain ⟨l, d⟩ := p
            have em2 : mailL r = outV ⟨3, [], false, l, d, z⟩ := by
              unfold mailL
              rw [hpe, hp, ht]
              rfl
            rw [cmd_out (e.trans em2)]
            have hv : validV ⟨3, [], false, l, d, z⟩ = true := by
              have := path_valid hp
              simp [validV, z1, z2, this]
            rw [hv]
            rfl
end Go.Proofs.YtkbhmkofflcpjaaGreatDoor

namespace Go.Proofs.YtkbhmkofflcpjaaGreatDoor
open Go.RowKit

/-- A command in a block of its own. -/
def VAt (w : World) (b : Nat) (v : Vb) : Prop := w.heap[b]? = some (.cells #[.int .i64 v.kind, .string ⟨v.word.toArray⟩, .bool v.null, .string ⟨v.l.toArray⟩, .string ⟨v.d.toArray⟩, .int .i64 v.size] 27 (0, 0))
theorem VAt.lt {w : World} {b : Nat} {v : Vb} (h : VAt w b v) : b < w.heap.size := (Array.getElem?_eq_some_iff.1 h).1
theorem VAt.c0 {w : World} {b : Nat} {v : Vb} (h : VAt w b v) : w.cell? ⟨b, 0, none⟩ = some (.int .i64 v.kind) := by
  have h' : w.heap[b]? = some (.cells #[.int .i64 v.kind, .string ⟨v.word.toArray⟩, .bool v.null, .string ⟨v.l.toArray⟩, .string ⟨v.d.toArray⟩, .int .i64 v.size] 27 (0, 0)) := h
  simp [World.cell?, h']
theorem VAt.c1 {w : World} {b : Nat} {v : Vb} (h : VAt w b v) : w.cell? ⟨b, 1, none⟩ = some (.string ⟨v.word.toArray⟩) := by
  have h' : w.heap[b]? = some (.cells #[.int .i64 v.kind, .string ⟨v.word.toArray⟩, .bool v.null, .string ⟨v.l.toArray⟩, .string ⟨v.d.toArray⟩, .int .i64 v.size] 27 (0, 0)) := h
  simp [World.cell?, h']
theorem VAt.c2 {w : World} {b : Nat} {v : Vb} (h : VAt w b v) : w.cell? ⟨b, 2, none⟩ = some (.bool v.null) := by
  have h' : w.heap[b]? = some (.cells #[.int .i64 v.kind, .string ⟨v.word.toArray⟩, .bool v.null, .string ⟨v.l.toArray⟩, .string ⟨v.d.toArray⟩, .int .i64 v.size] 27 (0, 0)) := h
  simp [World.cell?, h']
theorem VAt.c3 {w : World} {b : Nat} {v : Vb} (h : VAt w b v) : w.cell? ⟨b, 3, none⟩ = some (.string ⟨v.l.toArray⟩) := by
  have h' : w.heap[b]? = some (.cells #[.int .i64 v.kind, .string ⟨v.word.toArray⟩, .bool v.null, .string ⟨v.l.toArray⟩, .string ⟨v.d.toArray⟩, .int .i64 v.size] 27 (0, 0)) := h
  simp [World.cell?, h']
theorem VAt.c4 {w : World} {b : Nat} {v : Vb} (h : VAt w b v) : w.cell? ⟨b, 4, none⟩ = some (.string ⟨v.d.toArray⟩) := by
  have h' : w.heap[b]? = some (.cells #[.int .i64 v.kind, .string ⟨v.word.toArray⟩, .bool v.null, .string ⟨v.l.toArray⟩, .string ⟨v.d.toArray⟩, .int .i64 v.size] 27 (0, 0)) := h
  simp [World.cell?, h']
theorem VAt.c5 {w : World} {b : Nat} {v : Vb} (h : VAt w b v) : w.cell? ⟨b, 5, none⟩ = some (.int .i64 v.size) := by
  have h' : w.heap[b]? = some (.cells #[.int .i64 v.kind, .string ⟨v.word.toArray⟩, .bool v.null, .string ⟨v.l.toArray⟩, .string ⟨v.d.toArray⟩, .int .i64 v.size] 27 (0, 0)) := h
  simp [World.cell?, h']
theorem VAt.fz {w : World} {b : Nat} {v : Vb} (h : VAt w b v) (j : Nat) : w.frozen? ⟨b, j, none⟩ = false := by
  have h' : w.heap[b]? = some (.cells #[.int .i64 v.kind, .string ⟨v.word.toArray⟩, .bool v.null, .string ⟨v.l.toArray⟩, .string ⟨v.d.toArray⟩, .int .i64 v.size] 27 (0, 0)) := h
  simp [World.frozen?, h']
theorem VAt.later {w w' : World} {b : Nat} {v : Vb} (h : VAt w b v) (hb : Below w.heap.size w w') : VAt w' b v := (hb.block b h.lt).trans h
theorem VAt.alloc {w : World} {b : Nat} {v : Vb} (h : VAt w b v) (o : Obj) : VAt (w.alloc o) b v := (Below.heap_alloc w o b h.lt).trans h
theorem VAt.other {w : World} {b : Nat} {v : Vb} (h : VAt w b v) {p : Addr} (hp : b ≠ p.block) (x : Value) : VAt (w.setCell p x) b v := (Below.heap_setCell w p x b hp).trans h
theorem VAt.new (w : World) (v : Vb) : VAt (w.alloc (.cells #[.int .i64 v.kind, .string ⟨v.word.toArray⟩, .bool v.null, .string ⟨v.l.toArray⟩, .string ⟨v.d.toArray⟩, .int .i64 v.size] 27)) w.heap.size v := heap_alloc_new w _
theorem VAt.set0 {w : World} {b : Nat} {v : Vb} (h : VAt w b v) (x : Int) : VAt (w.setCell ⟨b, 0, none⟩ (.int .i64 x)) b { v with kind := x } := by
  have h' : w.heap[b]? = some (.cells #[.int .i64 v.kind, .string ⟨v.word.toArray⟩, .bool v.null, .string ⟨v.l.toArray⟩, .string ⟨v.d.toArray⟩, .int .i64 v.size] 27 (0, 0)) := h
  show (w.setCell ⟨b, 0, none⟩ _).heap[b]? = _
  simp only [World.setCell, Array.getElem?_modify, if_true, h']
  rfl
theorem VAt.set1 {w : World} {b : Nat} {v : Vb} (h : VAt w b v) (x : List UInt8) : VAt (w.setCell ⟨b, 1, none⟩ (.string ⟨x.toArray⟩)) b { v with word := x } := by
  have h' : w.heap[b]? = some (.cells #[.int .i64 v.kind, .string ⟨v.word.toArray⟩, .bool v.null, .string ⟨v.l.toArray⟩, .string ⟨v.d.toArray⟩, .int .i64 v.size] 27 (0, 0)) := h
  show (w.setCell ⟨b, 1, none⟩ _).heap[b]? = _
  simp only [World.setCell, Array.getElem?_modify, if_true, h']
  rfl
theorem VAt.set2 {w : World} {b : Nat} {v : Vb} (h : VAt w b v) (x : Bool) : VAt (w.setCell ⟨b, 2, none⟩ (.bool x)) b { v with null := x } := by
  have h' : w.heap[b]? = some (.cells #[.int .i64 v.kind, .string ⟨v.word.toArray⟩, .bool v.null, .string ⟨v.l.toArray⟩, .string ⟨v.d.toArray⟩, .int .i64 v.size] 27 (0, 0)) := h
  show (w.setCell ⟨b, 2, none⟩ _).heap[b]? = _
  simp only [World.setCell, Array.getElem?_modify, if_true, h']
  rfl
theorem VAt.set3 {w : World} {b : Nat} {v : Vb} (h : VAt w b v) (x : List UInt8) : VAt (w.setCell ⟨b, 3, none⟩ (.string ⟨x.toArray⟩)) b { v with l := x } := by
  have h' : w.heap[b]? = some (.cells #[.int .i64 v.kind, .string ⟨v.word.toArray⟩, .bool v.null, .string ⟨v.l.toArray⟩, .string ⟨v.d.toArray⟩, .int .i64 v.size] 27 (0, 0)) := h
  show (w.setCell ⟨b, 3, none⟩ _).heap[b]? = _
  simp only [World.setCell, Array.getElem?_modify, if_true, h']
  rfl
theorem VAt.set4 {w : World} {b : Nat} {v : Vb} (h : VAt w b v) (x : List UInt8) : VAt (w.setCell ⟨b, 4, none⟩ (.string ⟨x.toArray⟩)) b { v with d := x } := by
  have h' : w.heap[b]? = some (.cells #[.int .i64 v.kind, .string ⟨v.word.toArray⟩, .bool v.null, .string ⟨v.l.toArray⟩, .string ⟨v.d.toArray⟩, .int .i64 v.size] 27 (0, 0)) := h
  show (w.setCell ⟨b, 4, none⟩ _).heap[b]? = _
  simp only [World.setCell, Array.getElem?_modify, if_true, h']
  rfl
theorem VAt.set5 {w : World} {b : Nat} {v : Vb} (h : VAt w b v) (x : Int) : VAt (w.setCell ⟨b, 5, none⟩ (.int .i64 x)) b { v with size := x } := by
  have h' : w.heap[b]? = some (.cells #[.int .i64 v.kind, .string ⟨v.word.toArray⟩, .bool v.null, .string ⟨v.l.toArray⟩, .string ⟨v.d.toArray⟩, .int .i64 v.size] 27 (0, 0)) := h
  show (w.setCell ⟨b, 5, none⟩ _).heap[b]? = _
  simp only [World.setCell, Array.getElem?_modify, if_true, h']
  rfl
/-- All fields written. -/
def set6 (w : World) (b : Nat) (v : Vb) : World := ((((((w.setCell ⟨b, 0, none⟩ (.int .i64 v.kind)).setCell ⟨b, 1, none⟩ (.string ⟨v.word.toArray⟩)).setCell ⟨b, 2, none⟩ (.bool v.null)).setCell ⟨b, 3, none⟩ (.string ⟨v.l.toArray⟩)).setCell ⟨b, 4, none⟩ (.string ⟨v.d.toArray⟩)).setCell ⟨b, 5, none⟩ (.int .i64 v.size))
theorem VAt.set6 {w : World} {b : Nat} {u : Vb} (h : VAt w b u) (v : Vb) : VAt (set6 w b v) b v := (((((h.set0 v.kind).set1 v.word).set2 v.null).set3 v.l).set4 v.d).set5 v.size
theorem VAt.other6 {w : World} {b n : Nat} {u : Vb} (h : VAt w b u) (hn : b ≠ n) (v : Vb) : VAt (Go.Proofs.YtkbhmkofflcpjaaGreatDoor.set6 w n v) b u := (((((h.other (p := ⟨n, 0, none⟩) hn _).other (p := ⟨n, 1, none⟩) hn _).other (p := ⟨n, 2, none⟩) hn _).other (p := ⟨n, 3, none⟩) hn _).other (p := ⟨n, 4, none⟩) hn _).other (p := ⟨n, 5, none⟩) hn _
theorem below_set6 {B : Nat} {a w : World} (h : Below B a w) {b : Nat} (hb : B ≤ b) (v : Vb) : Below B a (Go.Proofs.YtkbhmkofflcpjaaGreatDoor.set6 w b v) := (((((h.setCell (p := ⟨b, 0, none⟩) hb _).setCell (p := ⟨b, 1, none⟩) hb _).setCell (p := ⟨b, 2, none⟩) hb _).setCell (p := ⟨b, 3, none⟩) hb _).setCell (p := ⟨b, 4, none⟩) hb _).setCell (p := ⟨b, 5, none⟩) hb _
theorem but_set6 {ms : List Nat} {B : Nat} {a w : World} (h : But ms B a w) {b : Nat} (hb : b ∈ ms ∨ B ≤ b) (v : Vb) : But ms B a (Go.Proofs.YtkbhmkofflcpjaaGreatDoor.set6 w b v) := (((((h.setCell (p := ⟨b, 0, none⟩) hb _).setCell (p := ⟨b, 1, none⟩) hb _).setCell (p := ⟨b, 2, none⟩) hb _).setCell (p := ⟨b, 3, none⟩) hb _).setCell (p := ⟨b, 4, none⟩) hb _).setCell (p := ⟨b, 5, none⟩) hb _
end Go.Proofs.YtkbhmkofflcpjaaGreatDoor

namespace Go.Proofs.YtkbhmkofflcpjaaGreatDoor
open Go.RowKit

theorem goodBlank : goodW [32] := ⟨by decide, by decide⟩
theorem goodFrom : goodW [32, 70, 82, 79, 77, 58] := ⟨by decide, by decide⟩
theorem goodTo : goodW [32, 84, 79, 58] := ⟨by decide, by decide⟩
theorem wrong8 {s : List UInt8} {o : Option Value} (h : cmdE s = endO o) (ho : o = none) : wrongV 8 = cmdE s := by rw [h, ho]; rfl
theorem right8 {s : List UInt8} {o : Option Value} {v : Value} (h : cmdE s = endO o) (ho : o = some v) : Ending.returned v = cmdE s := by rw [h, ho]; rfl
theorem below_up {B n : Nat} {a b c : World} (h : Below B a b) (k : Below n b c) (hn : b.heap.size ≤ n) (hB : B ≤ b.heap.size) : Below B a c := h.trans (k.mono (Nat.le_trans hB hn))
theorem vreadEnd_below (s : List UInt8) (w : World) : Calls Tryz.prog 64 #[.string ⟨s.toArray⟩] w fun e w' => e = endO (endL s) ∧ Below w.heap.size w w' :=
  (vreadEnd_any s w).mono fun _ _ h => ⟨h.1, h.2 ▸ Below.refl _ _⟩

/-- What readName leaves: the result still empty, a command of kind k beside it. -/
structure Begun (w : World) (k : Int) (n1 : Nat) (W : World) : Prop where
  z : VAt W w.heap.size zeroV
  v : VAt W n1 ⟨k, [], false, [], [], 0⟩
  b : Below w.heap.size w W
  lt : w.heap.size < n1
  g : Gl W

theorem begun (w w1 : World) (k : Int) (hg : Gl w) (hb : Below (w.alloc (.cells #[.int .i64 0, .string ⟨#[]⟩, .bool false, .string ⟨#[]⟩, .string ⟨#[]⟩, .int .i64 0] 27)).heap.size (w.alloc (.cells #[.int .i64 0, .string ⟨#[]⟩, .bool false, .string ⟨#[]⟩, .string ⟨#[]⟩, .int .i64 0] 27)) w1) :
    Begun w k w1.heap.size (w1.alloc (.cells #[.int .i64 k, .string ⟨#[]⟩, .bool false, .string ⟨#[]⟩, .string ⟨#[]⟩, .int .i64 0] 27)) := by
  have h0 : Below w.heap.size w (w.alloc (.cells #[.int .i64 0, .string ⟨#[]⟩, .bool false, .string ⟨#[]⟩, .string ⟨#[]⟩, .int .i64 0] 27)) := (Below.refl _ w).alloc (Nat.le_refl _) _
  have h1 : Below w.heap.size w w1 := h0.trans (hb.mono h0.size)
  have hz : VAt w1 w.heap.size zeroV := VAt.later (VAt.new w zeroV) hb
  have h2 := h1.alloc h1.size (.cells #[.int .i64 k, .string ⟨#[]⟩, .bool false, .string ⟨#[]⟩, .string ⟨#[]⟩, .int .i64 0] 27)
  exact ⟨hz.alloc _, VAt.new w1 ⟨k, [], false, [], [], 0⟩, h2, hz.lt, hg.keep h2⟩

theorem Begun.later {w W W' : World} {k : Int} {n1 : Nat} (h : Begun w k n1 W) (hb : Below W.heap.size W W') : Begun w k n1 W' :=
  ⟨h.z.later hb, h.v.later hb, h.b.trans (hb.mono h.b.size), h.lt, h.g.keep hb⟩

set_option maxHeartbeats 2000000 in
theorem cmd_noname (s : List UInt8) (w : World) (hs : s.length ≤ 9000) (hg : Gl w) (h : kindL s = 0 ∨ restOk s = false) :
    Calls Tryz.prog 36 #[.string ⟨s.toArray⟩] w fun e w' => e = cmdE s ∧ Below w.heap.size w w' := by
  have hg0 := hg.alloc (.cells #[.int .i64 0, .string ⟨#[]⟩, .bool false, .string ⟨#[]⟩, .string ⟨#[]⟩, .int .i64 0] 27)
  have HN := Lib.hid (vreadName_any s (w.alloc (.cells #[.int .i64 0, .string ⟨#[]⟩, .bool false, .string ⟨#[]⟩, .string ⟨#[]⟩, .int .i64 0] 27)) (by omega) hg0)
  have HE := Lib.hid (read_none h)
  have h0 := (Below.refl _ w).alloc (Nat.le_refl _) (.cells #[.int .i64 0, .string ⟨#[]⟩, .bool false, .string ⟨#[]⟩, .string ⟨#[]⟩, .int .i64 0] 27)
  have HA := Lib.hid h0
  rw [show nameE s = wrongV 3 from if_pos h] at HN
  clear h h0 hg
  clear hg0
  go_enter Tryz.func36, Tryz.ntmps36
  go_wp2_with fail
  refine Calls.mono (show _ from HN.out) ?_
  rintro e w1 ⟨rfl, hb⟩
  exact ⟨rfl, HE.out.symm, HA.out.trans (hb.mono HA.out.size)⟩

set_option maxHeartbeats 2000000 in
theorem cmd_helo1 (s : List UInt8) (w : World) (hs : s.length ≤ 9000) (hg : Gl w) (hr : restOk s = true) (h : kindL s = 1) :
    Calls Tryz.prog 36 #[.string ⟨s.toArray⟩] w fun e w' => e = cmdE s ∧ Below w.heap.size w w' := by
  have hg0 := hg.alloc (.cells #[.int .i64 0, .string ⟨#[]⟩, .bool false, .string ⟨#[]⟩, .string ⟨#[]⟩, .int .i64 0] 27)
  have HN := Lib.hid (vreadName_any s (w.alloc (.cells #[.int .i64 0, .string ⟨#[]⟩, .bool false, .string ⟨#[]⟩, .string ⟨#[]⟩, .int .i64 0] 27)) (by omega) hg0)
  have HE := Lib.hid (read_helo (by omega) hr (show kindL s = 1 ∨ kindL s = 2 by omega))
  rw [h] at HE
  have hrl : (s.drop 4).length ≤ 9000 := by simp; omega
  have HD := Lib.hid (fun w1 hb => begun w w1 1 hg hb)
  rw [show nameE s = .returned (.tuple #[.int .i64 1, .string ⟨(s.drop 4).toArray⟩]) by unfold nameE; rw [if_neg (by rw [hr, h]; simp), h]] at HN
  clear h hg hr
  generalize s.drop 4 = R at *
  clear hg0
  have HP := Lib.hid (fun W (hW : Gl W) => readPast_any R [32] W (by omega) goodBlank hW)
  cases hp : pastL R [32] with
  | none =>
    rw [hp] at HP HE
    have HP2 := Lib.hid (fun W hW => callsBad (HP.out W hW) rfl)
    clear HP hp
    go_enter Tryz.func36, Tryz.ntmps36
    go_wp2_with fail
    refine Calls.mono (show _ from HN.out) ?_
    rintro e w1 ⟨rfl, hb⟩
    have HW := Lib.hid (HD.out w1 hb)
    clear hb
    go_wp2_with fail
    refine Calls.mono (show _ from HP2.out _ HW.out.g) ?_
    rintro e w2 ⟨rfl, hb⟩
    exact ⟨rfl, wrong8 HE.out rfl, (HW.out.later hb).b⟩
  | some r =>
    have hl : r.length ≤ 9000 := Nat.le_trans (past_len hp) hrl
    rw [hp] at HP HE
    have HP2 := Lib.hid (fun W hW => callsGood (HP.out W hW) (show _ = some (.string ⟨r.toArray⟩) from rfl))
    have HQ := Lib.hid (fun W => vreadDomain_any r W (by omega))
    clear HP hp
    cases hd : domO r with
    | none =>
      rw [Option.bind_some, hd] at HE
      rw [hd] at HQ
      have HQ2 := Lib.hid (fun W => callsBad (HQ.out W) rfl)
      clear HQ hd
      go_enter Tryz.func36, Tryz.ntmps36
      go_wp2_with fail
      refine Calls.mono (show _ from HN.out) ?_
      rintro e w1 ⟨rfl, hb⟩
      have HW := Lib.hid (HD.out w1 hb)
      clear hb
      go_wp2_with fail
      refine Calls.mono (show _ from HP2.out _ HW.out.g) ?_
      rintro e w2 ⟨rfl, hb⟩
      have HW2 := Lib.hid (HW.out.later hb)
      clear hb
      go_wp2_with fail
      refine Calls.mono (HQ2.out _) ?_
      rintro e w3 ⟨rfl, hb⟩
      exact ⟨rfl, wrong8 HE.out rfl, (HW2.out.later hb).b⟩
    | some x =>
      rw [Option.bind_some, hd] at HE
      rw [hd] at HQ
      have HQ2 := Lib.hid (fun W => callsGood (HQ.out W) (show _ = some (.string ⟨x.toArray⟩) from rfl))
      clear HQ hd
      go_enter Tryz.func36, Tryz.ntmps36
      go_wp2_with fail
      refine Calls.mono (show _ from HN.out) ?_
      rintro e w1 ⟨rfl, hb⟩
      have HW := Lib.hid (HD.out w1 hb)
      clear hb
      go_wp2_with fail
      refine Calls.mono (show _ from HP2.out _ HW.out.g) ?_
      rintro e w2 ⟨rfl, hb⟩
      have HW2 := Lib.hid (HW.out.later hb)
      clear hb
      go_wp2_with fail
      refine Calls.mono (HQ2.out _) ?_
      rintro e w3 ⟨rfl, hb⟩
      have hW3 := HW2.out.later hb
      have hlt := hW3.lt
      have hvl := hW3.v.lt
      have u1 := hW3.v.c1
      have t1 := hW3.v.fz 1
      have HVX := Lib.hid (hW3.v.set1 x)
      have HZX := Lib.hid (hW3.z.other (p := ⟨w1.heap.size, 1, none⟩) (Nat.ne_of_lt hlt) (.string ⟨x.toArray⟩))
      have HBX := Lib.hid (hW3.b.setCell (p := ⟨w1.heap.size, 1, none⟩) (Nat.le_of_lt hlt) (.string ⟨x.toArray⟩))
      clear hb hW3
      have v0 := HVX.out.c0
      have v1 := HVX.out.c1
      have v2 := HVX.out.c2
      have v3 := HVX.out.c3
      have v4 := HVX.out.c4
      have v5 := HVX.out.c5
      have z0 := HZX.out.c0
      have y0 := HZX.out.fz 0
      have z1 := HZX.out.c1
      have y1 := HZX.out.fz 1
      have z2 := HZX.out.c2
      have y2 := HZX.out.fz 2
      have z3 := HZX.out.c3
      have y3 := HZX.out.fz 3
      have z4 := HZX.out.c4
      have y4 := HZX.out.fz 4
      have z5 := HZX.out.c5
      have y5 := HZX.out.fz 5
      go_wp2_with fail
      have hk := HZX.out.set6 ⟨1, x, false, [], [], 0⟩
      have k0 := hk.c0
      have k1 := hk.c1
      have k2 := hk.c2
      have k3 := hk.c3
      have k4 := hk.c4
      have k5 := hk.c5
      simp only [Go.Proofs.YtkbhmkofflcpjaaGreatDoor.set6] at k0 k1 k2 k3 k4 k5
      refine bodyPost_ret (v := vbV ⟨1, x, false, [], [], 0⟩) (by simp [results, Tryz.results36, go_sem, k0, k1, k2, k3, k4, k5, vbV, vbCells]) rfl ⟨right8 HE.out rfl, below_set6 HBX.out (Nat.le_refl _) ⟨1, x, false, [], [], 0⟩⟩

set_option maxHeartbeats 2000000 in
theorem cmd_helo2 (s : List UInt8) (w : World) (hs : s.length ≤ 9000) (hg : Gl w) (hr : restOk s = true) (h : kindL s = 2) :
    Calls Tryz.prog 36 #[.string ⟨s.toArray⟩] w fun e w' => e = cmdE s ∧ Below w.heap.size w w' := by
  have hg0 := hg.alloc (.cells #[.int .i64 0, .string ⟨#[]⟩, .bool false, .string ⟨#[]⟩, .string ⟨#[]⟩, .int .i64 0] 27)
  have HN := Lib.hid (vreadName_any s (w.alloc (.cells #[.int .i64 0, .string ⟨#[]⟩, .bool false, .string ⟨#[]⟩, .string ⟨#[]⟩, .int .i64 0] 27)) (by omega) hg0)
  have HE := Lib.hid (read_helo (by omega) hr (show kindL s = 1 ∨ kindL s = 2 by omega))
  rw [h] at HE
  have hrl : (s.drop 4).length ≤ 9000 := by simp; omega
  have HD := Lib.hid (fun w1 hb => begun w w1 2 hg hb)
  rw [show nameE s = .returned (.tuple #[.int .i64 2, .string ⟨(s.drop 4).toArray⟩]) by unfold nameE; rw [if_neg (by rw [hr, h]; simp), h]] at HN
  clear h hg hr
  generalize s.drop 4 = R at *
  clear hg0
  have HP := Lib.hid (fun W (hW : Gl W) => readPast_any R [32] W (by omega) goodBlank hW)
  cases hp : pastL R [32] with
  | none =>
    rw [hp] at HP HE
    have HP2 := Lib.hid (fun W hW => callsBad (HP.out W hW) rfl)
    clear HP hp
    go_enter Tryz.func36, Tryz.ntmps36
    go_wp2_with fail
    refine Calls.mono (show _ from HN.out) ?_
    rintro e w1 ⟨rfl, hb⟩
    have HW := Lib.hid (HD.out w1 hb)
    clear hb
    go_wp2_with fail
    refine Calls.mono (show _ from HP2.out _ HW.out.g) ?_
    rintro e w2 ⟨rfl, hb⟩
    exact ⟨rfl, wrong8 HE.out rfl, (HW.out.later hb).b⟩
  | some r =>
    have hl : r.length ≤ 9000 := Nat.le_trans (past_len hp) hrl
    rw [hp] at HP HE
    have HP2 := Lib.hid (fun W hW => callsGood (HP.out W hW) (show _ = some (.string ⟨r.toArray⟩) from rfl))
    have HQ := Lib.hid (fun W => vreadDomain_any r W (by omega))
    clear HP hp
    cases hd : domO r with
    | none =>
      rw [Option.bind_some, hd] at HE
      rw [hd] at HQ
      have HQ2 := Lib.hid (fun W => callsBad (HQ.out W) rfl)
      clear HQ hd
      go_enter Tryz.func36, Tryz.ntmps36
      go_wp2_with fail
      refine Calls.mono (show _ from HN.out) ?_
      rintro e w1 ⟨rfl, hb⟩
      have HW := Lib.hid (HD.out w1 hb)
      clear hb
      go_wp2_with fail
      refine Calls.mono (show _ from HP2.out _ HW.out.g) ?_
      rintro e w2 ⟨rfl, hb⟩
      have HW2 := Lib.hid (HW.out.later hb)
      clear hb
      go_wp2_with fail
      refine Calls.mono (HQ2.out _) ?_
      rintro e w3 ⟨rfl, hb⟩
      exact ⟨rfl, wrong8 HE.out rfl, (HW2.out.later hb).b⟩
    | some x =>
      rw [Option.bind_some, hd] at HE
      rw [hd] at HQ
      have HQ2 := Lib.hid (fun W => callsGood (HQ.out W) (show _ = some (.string ⟨x.toArray⟩) from rfl))
      clear HQ hd
      go_enter Tryz.func36, Tryz.ntmps36
      go_wp2_with fail
      refine Calls.mono (show _ from HN.out) ?_
      rintro e w1 ⟨rfl, hb⟩
      have HW := Lib.hid (HD.out w1 hb)
      clear hb
      go_wp2_with fail
      refine Calls.mono (show _ from HP2.out _ HW.out.g) ?_
      rintro e w2 ⟨rfl, hb⟩
      have HW2 := Lib.hid (HW.out.later hb)
      clear hb
      go_wp2_with fail
      refine Calls.mono (HQ2.out _) ?_
      rintro e w3 ⟨rfl, hb⟩
      have hW3 := HW2.out.later hb
      have hlt := hW3.lt
      have hvl := hW3.v.lt
      have u1 := hW3.v.c1
      have t1 := hW3.v.fz 1
      have HVX := Lib.hid (hW3.v.set1 x)
      have HZX := Lib.hid (hW3.z.other (p := ⟨w1.heap.size, 1, none⟩) (Nat.ne_of_lt hlt) (.string ⟨x.toArray⟩))
      have HBX := Lib.hid (hW3.b.setCell (p := ⟨w1.heap.size, 1, none⟩) (Nat.le_of_lt hlt) (.string ⟨x.toArray⟩))
      clear hb hW3
      have v0 := HVX.out.c0
      have v1 := HVX.out.c1
      have v2 := HVX.out.c2
      have v3 := HVX.out.c3
      have v4 := HVX.out.c4
      have v5 := HVX.out.c5
      have z0 := HZX.out.c0
      have y0 := HZX.out.fz 0
      have z1 := HZX.out.c1
      have y1 := HZX.out.fz 1
      have z2 := HZX.out.c2
      have y2 := HZX.out.fz 2
      have z3 := HZX.out.c3
      have y3 := HZX.out.fz 3
      have z4 := HZX.out.c4
      have y4 := HZX.out.fz 4
      have z5 := HZX.out.c5
      have y5 := HZX.out.fz 5
      go_wp2_with fail
      have hk := HZX.out.set6 ⟨2, x, false, [], [], 0⟩
      have k0 := hk.c0
      have k1 := hk.c1
      have k2 := hk.c2
      have k3 := hk.c3
      have k4 := hk.c4
      have k5 := hk.c5
      simp only [Go.Proofs.YtkbhmkofflcpjaaGreatDoor.set6] at k0 k1 k2 k3 k4 k5
      refine bodyPost_ret (v := vbV ⟨2, x, false, [], [], 0⟩) (by simp [results, Tryz.results36, go_sem, k0, k1, k2, k3, k4, k5, vbV, vbCells]) rfl ⟨right8 HE.out rfl, below_set6 HBX.out (Nat.le_refl _) ⟨2, x, false, [], [], 0⟩⟩
end Go.Proofs.YtkbhmkofflcpjaaGreatDoor

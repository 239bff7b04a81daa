/-
  The page's own Framer and ends, walked: Framer tells what the document's definition of a framer says.
  Conditions: as each theorem states them.
-/
import Derived.Test.YtnhmhdfnphlngaaW
namespace Go.Proofs.Ytnhmhdfnphlngaa
open Go.RowKit

/-- Does a text end with a CRLF? -/
def endsL (l : List UInt8) : Bool := decide (2 ≤ l.length) && (l[l.length - 2]? == some 13) && (l[l.length - 1]? == some 10)

theorem byte_beq (c d : UInt8) : (some c == some d) = ((c.toNat : Int) == (d.toNat : Int)) := by
  by_cases h : c = d
  · subst h; simp
  · rw [byte_ne h]; simpa using h

theorem endsL_eq (s : ByteArray) (h2 : 2 ≤ s.size) : endsL s.data.toList = (((s[s.size - 2].toNat : Int) == 13) && ((s[s.size - 1].toNat : Int) == 10)) := by
  have hl : s.data.toList.length = s.size := by simp
  have e1 : s.data.toList[s.size - 2]? = some s[s.size - 2] := by
    rw [List.getElem?_eq_getElem (by omega)]; rfl
  have e2 : s.data.toList[s.size - 1]? = some s[s.size - 1] := by
    rw [List.getElem?_eq_getElem (by omega)]; rfl
  unfold endsL
  rw [hl, e1, e2, byte_beq, byte_beq, decide_eq_true h2]
  rfl

theorem ends_ref (s : ByteArray) (w : World) (hs : s.size < 1000000) :
    Calls Try.prog 21 #[.string s] w fun e w' => e = .returned (.bool (endsL s.data.toList)) ∧ w = w' := by
  by_cases h2 : 2 ≤ s.size
  · rw [endsL_eq s h2]
    go_enter Try.func21, Try.ntmps21
    go_wp2
    all_goals
      go_ret
      refine ⟨ret_bool ?_, rfl⟩
      simp_all
  · go_enter Try.func21, Try.ntmps21
    go_wp2
    go_ret
    exact ⟨ret_bool (by simp [endsL, h2]), rfl⟩

theorem framer_skip (s : ByteArray) (w : World) :
    Calls Try.prog 10 #[.agg #[.string s, .bool true]] w fun e w' => e = .returned (.bool (validL s.data.toList true)) ∧ Below w.heap.size w w' := by
  go_enter Try.func10, Try.ntmps10
  go_wp2
  · go_ret
    rename_i h
    exact ⟨ret_bool (by rw [Lib.toList_data] at h; simp [validL, h]), (Below.refl _ _).alloc (Nat.le_refl _) _⟩
  · go_ret
    refine ⟨ret_bool ?_, (Below.refl _ _).alloc (Nat.le_refl _) _⟩
    rw [Lib.toList_data]
    simp [validL]

set_option maxRecDepth 100000 in
theorem framer_long (s : ByteArray) (w : World) (hs : ¬ s.size < 512) (hm : s.size ≤ maxLen) :
    Calls Try.prog 10 #[.agg #[.string s, .bool false]] w fun e w' => e = .returned (.bool (validL s.data.toList false)) ∧ Below w.heap.size w w' := by
  unfold maxLen at hm
  go_enter Try.func10, Try.ntmps10
  go_wp2
  go_ret
  exact ⟨ret_bool (by simp [validL, hs]), (Below.refl _ _).alloc (Nat.le_refl _) _⟩

/-- The first i bytes end with no CRLF, for each i up to j. -/
def NoEnd (l : List UInt8) (j : Nat) : Prop := ∀ i, i < j → endsL (l.take i) = false

theorem endsL_take (l : List UInt8) (i : Nat) (hi : i + 2 ≤ l.length) : endsL (l.take (i + 2)) = true ↔ l[i]? = some (13 : UInt8) ∧ l[i + 1]? = some (10 : UInt8) := by
  have hl : (l.take (i + 2)).length = i + 2 := by simp; omega
  unfold endsL
  rw [hl]
  simp

theorem noEnd_valid (l : List UInt8) (hl : l.length < 512) (h : NoEnd l (l.length + 1)) : validL l false = true := by
  have hc : Lib.contains l [13, 10] = false := by
    cases hc : Lib.contains l [13, 10] with
    | false => rfl
    | true =>
      obtain ⟨i, h1, h2⟩ := (contains_iff l).1 hc
      have hi : i + 1 < l.length := by
        rcases Nat.lt_or_ge (i + 1) l.length with h | h
        · exact h
        · rw [List.getElem?_eq_none h] at h2; cases h2
      have := h (i + 2) (by omega)
      rw [(endsL_take l i (by omega)).2 ⟨h1, h2⟩] at this
      cases this
  simp [validL, hl, hc]

theorem end_invalid (l : List UInt8) (i : Nat) (hi : i ≤ l.length) (h : endsL (l.take i) = true) : validL l false = false := by
  have h2 : 2 ≤ i := by
    rcases Nat.lt_or_ge i 2 with h' | h'
    · exfalso
      unfold endsL at h
      have : ¬ 2 ≤ (l.take i).length := by simp; omega
      rw [decide_eq_false this] at h
      simp at h
    · exact h'
  obtain ⟨k, rfl⟩ : ∃ k, i = k + 2 := ⟨i - 2, by omega⟩
  have := (contains_iff l).2 ⟨k, (endsL_take l k hi).1 h⟩
  simp [validL, this]

theorem noEnd_two (l : List UInt8) : NoEnd l 2 := fun i hi => by
  unfold endsL
  have : ¬ 2 ≤ (l.take i).length := by simp; omega
  rw [decide_eq_false this]
  rfl

theorem noEnd_succ {l : List UInt8} {j : Nat} (h : NoEnd l j) (hj : endsL (l.take j) = false) : NoEnd l (j + 1) := fun i hi => by
  rcases Nat.lt_or_eq_of_le (Nat.le_of_lt_succ hi) with h' | h'
  · exact h i h'
  · rw [h']; exact hj

set_option maxRecDepth 100000 in
set_option maxHeartbeats 1000000 in
theorem framer_short (s : ByteArray) (w : World) (hs : s.size < 512) :
    Calls Try.prog 10 #[.agg #[.string s, .bool false]] w fun e w' => e = .returned (.bool (validL s.data.toList false)) ∧ Below w.heap.size w w' := by
  go_enter Try.func10, Try.ntmps10
  go_wp2_with fail
  go_loop [3] (fun i => ∃ j : Nat, 2 ≤ j ∧ j ≤ s.size + 2 ∧ i = .int .i64 j ∧ NoEnd s.data.toList j) (fun i => s.size + 2 - (intOf i).toNat)
  case atStart => exact ⟨2, Nat.le_refl _, by omega, rfl, noEnd_two _⟩
  case round =>
    obtain ⟨j, h2, hj, rfl, hno⟩ := hrel
    have hN := Lib.hid hno
    clear hno
    by_cases hlt : j ≤ s.size
    · have htk := Lib.hid (show (s.extract 0 j).data.toList = s.data.toList.take j from by rw [Lib.extract_data]; simp)
      cases hE : endsL (s.data.toList.take j) with
      | true =>
        have HE := Lib.hid hE
        clear hE
        go_wp2_with fail
        refine (ends_ref _ _ ?_).mono ?_
        · simp; omega
        rintro e w' ⟨rfl, rfl⟩
        rw [htk.out, HE.out]
        go_wp2
        go_ret
        exact ⟨ret_bool (end_invalid _ j (by simpa using hlt) HE.out).symm, (Below.refl _ _).alloc (Nat.le_refl _) _⟩
      | false =>
        have HE := Lib.hid hE
        clear hE
        go_wp2_with fail
        refine (ends_ref _ _ ?_).mono ?_
        · simp; omega
        rintro e w' ⟨rfl, rfl⟩
        rw [htk.out, HE.out]
        go_wp2
        go_round
        case rel => exact ⟨j + 1, by omega, by omega, by go_num, noEnd_succ hN.out HE.out⟩
        case measure => simp [intOf]; omega
    · go_wp2
      go_ret
      exact ⟨ret_bool (noEnd_valid _ (by simpa using hs) (fun i hi => hN.out i (by simp at hi; omega))).symm, (Below.refl _ _).alloc (Nat.le_refl _) _⟩

/-- The page's Framer, at every framer. -/
theorem framer_ref (s : ByteArray) (k : Bool) (w : World) (hm : s.size ≤ maxLen) :
    Calls Try.prog 10 #[.agg #[.string s, .bool k]] w fun e w' => e = .returned (.bool (validL s.data.toList k)) ∧ Below w.heap.size w w' := by
  cases k with
  | true => exact framer_skip s w
  | false =>
    by_cases hs : s.size < 512
    · exact framer_short s w hs
    · exact framer_long s w hs hm
end Go.Proofs.Ytnhmhdfnphlngaa

/-
  Plain mathematics of how a reply is sent; Check, valid and the page's Reply, walked.
  Conditions: as each theorem states them: the reply's texts lie in memory.
-/
import Derived.Test.YtlefeebhilfkjaaDoorO
import Derived.Lib.ItoaNum
namespace Go.Proofs.YtlefeebhilfkjaaDoor
open Go.RowKit

/-- The three digits of a code. -/
def digs (n : Nat) : List UInt8 := [UInt8.ofNat (48 + n / 100), UInt8.ofNat (48 + n / 10 % 10), UInt8.ofNat (48 + n % 10)]

/-- Is a reply one? -/
def validR (code : Int) (l : List (List UInt8)) : Bool := codeOk code && decide (1 ≤ l.length) && decide (l.length ≤ 16) && l.all textOk

/-- A line as it is sent. -/
def lineB (n : Nat) (sign : UInt8) (s : List UInt8) : List UInt8 := digs n ++ sign :: (s ++ [13, 10])

/-- The sign of line j. -/
def signL (l : List (List UInt8)) (j : Nat) : UInt8 := if j + 1 = l.length then 32 else 45

/-- The first j lines as they are sent. -/
def sentTo (n : Nat) (l : List (List UInt8)) : Nat → List UInt8
  | 0 => []
  | j + 1 => sentTo n l j ++ lineB n (signL l j) (l.getD j [])

/-- A reply as it is sent. -/
def sentL (n : Nat) (l : List (List UInt8)) : List UInt8 := sentTo n l l.length

theorem itoa_digs : ∀ n : Nat, n < 600 → 200 ≤ n → Lib.itoa (n : Int) = digs n := by decide +kernel

theorem valid_iff {code : Int} {l : List (List UInt8)} (h : validR code l = true) : 200 ≤ code ∧ code ≤ 599 ∧ 1 ≤ l.length ∧ l.length ≤ 16 ∧ ∀ s ∈ l, textOk s = true := by
  simp only [validR, codeOk, Bool.and_eq_true, decide_eq_true_eq, List.all_eq_true] at h
  obtain ⟨⟨⟨⟨h1, h2⟩, h3⟩, h4⟩, h5⟩ := h
  exact ⟨h1, h2, h3, h4, h5⟩

theorem text_len {s : List UInt8} (h : textOk s = true) : s.length ≤ 506 := by
  simp only [textOk, Bool.and_eq_true, decide_eq_true_eq] at h
  exact h.1

theorem sent_len (n : Nat) (l : List (List UInt8)) (h : ∀ s ∈ l, s.length ≤ 506) : ∀ j, (sentTo n l j).length ≤ 512 * j := by
  intro j
  induction j with
  | zero => exact Nat.zero_le _
  | succ j ih =>
    have hd : (l.getD j []).length ≤ 506 := by
      rcases Nat.lt_or_ge j l.length with hj | hj
      · rw [List.getD_eq_getElem?_getD, List.getElem?_eq_getElem hj]
        exact h _ (List.getElem_mem hj)
      · rw [List.getD_eq_getElem?_getD, List.getElem?_eq_none hj]
        exact Nat.zero_le _
    simp only [sentTo, lineB, digs, List.length_append, List.length_cons, List.length_nil]
    omega

theorem valid_false_texts {code : Int} {l : List (List UInt8)} {j : Nat} (h : j < l.length) (hs : textOk l[j] = false) : validR code l = false := by
  have : l.all textOk = false := by
    rw [List.all_eq_false]
    exact ⟨l[j], List.getElem_mem h, by rw [hs]; exact Bool.false_ne_true⟩
  rw [validR, this, Bool.and_false]

theorem valid_of {code : Int} {l : List (List UInt8)} (hc : codeOk code = true) (h1 : 1 ≤ l.length) (h2 : l.length ≤ 16) (hs : ∀ k, (hk : k < l.length) → textOk l[k] = true) : validR code l = true := by
  have : l.all textOk = true := by
    rw [List.all_eq_true]
    intro s hs'
    obtain ⟨j, hj, e⟩ := List.mem_iff_getElem.1 hs'
    rw [← e]
    exact hs j hj
  simp [validR, hc, h1, h2, this]

set_option maxHeartbeats 2000000 in
set_option maxRecDepth 100000 in
theorem valid_any (code : Int) (l : List (List UInt8)) (v : Value) (w : World) (hl : TextsAt w v l) :
    Calls Tryd.prog 16 #[.agg #[.int .i64 code, v]] w fun e w' => e = .returned (.bool (validR code l)) ∧ Below w.heap.size w w' := by
  obtain ⟨A, c, rfl, hll, hlm, hl⟩ := hl
  have HL := Lib.hid hl
  have HM := Lib.hid hlm
  clear hl hlm
  have hbel : Below w.heap.size w (w.alloc (.cells #[.int .i64 code, .slice A l.length c] 26)) := (Below.refl _ w).alloc (Nat.le_refl _) _
  have HB := Lib.hid hbel
  have HR := Lib.hid (show RAt (w.alloc (.cells #[.int .i64 code, .slice A l.length c] 26)) w.heap.size code (.slice A l.length c) from heap_alloc_new w _)
  clear hbel
  cases hc : codeOk code with
  | false =>
    have HE := Lib.hid (show validR code l = false by simp [validR, hc])
    have HC := Lib.hid hc
    clear hc
    go_enter Tryd.func16, Tryd.ntmps16
    go_wp2_with fail
    refine (validCode_any _ _).mono ?_
    rintro e w1 ⟨rfl, rfl⟩
    rw [HC.out]
    go_wp2_with fail
    go_ret
    exact ⟨ret_bool HE.out.symm, HB.out⟩
  | true =>
    have HC := Lib.hid hc
    clear hc
    by_cases h0 : l.length = 0
    · have HE := Lib.hid (show validR code l = false by simp [validR, h0])
      have h0b : ((l.length : Int) == 0) = true := by rw [h0]; rfl
      clear h0
      go_enter Tryd.func16, Tryd.ntmps16
      go_wp2_with fail
      refine (validCode_any _ _).mono ?_
      rintro e w1 ⟨rfl, rfl⟩
      rw [HC.out]
      go_wp2_with fail
      go_ret
      exact ⟨ret_bool HE.out.symm, HB.out⟩
    · have h0b : ((l.length : Int) == 0) = false := by rw [beq_eq_false_iff_ne]; omega
      by_cases h16 : l.length ≤ 16
      · have h16i : ¬ ((16 : Int) < (l.length : Int)) := by omega
        have hpos : 1 ≤ l.length := by omega
        clear h0
        go_enter Tryd.func16, Tryd.ntmps16
        go_wp2_with fail
        refine (validCode_any _ _).mono ?_
        rintro e w1 ⟨rfl, rfl⟩
        rw [HC.out]
        go_wp2_with fail
        go_loopw [24] (fun iv wr => ∃ j : Nat, j ≤ l.length ∧ iv = .int .i64 j ∧ wr = w.alloc (.cells #[.int .i64 code, .slice A l.length c] 26) ∧ ∀ k, (hk : k < l.length) → k < j → textOk l[k] = true) (fun iv _ => l.length - (intOf iv).toNat)
        case atStart => exact ⟨0, Nat.zero_le _, rfl, rfl, fun k _ h => absurd h (Nat.not_lt_zero _)⟩
        case round =>
          obtain ⟨j, hj, rfl, hwr, hno⟩ := hrel
          have HN := Lib.hid hno
          have HWR := Lib.hid hwr
          have HB1 := Lib.hid (show Below w.heap.size w wr by rw [hwr]; exact HB.out)
          have hr1 : RAt wr w.heap.size code (.slice A l.length c) := by rw [hwr]; exact HR.out
          have hc0 := hr1.c0
          have hc1 := hr1.c1
          clear hwr hno
          by_cases hlt : j < l.length
          · obtain ⟨b, o, rfl, hab, hac⟩ := HL.out (fun e => by rw [e] at hlt; exact absurd hlt (by simp))
            have hce : wr.cell? ⟨b, o + j, none⟩ = some (.string ⟨l[j].toArray⟩) := (HB1.out.cell (p := ⟨b, o + j, none⟩) hab).trans (hac j hlt)
            have hsm : l[j].length ≤ maxLen := by have := HM.out _ (List.getElem_mem hlt); unfold maxLen; omega
            clear hac
            cases ht : textOk l[j] with
            | false =>
              have HE := Lib.hid (valid_false_texts (code := code) hlt ht)
              have HT := Lib.hid ht
              clear ht
              go_wp2_with fail
              refine (validText_any l[j] _ hsm).mono ?_
              rintro e w1 ⟨rfl, rfl⟩
              rw [HT.out]
              go_wp2_with fail
              go_ret
              exact ⟨ret_bool HE.out.symm, HB1.out⟩
            | true =>
              have HT := Lib.hid ht
              clear ht
              go_wp2_with fail
              refine (validText_any l[j] _ hsm).mono ?_
              rintro e w1 ⟨rfl, rfl⟩
              rw [HT.out]
              go_wp2_with fail
              refine ⟨⟨j + 1, hlt, by go_num, HWR.out, fun k hk hkj => ?_⟩, by simp [intOf]; omega⟩
              rcases Nat.lt_or_eq_of_le (Nat.le_of_lt_succ hkj) with h | h
              · exact HN.out k hk h
              · subst h
                exact HT.out
          · obtain rfl : j = l.length := by omega
            have HE := Lib.hid (valid_of HC.out hpos h16 (fun k hk => HN.out k hk hk))
            go_wp2_with fail
            go_ret
            exact ⟨ret_bool HE.out.symm, HB1.out⟩
      · have h16i : (16 : Int) < (l.length : Int) := by omega
        have HE := Lib.hid (show validR code l = false by simp [validR, h16])
        clear h0
        go_enter Tryd.func16, Tryd.ntmps16
        go_wp2_with fail
        refine (validCode_any _ _).mono ?_
        rintro e w1 ⟨rfl, rfl⟩
        rw [HC.out]
        go_wp2_with fail
        go_ret
        exact ⟨ret_bool HE.out.symm, HB.out⟩
end Go.Proofs.YtlefeebhilfkjaaDoor

/-
  IndexAny and ContainsAny at the two bytes 13, 10, and valid of package dots, walked at this program: ContainsAny tells whether one of the two lies in a text, whatever the text's bytes; valid tells whether a line may be.
  Conditions: the text has fewer than 4294967281 bytes.
-/
import Derived.Test.YtdebkbocpljkbaaM2
import Derived.Test.YtdebkbocpljkbaaB
namespace Go.Proofs.Ytdebkbocpljkbaa
open Go.RowKit

set_option maxHeartbeats 1000000 in
set_option maxRecDepth 1000000 in
theorem indexRune_bad (s : ByteArray) (r : Nat) (w : World) (h0 : 128 ≤ r) (h1 : r ≠ 65533) (hv : Lib.validRune r = false) :
    Calls Try.prog 43 #[.string s, .int .i32 r] w fun e w' => e = .returned (.int .i64 (-1)) ∧ Below w.heap.size w w' := by
  have hlt : ¬ (r : Int) < 128 := by omega
  have hge : (0 : Int) ≤ (r : Int) := by omega
  have hne : ((r : Int) == 65533) = false := beq_eq_false_iff_ne.2 (by omega)
  go_enter Try.func43, Try.ntmps43
  go_wp2_with (go_at_call 50; refine (Try.utf8_ValidRune _ _).mono ?_; rintro e w' ⟨rfl, rfl⟩; rw [hv])
  go_ret
  exact ⟨rfl, Below.refl _ _⟩

/-- IndexRune in the two bytes 13, 10 at a rune that is no ASCII one. -/
theorem indexRune_high (r : Nat) (w : World) (h0 : 128 ≤ r) :
    Calls Try.prog 43 #[.string ⟨#[13, 10]⟩, .int .i32 r] w fun e w' => e = .returned (.int .i64 (-1)) ∧ Below w.heap.size w w' := by
  by_cases h1 : r = 65533
  · subst h1
    exact indexRune_error w
  · cases hv : Lib.validRune (r : Int) with
    | false => exact indexRune_bad _ r w h0 h1 hv
    | true =>
      obtain ⟨e1, e2, e3⟩ := encode_facts (r : Int) (by
        have hv' := of_decide_eq_true hv
        simp [Utf8.valid]
        omega) (by omega)
      by_cases h2 : (Utf8.encode (r : Int)).size = 2
      · obtain ⟨a, x, he⟩ := two_of_size _ h2
        refine indexRune_two ⟨#[13, 10]⟩ r a x w rfl rfl h0 h1 hv he ?_
        have := e3 (by omega)
        simp only [he] at this
        exact this
      · exact indexRune_more r w h0 h1 hv (by omega) e2

theorem get_in (s : ByteArray) (k : Nat) (h : k < s.size) : s.get! k = s[k] := by
  simp [ByteArray.get!, getElem!_pos, h]
  rfl

/-- The bytes that one rune beyond ASCII takes are beyond ASCII. -/
theorem decode_span (s : ByteArray) (pos : Nat) (h : pos < s.size) (ha : 128 ≤ s[pos].toNat) : ∀ j, j < (Utf8.decode s pos).2 → ∀ hj : pos + j < s.size, 128 ≤ s[pos + j].toNat := by
  have hn : ¬ s[pos].toNat < 128 := by omega
  intro j
  simp only [Utf8.decode, get_at s pos h, hn, if_false]
  intro hlt hj
  by_cases j0 : j = 0
  · subst j0; exact ha
  · rw [← get_in s (pos + j) hj]
    repeat' split at hlt
    all_goals simp at hlt
    all_goals first | omega | skip
    all_goals
      rename_i hc _
      simp only [Bool.and_eq_true, beq_iff_eq, decide_eq_true_eq] at hc
      obtain h | h | h : j = 1 ∨ j = 2 ∨ j = 3 := by omega
      all_goals (subst h; omega)

theorem crlf_contains (x : UInt8) : ([13, 10] : List UInt8).contains x = !okB x := by
  by_cases h : x = 13 ∨ x = 10
  · rw [okB_false h]; rcases h with rfl | rfl <;> rfl
  · rw [okB_true h]
    simp only [not_or] at h
    simp [h.1, h.2]

set_option maxHeartbeats 2000000 in
set_option maxRecDepth 1000000 in
theorem indexAny_short (s : ByteArray) (w : World) (h8 : s.size ≤ 8) :
    Calls Try.prog 38 #[.string s, .string ⟨#[13, 10]⟩] w fun e w' => e = .returned (.int .i64 (Lib.indexAny s.data.toList [13, 10])) ∧ Below w.heap.size w w' := by
  have h8z : decide ((8 : Int) < (s.size : Int)) = false := decide_eq_false (by omega)
  go_enter Try.func38, Try.ntmps38
  go_wp2_with (go_at_call 44; refine (Try.strings_shouldUseASCIISet _ _).mono ?_; rintro e w' ⟨rfl, hw⟩; rw [hw, h8z])
  go_loopg [9, 10] s.size (fun g _ _ wx => ∃ i : Nat, s.size ≤ i + g ∧ wx.heap[w.heap.size]? = some (.stringIter s i) ∧ Below w.heap.size w wx ∧ Lib.NoAny s.data.toList [13, 10] i)
  case atStart => exact ⟨0, by omega, World.iter_heap w s 0, (Below.refl _ _).alloc (Nat.le_refl _) _, Lib.NoAny.zero _ _⟩
  case round =>
    obtain ⟨i, hig, hk, hb, hno⟩ := hrel
    have HN := Lib.hid hno
    have HK := Lib.hid hk
    have HB := Lib.hid hb
    clear hno hk hb
    by_cases hi : i < s.size
    · obtain ⟨x, hx⟩ : ∃ x : UInt8, s[i] = x := ⟨_, rfl⟩
      have Hat := Lib.hid (show s.data.toList[i]? = some x from by rw [← hx]; exact data_at s i hi)
      by_cases h128 : x.toNat < 128
      · have hnx := fun ty => Lib.run_next_ascii_at (P := Try.prog) wr w.heap.size s i ty HK.out hi (by rw [hx]; exact h128)
        rw [hx] at hnx
        clear hx
        have hcon := Lib.contains_iff_indexByte [13, 10] x
        have hback : ((x.toNat : Int)).toNat.toUInt8 = x := by simp
        cases hin : ([13, 10] : List UInt8).contains x
        · rw [hin] at hcon
          have hlt : ¬ ((0 : Int) ≤ Lib.indexByte [13, 10] x) := of_decide_eq_false hcon.symm
          clear hcon
          go_wp2_with (go_at_call 43; refine (Try.strings_IndexRune_ascii _ _ _ (by omega) (by omega)).mono ?_; rintro e w' ⟨rfl, hw⟩; rw [hw, hback])
          cases gk with
          | zero => omega
          | succ g =>
            go_roundg g
            case measure => omega
            case rel => exact ⟨i + 1, by omega, Lib.iterAt_heap _ _ _ _ _ HK.out, Lib.below_iterAt HB.out (Nat.le_refl _) _ _, HN.out.succ Hat.out hin⟩
        · rw [hin] at hcon
          have hge : (0 : Int) ≤ Lib.indexByte [13, 10] x := of_decide_eq_true hcon.symm
          clear hcon
          go_wp2_with (go_at_call 43; refine (Try.strings_IndexRune_ascii _ _ _ (by omega) (by omega)).mono ?_; rintro e w' ⟨rfl, hw⟩; rw [hw, hback])
          go_ret
          exact ⟨by rw [Lib.indexAny_hit HN.out Hat.out hin]; rfl, Lib.below_iterAt HB.out (Nat.le_refl _) _ _⟩
      · have hnx := fun ty => Lib.run_next_any_at (P := Try.prog) wr w.heap.size s i ty HK.out hi
        have hsp := Lib.hid (decode_span s i hi (by rw [hx]; omega))
        obtain ⟨hd1, hd2⟩ := decode_high s i hi (by rw [hx]; omega)
        generalize (Utf8.decode s i).1 = c at *
        generalize (Utf8.decode s i).2 = k at *
        clear hx
        go_wp2_with fail
        refine (indexRune_high c _ hd1).mono ?_
        rintro e w2 ⟨rfl, hb2⟩
        rw [Lib.iterAt_size] at hb2
        have hlt : w.heap.size < wr.heap.size := (Array.getElem?_eq_some_iff.1 HK.out).1
        go_wp2
        cases gk with
        | zero => omega
        | succ g =>
          go_roundg g
          case measure => omega
          case rel =>
            refine ⟨i + k, by omega, (hb2.block _ hlt).trans (Lib.iterAt_heap _ _ _ _ _ HK.out), (Lib.below_iterAt HB.out (Nat.le_refl _) _ _).trans (hb2.mono (by omega)), fun j b hj hb => ?_⟩
            by_cases hji : j < i
            · exact HN.out j b hji hb
            · obtain ⟨d, rfl⟩ : ∃ d, j = i + d := ⟨j - i, by omega⟩
              have hjs : i + d < s.size := by
                have := (List.getElem?_eq_some_iff.1 hb).1
                simpa using this
              have h1 := hsp.out d (by omega) hjs
              rw [data_at s (i + d) hjs] at hb
              cases hb
              rw [crlf_contains, okB_true]
              · rfl
              · rintro (h | h) <;> rw [h] at h1 <;> revert h1 <;> decide
    · have hnx := fun ty => Lib.run_next_end_at (P := Try.prog) wr w.heap.size s i ty HK.out hi
      go_wp2
      go_ret
      exact ⟨by rw [Lib.indexAny_none (fun j b hj hb => HN.out j b (by simp at hj; omega) hb)]; rfl, HB.out⟩

theorem info67 : (Try.prog.info? 67).map (fun i => (i.zero, i.size)) = some (some (.agg (Array.replicate 256 (.bool false))), 256) := by kernel_rfl

theorem indexAny_any (s : ByteArray) (w : World) (hs : s.size < 4294967281) :
    Calls Try.prog 38 #[.string s, .string ⟨#[13, 10]⟩] w fun e w' => e = .returned (.int .i64 (Lib.indexAny s.data.toList [13, 10])) ∧ Below w.heap.size w w' := by
  by_cases h8 : s.size ≤ 8
  · exact indexAny_short s w h8
  · refine (Try.strings_IndexAny_long (zero_of_info info67).1 s ⟨#[13, 10]⟩ w (by decide) (by omega) hs (by decide) ?_).mono ?_
    · intro j b hb
      match j, hb with
      | 0, hb => cases hb; decide
      | 1, hb => cases hb; decide
      | (j + 2), hb => cases hb
    · rintro e w' ⟨rfl, rfl⟩
      exact ⟨rfl, ((Below.refl _ _).alloc (Nat.le_refl _) _).alloc (by simp) _⟩

theorem indexAny_ok : ∀ l : List UInt8, (0 ≤ Lib.indexAny l [13, 10]) ↔ l.all okB = false
  | [] => by simp [Lib.indexAny]
  | b :: l => by
    have ih := indexAny_ok l
    have hge := Lib.indexAny_ge [13, 10] l
    rw [Lib.indexAny, crlf_contains, List.all_cons]
    cases okB b with
    | false => simp
    | true =>
      simp only [Bool.not_true, Bool.false_eq_true, if_false, Bool.true_and, ← ih]
      split
      · rename_i h
        have := beq_iff_eq.1 h
        omega
      · rename_i h
        have : Lib.indexAny l [13, 10] ≠ -1 := fun e => h (beq_iff_eq.2 e)
        omega

theorem containsAny_any (s : ByteArray) (w : World) (hs : s.size < 4294967281) :
    Calls Try.prog 34 #[.string s, .string ⟨#[13, 10]⟩] w fun e w' => e = .returned (.bool (!s.data.toList.all okB)) ∧ Below w.heap.size w w' := by
  go_enter Try.func34, Try.ntmps34
  go_wp2_with fail
  refine (indexAny_any s w hs).mono ?_
  rintro e w1 ⟨rfl, hb⟩
  have h := indexAny_ok s.data.toList
  cases ha : s.data.toList.all okB with
  | false =>
    have h' := h.2 ha
    have HA := Lib.hid ha
    clear h ha
    go_wp2
    go_ret
    exact ⟨ret_bool (by rw [HA.out]; rfl), hb⟩
  | true =>
    have h' : ¬ (0 ≤ Lib.indexAny s.data.toList [13, 10]) := fun e => by rw [h.1 e] at ha; cases ha
    have HA := Lib.hid ha
    clear h ha
    go_wp2
    go_ret
    exact ⟨ret_bool (by rw [HA.out, decide_eq_false (by omega)]; rfl), hb⟩

set_option maxRecDepth 100000 in
/-- valid of package dots. -/
theorem valid_any (s : ByteArray) (w : World) (hs : s.size < 4294967281) :
    Calls Try.prog 29 #[.string s] w fun e w' => e = .returned (.bool (cleanL s.data.toList)) ∧ Below w.heap.size w w' := by
  by_cases h509 : s.size ≤ 509
  · have hl : cleanL s.data.toList = s.data.toList.all okB := by simp [cleanL, h509]
    rw [hl]
    go_enter Try.func29, Try.ntmps29
    go_wp2_with fail
    refine (containsAny_any s w hs).mono ?_
    rintro e w1 ⟨rfl, hb⟩
    go_wp2
    go_ret
    exact ⟨ret_bool (by simp), hb⟩
  · have hl : cleanL s.data.toList = false := by simp [cleanL, h509]
    rw [hl]
    go_enter Try.func29, Try.ntmps29
    go_wp2
    go_ret
    exact ⟨ret_bool (by simp), Below.refl _ _⟩
end Go.Proofs.Ytdebkbocpljkbaa

/-
  The page's Take and Clean, walked: they answer what the plain mathematics says.
  No condition beyond those that each theorem states.
-/
import Derived.Test.YtdebkbocpljkbaaA
import Derived.WalkLawsBesides
namespace Go.Proofs.Ytdebkbocpljkbaa
open Go.RowKit

theorem ret_bool {a b : Bool} (h : a = b) : Ending.returned (.bool a) = .returned (.bool b) := by rw [h]
theorem ret_two {a b : ByteArray} {c d : Bool} (h : a = b) (k : c = d) : Ending.returned (.tuple #[.string a, .bool c]) = .returned (.tuple #[.string b, .bool d]) := by rw [h, k]

theorem mk_eq {s : ByteArray} {l : List UInt8} (h : s.data.toList = l) : s = ⟨l.toArray⟩ := by subst h; rw [Lib.mk_data]

theorem byte_eq {c d : UInt8} : ((c.toNat : Int) == (d.toNat : Int)) = decide (c = d) := by
  by_cases h : c = d
  · subst h; simp
  · rw [byte_ne h]; simp [h]

theorem data_at (s : ByteArray) (j : Nat) (h : j < s.size) : s.data.toList[j]? = some s[j] := by
  rw [List.getElem?_eq_getElem (by simpa using h)]; rfl

theorem take_head (s : ByteArray) (h0 : 0 < s.size) (h : ((s[0].toNat : Int) == 46) = true) : ∃ t, s.data.toList = 46 :: t := by
  have h1 := data_at s 0 h0
  replace h : ((s[0].toNat : Int) == ((46 : UInt8).toNat : Int)) = true := h
  rw [byte_eq, decide_eq_true_eq] at h
  rw [h] at h1
  cases hl : s.data.toList with
  | nil => rw [hl] at h1; cases h1
  | cons a t =>
    rw [hl] at h1
    simp at h1
    exact ⟨t, by rw [h1]⟩

theorem head_no (s : ByteArray) (h : ∀ h0 : 0 < s.size, ((s[0].toNat : Int) == 46) = false) : Lib.hasPrefix s.data.toList [46] = false := by
  cases hl : s.data.toList with
  | nil => rfl
  | cons a t =>
    have h0 : 0 < s.size := by have := congrArg List.length hl; simp at this; omega
    have h1 := data_at s 0 h0
    have h2 : ((s[0].toNat : Int) == ((46 : UInt8).toNat : Int)) = false := h h0
    rw [byte_eq, decide_eq_false_iff_not] at h2
    rw [hl] at h1
    simp at h1
    rw [Lib.hasPrefix, List.isPrefixOf, h1]
    simp
    exact fun e => absurd e.symm h2

theorem takeP_any (s : ByteArray) (w : World) :
    Calls Try.prog 14 #[.string s] w fun e w' => e = .returned (.tuple #[.string ⟨(takeL s.data.toList).1.toArray⟩, .bool (takeL s.data.toList).2]) ∧ w = w' := by
  go_enter Try.func14, Try.ntmps14
  go_wp2
  · refine bodyPost_ret (v := .tuple #[.string ⟨#[]⟩, .bool true]) (by simp [results, Try.results14, go_sem]) rfl ?_
    rename_i h
    rw [Lib.toList_data] at h
    rw [beq_iff_eq.1 h]
    exact ⟨rfl, rfl⟩
  · refine bodyPost_ret (v := .tuple #[.string (s.extract 1 s.size), .bool false]) (by simp [results, Try.results14, go_sem]) rfl ?_
    rename_i h1 _ _ h2 h3
    rw [Lib.toList_data] at h1
    obtain ⟨t, ht⟩ := take_head s h2 h3
    refine ⟨ret_two ?_ ?_, rfl⟩
    · refine mk_eq ?_
      rw [Lib.extract_data]
      rw [ht] at h1
      rw [takeL, ht, if_neg (by simpa using h1), Lib.trimPrefix, if_pos (by simp [Lib.hasPrefix])]
      have hl : s.size = t.length + 1 := by have := congrArg List.length ht; simpa using this
      simp [hl]
    · rw [takeL, if_neg (by simpa using h1)]
  · refine bodyPost_ret (v := .tuple #[.string s, .bool false]) (by simp [results, Try.results14, go_sem]) rfl ?_
    rename_i h1 h2 h3
    rw [Lib.toList_data] at h1
    have hp := head_no s (fun _ => h3)
    refine ⟨ret_two ?_ ?_, rfl⟩
    · refine mk_eq ?_
      rw [takeL, if_neg (by simpa using h1), Lib.trimPrefix, if_neg (by rw [hp]; exact Bool.false_ne_true)]
    · rw [takeL, if_neg (by simpa using h1)]
  · refine bodyPost_ret (v := .tuple #[.string s, .bool false]) (by simp [results, Try.results14, go_sem]) rfl ?_
    rename_i h1 h2
    rw [Lib.toList_data] at h1
    have hp := head_no s (fun h => absurd h (by simpa using h2))
    refine ⟨ret_two ?_ ?_, rfl⟩
    · refine mk_eq ?_
      rw [takeL, if_neg (by simpa using h1), Lib.trimPrefix, if_neg (by rw [hp]; exact Bool.false_ne_true)]
    · rw [takeL, if_neg (by simpa using h1)]

theorem okB_false {c : UInt8} (h : c = 13 ∨ c = 10) : okB c = false := by rcases h with rfl | rfl <;> rfl
theorem okB_true {c : UInt8} (h : ¬ (c = 13 ∨ c = 10)) : okB c = true := by
  simp only [not_or] at h
  simp [okB, h.1, h.2]

theorem not_clean {l : List UInt8} {j : Nat} {c : UInt8} (h : l[j]? = some c) (hc : okB c = false) : cleanL l = false := by
  have : l.all okB = false := by
    rw [List.all_eq_false]
    exact ⟨c, List.mem_of_getElem? h, by rw [hc]; exact Bool.false_ne_true⟩
  rw [cleanL, this, Bool.and_false]

theorem all_of_take {l : List UInt8} (h : ∀ j c, j < l.length → l[j]? = some c → okB c = true) : l.all okB = true := by
  rw [List.all_eq_true]
  intro c hc
  obtain ⟨j, hj, e⟩ := List.mem_iff_getElem.1 hc
  exact h j c hj (by rw [List.getElem?_eq_getElem hj, e])

set_option maxHeartbeats 1000000 in
set_option maxRecDepth 100000 in
theorem clean_any (s : ByteArray) (w : World) (hs : s.size ≤ maxLen) :
    Calls Try.prog 16 #[.string s] w fun e w' => e = .returned (.bool (cleanL s.data.toList)) ∧ w = w' := by
  unfold maxLen at hs
  go_enter Try.func16, Try.ntmps16
  go_wp2_with fail
  go_loop [3] (fun i => ∃ j : Nat, j ≤ s.size ∧ i = .int .i64 j ∧ ∀ k c, k < j → s.data.toList[k]? = some c → okB c = true) (fun i => s.size - (intOf i).toNat)
  case atStart => exact ⟨0, by omega, rfl, fun k c h => absurd h (Nat.not_lt_zero _)⟩
  case round =>
    obtain ⟨j, hj, rfl, hno⟩ := hrel
    have hN := Lib.hid hno
    clear hno
    by_cases hlt : j < s.size
    · have hat := Lib.hid (data_at s j hlt)
      by_cases hc : s[j] = 13 ∨ s[j] = 10
      · have hC := Lib.hid (okB_false hc)
        have hc' : (((s[j].toNat : Int) == 13) = true) ∨ (((s[j].toNat : Int) == 13) = false ∧ ((s[j].toNat : Int) == 10) = true) := by
          rcases hc with h | h
          · rw [h]; exact .inl rfl
          · rw [h]; exact .inr ⟨rfl, rfl⟩
        clear hc
        rcases hc' with h13 | ⟨h13, h10⟩
        · go_wp2
          go_ret
          exact ⟨ret_bool (not_clean hat.out hC.out).symm, rfl⟩
        · go_wp2
          go_ret
          exact ⟨ret_bool (not_clean hat.out hC.out).symm, rfl⟩
      · have hC := Lib.hid (okB_true hc)
        have h13 : ((s[j].toNat : Int) == 13) = false := byte_ne (d := 13) (fun h => hc (.inl h))
        have h10 : ((s[j].toNat : Int) == 10) = false := byte_ne (d := 10) (fun h => hc (.inr h))
        clear hc
        go_wp2
        go_round
        case rel =>
          refine ⟨j + 1, by omega, by go_num, fun k c hk hkc => ?_⟩
          rcases Nat.lt_or_eq_of_le (Nat.le_of_lt_succ hk) with h | h
          · exact hN.out k c h hkc
          · rw [h, hat.out] at hkc
            cases hkc
            exact hC.out
        case measure => simp [intOf]; omega
    · obtain rfl : j = s.size := by omega
      go_wp2
      go_ret
      refine ⟨ret_bool ?_, rfl⟩
      rw [cleanL, all_of_take (fun j c hj h => hN.out j c (by simpa using hj) h)]
      simp
      omega
end Go.Proofs.Ytdebkbocpljkbaa

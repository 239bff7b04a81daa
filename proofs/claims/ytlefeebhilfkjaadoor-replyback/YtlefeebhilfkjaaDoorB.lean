/-
  The tests of a text and of a code, walked: they answer what the plain mathematics says.
  No condition beyond those that each theorem states.
-/
import Derived.Test.YtlefeebhilfkjaaDoorA
import Derived.WalkLawsBesides
import Derived.Lib.Strings
namespace Go.Proofs.YtlefeebhilfkjaaDoor
open Go.RowKit

theorem ret_bool {a b : Bool} (h : a = b) : Ending.returned (.bool a) = .returned (.bool b) := by rw [h]
theorem mk_eq {s : ByteArray} {l : List UInt8} (h : s.data.toList = l) : s = ⟨l.toArray⟩ := by subst h; rw [Lib.mk_data]

theorem validCode_any (n : Int) (w : World) : Calls Tryd.prog 25 #[.int .i64 n] w fun e w' => e = .returned (.bool (codeOk n)) ∧ w = w' := by
  by_cases h1 : 200 ≤ n
  · by_cases h2 : n ≤ 599
    · have h : codeOk n = true := by simp [codeOk, h1, h2]
      rw [h]
      clear h
      go_enter Tryd.func25, Tryd.ntmps25
      go_wp2
      go_ret
      exact ⟨rfl, rfl⟩
    · have h : codeOk n = false := by simp [codeOk, h2]
      rw [h]
      clear h
      go_enter Tryd.func25, Tryd.ntmps25
      go_wp2
      go_ret
      exact ⟨rfl, rfl⟩
  · have h : codeOk n = false := by simp [codeOk, h1]
    rw [h]
    clear h
    go_enter Tryd.func25, Tryd.ntmps25
    go_wp2
    go_ret
    exact ⟨rfl, rfl⟩

theorem not_all {l : List UInt8} {j : Nat} (h : j < l.length) (hc : okB l[j] = false) : l.all okB = false := by
  rw [List.all_eq_false]
  exact ⟨l[j], List.getElem_mem h, by rw [hc]; exact Bool.false_ne_true⟩

theorem all_of {l : List UInt8} (h : ∀ k, (hk : k < l.length) → okB l[k] = true) : l.all okB = true := by
  rw [List.all_eq_true]
  intro c hc
  obtain ⟨j, hj, e⟩ := List.mem_iff_getElem.1 hc
  rw [← e]
  exact h j hj

set_option maxHeartbeats 1000000 in
set_option maxRecDepth 100000 in
theorem validText_any (s : List UInt8) (w : World) (hs : s.length ≤ maxLen) :
    Calls Tryd.prog 26 #[.string ⟨s.toArray⟩] w fun e w' => e = .returned (.bool (textOk s)) ∧ w = w' := by
  unfold maxLen at hs
  by_cases h506 : s.length ≤ 506
  · have ht : textOk s = s.all okB := by simp [textOk, h506]
    rw [ht]
    clear ht
    go_enter Tryd.func26, Tryd.ntmps26
    go_wp2_with fail
    go_loop [9] (fun i => ∃ j : Nat, j ≤ s.length ∧ i = .int .i64 j ∧ ∀ k, (hk : k < s.length) → k < j → okB s[k] = true) (fun i => s.length - (intOf i).toNat)
    case atStart => exact ⟨0, by omega, rfl, fun k _ h => absurd h (Nat.not_lt_zero _)⟩
    case round =>
      obtain ⟨j, hj, rfl, hno⟩ := hrel
      have hN := Lib.hid hno
      clear hno
      by_cases hlt : j < s.length
      · have hjB : j < (⟨s.toArray⟩ : ByteArray).size := hlt
        have hel : ((⟨s.toArray⟩ : ByteArray)[j]'hjB) = s[j] := rfl
        by_cases h1 : s[j].toNat < 32
        · have hA : ((((⟨s.toArray⟩ : ByteArray)[j]'hjB).toNat : Nat) : Int) < 32 := by rw [hel]; omega
          have HE := Lib.hid (not_all hlt (by simp [okB]; omega))
          clear h1 hel
          go_wp2
          go_ret
          exact ⟨ret_bool HE.out.symm, rfl⟩
        · have hA : ¬ (((((⟨s.toArray⟩ : ByteArray)[j]'hjB).toNat : Nat) : Int) < 32) := by rw [hel]; omega
          by_cases h2 : 126 < s[j].toNat
          · have hB : (126 : Int) < ((((⟨s.toArray⟩ : ByteArray)[j]'hjB).toNat : Nat) : Int) := by rw [hel]; omega
            have HE := Lib.hid (not_all hlt (by simp [okB]; omega))
            clear h1 h2 hel
            go_wp2
            go_ret
            exact ⟨ret_bool HE.out.symm, rfl⟩
          · have hB : ¬ ((126 : Int) < ((((⟨s.toArray⟩ : ByteArray)[j]'hjB).toNat : Nat) : Int)) := by rw [hel]; omega
            have HE := Lib.hid (show okB s[j] = true by simp [okB]; omega)
            clear h1 h2 hel
            go_wp2
            go_round
            case rel =>
              refine ⟨j + 1, by omega, by go_num, fun k hk hkj => ?_⟩
              rcases Nat.lt_or_eq_of_le (Nat.le_of_lt_succ hkj) with h | h
              · exact hN.out k hk h
              · subst h
                exact HE.out
            case measure => simp [intOf]; omega
      · obtain rfl : j = s.length := by omega
        go_wp2
        go_ret
        exact ⟨ret_bool (all_of fun k hk => hN.out k hk hk).symm, rfl⟩
  · have ht : textOk s = false := by simp [textOk, h506]
    rw [ht]
    clear ht
    go_enter Tryd.func26, Tryd.ntmps26
    go_wp2
    go_ret
    exact ⟨rfl, rfl⟩

set_option maxHeartbeats 1000000 in
set_option maxRecDepth 100000 in
theorem print_any (s : List UInt8) (w : World) (hs : s.length ≤ maxLen) :
    Calls Tryd.prog 30 #[.string ⟨s.toArray⟩, .int .u8 32] w fun e w' => e = .returned (.bool (s.all okB)) ∧ w = w' := by
  unfold maxLen at hs
  go_enter Tryd.func30, Tryd.ntmps30
  go_wp2_with fail
  go_loop [5] (fun i => ∃ j : Nat, j ≤ s.length ∧ i = .int .i64 j ∧ ∀ k, (hk : k < s.length) → k < j → okB s[k] = true) (fun i => s.length - (intOf i).toNat)
  case atStart => exact ⟨0, by omega, rfl, fun k _ h => absurd h (Nat.not_lt_zero _)⟩
  case round =>
    obtain ⟨j, hj, rfl, hno⟩ := hrel
    have hN := Lib.hid hno
    clear hno
    by_cases hlt : j < s.length
    · have hjB : j < (⟨s.toArray⟩ : ByteArray).size := hlt
      have hel : ((⟨s.toArray⟩ : ByteArray)[j]'hjB) = s[j] := rfl
      by_cases h1 : s[j].toNat < 32
      · have hA : ((((⟨s.toArray⟩ : ByteArray)[j]'hjB).toNat : Nat) : Int) < 32 := by rw [hel]; omega
        have HE := Lib.hid (not_all hlt (by simp [okB]; omega))
        clear h1 hel
        go_wp2
        go_ret
        exact ⟨ret_bool HE.out.symm, rfl⟩
      · have hA : ¬ (((((⟨s.toArray⟩ : ByteArray)[j]'hjB).toNat : Nat) : Int) < 32) := by rw [hel]; omega
        by_cases h2 : 126 < s[j].toNat
        · have hB : (126 : Int) < ((((⟨s.toArray⟩ : ByteArray)[j]'hjB).toNat : Nat) : Int) := by rw [hel]; omega
          have HE := Lib.hid (not_all hlt (by simp [okB]; omega))
          clear h1 h2 hel
          go_wp2
          go_ret
          exact ⟨ret_bool HE.out.symm, rfl⟩
        · have hB : ¬ ((126 : Int) < ((((⟨s.toArray⟩ : ByteArray)[j]'hjB).toNat : Nat) : Int)) := by rw [hel]; omega
          have HE := Lib.hid (show okB s[j] = true by simp [okB]; omega)
          clear h1 h2 hel
          go_wp2
          go_round
          case rel =>
            refine ⟨j + 1, by omega, by go_num, fun k hk hkj => ?_⟩
            rcases Nat.lt_or_eq_of_le (Nat.le_of_lt_succ hkj) with h | h
            · exact hN.out k hk h
            · subst h
              exact HE.out
          case measure => simp [intOf]; omega
    · obtain rfl : j = s.length := by omega
      go_wp2
      go_ret
      exact ⟨ret_bool (all_of fun k hk => hN.out k hk hk).symm, rfl⟩

theorem words_any (s : List UInt8) (w : World) (hs : s.length ≤ maxLen) :
    Calls Tryd.prog 19 #[.string ⟨s.toArray⟩] w fun e w' => e = .returned (.bool (textOk s)) ∧ w = w' := by
  have hs' := hs
  unfold maxLen at hs'
  by_cases h506 : s.length ≤ 506
  · have ht : textOk s = s.all okB := by simp [textOk, h506]
    rw [ht]
    clear ht
    go_enter Tryd.func19, Tryd.ntmps19
    go_wp2_with fail
    refine (print_any s _ hs).mono ?_
    rintro e w1 ⟨rfl, rfl⟩
    go_wp2
    go_ret
    exact ⟨rfl, rfl⟩
  · have ht : textOk s = false := by simp [textOk, h506]
    rw [ht]
    clear ht
    go_enter Tryd.func19, Tryd.ntmps19
    go_wp2
    go_ret
    exact ⟨rfl, rfl⟩
end Go.Proofs.YtlefeebhilfkjaaDoor

/-
  The tests of a byte, of a word, of a label, of a number, walked: they answer what the plain mathematics says.
  No condition beyond those that each theorem states.
-/
import Derived.Test.YtkbhmkofflcpjaaGreatDoorA
import Derived.Test.YtkbhmkofflcpjaaGreatDoorShelf
import Derived.WalkLawsBesides
import Derived.Lib.Strings
import Derived.Lib.IndexLaws
namespace Go.Proofs.YtkbhmkofflcpjaaGreatDoor
open Go.RowKit

theorem ret_bool {a b : Bool} (h : a = b) : Ending.returned (.bool a) = .returned (.bool b) := by rw [h]
theorem mk_eq {s : ByteArray} {l : List UInt8} (h : s.data.toList = l) : s = ⟨l.toArray⟩ := by subst h; rw [Lib.mk_data]

theorem isSmall_any (c : UInt8) (w : World) : Calls Tryz.prog 118 #[.int .u8 (c.toNat : Int)] w fun e w' => e = .returned (.bool (smallB c)) ∧ w = w' := by
  by_cases h1 : (97 : Int) ≤ (c.toNat : Int)
  · by_cases h2 : (c.toNat : Int) ≤ 122
    · have h : smallB c = true := by simp [smallB]; omega
      rw [h]
      clear h
      go_enter Tryz.func118, Tryz.ntmps118
      go_wp2
      go_ret
      exact ⟨rfl, rfl⟩
    · have h : smallB c = false := by simp [smallB]; omega
      rw [h]
      clear h
      go_enter Tryz.func118, Tryz.ntmps118
      go_wp2
      go_ret
      exact ⟨rfl, rfl⟩
  · have h : smallB c = false := by simp [smallB]; omega
    rw [h]
    clear h
    go_enter Tryz.func118, Tryz.ntmps118
    go_wp2
    go_ret
    exact ⟨rfl, rfl⟩

theorem isCapital_any (c : UInt8) (w : World) : Calls Tryz.prog 116 #[.int .u8 (c.toNat : Int)] w fun e w' => e = .returned (.bool (capB c)) ∧ w = w' := by
  by_cases h1 : (65 : Int) ≤ (c.toNat : Int)
  · by_cases h2 : (c.toNat : Int) ≤ 90
    · have h : capB c = true := by simp [capB]; omega
      rw [h]
      clear h
      go_enter Tryz.func116, Tryz.ntmps116
      go_wp2
      go_ret
      exact ⟨rfl, rfl⟩
    · have h : capB c = false := by simp [capB]; omega
      rw [h]
      clear h
      go_enter Tryz.func116, Tryz.ntmps116
      go_wp2
      go_ret
      exact ⟨rfl, rfl⟩
  · have h : capB c = false := by simp [capB]; omega
    rw [h]
    clear h
    go_enter Tryz.func116, Tryz.ntmps116
    go_wp2
    go_ret
    exact ⟨rfl, rfl⟩

theorem isDigit_any (c : UInt8) (w : World) : Calls Tryz.prog 119 #[.int .u8 (c.toNat : Int)] w fun e w' => e = .returned (.bool (digB c)) ∧ w = w' := by
  by_cases h1 : (48 : Int) ≤ (c.toNat : Int)
  · by_cases h2 : (c.toNat : Int) ≤ 57
    · have h : digB c = true := by simp [digB]; omega
      rw [h]
      clear h
      go_enter Tryz.func119, Tryz.ntmps119
      go_wp2
      go_ret
      exact ⟨rfl, rfl⟩
    · have h : digB c = false := by simp [digB]; omega
      rw [h]
      clear h
      go_enter Tryz.func119, Tryz.ntmps119
      go_wp2
      go_ret
      exact ⟨rfl, rfl⟩
  · have h : digB c = false := by simp [digB]; omega
    rw [h]
    clear h
    go_enter Tryz.func119, Tryz.ntmps119
    go_wp2
    go_ret
    exact ⟨rfl, rfl⟩

theorem isPrintable_any (c : UInt8) (w : World) : Calls Tryz.prog 123 #[.int .u8 (c.toNat : Int)] w fun e w' => e = .returned (.bool (printB c)) ∧ w = w' := by
  by_cases h1 : (32 : Int) ≤ (c.toNat : Int)
  · by_cases h2 : (c.toNat : Int) ≤ 126
    · have h : printB c = true := by simp [printB]; omega
      rw [h]
      clear h
      go_enter Tryz.func123, Tryz.ntmps123
      go_wp2
      go_ret
      exact ⟨rfl, rfl⟩
    · have h : printB c = false := by simp [printB]; omega
      rw [h]
      clear h
      go_enter Tryz.func123, Tryz.ntmps123
      go_wp2
      go_ret
      exact ⟨rfl, rfl⟩
  · have h : printB c = false := by simp [printB]; omega
    rw [h]
    clear h
    go_enter Tryz.func123, Tryz.ntmps123
    go_wp2
    go_ret
    exact ⟨rfl, rfl⟩

/-- Whether a byte is one of the signs, as IndexByte tells it. -/
theorem sign_any (c : UInt8) (w : World) : Calls Tryz.prog 120 #[.string ⟨#[33, 35, 36, 37, 38, 39, 42, 43, 45, 47, 61, 63, 94, 95, 96, 123, 124, 125, 126]⟩, .int .u8 (c.toNat : Int)] w fun e w' =>
    ((signB c = true ∧ ∃ n : Nat, e = .returned (.int .i64 n)) ∨ (signB c = false ∧ e = .returned (.int .i64 (-1)))) ∧ w = w' := by
  refine (Tryz.strings_IndexByte _ _ w).mono ?_
  rintro e w' ⟨rfl, rfl⟩
  refine ⟨?_, rfl⟩
  have hc : (c.toNat : Int).toNat.toUInt8 = c := by simp
  rw [hc]
  show (signB c = true ∧ ∃ n : Nat, _ = Ending.returned (.int .i64 n)) ∨ (signB c = false ∧ Ending.returned (.int .i64 (Lib.indexByte signL c)) = _)
  have hge := Lib.indexByte_ge signL c
  by_cases h : Lib.indexByte signL c = -1
  · refine .inr ⟨?_, by rw [h]⟩
    have hn := Lib.indexByte_none h
    unfold signB
    rw [List.contains_eq_mem, decide_eq_false_iff_not]
    intro hm
    obtain ⟨k, hk, e⟩ := List.mem_iff_getElem.1 hm
    exact hn k (by rw [List.getElem?_eq_getElem hk, e])
  · obtain ⟨o, ho⟩ : ∃ o : Nat, Lib.indexByte signL c = o := ⟨(Lib.indexByte signL c).toNat, by omega⟩
    refine .inl ⟨?_, o, by rw [← ho]; rfl⟩
    have hs := (Lib.indexByte_some ho).1
    unfold signB
    rw [List.contains_eq_mem, decide_eq_true_eq]
    exact List.mem_of_getElem? hs

theorem not_all {p : UInt8 → Bool} {l : List UInt8} {j : Nat} (h : j < l.length) (hc : p l[j] = false) : l.all p = false := by
  rw [List.all_eq_false]
  exact ⟨l[j], List.getElem_mem h, by rw [hc]; exact Bool.false_ne_true⟩

theorem all_of {p : UInt8 → Bool} {l : List UInt8} (h : ∀ k, (hk : k < l.length) → p l[k] = true) : l.all p = true := by
  rw [List.all_eq_true]
  intro c hc
  obtain ⟨j, hj, e⟩ := List.mem_iff_getElem.1 hc
  rw [← e]
  exact h j hj

theorem ne_empty {s : List UInt8} (h : s ≠ []) : s.isEmpty = false := by
  cases s with
  | nil => exact absurd rfl h
  | cons _ _ => rfl

theorem startsQuoted_any (s : List UInt8) (w : World) (hs : s.length ≤ maxLen) : Calls Tryz.prog 121 #[.string ⟨s.toArray⟩] w fun e w' => e = .returned (.bool (s.head? == some 34)) ∧ w = w' := by
  cases s with
  | nil =>
    go_enter Tryz.func121, Tryz.ntmps121
    go_wp2
    go_ret
    exact ⟨rfl, rfl⟩
  | cons c t =>
    have hne := ne_empty (List.cons_ne_nil c t)
    have hsz : (0 : Int) < (((c :: t).length : Nat) : Int) := by simp
    have hB : 0 < (⟨(c :: t).toArray⟩ : ByteArray).size := Nat.zero_lt_succ _
    have hel : ((⟨(c :: t).toArray⟩ : ByteArray)[0]'hB) = c := rfl
    by_cases h : c = 34
    · have hA : ((((⟨(c :: t).toArray⟩ : ByteArray)[0]'hB).toNat : Int) == 34) = true := by rw [hel, h]; rfl
      have HE := Lib.hid (show ((c :: t).head? == some 34) = true by simp [h])
      rw [HE.out]
      clear h hel
      generalize hs' : c :: t = s at *
      go_enter Tryz.func121, Tryz.ntmps121
      go_wp2
      go_ret
      exact ⟨rfl, rfl⟩
    · have hA : ((((⟨(c :: t).toArray⟩ : ByteArray)[0]'hB).toNat : Int) == 34) = false := by
        rw [hel, beq_eq_false_iff_ne]
        intro e
        exact h (UInt8.toNat_inj.1 (by show c.toNat = 34; omega))
      have HE := Lib.hid (show ((c :: t).head? == some 34) = false by simp [h])
      rw [HE.out]
      clear h hel
      generalize hs' : c :: t = s at *
      go_enter Tryz.func121, Tryz.ntmps121
      go_wp2
      go_ret
      exact ⟨rfl, rfl⟩

set_option maxHeartbeats 1000000 in
set_option maxRecDepth 100000 in
theorem isWord_any (s : List UInt8) (w : World) (hs : s.length ≤ maxLen) :
    Calls Tryz.prog 101 #[.string ⟨s.toArray⟩] w fun e w' => e = .returned (.bool (wordB s)) ∧ w = w' := by
  unfold maxLen at hs
  go_enter Tryz.func101, Tryz.ntmps101
  go_wp2_with fail
  go_loop [7] (fun i => ∃ j : Nat, j ≤ s.length ∧ i = .int .i64 j ∧ ∀ k, (hk : k < s.length) → k < j → wordC s[k] = true) (fun i => s.length - (intOf i).toNat)
  case atStart => exact ⟨0, by omega, rfl, fun k _ h => absurd h (Nat.not_lt_zero _)⟩
  case round =>
    obtain ⟨j, hj, rfl, hno⟩ := hrel
    have hN := Lib.hid hno
    clear hno
    by_cases hlt : j < s.length
    · have hjB : j < (⟨s.toArray⟩ : ByteArray).size := hlt
      have HEL := Lib.hid (show ((⟨s.toArray⟩ : ByteArray)[j]'hjB) = s[j] from rfl)
      have HC := Lib.hid (show wordC s[j] = (smallB ((⟨s.toArray⟩ : ByteArray)[j]'hjB) || capB ((⟨s.toArray⟩ : ByteArray)[j]'hjB) || digB ((⟨s.toArray⟩ : ByteArray)[j]'hjB) || signB ((⟨s.toArray⟩ : ByteArray)[j]'hjB)) from rfl)
      have HK : Hid (wordC s[j] = true → ∃ j' : Nat, j' ≤ s.length ∧ Value.int .i64 ((j : Int) + 1) = .int .i64 j' ∧ ∀ k, (hk : k < s.length) → k < j' → wordC s[k] = true) := Lib.hid fun hE => by
        refine ⟨j + 1, by omega, by go_num, fun k hk hkj => ?_⟩
        rcases Nat.lt_or_eq_of_le (Nat.le_of_lt_succ hkj) with h | h
        · exact hN.out k hk h
        · subst h
          exact hE
      go_wp2_with fail
      refine (isSmall_any _ _).mono ?_
      rintro e w1 ⟨rfl, rfl⟩
      cases h1 : smallB ((⟨s.toArray⟩ : ByteArray)[j]'hjB) with
      | true =>
        have HE := Lib.hid (HC.out.trans (by rw [h1]))
        clear h1
        go_wp2_with fail
        exact ⟨HK.out HE.out, by simp [intOf]; omega⟩
      | false =>
        have H1 := Lib.hid h1
        clear h1
        go_wp2_with fail
        refine (isCapital_any _ _).mono ?_
        rintro e w1 ⟨rfl, rfl⟩
        cases h2 : capB ((⟨s.toArray⟩ : ByteArray)[j]'hjB) with
        | true =>
          have HE := Lib.hid (HC.out.trans (by rw [H1.out, h2]))
          clear h2
          go_wp2_with fail
          exact ⟨HK.out HE.out, by simp [intOf]; omega⟩
        | false =>
          have H2 := Lib.hid h2
          clear h2
          go_wp2_with fail
          refine (isDigit_any _ _).mono ?_
          rintro e w1 ⟨rfl, rfl⟩
          cases h3 : digB ((⟨s.toArray⟩ : ByteArray)[j]'hjB) with
          | true =>
            have HE := Lib.hid (HC.out.trans (by rw [H1.out, H2.out, h3]))
            clear h3
            go_wp2_with fail
            exact ⟨HK.out HE.out, by simp [intOf]; omega⟩
          | false =>
            have H3 := Lib.hid h3
            clear h3
            go_wp2_with fail
            refine (sign_any _ _).mono ?_
            rintro e w1 ⟨⟨h4, n, rfl⟩ | ⟨h4, rfl⟩, rfl⟩
            · have HE := Lib.hid (HC.out.trans (by rw [H1.out, H2.out, H3.out, h4]))
              clear h4
              go_wp2_with fail
              exact ⟨HK.out HE.out, by simp [intOf]; omega⟩
            · have HE := Lib.hid (show wordB s = false from by
                unfold wordB
                rw [not_all hlt (HC.out.trans (by rw [H1.out, H2.out, H3.out, h4]; rfl))]
                rfl)
              clear h4
              go_wp2_with fail
              go_ret
              exact ⟨ret_bool HE.out.symm, rfl⟩
    · obtain rfl : j = s.length := by omega
      have HE := Lib.hid (show s.all wordC = true from all_of fun k hk => hN.out k hk hk)
      by_cases h0 : s = []
      · subst h0
        go_wp2_with fail
        go_ret
        exact ⟨rfl, rfl⟩
      · have hne := ne_empty h0
        have HF := Lib.hid (show wordB s = true from by unfold wordB; rw [HE.out]; simpa using h0)
        clear h0
        go_wp2_with fail
        go_ret
        exact ⟨ret_bool HF.out.symm, rfl⟩
end Go.Proofs.YtkbhmkofflcpjaaGreatDoor

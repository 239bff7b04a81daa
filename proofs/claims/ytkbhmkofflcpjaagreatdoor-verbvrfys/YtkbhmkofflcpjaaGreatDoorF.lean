/-
  CutPrefix and CutSuffix at one byte; literals and domains, walked: they answer what the plain mathematics says.
  Conditions: as each theorem states them.
-/
import Derived.Test.YtkbhmkofflcpjaaGreatDoorD
namespace Go.Proofs.YtkbhmkofflcpjaaGreatDoor
open Go.RowKit

/-- What CutPrefix answers at one byte. -/
def PreEnd (c : UInt8) (s : List UInt8) (e : Ending) : Prop :=
  (∃ t, s = c :: t ∧ e = .returned (.tuple #[.string ⟨t.toArray⟩, .bool true])) ∨ (s.head? ≠ some c ∧ e = .returned (.tuple #[.string ⟨s.toArray⟩, .bool false]))
/-- What CutSuffix answers at one byte. -/
def SufEnd (c : UInt8) (s : List UInt8) (e : Ending) : Prop :=
  (∃ t, s = t ++ [c] ∧ e = .returned (.tuple #[.string ⟨t.toArray⟩, .bool true])) ∨ (s.getLast? ≠ some c ∧ e = .returned (.tuple #[.string ⟨s.toArray⟩, .bool false]))

theorem cutPre_one (c : UInt8) (s : List UInt8) (w : World) : Calls Tryz.prog 106 #[.string ⟨s.toArray⟩, .string ⟨#[c]⟩] w fun e w' => PreEnd c s e ∧ w = w' := by
  refine (Tryz.strings_CutPrefix _ _ w).mono ?_
  rintro e w' ⟨rfl, rfl⟩
  refine ⟨?_, rfl⟩
  cases s with
  | nil => exact .inr ⟨by simp, rfl⟩
  | cons d t =>
    by_cases h : d = c
    · subst h
      refine .inl ⟨t, rfl, ?_⟩
      simp [Lib.trimPrefix, Lib.hasPrefix]
    · refine .inr ⟨by simpa using h, ?_⟩
      have h1 : (c == d) = false := by simpa using fun e => h e.symm
      simp [Lib.trimPrefix, Lib.hasPrefix, List.isPrefixOf, h1]

theorem cutSuf_one (c : UInt8) (s : List UInt8) (w : World) (hs : s.length ≤ maxLen) : Calls Tryz.prog 107 #[.string ⟨s.toArray⟩, .string ⟨#[c]⟩] w fun e w' => SufEnd c s e ∧ w = w' := by
  refine (Tryz.strings_CutSuffix _ _ w (by unfold maxLen at hs; exact hs)).mono ?_
  rintro e w' ⟨rfl, rfl⟩
  refine ⟨?_, rfl⟩
  rcases List.eq_nil_or_concat s with rfl | ⟨t, d, rfl⟩
  · exact .inr ⟨by simp, rfl⟩
  · by_cases h : d = c
    · subst h
      refine .inl ⟨t, by simp, ?_⟩
      simp [Lib.trimSuffix, Lib.hasSuffix, List.isSuffixOf]
    · refine .inr ⟨by simpa using h, ?_⟩
      have h1 : (c == d) = false := by simpa using fun e => h e.symm
      simp [Lib.trimSuffix, Lib.hasSuffix, List.isSuffixOf, List.isPrefixOf, h1]

theorem lit_not {s : List UInt8} (h : s.head? ≠ some 91) : litL s = false := by
  cases s with
  | nil => rfl
  | cons c t =>
    have h1 : (c == 91) = false := by simpa using h
    simp [litL, h1]
theorem lit_open {t : List UInt8} (h : t.getLast? ≠ some 93) : litL (91 :: t) = false := by
  have h1 : (t.getLast? == some 93) = false := by simpa using h
  simp [litL, h1]
theorem lit_in (t : List UInt8) : litL (91 :: (t ++ [93])) = (decide (t.count 46 = 3) && (splitB 46 t).all numB) := by
  have h := split_len 46 t
  simp only [litL, List.getLast?_concat, List.dropLast_concat, h]
  simp

set_option maxHeartbeats 1000000 in
theorem isLiteral_any (s : List UInt8) (w : World) (hs : s.length ≤ maxLen) :
    Calls Tryz.prog 90 #[.string ⟨s.toArray⟩] w fun e w' => e = .returned (.bool (litL s)) ∧ ∃ n, w' = w.drewN n := by
  have HP := Lib.hid (cutPre_one 91 s w)
  have HS := Lib.hid hs
  clear hs
  go_enter Tryz.func90, Tryz.ntmps90
  go_wp2_with fail
  refine Calls.mono HP.out ?_
  rintro e w' ⟨⟨t, ht, rfl⟩ | ⟨hn, rfl⟩, rfl⟩
  · have HT := Lib.hid ht
    have htl : t.length ≤ maxLen := by have := HS.out; rw [ht] at this; simp at this; omega
    have HQ := Lib.hid (cutSuf_one 93 t w htl)
    have HTL := Lib.hid htl
    clear ht htl
    go_wp2_with fail
    refine Calls.mono HQ.out ?_
    rintro e w' ⟨⟨u, hu, rfl⟩ | ⟨hn, rfl⟩, rfl⟩
    · have HE := Lib.hid (show litL s = (decide (u.count 46 = 3) && (splitB 46 u).all numB) by rw [HT.out, hu]; exact lit_in u)
      have hul : u.length ≤ maxLen := by have := HTL.out; rw [hu] at this; simp at this; omega
      have HC := Lib.hid (Tryz.strings_Count_one ⟨u.toArray⟩ 46 w)
      have HA := Lib.hid (allParts_any 109 numB enters_isNumber (fun s w h => isNumber_any s w h) u w hul)
      have HK := Lib.hid (show Lib.countByte u 46 = u.count 46 from rfl)
      clear hu hul
      go_wp2_with fail
      refine Calls.mono HC.out ?_
      rintro e w' ⟨rfl, rfl⟩
      rw [HK.out]
      by_cases h3 : u.count 46 = 3
      · have h3b : (((u.count 46 : Nat) : Int) == 3) = true := by rw [h3]; rfl
        have HF := Lib.hid (HE.out.trans (by rw [decide_eq_true h3]; rfl) : litL s = (splitB 46 u).all numB)
        clear h3
        go_wp2_with fail
        refine Calls.mono HA.out ?_
        rintro e w' ⟨rfl, n, rfl⟩
        go_wp2_with fail
        go_ret
        exact ⟨ret_bool HF.out.symm, n, rfl⟩
      · have h3b : (((u.count 46 : Nat) : Int) == 3) = false := beq_eq_false_iff_ne.2 (by omega)
        have HF := Lib.hid (HE.out.trans (by rw [decide_eq_false h3]; rfl) : litL s = false)
        clear h3
        go_wp2_with fail
        go_ret
        exact ⟨ret_bool HF.out.symm, 0, rfl⟩
    · have HF := Lib.hid (show litL s = false by rw [HT.out]; exact lit_open hn)
      clear hn
      go_wp2_with fail
      go_ret
      exact ⟨ret_bool HF.out.symm, 0, rfl⟩
  · have HF := Lib.hid (lit_not hn)
    have HQ := Lib.hid (cutSuf_one 93 s w HS.out)
    clear hn
    go_wp2_with fail
    refine Calls.mono HQ.out ?_
    rintro e w' ⟨⟨u, hu, rfl⟩ | ⟨hn, rfl⟩, rfl⟩
    · have HU := Lib.hid hu
      clear hu
      go_wp2_with fail
      go_ret
      exact ⟨ret_bool HF.out.symm, 0, rfl⟩
    · have HU := Lib.hid hn
      clear hn
      go_wp2_with fail
      go_ret
      exact ⟨ret_bool HF.out.symm, 0, rfl⟩

set_option maxHeartbeats 1000000 in
theorem isDomain_any (s : List UInt8) (w : World) (hs : s.length ≤ maxLen) :
    Calls Tryz.prog 72 #[.string ⟨s.toArray⟩] w fun e w' => e = .returned (.bool (domL s)) ∧ ∃ n, w' = w.drewN n := by
  have HH := Lib.hid (isHost_any s w hs)
  have HL := Lib.hid (fun n => isLiteral_any s (w.drewN n) hs)
  unfold maxLen at hs
  by_cases h : s.length ≤ 255
  · have hi : (s.length : Int) ≤ 255 := by omega
    have HD := Lib.hid (show domL s = (hostL s || litL s) by simp [domL, h])
    go_enter Tryz.func72, Tryz.ntmps72
    go_wp2_with fail
    refine Calls.mono HH.out ?_
    rintro e w' ⟨rfl, n, rfl⟩
    cases h1 : hostL s with
    | true =>
      have HE := Lib.hid (HD.out.trans (by rw [h1]; rfl) : domL s = true)
      clear h1
      go_wp2_with fail
      go_ret
      exact ⟨ret_bool HE.out.symm, n, rfl⟩
    | false =>
      have HE := Lib.hid (HD.out.trans (by rw [h1]; rfl) : domL s = litL s)
      clear h1
      go_wp2_with fail
      refine Calls.mono (HL.out n) ?_
      rintro e w' ⟨rfl, m, rfl⟩
      go_wp2_with fail
      go_ret
      exact ⟨ret_bool HE.out.symm, n + m, rfl⟩
  · have hi : ¬ ((s.length : Int) ≤ 255) := by omega
    have HD := Lib.hid (show domL s = false by simp [domL, h])
    go_enter Tryz.func72, Tryz.ntmps72
    go_wp2_with fail
    go_ret
    exact ⟨ret_bool HD.out.symm, 0, rfl⟩
end Go.Proofs.YtkbhmkofflcpjaaGreatDoor

/-
  The page's Rows, walked: it answers the lines of a text, in memory of the call's own, or that it is none.
  Conditions: the text has at most 2^63 - 1 bytes.
-/
import Derived.Test.YtdebkbocpljkbaaF
namespace Go.Proofs.Ytdebkbocpljkbaa
open Go.RowKit

theorem ret_rows (v : Value) {a b : Bool} (h : a = b) : Ending.returned (.tuple #[v, .bool a]) = .returned (.tuple #[v, .bool b]) := by rw [h]

set_option maxHeartbeats 2000000 in
set_option maxRecDepth 100000 in
theorem rowsP_any (s : List UInt8) (w : World) (hs : s.length ≤ maxLen) :
    Calls Try.prog 7 #[.string ⟨s.toArray⟩] w fun e w' => ∃ v, e = .returned (.tuple #[v, .bool (textL s).isSome]) ∧ Below w.heap.size w w' ∧ ∀ rows, textL s = some rows → StrRow w' w.heap.size v rows := by
  unfold maxLen at hs
  by_cases hl : s.length ≤ 8192
  · have ht : textL s = pg [] s := if_pos hl
    rw [ht]
    clear ht
    go_enter Try.func7, Try.ntmps7
    go_wp2_with fail
    go_loopw [4, 5, 6] (fun lv fv iv wr => ∃ (fr i : Nat) (acc : List (List UInt8)), fr ≤ i ∧ i ≤ s.length ∧ acc.length ≤ i ∧ fv = .int .i64 fr ∧ iv = .int .i64 i ∧ Below w.heap.size w wr ∧ StrRow wr w.heap.size lv acc ∧ pg [] s = (pg (curOf s fr i) (s.drop i)).map (acc ++ ·)) (fun _ _ iv _ => s.length - (intOf iv).toNat)
    case atStart => exact ⟨0, 0, [], Nat.le_refl _, Nat.zero_le _, Nat.zero_le _, rfl, rfl, Below.refl _ _, ⟨rfl, .inl ⟨rfl, rfl⟩⟩, by simp [cur_same]⟩
    case round =>
      obtain ⟨fr, i, acc, hfi, hil, hai, rfl, rfl, hb, hrow, hpg⟩ := hrel
      have HP := Lib.hid hpg
      have HR := Lib.hid hrow
      have HB := Lib.hid hb
      have hsz := hb.size
      clear hpg hrow hb
      by_cases hi : i < s.length
      · have hiB : i < (⟨s.toArray⟩ : ByteArray).size := hi
        by_cases h10 : s[i] = 10
        · have hA : ((((⟨s.toArray⟩ : ByteArray)[i]'hiB).toNat : Nat) : Int) = 10 := by
            rw [show ((⟨s.toArray⟩ : ByteArray)[i]'hiB) = s[i] from rfl, h10]; rfl
          by_cases hfe : i = fr
          · have HN := Lib.hid (pg_go hfi hi (fun h => ((cur_ends hfi hi).1 h).2.1 hfe))
            subst hfe
            clear h10
            go_wp2_with fail
            exact ⟨⟨i, i + 1, acc, by omega, by omega, by omega, rfl, by go_num, HB.out, HR.out, by rw [HP.out, HN.out]⟩, by simp [intOf]; omega⟩
          · have hiC : i - 1 < (⟨s.toArray⟩ : ByteArray).size := by omega
            have hfe' : ¬ ((i : Int) = (fr : Int)) := by omega
            have hfb : ((i : Int) == (fr : Int)) = false := beq_eq_false_iff_ne.2 hfe'
            by_cases h13 : s[i - 1]'(by omega) = 13
            · have hE := (cur_ends hfi hi).2 ⟨h10, hfe, h13⟩
              have HN := Lib.hid (pg_end hfi hi hE)
              have hC : ((((⟨s.toArray⟩ : ByteArray)[i - 1]'hiC).toNat : Nat) : Int) = 13 := by
                rw [show ((⟨s.toArray⟩ : ByteArray)[i - 1]'hiC) = s[i - 1]'(by omega) from rfl, h13]; rfl
              have hC' : (((((⟨s.toArray⟩ : ByteArray)[i - 1]'hiC).toNat : Nat) : Int) != 13) = false := by rw [hC]; rfl
              have hex := Lib.hid (show ((⟨s.toArray⟩ : ByteArray).extract fr (i - 1)) = ⟨(curOf s fr (i - 1)).toArray⟩ from mk_eq (by rw [Lib.extract_data]; simp [curOf]))
              have hcl : (curOf s fr (i - 1)).length ≤ 9223372036854775807 := by
                have : (curOf s fr (i - 1)).length ≤ s.length := by simp [curOf]; omega
                omega
              clear h10 h13 hE
              cases hclean : cleanL (curOf s fr (i - 1)) with
              | false =>
                have hend := Lib.hid (show pg [] s = none from by rw [HP.out, HN.out, hclean]; simp)
                have HC := Lib.hid hclean
                clear hclean
                go_wp2_with fail
                rw [hex.out]
                refine (clean_any ⟨(curOf s fr (i - 1)).toArray⟩ _ hcl).mono ?_
                rintro e w1 ⟨rfl, rfl⟩
                rw [show cleanL (⟨(curOf s fr (i - 1)).toArray⟩ : ByteArray).data.toList = false from HC.out]
                go_wp2_with fail
                go_ret2
                refine ⟨_, ret_rows _ ?_, HB.out, fun rows h => ?_⟩
                · rw [hend.out]; rfl
                · rw [hend.out] at h
                  cases h
              | true =>
                have HC := Lib.hid hclean
                clear hclean
                go_wp2_with fail
                rw [hex.out]
                refine (clean_any ⟨(curOf s fr (i - 1)).toArray⟩ _ hcl).mono ?_
                rintro e w1 ⟨rfl, rfl⟩
                rw [show cleanL (⟨(curOf s fr (i - 1)).toArray⟩ : ByteArray).data.toList = true from HC.out]
                have hRa : StrRow (wr.alloc (.cells #[.string ((⟨s.toArray⟩ : ByteArray).extract fr (i - 1))] 9)) w.heap.size u4 acc := World.ownsRow.alloc HR.out _
                have HRa := Lib.hid hRa
                have HBK := Lib.hid (show (wr.alloc (.cells #[.string ((⟨s.toArray⟩ : ByteArray).extract fr (i - 1))] 9)).heap[wr.heap.size]? = some (.cells #[.string ⟨(curOf s fr (i - 1)).toArray⟩] 9 (0, 0)) from by
                  rw [← hex.out]
                  exact heap_alloc_new wr _)
                clear hRa
                go_wp2_with (at_builtin; refine wpList_append_str _ (.tmp 39) (.tmp 45) w.heap.size wr.heap.size u4 acc (curOf s fr (i - 1)) rfl rfl rfl rfl HRa.out HBK.out (by simp; omega) (by omega) ?_)
                intro g cap w2 hrow2 hgrow
                have hb2 : Below w.heap.size w w2 := (HB.out.alloc hsz _).grown hgrow (by simp; omega) (fun k hk => (World.ownsRow.lt HR.out k hk).1)
                go_wp2_with fail
                refine ⟨⟨i + 1, i + 1, acc ++ [curOf s fr (i - 1)], by omega, by omega, by simp; omega, by go_num, by go_num, hb2, hrow2, ?_⟩, by simp [intOf]; omega⟩
                rw [HP.out, HN.out, if_pos HC.out]
                simp [Function.comp_def]
            · have HN := Lib.hid (pg_go hfi hi (fun h => h13 ((cur_ends hfi hi).1 h).2.2))
              have hC : (((((⟨s.toArray⟩ : ByteArray)[i - 1]'hiC).toNat : Nat) : Int) != 13) = true := by
                rw [bne_iff_ne]
                intro e
                apply h13
                have e2 : ((⟨s.toArray⟩ : ByteArray)[i - 1]'hiC) = s[i - 1]'(by omega) := rfl
                rw [e2] at e
                exact UInt8.toNat_inj.1 (by show s[i - 1].toNat = 13; omega)
              clear h10 h13
              go_wp2_with fail
              exact ⟨⟨fr, i + 1, acc, by omega, by omega, by omega, rfl, by go_num, HB.out, HR.out, by rw [HP.out, HN.out]⟩, by simp [intOf]; omega⟩
        · have HN := Lib.hid (pg_go hfi hi (fun h => h10 ((cur_ends hfi hi).1 h).1))
          have hA : ¬ (((((⟨s.toArray⟩ : ByteArray)[i]'hiB).toNat : Nat) : Int) = 10) := by
            intro e
            apply h10
            have e2 : ((⟨s.toArray⟩ : ByteArray)[i]'hiB) = s[i] := rfl
            rw [e2] at e
            exact UInt8.toNat_inj.1 (by show s[i].toNat = 10; omega)
          clear h10
          go_wp2_with fail
          exact ⟨⟨fr, i + 1, acc, by omega, by omega, by omega, rfl, by go_num, HB.out, HR.out, by rw [HP.out, HN.out]⟩, by simp [intOf]; omega⟩
      · obtain rfl : i = s.length := by omega
        have HN := Lib.hid (pg_fin s hfi)
        by_cases hfe : fr = s.length
        · have hfb : ((fr : Int) == (s.length : Int)) = true := beq_iff_eq.2 (by omega)
          have hend := Lib.hid (show pg [] s = some acc from by rw [HP.out, HN.out, if_pos hfe]; simp)
          clear hfe
          go_wp2_with fail
          go_ret2
          refine ⟨_, ret_rows _ ?_, HB.out, fun rows h => ?_⟩
          · rw [hend.out]; simp
          · rw [hend.out] at h
            cases h
            exact HR.out
        · have hfb : ((fr : Int) == (s.length : Int)) = false := beq_eq_false_iff_ne.2 (by omega)
          have hend := Lib.hid (show pg [] s = none from by rw [HP.out, HN.out, if_neg hfe]; simp)
          clear hfe
          go_wp2_with fail
          go_ret2
          refine ⟨_, ret_rows _ ?_, HB.out, fun rows h => ?_⟩
          · rw [hend.out]; simp
          · rw [hend.out] at h
            cases h
  · have ht : textL s = none := if_neg hl
    rw [ht]
    have hl' : (8192 : Int) < (s.length : Int) := by omega
    clear ht
    go_enter Try.func7, Try.ntmps7
    go_wp2_with fail
    go_ret2
    exact ⟨_, rfl, Below.refl _ _, fun rows h => by cases h⟩
end Go.Proofs.Ytdebkbocpljkbaa

/-
  The law DotsBack, walked: at every list of texts that can be read it answers true and turns nothing that was there.
  Conditions: as the theorem states them.
-/
import Derived.Test.YtdebkbocpljkbaaJ
namespace Go.Proofs.Ytdebkbocpljkbaa
open Go.RowKit

set_option maxHeartbeats 4000000 in
set_option maxRecDepth 100000 in
theorem back_any (m : Int) (l : List (List UInt8)) (v : Value) (w : World) (hm : w.cell? ⟨0, 0, none⟩ = some (.int .i64 m)) (h0 : 0 < w.heap.size) (hl : TextsAt w v l) :
    Calls Try.prog 5 #[v] w fun e w' => e = .returned (.bool true) ∧ Below w.heap.size w w' := by
  obtain ⟨A, c, rfl, hll, hlm, hl⟩ := hl
  unfold maxLen at hll hlm
  have HL := Lib.hid hl
  have HM := Lib.hid hlm
  clear hl hlm
  go_enter Try.func5, Try.ntmps5
  go_wp2_with fail
  go_loopw [3] (fun i wr => ∃ j : Nat, j ≤ l.length ∧ i = .int .i64 j ∧ Below w.heap.size w wr) (fun i _ => l.length - (intOf i).toNat)
  case atStart => exact ⟨0, Nat.zero_le _, rfl, Below.refl _ _⟩
  case round =>
    obtain ⟨j, hj, rfl, hB⟩ := hrel
    have hm1 := (hB.cell (p := ⟨0, 0, none⟩) h0).trans hm
    have hsz := hB.size
    by_cases hlt : j < l.length
    · by_cases h10 : j < 10
      · obtain ⟨b, o, rfl, hab, hac⟩ := HL.out (fun e => by rw [e] at hlt; exact absurd hlt (by simp))
        have hc0 := hac j hlt
        have hsm : l[j].length ≤ 9223372036854775807 := HM.out _ (List.getElem_mem hlt)
        clear hac
        generalize l[j] = s at *
        have hc := (hB.cell (p := ⟨b, o + j, none⟩) hab).trans hc0
        by_cases h5 : 5000 < s.length
        · go_wp2
          go_ret
          exact ⟨rfl, hB⟩
        · have hsl : s.length ≤ maxLen := by unfold maxLen; omega
          cases ht : textL s with
          | none =>
            have HT := Lib.hid ht
            clear ht
            go_wp2_with fail
            refine (stuff_any s m _ hm1 (by omega) hsl).mono ?_
            rintro e w2 ⟨rfl, hb2⟩
            rw [HT.out]
            have hB2 := hB.trans (hb2.mono hsz)
            clear hc hm1
            go_wp2_with (go_at_call 10; refine (num_any _ _).mono ?_; rintro e w' ⟨rfl, rfl⟩)
            exact ⟨⟨j + 1, hlt, by go_num, hB2⟩, by simp [intOf]; omega⟩
          | some rows =>
            have HT := Lib.hid ht
            obtain ⟨hsj, hcl, _⟩ := text_join ht
            have hst := Reads.start hcl
            have hlen := sentL_len rows
            rw [← hsj] at hlen
            have HS := Lib.hid hsj
            have HST := Lib.hid hst
            clear ht hcl hsj hst
            go_wp2_with fail
            refine (stuff_any s m _ hm1 (by omega) hsl).mono ?_
            rintro e w2 ⟨rfl, hb2⟩
            rw [HT.out, show sentOf (some rows) = sentL rows from rfl, show errOf (some rows).isSome = 0 from rfl]
            have hB2 := hB.trans (hb2.mono hsz)
            have hc2 := (hB2.cell (p := ⟨b, o + j, none⟩) hab).trans hc0
            clear hc hm1
            obtain ⟨S, hS⟩ : ∃ S, sentL rows = S := ⟨_, rfl⟩
            rw [hS] at hlen HST ⊢
            clear hS
            go_wp2_with (go_at_call 10; refine (num_any _ _).mono ?_; rintro e w' ⟨rfl, rfl⟩)
            clear hb2 hB hsz
            generalize wr = wo at *
            go_loopw [6, 7, 8, 9] (fun bv fv dv kv wx => ∃ fr k idx : Nat, Reads S rows fr k idx ∧ bv = .string ⟨(joinL (rows.take idx)).toArray⟩ ∧ fv = .int .i64 fr ∧ dv = .bool (decide (idx = rows.length + 1)) ∧ kv = .int .i64 k ∧ wx = w2) (fun _ _ _ kv _ => S.length - (intOf kv).toNat)
            case atStart => exact ⟨0, 1, 0, HST.out, rfl, rfl, rfl, rfl, rfl⟩
            case round =>
              obtain ⟨fr, k, idx, hrd, rfl, rfl, rfl, rfl, rfl⟩ := hrel
              have hle := hrd.le
              have htop := hrd.top
              have hone := hrd.one
              have hfew := hrd.few
              have hbl := joinL_take rows idx
              rw [← HS.out] at hbl
              have HRD := Lib.hid hrd
              by_cases hk : k < S.length
              · have hkB : k < (⟨S.toArray⟩ : ByteArray).size := hk
                have hkC : k - 1 < (⟨S.toArray⟩ : ByteArray).size := by omega
                have hends := hrd.ends hk
                clear hrd
                by_cases h10 : S[k] = 10
                · have hA : ((((⟨S.toArray⟩ : ByteArray)[k]'hkB).toNat : Nat) : Int) = 10 := by
                    rw [show ((⟨S.toArray⟩ : ByteArray)[k]'hkB) = S[k] from rfl, h10]; rfl
                  by_cases h13 : S[k - 1]'(by omega) = 13
                  · have hC : ((((⟨S.toArray⟩ : ByteArray)[k - 1]'hkC).toNat : Nat) : Int) = 13 := by
                      rw [show ((⟨S.toArray⟩ : ByteArray)[k - 1]'hkC) = S[k - 1]'(by omega) from rfl, h13]; rfl
                    have hC' : (((((⟨S.toArray⟩ : ByteArray)[k - 1]'hkC).toNat : Nat) : Int) != 13) = false := by rw [hC]; rfl
                    obtain ⟨hfk, hidx, hp, hrd'⟩ := HRD.out.line hk (hends.2 ⟨h10, h13⟩)
                    have HN := Lib.hid hrd'
                    have hex := Lib.hid (show ((⟨S.toArray⟩ : ByteArray).extract fr (k - 1)) = ⟨(curOf S fr (k - 1)).toArray⟩ from mk_eq (by rw [Lib.extract_data]; simp [curOf]))
                    clear h10 h13 hends hrd'
                    by_cases hi : idx < rows.length
                    · have htk := Lib.hid (took_row hi hp)
                      have hjs := Lib.hid (joinL_snoc hi)
                      have hrl := row_le hi
                      rw [← HS.out] at hrl
                      have hd : decide (idx = rows.length + 1) = false := decide_eq_false (by omega)
                      have hd' : decide (idx + 1 = rows.length + 1) = false := decide_eq_false (by omega)
                      have HD' := Lib.hid hd'
                      rw [hd]
                      clear hp hd hd'
                      generalize rows[idx] = r at *
                      generalize joinL (rows.take idx) = bk at *
                      have hadd1 := fun w => add_str bk r w (by omega)
                      have hadd2 := fun w => add_str (bk ++ r) [13, 10] w (by simp; omega)
                      go_wp2_with fail
                      rw [hex.out]
                      refine (take_any _ _).mono ?_
                      rintro e w3 ⟨rfl, rfl⟩
                      rw [htk.out]
                      go_wp2_with fail
                      exact ⟨⟨k + 1, k + 1, idx + 1, HN.out, str_eq hjs.out.symm, by go_num, by rw [HD'.out], by go_num, trivial⟩, by simp [intOf]; omega⟩
                    · obtain rfl : idx = rows.length := by omega
                      have htk := Lib.hid (took_last hp)
                      have hd : decide (rows.length = rows.length + 1) = false := decide_eq_false (by omega)
                      have hjt := Lib.hid (show joinL (rows.take rows.length) = joinL (rows.take (rows.length + 1)) from by rw [List.take_length, List.take_of_length_le (by omega)])
                      rw [hd]
                      clear hp hd
                      generalize joinL (rows.take rows.length) = bk at *
                      go_wp2_with fail
                      rw [hex.out]
                      refine (take_any _ _).mono ?_
                      rintro e w3 ⟨rfl, rfl⟩
                      rw [htk.out]
                      go_wp2_with fail
                      exact ⟨⟨k + 1, k + 1, rows.length + 1, HN.out, str_eq hjt.out, by go_num, by rw [decide_eq_true rfl], by go_num, trivial⟩, by simp [intOf]; omega⟩
                  · have HN := Lib.hid (HRD.out.go hk (fun h => h13 (hends.1 h).2))
                    have hC : (((((⟨S.toArray⟩ : ByteArray)[k - 1]'hkC).toNat : Nat) : Int) != 13) = true := by
                      rw [bne_iff_ne]
                      intro e
                      apply h13
                      have e2 : ((⟨S.toArray⟩ : ByteArray)[k - 1]'hkC) = S[k - 1]'(by omega) := rfl
                      rw [e2] at e
                      exact UInt8.toNat_inj.1 (by show S[k - 1].toNat = 13; omega)
                    clear h10 h13 hends
                    go_wp2_with fail
                    exact ⟨⟨fr, k + 1, idx, HN.out, rfl, rfl, rfl, by go_num, trivial⟩, by simp [intOf]; omega⟩
                · have HN := Lib.hid (HRD.out.go hk (fun h => h10 (hends.1 h).1))
                  have hA : ¬ (((((⟨S.toArray⟩ : ByteArray)[k]'hkB).toNat : Nat) : Int) = 10) := by
                    intro e
                    apply h10
                    have e2 : ((⟨S.toArray⟩ : ByteArray)[k]'hkB) = S[k] := rfl
                    rw [e2] at e
                    exact UInt8.toNat_inj.1 (by show S[k].toNat = 10; omega)
                  clear h10 hends
                  go_wp2_with fail
                  exact ⟨⟨fr, k + 1, idx, HN.out, rfl, rfl, rfl, by go_num, trivial⟩, by simp [intOf]; omega⟩
              · obtain rfl : k = S.length := by omega
                obtain ⟨rfl, rfl⟩ := hrd.stop
                have hd : decide (rows.length + 1 = rows.length + 1) = true := decide_eq_true rfl
                have hbk : joinL (rows.take (rows.length + 1)) = s := by rw [List.take_of_length_le (by omega), ← HS.out]
                rw [hd, hbk]
                clear hd hbk hbl hrd
                go_wp2_with fail
                exact ⟨⟨j + 1, hlt, by go_num, hB2⟩, by simp [intOf]; omega⟩
      · have h10' : decide ((j : Int) < 10) = false := by simp; omega
        go_wp2_with fail
        refine (wakes_any m _ hm1 (by omega)).mono ?_
        rintro e w1 ⟨rfl, hb1⟩
        go_wp2
        go_ret
        exact ⟨rfl, hB.trans (hb1.mono hsz)⟩
    · go_wp2_with fail
      refine (wakes_any m _ hm1 (by omega)).mono ?_
      rintro e w1 ⟨rfl, hb1⟩
      go_wp2
      go_ret
      exact ⟨rfl, hB.trans (hb1.mono hsz)⟩
end Go.Proofs.Ytdebkbocpljkbaa

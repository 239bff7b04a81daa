/-
  The law ReplyParses, walked: at every list of scripts that can be read it answers true and turns nothing that was there.
  Conditions: as the theorem states them.
-/
import Derived.Test.YtlefeebhilfkjaaO
import Derived.Test.YtlefeebhilfkjaaJ
import Derived.Test.YtlefeebhilfkjaaK
namespace Go.Proofs.Ytlefeebhilfkjaa
open Go.RowKit

set_option maxHeartbeats 2000000 in
set_option maxRecDepth 100000 in
theorem parses_any (l : List Ask) (v : Value) (w : World) (hl : AsksAt w v l) :
    Calls Try.prog 3 #[v] w fun e w' => e = .returned (.bool true) ∧ Below w.heap.size w w' := by
  obtain ⟨A, c, rfl, hll, hl⟩ := hl
  unfold maxLen at hll
  have HL := Lib.hid hl
  clear hl
  go_enter Try.func3, Try.ntmps3
  go_wp2_with fail
  go_loopw [3] (fun i wr => ∃ j : Nat, j ≤ l.length ∧ i = .int .i64 j ∧ Below w.heap.size w wr) (fun i _ => l.length - (intOf i).toNat)
  case atStart => exact ⟨0, Nat.zero_le _, rfl, Below.refl _ _⟩
  case round =>
    obtain ⟨j, hj, rfl, hB⟩ := hrel
    have HB := Lib.hid hB
    have hsz := hB.size
    clear hB
    by_cases hlt : j < l.length
    · by_cases h15 : j < 15
      · have h15i : (j : Int) < 15 := by omega
        obtain ⟨b, o, rfl, hab, hac⟩ := HL.out (fun e => by rw [e] at hlt; exact absurd hlt (by simp))
        have hq0 := hac j hlt
        have hq1 : AskAt wr b (o + j * 3) l[j] := by
          have hb := HB.out
          exact ⟨(hb.cell (p := ⟨b, o + j * 3, none⟩) hab).trans hq0.c0, (hb.cell (p := ⟨b, o + j * 3 + 1, none⟩) hab).trans hq0.c1, (hb.cell (p := ⟨b, o + j * 3 + 2, none⟩) hab).trans hq0.c2, hq0.t1.later hb, hq0.t2.later hb⟩
        have hbr : b < wr.heap.size := by omega
        clear hac hq0
        generalize l[j] = q at *
        obtain ⟨code, v1, v2, l1, l2⟩ := q
        obtain ⟨c0, c1, c2, t1, t2⟩ := hq1
        simp only at c0 c1 c2 t1 t2
        obtain ⟨A1, n1, k1, rfl⟩ := t1.shape
        obtain ⟨A2, n2, k2, rfl⟩ := t2.shape
        have HH := Lib.hid (heavy_any code l1 l2 _ _ wr t1 t2)
        have HC2 := Lib.hid c2
        have HT2 := Lib.hid t2
        clear t1 t2
        go_wp2_with fail
        refine Calls.mono HH.out ?_
        rintro e w1 ⟨he, hb1⟩
        rcases he with rfl | ⟨rfl, _, hs2⟩
        · go_wp2_with fail
          go_ret
          exact ⟨rfl, upB HB.out (Nat.le_refl _) hb1⟩
        · have d2 : w1.cell? ⟨b, o + j * 3 + 2, none⟩ = some (.slice A2 n2 k2) := (hb1.cell (p := ⟨b, o + j * 3 + 2, none⟩) hbr).trans HC2.out
          have t2 := HT2.out.later hb1
          have HB1 := Lib.hid (upB HB.out (Nat.le_refl _) hb1)
          have hbr1 : b < w1.heap.size := Nat.lt_of_lt_of_le hbr hb1.size
          have hw1 : w.heap.size ≤ w1.heap.size := Nat.le_trans hsz hb1.size
          have HCP := Lib.hid (copy_any l2 _ w1 t2 hs2.1)
          have HT1 := Lib.hid t2
          have HD := Lib.hid d2
          clear hb1 HB HT2 HC2 HH c0 c1 c2 t2
          generalize hR : parseL l2 = R at *
          have HR := Lib.hid hR
          go_wp2_with fail
          refine Calls.mono HCP.out ?_
          rintro e w2 ⟨lv, rfl, hrow, hb2⟩
          obtain ⟨Ai, ni, ki, rfl⟩ := row_shape hrow
          have hti : TextsAt w2 (.slice Ai ni ki) l2 := hrow.texts (by have := hs2.1; omega) (fun s hs => by have := hs2.2 s hs; omega)
          have e2 : w2.cell? ⟨b, o + j * 3 + 2, none⟩ = some (.slice A2 n2 k2) := (hb2.cell (p := ⟨b, o + j * 3 + 2, none⟩) hbr1).trans HD.out
          have HB2 := Lib.hid (upB HB1.out (Nat.le_refl _) hb2)
          have hw2 : w.heap.size ≤ w2.heap.size := Nat.le_trans hw1 hb2.size
          have hbr2 : b < w2.heap.size := Nat.lt_of_lt_of_le hbr1 hb2.size
          have HTI := Lib.hid hti
          have HTI2 := Lib.hid hti
          have HTJ := Lib.hid (HT1.out.later hb2)
          have HTJ2 := Lib.hid (HT1.out.later hb2)
          have HP := Lib.hid (parse_any l2 _ w2 hti)
          have HE2 := Lib.hid e2
          clear d2 hrow hb2 hti e2 HD HT1 HCP
          go_wp2_with fail
          refine Calls.mono HP.out ?_
          rw [HR.out]
          rintro e w3 ⟨pv, rfl, hprow, hb3⟩
          obtain ⟨Ap, np, kp, rfl⟩ := row_shape hprow
          have hb3a := (hb3.alloc hb3.size (.cells #[.int .i64 R.code, .slice Ap np kp] 26))
          have hr3 : RAt (w3.alloc (.cells #[.int .i64 R.code, .slice Ap np kp] 26)) w3.heap.size R.code (.slice Ap np kp) := heap_alloc_new w3 _
          have e3 : (w3.alloc (.cells #[.int .i64 R.code, .slice Ap np kp] 26)).cell? ⟨b, o + j * 3 + 2, none⟩ = some (.slice A2 n2 k2) := (hb3a.cell (p := ⟨b, o + j * 3 + 2, none⟩) hbr2).trans HE2.out
          have hrl : R.rows.length ≤ 16 := by rw [← HR.out]; exact parse_len l2
          have HPR := Lib.hid (show StrRow (w3.alloc (.cells #[.int .i64 R.code, .slice Ap np kp] 26)) w2.heap.size (.slice Ap np kp) R.rows from World.ownsRow.alloc hprow _)
          have HTI3 := Lib.hid (HTI.out.later hb3a)
          have HTJ3 := Lib.hid (HTJ.out.later hb3a)
          have HB3 := Lib.hid hb3a
          have HE3 := Lib.hid e3
          have HR3 := Lib.hid hr3
          have HPP := Lib.hid (pageParse_any l2 _ _ HTJ3.out)
          clear hprow hb3 hr3 e3 HE2 HTI HTJ HP
          have hsz3 : (w3.alloc (.cells #[.int .i64 R.code, .slice Ap np kp] 26)).heap.size = w3.heap.size + 1 := World.size_alloc _ _
          have e3 := HE3.out
          have hw23 := HB3.out.size
          go_wp2_with fail
          refine Calls.mono HPP.out ?_
          rw [HR.out]
          rintro e w4 ⟨qv, rfl, hqrow, hb4⟩
          obtain ⟨Aq, nq, kq, rfl⟩ := row_shape hqrow
          have hb4a := (hb4.alloc hb4.size (.cells #[.int .i64 R.code, .slice Aq nq kq] 26))
          have HQ4 := Lib.hid (show RAt (w4.alloc (.cells #[.int .i64 R.code, .slice Aq nq kq] 26)) w4.heap.size R.code (.slice Aq nq kq) from heap_alloc_new w4 _)
          have HR4 := Lib.hid (HR3.out.later hb4a)
          have HTP := Lib.hid ((HPR.out.later hb4a).texts (by omega) (fun s hs => by have := parse_short l2 s (by rw [HR.out]; exact hs); omega))
          have HTQ := Lib.hid (show TextsAt (w4.alloc (.cells #[.int .i64 R.code, .slice Aq nq kq] 26)) (.slice Aq nq kq) R.rows from
            (show StrRow _ _ _ _ from World.ownsRow.alloc hqrow _).texts (by omega) (fun s hs => by have := parse_short l2 s (by rw [HR.out]; exact hs); omega))
          have HPR4 := Lib.hid (HPR.out.later hb4a)
          have HTI4 := Lib.hid (HTI3.out.later hb4a)
          have HTJ4 := Lib.hid (HTJ3.out.later hb4a)
          have HE4 := Lib.hid ((hb4a.cell (p := ⟨b, o + j * 3 + 2, none⟩) (Nat.lt_of_lt_of_le hbr2 hw23)).trans HE3.out)
          have HB4 := Lib.hid (HB3.out.trans (hb4a.mono hw23))
          clear hqrow hb4 hb4a HR3 HPR HTI3 HTJ3 HE3 HB3 HPP e3
          generalize hW4 : w4.alloc (.cells #[.int .i64 R.code, .slice Aq nq kq] 26) = W4 at *
          have c40 := HR4.out.c0
          have c41 := HR4.out.c1
          have d40 := HQ4.out.c0
          have d41 := HQ4.out.c1
          have e4 := HE4.out
          have HQ := Lib.hid (eqReply_same R.code R.rows _ _ W4 HTP.out HTQ.out)
          go_wp2_with fail
          refine (num_any _ _).mono ?_
          rintro e w5 ⟨rfl, rfl⟩
          go_wp2_with fail
          refine Calls.mono HQ.out ?_
          rintro e w5 ⟨rfl, hb5⟩
          have hbW4 : b < W4.heap.size := Nat.lt_of_lt_of_le hbr2 HB4.out.size
          have e5 : w5.cell? ⟨b, o + j * 3 + 2, none⟩ = some (.slice A2 n2 k2) := (hb5.cell (p := ⟨b, o + j * 3 + 2, none⟩) hbW4).trans HE4.out
          have HR5 := Lib.hid (HR4.out.later hb5)
          have HPR5 := Lib.hid (HPR4.out.later hb5)
          have HTI5 := Lib.hid (HTI4.out.later hb5)
          have HTJ5 := Lib.hid (HTJ4.out.later hb5)
          have HB5 := Lib.hid (upB HB4.out (Nat.le_refl _) hb5)
          have HE5 := Lib.hid e5
          have HQ5 := Lib.hid (eqStrings_same l2 _ _ w5 HTI5.out HTJ5.out)
          clear hb5 HQ HTP HTQ HR4 HPR4 HTI4 HTJ4 HB4 HE4 HQ4 c40 c41 d40 d41 e4 hW4 hbW4
          go_wp2_with fail
          refine Calls.mono HQ5.out ?_
          rintro e w6 ⟨rfl, hb6⟩
          have hbw5 : b < w5.heap.size := Nat.lt_of_lt_of_le hbr2 HB5.out.size
          have e6 : w6.cell? ⟨b, o + j * 3 + 2, none⟩ = some (.slice A2 n2 k2) := (hb6.cell (p := ⟨b, o + j * 3 + 2, none⟩) hbw5).trans HE5.out
          have HR6 := Lib.hid (HR5.out.later hb6)
          have HPR6 := Lib.hid (HPR5.out.later hb6)
          have HB6 := Lib.hid (upB HB5.out (Nat.le_refl _) hb6)
          have HE6 := Lib.hid e6
          have hs6 := HB6.out.size
          have HQ6 := Lib.hid (spoil_any w2.heap.size R.rows _ w6 HPR6.out hs6 (by omega))
          have c61 := HR6.out.c1
          clear hb6 HQ5 HR5 HPR5 HTI5 HTJ5 HB5 HE5 e5
          go_wp2_with fail
          refine Calls.mono HQ6.out ?_
          rintro e w7 ⟨rfl, hb7⟩
          have HB7 := Lib.hid (HB6.out.trans hb7)
          have e7 : w7.cell? ⟨b, o + j * 3 + 2, none⟩ = some (.slice A2 n2 k2) := (hb7.cell (p := ⟨b, o + j * 3 + 2, none⟩) hbr2).trans HE6.out
          have HQ7 := Lib.hid (eqStrings_same l2 _ _ w7 (HTI2.out.later HB7.out) (HTJ2.out.later HB7.out))
          clear hb7 HQ6 HPR6 HR6 HB6 HE6 e6 c61
          go_wp2_with fail
          refine Calls.mono HQ7.out ?_
          rintro e w8 ⟨rfl, hb8⟩
          have HB8 := Lib.hid (upB (HB2.out.trans (HB7.out.mono hw2)) (Nat.le_refl _) hb8)
          clear hb8 HQ7 e7
          go_wp2_with fail
          exact ⟨⟨j + 1, hlt, by go_num, HB8.out⟩, by simp [intOf]; omega⟩
      · have h15' : decide ((j : Int) < 15) = false := by simp; omega
        go_wp2_with fail
        refine (wakes_any wr).mono ?_
        rintro e w1 ⟨rfl, hb1⟩
        go_wp2
        go_ret
        exact ⟨rfl, upB HB.out (Nat.le_refl _) hb1⟩
    · go_wp2_with fail
      refine (wakes_any wr).mono ?_
      rintro e w1 ⟨rfl, hb1⟩
      go_wp2
      go_ret
      exact ⟨rfl, upB HB.out (Nat.le_refl _) hb1⟩
end Go.Proofs.Ytlefeebhilfkjaa

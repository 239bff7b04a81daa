/-
  The law AddrTexts, walked: at every list of scripts that can be read it answers true and turns nothing that was there.
  Conditions: as the theorem states them.
-/
import Derived.Test.YtlnpenmcpcmidaaO
import Derived.Test.YtlnpenmcpcmidaaZ
namespace Go.Proofs.Ytlnpenmcpcmidaa
open Go.RowKit

theorem text_good {l d : List UInt8} (h : boxL l d = true) : textL l d = l ++ 64 :: d := by simp [textL, h]
theorem text_bad {l d : List UInt8} (h : boxL l d = false) : textL l d = [] := by simp [textL, h]

set_option maxHeartbeats 2000000 in
set_option maxRecDepth 100000 in
theorem texts_any (l : List Ask) (v : Value) (w : World) (hl : AsksAt w v l) :
    Calls Try.prog 3 #[v] w fun e w' => e = .returned (.bool true) ∧ Below w.heap.size w w' := by
  obtain ⟨A, c, rfl, hll, hl⟩ := hl
  unfold maxLen at hll
  have HL := Lib.hid hl
  clear hl
  go_enter Try.func3, Try.ntmps3
  go_wp2_with fail
  go_loopw [3] (fun i wr => ∃ j : Nat, j ≤ l.length ∧ i = .int .i64 j ∧ Below w.heap.size w wr) (fun i _ => l.length - (intOf i).toNat)
  case atStart => exact ⟨0, Nat.zero_le _, rfl, Below.refl _ _⟩
  case round =>
    obtain ⟨j, hj, rfl, hB⟩ := hrel
    have HB := Lib.hid hB
    have hsz := hB.size
    clear hB
    by_cases hlt : j < l.length
    · by_cases h20 : j < 20
      · have h20i : (j : Int) < 20 := by omega
        obtain ⟨b, o, rfl, hab, hac⟩ := HL.out (fun e => by rw [e] at hlt; exact absurd hlt (by simp))
        have hq1 : AskAt wr b (o + j * 3) l[j] := by
          have hb := HB.out
          have hq0 := hac j hlt
          exact ⟨(hb.cell (p := ⟨b, o + j * 3, none⟩) hab).trans hq0.c0, (hb.cell (p := ⟨b, o + j * 3 + 1, none⟩) hab).trans hq0.c1, (hb.cell (p := ⟨b, o + j * 3 + 2, none⟩) hab).trans hq0.c2, hq0.b0, hq0.b1, hq0.b2⟩
        have hbr : b < wr.heap.size := by omega
        clear hac
        generalize l[j] = q at *
        obtain ⟨ll, d, s⟩ := q
        have HQ := Lib.hid (fun W (hW : Below wr.heap.size wr W) => hq1.later hW hbr)
        obtain ⟨c0, c1, c2, b0, b1, b2⟩ := hq1
        simp only at c0 c1 c2 b0 b1 b2
        have HH := Lib.hid (heavy_any ll d s wr b0 b1 b2)
        clear b0 b1 b2
        go_wp2_with fail
        refine Calls.mono HH.out ?_
        rintro e w1 ⟨rfl | ⟨rfl, h1, h2⟩, hb1⟩
        · go_wp2_with fail
          go_ret
          exact ⟨rfl, upB HB.out (Nat.le_refl _) hb1⟩
        · have hk1 := HQ.out w1 hb1
          have d0 := hk1.c0
          have d1 := hk1.c1
          have HB1 := Lib.hid hb1
          have HM := Lib.hid (may_any ll d w1 (by omega) (by omega))
          have HRT := Lib.hid (fun W => rtext_any ll d W (by omega) (by omega))
          have HT := Lib.hid (fun W => text_any ll d W (by omega) (by omega))
          have HC := Lib.hid (fun W => check_any ll d W (by omega) (by omega))
          clear hk1 hb1 HH c0 c1 c2
          simp only at d0 d1
          go_wp2_with fail
          refine Calls.mono HM.out ?_
          rintro e w2 ⟨rfl, hb2⟩
          have HB2 := Lib.hid (HB1.out.trans (hb2.mono HB1.out.size))
          clear hb2 HM d0 d1
          have hk2 := HQ.out w2 HB2.out
          have d0 := hk2.c0
          have d1 := hk2.c1
          simp only at d0 d1
          cases hbx : boxL ll d with
          | true =>
            have HX := Lib.hid (text_good hbx)
            have HBX := Lib.hid hbx
            clear hbx hk2
            go_wp2_with fail
            refine Calls.mono (HRT.out _) ?_
            rintro e w3 ⟨rfl, hb3⟩
            have HB3 := Lib.hid (HB2.out.trans (hb3.mono HB2.out.size))
            clear hb3 d0 d1
            have hk3 := HQ.out w3 HB3.out
            have d0 := hk3.c0
            have d1 := hk3.c1
            simp only at d0 d1
            clear hk3
            go_wp2_with fail
            refine Calls.mono (HT.out _) ?_
            rw [HX.out, HBX.out, show chk true = 0 from rfl]
            rintro e w4 ⟨rfl, hb4⟩
            have HB4 := Lib.hid (HB3.out.trans (hb4.mono HB3.out.size))
            clear hb4 d0 d1
            have hk4 := HQ.out w4 HB4.out
            have d0 := hk4.c0
            have d1 := hk4.c1
            simp only at d0 d1
            clear hk4
            go_wp2_with fail
            refine Calls.mono (HC.out _) ?_
            rw [HBX.out, show chk true = 0 from rfl]
            rintro e w5 ⟨rfl, hb5⟩
            have HB5 := Lib.hid (upB HB.out (Nat.le_refl _) (HB4.out.trans (hb5.mono HB4.out.size)))
            clear hb5 d0 d1
            go_wp2_with (go_at_call 13; refine (num_any _ _).mono ?_; rintro e w9 ⟨rfl, rfl⟩)
            exact ⟨⟨j + 1, hlt, by go_num, HB5.out⟩, by simp [intOf]; omega⟩
          | false =>
            have HX := Lib.hid (text_bad hbx)
            have HBX := Lib.hid hbx
            clear hbx hk2
            go_wp2_with fail
            refine Calls.mono (HT.out _) ?_
            rw [HX.out, HBX.out, show chk false = 1 from rfl]
            rintro e w4 ⟨rfl, hb4⟩
            have HB4 := Lib.hid (HB2.out.trans (hb4.mono HB2.out.size))
            clear hb4 d0 d1
            have hk4 := HQ.out w4 HB4.out
            have d0 := hk4.c0
            have d1 := hk4.c1
            simp only at d0 d1
            clear hk4
            go_wp2_with fail
            refine Calls.mono (HC.out _) ?_
            rw [HBX.out, show chk false = 1 from rfl]
            rintro e w5 ⟨rfl, hb5⟩
            have HB5 := Lib.hid (upB HB.out (Nat.le_refl _) (HB4.out.trans (hb5.mono HB4.out.size)))
            clear hb5 d0 d1
            go_wp2_with (go_at_call 13; refine (num_any _ _).mono ?_; rintro e w9 ⟨rfl, rfl⟩)
            exact ⟨⟨j + 1, hlt, by go_num, HB5.out⟩, by simp [intOf]; omega⟩
      · have h20' : decide ((j : Int) < 20) = false := by simp; omega
        go_wp2_with fail
        refine (wakes_any wr).mono ?_
        rintro e w1 ⟨rfl, hb1⟩
        go_wp2
        go_ret
        exact ⟨rfl, upB HB.out (Nat.le_refl _) hb1⟩
    · go_wp2_with fail
      refine (wakes_any wr).mono ?_
      rintro e w1 ⟨rfl, hb1⟩
      go_wp2
      go_ret
      exact ⟨rfl, upB HB.out (Nat.le_refl _) hb1⟩
end Go.Proofs.Ytlnpenmcpcmidaa

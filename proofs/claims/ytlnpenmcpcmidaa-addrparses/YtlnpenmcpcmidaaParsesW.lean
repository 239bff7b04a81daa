/-
  The law AddrParses, walked: at every list of scripts that can be read it answers true and turns nothing that was there.
  Conditions: as the theorem states them.
-/
import Derived.Test.YtlnpenmcpcmidaaO
import Derived.Test.YtlnpenmcpcmidaaAB
namespace Go.Proofs.Ytlnpenmcpcmidaa
open Go.RowKit

set_option maxHeartbeats 2000000 in
set_option maxRecDepth 100000 in
theorem parses_any (l : List Ask) (v : Value) (w : World) (hl : AsksAt w v l) :
    Calls Try.prog 5 #[v] w fun e w' => e = .returned (.bool true) ∧ Below w.heap.size w w' := by
  obtain ⟨A, c, rfl, hll, hl⟩ := hl
  unfold maxLen at hll
  have HL := Lib.hid hl
  clear hl
  go_enter Try.func5, Try.ntmps5
  go_wp2_with fail
  go_loopw [3] (fun i wr => ∃ j : Nat, j ≤ l.length ∧ i = .int .i64 j ∧ Below w.heap.size w wr) (fun i _ => l.length - (intOf i).toNat)
  case atStart => exact ⟨0, Nat.zero_le _, rfl, Below.refl _ _⟩
  case round =>
    obtain ⟨j, hj, rfl, hB⟩ := hrel
    have HB := Lib.hid hB
    have hsz := hB.size
    clear hB
    by_cases hlt : j < l.length
    · by_cases h20 : j < 20
      · have h20i : (j : Int) < 20 := by omega
        obtain ⟨b, o, rfl, hab, hac⟩ := HL.out (fun e => by rw [e] at hlt; exact absurd hlt (by simp))
        have hq1 : AskAt wr b (o + j * 3) l[j] := by
          have hb := HB.out
          have hq0 := hac j hlt
          exact ⟨(hb.cell (p := ⟨b, o + j * 3, none⟩) hab).trans hq0.c0, (hb.cell (p := ⟨b, o + j * 3 + 1, none⟩) hab).trans hq0.c1, (hb.cell (p := ⟨b, o + j * 3 + 2, none⟩) hab).trans hq0.c2, hq0.b0, hq0.b1, hq0.b2⟩
        have hbr : b < wr.heap.size := by omega
        clear hac
        generalize l[j] = q at *
        obtain ⟨ll, d, s⟩ := q
        have HQ := Lib.hid (fun W (hW : Below wr.heap.size wr W) => hq1.later hW hbr)
        obtain ⟨c0, c1, c2, b0, b1, b2⟩ := hq1
        simp only at c0 c1 c2 b0 b1 b2
        have HH := Lib.hid (heavy_any ll d s wr b0 b1 b2)
        clear b0 b1 b2
        go_wp2_with fail
        refine Calls.mono HH.out ?_
        rintro e w1 ⟨rfl | ⟨rfl, h1, h2⟩, hb1⟩
        · go_wp2_with fail
          go_ret
          exact ⟨rfl, upB HB.out (Nat.le_refl _) hb1⟩
        · have hk1 := HQ.out w1 hb1
          have d2 := hk1.c2
          have HB1 := Lib.hid hb1
          have HRP := Lib.hid (rparse_any s w1 (by omega))
          have HP := Lib.hid (fun W => parse_any s W (by omega))
          clear hk1 hb1 HH c0 c1 c2
          simp only at d2
          obtain ⟨o, ho⟩ : ∃ o, parseL s = o := ⟨_, rfl⟩
          rw [ho] at HRP HP
          have HEO := Lib.hid (show errOf o = if o.isSome then 0 else 8 from rfl)
          clear ho
          generalize (boxOf o).1 = bl at *
          generalize (boxOf o).2 = bd at *
          generalize errOf o = er at *
          generalize o.isSome = os at *
          go_wp2_with fail
          refine Calls.mono HRP.out ?_
          rintro e w2 ⟨rfl, hb2⟩
          have hb12 := HB1.out.trans (hb2.mono HB1.out.size)
          have HB2 := Lib.hid (hb12.alloc hb12.size (.cells #[.string ⟨bl.toArray⟩, .string ⟨bd.toArray⟩] 25))
          have HM2 := Lib.hid (MAt.new w2 bl bd)
          have hsz2 : wr.heap.size ≤ w2.heap.size := hb12.size
          clear hb2 hb12 HRP d2
          have d2 := (HQ.out _ HB2.out).c2
          simp only at d2
          have hbw2 : b < w2.heap.size := Nat.lt_of_lt_of_le hbr hsz2
          cases os with
          | true =>
            obtain rfl : er = 0 := HEO.out
            clear HEO
            go_wp2_with fail
            refine Calls.mono (HP.out _) ?_
            rintro e w3 ⟨rfl, hb3⟩
            have hb23 := HB2.out.trans (hb3.mono HB2.out.size)
            have HB3 := Lib.hid (upB HB.out (Nat.le_refl _) (hb23.alloc hb23.size (.cells #[.string ⟨bl.toArray⟩, .string ⟨bd.toArray⟩] 25)))
            have HM3 := Lib.hid ((HM2.out.later hb3).alloc (.cells #[.string ⟨bl.toArray⟩, .string ⟨bd.toArray⟩] 25))
            have hlt3 : w2.heap.size < w3.heap.size := (HM2.out.later hb3).lt
            have x0 := HM3.out.c0
            have x1 := HM3.out.c1
            clear hb3 hb23 d2
            go_wp2_with fail
            refine (num_any _ _).mono ?_
            rintro e w4 ⟨rfl, rfl⟩
            go_wp2_with fail
            exact ⟨⟨j + 1, hlt, by go_num, HB3.out⟩, by simp [intOf]; omega⟩
          | false =>
            obtain rfl : er = 8 := HEO.out
            clear HEO
            go_wp2_with fail
            refine Calls.mono (HP.out _) ?_
            rintro e w3 ⟨rfl, hb3⟩
            have hb23 := HB2.out.trans (hb3.mono HB2.out.size)
            have HB3 := Lib.hid (upB HB.out (Nat.le_refl _) (hb23.alloc hb23.size (.cells #[.string ⟨bl.toArray⟩, .string ⟨bd.toArray⟩] 25)))
            have HM3 := Lib.hid ((HM2.out.later hb3).alloc (.cells #[.string ⟨bl.toArray⟩, .string ⟨bd.toArray⟩] 25))
            have hlt3 : w2.heap.size < w3.heap.size := (HM2.out.later hb3).lt
            have x0 := HM3.out.c0
            have x1 := HM3.out.c1
            clear hb3 hb23 d2
            go_wp2_with fail
            refine (num_any _ _).mono ?_
            rintro e w4 ⟨rfl, rfl⟩
            go_wp2_with fail
            exact ⟨⟨j + 1, hlt, by go_num, HB3.out⟩, by simp [intOf]; omega⟩
      · have h20' : decide ((j : Int) < 20) = false := by simp; omega
        go_wp2_with fail
        refine (wakes_any wr).mono ?_
        rintro e w1 ⟨rfl, hb1⟩
        go_wp2
        go_ret
        exact ⟨rfl, upB HB.out (Nat.le_refl _) hb1⟩
    · go_wp2_with fail
      refine (wakes_any wr).mono ?_
      rintro e w1 ⟨rfl, hb1⟩
      go_wp2
      go_ret
      exact ⟨rfl, upB HB.out (Nat.le_refl _) hb1⟩
end Go.Proofs.Ytlnpenmcpcmidaa

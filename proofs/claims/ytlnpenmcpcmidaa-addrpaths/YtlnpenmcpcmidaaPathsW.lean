/-
  The law AddrPaths, walked: at every list of scripts that can be read it answers true and turns nothing that was there.
  Conditions: as the theorem states them.
-/
import Derived.Test.YtlnpenmcpcmidaaO
import Derived.Test.YtlnpenmcpcmidaaAB
import Derived.Deep.CutRange
import Derived.Deep.DeepCutAuto
namespace Go.Proofs.Ytlnpenmcpcmidaa
open Go.RowKit

set_option maxHeartbeats 2000000 in
set_option maxRecDepth 100000 in
theorem paths_any (l : List Ask) (v : Value) (w : World) (hl : AsksAt w v l) :
    Calls Try.prog 6 #[v] w fun e w' => e = .returned (.bool true) ∧ Below w.heap.size w w' := by
  obtain ⟨A, c, rfl, hll, hl⟩ := hl
  unfold maxLen at hll
  have HL := Lib.hid hl
  clear hl
  go_enter Try.func6, Try.ntmps6
  go_wp2_with fail
  go_loopw [3] (fun i wr => ∃ j : Nat, j ≤ l.length ∧ i = .int .i64 j ∧ Below w.heap.size w wr) (fun i _ => l.length - (intOf i).toNat)
  case atStart => exact ⟨0, Nat.zero_le _, rfl, Below.refl _ _⟩
  case round =>
    obtain ⟨j, hj, rfl, hB⟩ := hrel
    have HB := Lib.hid hB
    have hsz := hB.size
    clear hB
    by_cases hlt : j < l.length
    · by_cases h20 : j < 20
      · have h20i : (j : Int) < 20 := by omega
        have hjl : (j : Int) < (l.length : Int) := by omega
        obtain ⟨b, o, rfl, hab, hac⟩ := HL.out (fun e => by rw [e] at hlt; exact absurd hlt (by simp))
        have hq1 : AskAt wr b (o + j * 3) l[j] := by
          have hb := HB.out
          have hq0 := hac j hlt
          exact ⟨(hb.cell (p := ⟨b, o + j * 3, none⟩) hab).trans hq0.c0, (hb.cell (p := ⟨b, o + j * 3 + 1, none⟩) hab).trans hq0.c1, (hb.cell (p := ⟨b, o + j * 3 + 2, none⟩) hab).trans hq0.c2, hq0.b0, hq0.b1, hq0.b2⟩
        have hbr : b < wr.heap.size := by omega
        clear hac
        generalize l[j] = q at *
        obtain ⟨ll, d, s⟩ := q
        have HQ := Lib.hid (fun W (hW : Below wr.heap.size wr W) => hq1.later hW hbr)
        obtain ⟨c0, c1, c2, b0, b1, b2⟩ := hq1
        simp only at c0 c1 c2 b0 b1 b2
        have HH := Lib.hid (heavy_any ll d s wr b0 b1 b2)
        clear b0 b1 b2
        go_wp2_with fail
        refine Calls.mono HH.out ?_
        rintro e w1 ⟨rfl | ⟨rfl, h1, h2⟩, hb1⟩
        · go_wp2_with fail
          go_ret
          exact ⟨rfl, upB HB.out (Nat.le_refl _) hb1⟩
        · have HB1 := Lib.hid hb1
          clear hb1 HH c0 c1 c2
          generalize wr = wo at *
          go_wp2_with fail
          go_loopw [4] (fun kv wr => ∃ k : Nat, k ≤ 2 ∧ kv = .int .i64 k ∧ Below wo.heap.size wo wr) (fun kv _ => 2 - (intOf kv).toNat)
          case atStart => exact ⟨0, Nat.zero_le _, rfl, HB1.out⟩
          case round =>
            obtain ⟨k, hk, rfl, hB2⟩ := hrel
            have HB2 := Lib.hid hB2
            have hs2 := hB2.size
            clear hB2
            by_cases hk2 : k < 2
            · have hki : (k : Int) < 2 := by omega
              have hq2 := HQ.out wr HB2.out
              have d2 := hq2.c2
              have hbw : b < wr.heap.size := by omega
              simp only at d2
              clear hq2
              have hadd1 := fun w => add_str [60] s w (by simp; omega)
              have hadd2 := fun w => add_str (60 :: s) [62] w (by simp; omega)
              go_upto_region 9 with (fail)
              go_cut [5] (fun sv wc => sv = .string ⟨(if k = 0 then s else 60 :: (s ++ [62])).toArray⟩ ∧ Below wo.heap.size wo wc)
              case first =>
                obtain rfl | rfl : k = 0 ∨ k = 1 := by omega
                · go_region
                  all_goals
                    go_wp2_with fail
                    go_meet
                    case rel => exact ⟨rfl, (HB2.out.alloc hs2 _).drew⟩
                · go_region
                  all_goals
                    go_wp2_with fail
                    go_meet
                    case rel => exact ⟨rfl, (HB2.out.alloc hs2 _).drew⟩
              case rest =>
                obtain ⟨rfl, hBc⟩ := hcut
                have HBc := Lib.hid hBc
                have htl : (if k = 0 then s else 60 :: (s ++ [62])).length ≤ 2002 := by
                  split
                  · omega
                  · simp; omega
                clear hBc d2 hadd1 hadd2
                generalize (if k = 0 then s else 60 :: (s ++ [62])) = t at *
                have HRP := Lib.hid (fun W => rpath_any t W (by omega))
                have HP := Lib.hid (fun W => path_any t W (by omega))
                obtain ⟨po, ho⟩ : ∃ po, pathL t = po := ⟨_, rfl⟩
                rw [ho] at HRP HP
                unfold rpathV at HRP
                unfold pathV at HP
                have HEO := Lib.hid (show pErr po = if po.isSome then 0 else 8 from rfl)
                clear ho
                generalize (pBox po).1 = bl at *
                generalize (pBox po).2 = bd at *
                generalize pErr po = er at *
                generalize pNull po = pn at *
                generalize po.isSome = os at *
                go_wp2_with fail
                refine Calls.mono (HRP.out _) ?_
                rintro e w3 ⟨rfl, hb3⟩
                have hb23 := HBc.out.trans (hb3.mono HBc.out.size)
                have HB3 := Lib.hid (hb23.alloc hb23.size (.cells #[.string ⟨bl.toArray⟩, .string ⟨bd.toArray⟩] 25))
                have HM3 := Lib.hid (MAt.new w3 bl bd)
                clear hb3 hb23 HRP
                cases os with
                | true =>
                  obtain rfl : er = 0 := HEO.out
                  clear HEO
                  go_wp2_with fail
                  refine Calls.mono (HP.out _) ?_
                  rintro e w4 ⟨rfl, hb4⟩
                  have hb34 := HB3.out.trans (hb4.mono HB3.out.size)
                  have HB4 := Lib.hid (hb34.alloc hb34.size (.cells #[.string ⟨bl.toArray⟩, .string ⟨bd.toArray⟩] 25))
                  have HM4 := Lib.hid ((HM3.out.later hb4).alloc (.cells #[.string ⟨bl.toArray⟩, .string ⟨bd.toArray⟩] 25))
                  have hlt4 : w3.heap.size < w4.heap.size := (HM3.out.later hb4).lt
                  have x0 := HM4.out.c0
                  have x1 := HM4.out.c1
                  have hpn : (pn != pn) = false := by simp
                  clear hb4 hb34
                  go_wp2_with fail
                  refine (num_any _ _).mono ?_
                  rintro e w7 ⟨rfl, rfl⟩
                  go_wp2_with fail
                  exact ⟨⟨k + 1, hk2, by go_num, HB4.out⟩, by simp [intOf]; omega⟩
                | false =>
                  obtain rfl : er = 8 := HEO.out
                  clear HEO
                  go_wp2_with fail
                  refine Calls.mono (HP.out _) ?_
                  rintro e w4 ⟨rfl, hb4⟩
                  have hb34 := HB3.out.trans (hb4.mono HB3.out.size)
                  have HB4 := Lib.hid (hb34.alloc hb34.size (.cells #[.string ⟨bl.toArray⟩, .string ⟨bd.toArray⟩] 25))
                  clear hb4 hb34
                  go_wp2_with fail
                  refine (num_any _ _).mono ?_
                  rintro e w7 ⟨rfl, rfl⟩
                  go_wp2_with fail
                  exact ⟨⟨k + 1, hk2, by go_num, HB4.out⟩, by simp [intOf]; omega⟩
            · have hki : ¬ ((k : Int) < 2) := by omega
              have HBF := Lib.hid (upB HB.out (Nat.le_refl _) HB2.out)
              go_wp2_with fail
              exact ⟨⟨j + 1, hlt, by go_num, HBF.out⟩, by simp [intOf]; omega⟩
      · have h20' : decide ((j : Int) < 20) = false := by simp; omega
        go_wp2_with fail
        refine (wakes_any wr).mono ?_
        rintro e w1 ⟨rfl, hb1⟩
        go_wp2
        go_ret
        exact ⟨rfl, upB HB.out (Nat.le_refl _) hb1⟩
    · go_wp2_with fail
      refine (wakes_any wr).mono ?_
      rintro e w1 ⟨rfl, hb1⟩
      go_wp2
      go_ret
      exact ⟨rfl, upB HB.out (Nat.le_refl _) hb1⟩
end Go.Proofs.Ytlnpenmcpcmidaa

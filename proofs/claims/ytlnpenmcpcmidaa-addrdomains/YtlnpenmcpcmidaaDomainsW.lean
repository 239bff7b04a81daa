/-
  The law AddrDomains, walked: at every list of scripts that can be read it answers true and turns nothing that was there.
  Conditions: as the theorem states them.
-/
import Derived.Test.YtlnpenmcpcmidaaO
import Derived.Test.YtlnpenmcpcmidaaZ
import Derived.Deep.CutRange
import Derived.Deep.DeepCutAuto
namespace Go.Proofs.Ytlnpenmcpcmidaa
open Go.RowKit

theorem dom_good {s : List UInt8} (h : domL (lowL s) = true) : domT s = lowL s ∧ domN s = 0 := by simp [domT, domN, h]
theorem dom_bad {s : List UInt8} (h : domL (lowL s) = false) : domT s = [] ∧ domN s = 8 := by simp [domT, domN, h]

set_option maxHeartbeats 2000000 in
set_option maxRecDepth 100000 in
theorem domains_any (l : List Ask) (v : Value) (w : World) (hl : AsksAt w v l) :
    Calls Try.prog 4 #[v] w fun e w' => e = .returned (.bool true) ∧ Below w.heap.size w w' := by
  obtain ⟨A, c, rfl, hll, hl⟩ := hl
  unfold maxLen at hll
  have HL := Lib.hid hl
  clear hl
  go_enter Try.func4, Try.ntmps4
  go_wp2_with fail
  go_loopw [3] (fun i wr => ∃ j : Nat, j ≤ l.length ∧ i = .int .i64 j ∧ Below w.heap.size w wr) (fun i _ => l.length - (intOf i).toNat)
  case atStart => exact ⟨0, Nat.zero_le _, rfl, Below.refl _ _⟩
  case round =>
    obtain ⟨j, hj, rfl, hB⟩ := hrel
    have HB := Lib.hid hB
    have hsz := hB.size
    clear hB
    by_cases hlt : j < l.length
    · by_cases h20 : j < 20
      · have h20i : (j : Int) < 20 := by omega
        have hjl : (j : Int) < (l.length : Int) := by omega
        obtain ⟨b, o, rfl, hab, hac⟩ := HL.out (fun e => by rw [e] at hlt; exact absurd hlt (by simp))
        have hq1 : AskAt wr b (o + j * 3) l[j] := by
          have hb := HB.out
          have hq0 := hac j hlt
          exact ⟨(hb.cell (p := ⟨b, o + j * 3, none⟩) hab).trans hq0.c0, (hb.cell (p := ⟨b, o + j * 3 + 1, none⟩) hab).trans hq0.c1, (hb.cell (p := ⟨b, o + j * 3 + 2, none⟩) hab).trans hq0.c2, hq0.b0, hq0.b1, hq0.b2⟩
        have hbr : b < wr.heap.size := by omega
        clear hac
        generalize l[j] = q at *
        obtain ⟨ll, d, s⟩ := q
        have HQ := Lib.hid (fun W (hW : Below wr.heap.size wr W) => hq1.later hW hbr)
        obtain ⟨c0, c1, c2, b0, b1, b2⟩ := hq1
        simp only at c0 c1 c2 b0 b1 b2
        have HH := Lib.hid (heavy_any ll d s wr b0 b1 b2)
        clear b0 b1 b2
        go_wp2_with fail
        refine Calls.mono HH.out ?_
        rintro e w1 ⟨rfl | ⟨rfl, h1, h2⟩, hb1⟩
        · go_wp2_with fail
          go_ret
          exact ⟨rfl, upB HB.out (Nat.le_refl _) hb1⟩
        · have HB1 := Lib.hid hb1
          clear hb1 HH c0 c1 c2
          generalize wr = wo at *
          go_wp2_with fail
          go_loopw [4] (fun kv wr => ∃ k : Nat, k ≤ 2 ∧ kv = .int .i64 k ∧ Below wo.heap.size wo wr) (fun kv _ => 2 - (intOf kv).toNat)
          case atStart => exact ⟨0, Nat.zero_le _, rfl, HB1.out⟩
          case round =>
            obtain ⟨k, hk, rfl, hB2⟩ := hrel
            have HB2 := Lib.hid hB2
            have hs2 := hB2.size
            clear hB2
            by_cases hk2 : k < 2
            · have hki : (k : Int) < 2 := by omega
              have hq2 := HQ.out wr HB2.out
              have d1 := hq2.c1
              have d2 := hq2.c2
              have hbw : b < wr.heap.size := by omega
              simp only at d1 d2
              clear hq2
              go_upto_region 9 with (fail)
              go_cut [5] (fun sv wc => sv = .string ⟨(if k = 0 then s else d).toArray⟩ ∧ Below wo.heap.size wo wc)
              case first =>
                obtain rfl | rfl : k = 0 ∨ k = 1 := by omega
                · go_region
                  all_goals
                    go_wp2_with fail
                    go_meet
                    case rel => exact ⟨rfl, (HB2.out.alloc hs2 _).drew⟩
                · go_region
                  all_goals
                    go_wp2_with fail
                    go_meet
                    case rel => exact ⟨rfl, (HB2.out.alloc hs2 _).drew⟩
              case rest =>
                obtain ⟨rfl, hBc⟩ := hcut
                have HBc := Lib.hid hBc
                have htl : (if k = 0 then s else d).length ≤ 2000 := by split <;> omega
                clear hBc d1 d2
                generalize (if k = 0 then s else d) = t at *
                have HLW := Lib.hid (fun W => rlower_any t W (by omega))
                have HRD := Lib.hid (fun W => rdomain_any (lowL t) W (by rw [low_len]; omega))
                have HAD := Lib.hid (fun W => domain_any t W (by omega))
                go_wp2_with fail
                refine Calls.mono (HLW.out _) ?_
                rintro e w3 ⟨rfl, hb3⟩
                have HB3 := Lib.hid (HBc.out.trans (hb3.mono HBc.out.size))
                clear hb3
                go_wp2_with fail
                refine Calls.mono (HRD.out _) ?_
                rintro e w4 ⟨rfl, hb4⟩
                have HB4 := Lib.hid (HB3.out.trans (hb4.mono HB3.out.size))
                clear hb4
                cases hdm : domL (lowL t) with
                | true =>
                  have HX := Lib.hid (dom_good hdm)
                  clear hdm
                  go_wp2_with fail
                  refine Calls.mono (HLW.out _) ?_
                  rintro e w5 ⟨rfl, hb5⟩
                  have HB5 := Lib.hid (HB4.out.trans (hb5.mono HB4.out.size))
                  clear hb5
                  go_wp2_with fail
                  refine Calls.mono (HAD.out _) ?_
                  rw [HX.out.1, HX.out.2]
                  rintro e w6 ⟨rfl, hb6⟩
                  have HB6 := Lib.hid (HB5.out.trans (hb6.mono HB5.out.size))
                  clear hb6
                  go_wp2_with fail
                  refine (num_any _ _).mono ?_
                  rintro e w7 ⟨rfl, rfl⟩
                  go_wp2_with fail
                  exact ⟨⟨k + 1, hk2, by go_num, HB6.out⟩, by simp [intOf]; omega⟩
                | false =>
                  have HX := Lib.hid (dom_bad hdm)
                  clear hdm
                  go_wp2_with fail
                  refine Calls.mono (HAD.out _) ?_
                  rw [HX.out.1, HX.out.2]
                  rintro e w6 ⟨rfl, hb6⟩
                  have HB6 := Lib.hid (HB4.out.trans (hb6.mono HB4.out.size))
                  clear hb6
                  go_wp2_with fail
                  refine (num_any _ _).mono ?_
                  rintro e w7 ⟨rfl, rfl⟩
                  go_wp2_with fail
                  exact ⟨⟨k + 1, hk2, by go_num, HB6.out⟩, by simp [intOf]; omega⟩
            · have hki : ¬ ((k : Int) < 2) := by omega
              have HBF := Lib.hid (upB HB.out (Nat.le_refl _) HB2.out)
              go_wp2_with fail
              exact ⟨⟨j + 1, hlt, by go_num, HBF.out⟩, by simp [intOf]; omega⟩
      · have h20' : decide ((j : Int) < 20) = false := by simp; omega
        go_wp2_with fail
        refine (wakes_any wr).mono ?_
        rintro e w1 ⟨rfl, hb1⟩
        go_wp2
        go_ret
        exact ⟨rfl, upB HB.out (Nat.le_refl _) hb1⟩
    · go_wp2_with fail
      refine (wakes_any wr).mono ?_
      rintro e w1 ⟨rfl, hb1⟩
      go_wp2
      go_ret
      exact ⟨rfl, upB HB.out (Nat.le_refl _) hb1⟩
end Go.Proofs.Ytlnpenmcpcmidaa

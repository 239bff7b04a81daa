/-
  BackoffNexts: the law's walk.
  Conditions: as each theorem states them.
-/
import Derived.Test.YtaeehblmffidmaaNG
import Derived.Deep.CutRange
import Derived.Deep.DeepCutAuto
import Derived.BigRegion
import Derived.Deep.RegionHeld3
namespace Go.Proofs.Ytaeehblmffidmaa
open Go.RowKit

set_option maxHeartbeats 4000000 in
set_option maxRecDepth 100000 in
theorem nexts_true (u1 u2 : Value) (l n : List Int) (w : World) (hL : NAt w u1 l) (hN : NAt w u2 n) (h2 : l.length ≤ 2000) (hq : okL l = true) :
    Calls Try.prog 3 #[.agg #[u1, u2]] w fun e w' => e = .returned (.bool true) ∧ Below w.heap.size w w' := by
  have HL := Lib.hid hL
  have HN := Lib.hid hN
  obtain ⟨A1, c1, rfl, hll, _⟩ := hL.slice
  obtain ⟨A2, c2, rfl, hnl, _⟩ := hN.slice
  have h2i : ¬ ((2000 : Int) < (l.length : Int)) := by omega
  have HB0 := Lib.hid ((Below.refl w.heap.size w).alloc (Nat.le_refl _) (.cells #[.slice A1 l.length c1, .slice A2 n.length c2] 24))
  have HS0 := Lib.hid (SAt.new w (.slice A1 l.length c1) (.slice A2 n.length c2))
  have HBK := Lib.hid (fun W h => rBackoff_any l (.slice A1 l.length c1) W h)
  have HCP := Lib.hid (fun W h => copy_any l (.slice A1 l.length c1) W h h2)
  have HCH := Lib.hid (fun v W h => check_any l v W h)
  have HMO := Lib.hid (fun v W h => most_any l v W h)
  rw [hq] at HBK
  rw [show errN (okL l) = 0 by rw [hq]; rfl] at HCH
  rw [show outI (mostR l) = .tuple #[.int .i64 (maxL l), .int .i64 0] by unfold mostR; rw [hq]; rfl] at HMO
  have H0 := Lib.hid (fun W => num_any 0 W)
  have HHH := Lib.hid (And.intro h2 hq)
  clear hL hN h2 hq
  go_enter Try.func3, Try.ntmps3
  go_wp2_with fail
  generalize (w.alloc (.cells #[.slice A1 l.length c1, .slice A2 n.length c2] 24)) = w0 at *
  refine Calls.mono (HBK.out _ (HL.out.later HB0.out)) ?_
  rintro e w' ⟨rfl, he⟩
  have he := he.symm
  subst he
  have s0 := HS0.out.c0
  have s1 := HS0.out.c1
  go_wp2_with fail
  refine Calls.mono (HCP.out _ (HL.out.later HB0.out)) ?_
  rintro e w1 ⟨v, rfl, hv, hb1⟩
  have HB1 := Lib.hid (HB0.out.trans (hb1.mono HB0.out.size))
  have HS1 := Lib.hid (HS0.out.later hb1)
  have HV1 := Lib.hid hv
  obtain ⟨Av, cv, rfl, _, _⟩ := hv.slice
  clear hv hb1 s0 s1 HS0 HB0 HBK HCP
  go_wp2_with fail
  refine Calls.mono (HCH.out _ _ HV1.out) ?_
  rintro e w2 ⟨rfl, hb2⟩
  have HB2 := Lib.hid (HB1.out.trans (hb2.mono HB1.out.size))
  have HS2 := Lib.hid (HS1.out.later hb2)
  have HV2 := Lib.hid (HV1.out.later hb2)
  clear hb2 HB1 HS1 HV1 HCH
  go_wp2_with fail
  refine Calls.mono (H0.out _) ?_
  rintro e w' ⟨rfl, he⟩
  have he := he.symm
  subst he
  go_wp2_with fail
  refine Calls.mono (HMO.out _ _ HV2.out) ?_
  rintro e w3 ⟨rfl, hb3⟩
  have HB3 := Lib.hid (HB2.out.trans (hb3.mono HB2.out.size))
  have HS3 := Lib.hid (HS2.out.later hb3)
  have HV3 := Lib.hid (HV2.out.later hb3)
  have HL3 := Lib.hid (HL.out.later HB3.out)
  have s0 := HS3.out.c0
  have s1 := HS3.out.c1
  clear hb3 HB2 HS2 HV2 HMO
  go_wp2_with fail
  go_loopw [8, 9] (fun mv iv wr => ∃ i : Nat, iv = .int .i64 i ∧ i ≤ l.length ∧ mv = .int .i64 (maxL (l.take i)) ∧ wr = w3) (fun _ iv _ => l.length - (intOf iv).toNat)
  case atStart => exact ⟨0, rfl, Nat.zero_le _, rfl, rfl⟩
  case round =>
    obtain ⟨i, rfl, hil, rfl, rfl⟩ := hrel
    by_cases hlt : i < l.length
    · have hlti : (i : Int) < (l.length : Int) := by omega
      obtain ⟨b, o, rfl, hcell⟩ := HL3.out.cell hlt
      have HSM := Lib.hid (take_max hlt)
      generalize l[i] = x at *
      obtain ⟨m, hm⟩ : ∃ m, maxL (l.take i) = m := ⟨_, rfl⟩
      rw [hm] at HSM ⊢
      clear hm
      go_wp2_with fail
      exact ⟨⟨i + 1, by go_num, by omega, by rw [HSM.out]; congr 1; split <;> omega, by first | rfl | trivial⟩, by simp [intOf]; omega⟩
    · have hlti : ¬ ((i : Int) < (l.length : Int)) := by omega
      obtain rfl : i = l.length := by omega
      rw [List.take_length]
      go_wp2_with fail
      refine Calls.mono (H0.out _) ?_
      rintro e w' ⟨rfl, he⟩
      have he := he.symm
      subst he
      go_wp2_with fail
      clear s0 s1 H0 HL3
      have HLn := Lib.hid HHH.out
      go_loopw [10] (fun iv wr => ∃ k : Nat, iv = .int .i64 k ∧ k ≤ n.length ∧ k ≤ 20 ∧ Below w.heap.size w wr ∧ SAt wr w.heap.size (.slice A1 l.length c1) (.slice A2 n.length c2) ∧ NAt wr (.slice Av l.length cv) l) (fun iv _ => 21 - (intOf iv).toNat)
      case atStart => exact ⟨0, rfl, Nat.zero_le _, Nat.zero_le _, HB3.out, HS3.out, HV3.out⟩
      case round =>
        obtain ⟨k, rfl, hkn, hk20, hb, hs, hv⟩ := hrel
        have HB := Lib.hid hb
        have HS := Lib.hid hs
        have HV := Lib.hid hv
        have HLr := Lib.hid (HL.out.later hb)
        have s0 := hs.c0
        have s1 := hs.c1
        clear HB3 HS3 HV3
        by_cases hkt : k < n.length
        · have hkti : (k : Int) < (n.length : Int) := by omega
          by_cases h20 : k < 20
          · have h20i : (k : Int) < 20 := by omega
            obtain ⟨b, o, rfl, hcell⟩ := (HN.out.later hb).cell hkt
            have hlt2 : b < wr.heap.size := World.block_lt_of_cell? _ _ hcell
            have HCX := Lib.hid hcell
            generalize n[k] = x at *
            clear hb hs hv
            have H0 := Lib.hid (fun W => num_any 0 W)
            have H1 := Lib.hid (fun W => num_any 1 W)
            have HNX := Lib.hid (fun v W h => next_any l x v W h)
            by_cases hx1 : 1 ≤ x
            · by_cases hx2 : x ≤ 1048576
              · have HRN := Lib.hid (fun j => rNext_any l x _ (wr.drewN j) (HLr.out.later (below_drewN (Below.refl _ _) j)) HHH.out.2 ⟨hx1, hx2⟩)
                rw [show outI (afterR l x) = .tuple #[.int .i64 (nxL l x.toNat), .int .i64 0] by unfold afterR; rw [HHH.out.2, inB_iff.2 ⟨hx1, hx2⟩]; rfl] at HNX
                generalize nxL l x.toNat = y at *
                go_wp2_with fail
                go_quiet ((go_at_call 10; exact Calls.quiet_of_same (HRN.out _)))
                have HBq := Lib.hid (below_drewN (Below.refl wr.heap.size wr) nq)
                have HB5 := Lib.hid (HB.out.trans (HBq.out.mono HB.out.size))
                have HS5 := Lib.hid (HS.out.later HBq.out)
                have HV5 := Lib.hid (HV.out.later HBq.out)
                have hcell5 := (HBq.out.cell (p := ⟨b, o + k, none⟩) hlt2).trans HCX.out
                generalize wr.drewN nq = w5 at *
                have s0 := HS5.out.c0
                have s1 := HS5.out.c1
                clear HB HS HV HRN HLr HBq HCX hcell hlt2
                go_wp2_with fail
                refine Calls.mono (HNX.out _ _ HV5.out) ?_
                rintro e w4 ⟨rfl, hb4⟩
                have HB4 := Lib.hid (HB5.out.trans (hb4.mono HB5.out.size))
                have HS4 := Lib.hid (HS5.out.later hb4)
                have HV4 := Lib.hid (HV5.out.later hb4)
                clear hb4 HB5 HS5 HV5 HNX hcell5 s0 s1
                go_wp2_with fail
                refine Calls.mono (H0.out _) ?_
                rintro e w' ⟨rfl, he⟩
                have he := he.symm
                subst he
                go_wp2_with fail
                exact ⟨⟨k + 1, by go_num, by omega, by omega, HB4.out, HS4.out, HV4.out⟩, by simp [intOf]; omega⟩
              · rw [show outI (afterR l x) = .tuple #[.int .i64 0, .int .i64 1] by unfold afterR; rw [inB_not.2 (fun h => hx2 h.2), Bool.and_false]; rfl] at HNX
                go_wp2_with fail
                refine Calls.mono (HNX.out _ _ HV.out) ?_
                rintro e w4 ⟨rfl, hb4⟩
                have HB4 := Lib.hid (HB.out.trans (hb4.mono HB.out.size))
                have HS4 := Lib.hid (HS.out.later hb4)
                have HV4 := Lib.hid (HV.out.later hb4)
                clear hb4 HB HS HV HNX HLr HCX hcell s0 s1
                go_wp2_with fail
                refine Calls.mono (H1.out _) ?_
                rintro e w' ⟨rfl, he⟩
                have he := he.symm
                subst he
                go_wp2_with fail
                exact ⟨⟨k + 1, by go_num, by omega, by omega, HB4.out, HS4.out, HV4.out⟩, by simp [intOf]; omega⟩
            · rw [show outI (afterR l x) = .tuple #[.int .i64 0, .int .i64 1] by unfold afterR; rw [inB_not.2 (fun h => hx1 h.1), Bool.and_false]; rfl] at HNX
              go_wp2_with fail
              refine Calls.mono (HNX.out _ _ HV.out) ?_
              rintro e w4 ⟨rfl, hb4⟩
              have HB4 := Lib.hid (HB.out.trans (hb4.mono HB.out.size))
              have HS4 := Lib.hid (HS.out.later hb4)
              have HV4 := Lib.hid (HV.out.later hb4)
              clear hb4 HB HS HV HNX HLr HCX hcell s0 s1
              go_wp2_with fail
              refine Calls.mono (H1.out _) ?_
              rintro e w' ⟨rfl, he⟩
              have he := he.symm
              subst he
              go_wp2_with fail
              exact ⟨⟨k + 1, by go_num, by omega, by omega, HB4.out, HS4.out, HV4.out⟩, by simp [intOf]; omega⟩
          · have h20i : ¬ ((k : Int) < 20) := by omega
            obtain rfl : k = 20 := by omega
            have HEQ := Lib.hid (eqNumbers_any l _ _ wr hv HLr.out)
            have HWK := Lib.hid (fun W => wakes_any W)
            clear hb hs hv
            go_wp2_with fail
            refine Calls.mono HEQ.out ?_
            rintro e w4 ⟨rfl, hb4⟩
            have HB4 := Lib.hid (HB.out.trans (hb4.mono HB.out.size))
            clear hb4 HB HS HV HEQ HLr s0 s1
            go_wp2_with fail
            refine Calls.mono (HWK.out _) ?_
            rintro e w5 ⟨rfl, hb5⟩
            have HB5 := Lib.hid (HB4.out.trans (hb5.mono HB4.out.size))
            clear hb5 HB4
            go_wp2_with fail
            go_ret
            exact ⟨rfl, HB5.out⟩
        · have hkti : ¬ ((k : Int) < (n.length : Int)) := by omega
          obtain rfl : k = n.length := by omega
          have HEQ := Lib.hid (eqNumbers_any l _ _ wr hv HLr.out)
          have HWK := Lib.hid (fun W => wakes_any W)
          clear hb hs hv
          go_wp2_with fail
          refine Calls.mono HEQ.out ?_
          rintro e w4 ⟨rfl, hb4⟩
          have HB4 := Lib.hid (HB.out.trans (hb4.mono HB.out.size))
          clear hb4 HB HS HV HEQ HLr s0 s1
          go_wp2_with fail
          refine Calls.mono (HWK.out _) ?_
          rintro e w5 ⟨rfl, hb5⟩
          have HB5 := Lib.hid (HB4.out.trans (hb5.mono HB4.out.size))
          clear hb5 HB4
          go_wp2_with fail
          go_ret
          exact ⟨rfl, HB5.out⟩
end Go.Proofs.Ytaeehblmffidmaa

/-
  BackoffAlls: the law's walk.
  Conditions: as each theorem states them.
-/
import Derived.Test.YtaeehblmffidmaaNG
import Derived.Deep.CutRange
import Derived.Deep.DeepCutAuto
import Derived.BigRegion
import Derived.Deep.RegionHeld3
namespace Go.Proofs.Ytaeehblmffidmaa
open Go.RowKit

theorem tot_one : outI (totR [1] 1048576) = .tuple #[.int .i64 1048576, .int .i64 0] := by
  have e : totR [1] 1048576 = some 1048576 := by decide +kernel
  rw [e]
  rfl
set_option maxHeartbeats 4000000 in
set_option maxRecDepth 100000 in
theorem alls_true (u1 u2 : Value) (l n : List Int) (w : World) (hL : NAt w u1 l) (hN : NAt w u2 n) (h2 : l.length ≤ 2000) (hq : okL l = true) :
    Calls Try.prog 4 #[.agg #[u1, u2]] w fun e w' => e = .returned (.bool true) ∧ Below w.heap.size w w' := by
  have HL := Lib.hid hL
  have HN := Lib.hid hN
  obtain ⟨A1, c1, rfl, hll, _⟩ := hL.slice
  obtain ⟨A2, c2, rfl, hnl, _⟩ := hN.slice
  have h2i : ¬ ((2000 : Int) < (l.length : Int)) := by omega
  have HB0 := Lib.hid ((Below.refl w.heap.size w).alloc (Nat.le_refl _) (.cells #[.slice A1 l.length c1, .slice A2 n.length c2] 24))
  have HS0 := Lib.hid (SAt.new w (.slice A1 l.length c1) (.slice A2 n.length c2))
  have HBK := Lib.hid (fun W h => rBackoff_any l (.slice A1 l.length c1) W h)
  rw [hq] at HBK
  have HMO := Lib.hid (fun W h => most_any l (.slice A1 l.length c1) W h)
  rw [show outI (mostR l) = .tuple #[.int .i64 (maxL l), .int .i64 0] by unfold mostR; rw [hq]; rfl] at HMO
  have HAL := Lib.hid (fun k W h => all_any l k (.slice A1 l.length c1) W h)
  have HNX := Lib.hid (fun k W h => next_any l k (.slice A1 l.length c1) W h)
  have HA1 := Lib.hid (fun W => all_any [1] 1048576 _ _ (one_row W))
  rw [tot_one] at HA1
  have HWI := Lib.hid (fun x W => lWithin_any x 300 W (by omega) (by omega))
  have HWK := Lib.hid (fun W => wakes_any W)
  have H0 := Lib.hid (fun W => num_any 0 W)
  have H1 := Lib.hid (fun W => num_any 1 W)
  have HHH := Lib.hid hq
  obtain ⟨mx1, mx2⟩ := maxL_in hq
  clear hL hN h2 hq
  go_enter Try.func4, Try.ntmps4
  go_wp2_with fail
  generalize (w.alloc (.cells #[.slice A1 l.length c1, .slice A2 n.length c2] 24)) = w0 at *
  refine Calls.mono (HBK.out _ (HL.out.later HB0.out)) ?_
  rintro e w' ⟨rfl, he⟩
  have he := he.symm
  subst he
  have s0 := HS0.out.c0
  have s1 := HS0.out.c1
  go_wp2_with fail
  clear s0 s1 HBK
  go_loopw [5] (fun iv wr => ∃ k : Nat, iv = .int .i64 k ∧ k ≤ n.length ∧ k ≤ 20 ∧ Below w.heap.size w wr ∧ SAt wr w.heap.size (.slice A1 l.length c1) (.slice A2 n.length c2)) (fun iv _ => 21 - (intOf iv).toNat)
  case atStart => exact ⟨0, rfl, Nat.zero_le _, Nat.zero_le _, HB0.out, HS0.out⟩
  case round =>
    obtain ⟨k, rfl, hkn, hk20, hb, hs⟩ := hrel
    have HB := Lib.hid hb
    have HS := Lib.hid hs
    have s0 := hs.c0
    have s1 := hs.c1
    clear HB0 HS0
    by_cases hgo : k < n.length ∧ k < 20
    · have hkti : (k : Int) < (n.length : Int) := by omega
      have h20i : (k : Int) < 20 := by omega
      obtain ⟨b, o, rfl, hcell⟩ := (HN.out.later hb).cell hgo.1
      generalize n[k] = x at *
      obtain ⟨m, hm⟩ : ∃ m : Nat, modI x 300 = m := ⟨(modI x 300).toNat, by have := (modI_in (i := x) (n := 300) (by omega)).1; omega⟩
      have hm300 : m < 300 := by have := (modI_in (i := x) (n := 300) (by omega)).2; omega
      clear hb hs
      have HW1 := Lib.hid (HWI.out x)
      rw [hm] at HW1
      have HAM := Lib.hid (HAL.out (m : Int))
      rw [show outI (totR l (m : Int)) = .tuple #[.int .i64 (totL l m), .int .i64 0] by unfold totR; rw [HHH.out, inB_iff.2 ⟨by omega, by omega⟩, Int.toNat_natCast]; rfl] at HAM
      obtain ⟨t1, t2⟩ := tot_in HHH.out m
      have hT : totL l m ≤ 300 * 1099511627776 := by
        have : (m : Int) * maxL l ≤ 300 * 1099511627776 := Int.mul_le_mul (by omega) mx2 (by omega) (by omega)
        omega
      clear hm
      go_wp2_with fail
      refine Calls.mono (HW1.out _) ?_
      rintro e w' ⟨rfl, he⟩
      have he := he.symm
      subst he
      go_wp2_with fail
      refine Calls.mono (HAM.out _ (HL.out.later HB.out)) ?_
      rintro e w4 ⟨rfl, hb4⟩
      have HB4 := Lib.hid (HB.out.trans (hb4.mono HB.out.size))
      have HS4 := Lib.hid (HS.out.later hb4)
      clear hb4 HB HS hcell s0 s1 HAM HW1
      have s0 := HS4.out.c0
      have s1 := HS4.out.c1
      go_wp2_with fail
      refine Calls.mono (HMO.out _ (HL.out.later HB4.out)) ?_
      rintro e w5 ⟨rfl, hb5⟩
      have HB5 := Lib.hid (HB4.out.trans (hb5.mono HB4.out.size))
      have HS5 := Lib.hid (HS4.out.later hb5)
      clear hb5 HB4 HS4 s0 s1
      go_wp2_with fail
      have HT := Lib.hid (And.intro t1 (And.intro t2 hT))
      obtain ⟨T, hTT⟩ : ∃ T, totL l m = T := ⟨_, rfl⟩
      rw [hTT]
      clear t1 t2 hT
      go_loopw [11, 12] (fun sv kv wi => ∃ j : Nat, kv = .int .i64 ((j : Int) + 1) ∧ j ≤ m ∧ sv = .int .i64 (totL l j) ∧ Below w.heap.size w wi ∧ SAt wi w.heap.size (.slice A1 l.length c1) (.slice (some ⟨b, o, none⟩) n.length c2)) (fun _ kv _ => 302 - (intOf kv).toNat)
      case atStart => exact ⟨0, rfl, Nat.zero_le _, by rw [tot_zero], HB5.out, HS5.out⟩
      case round =>
        obtain ⟨j, rfl, hjm, rfl, hbi, hsi⟩ := hrel
        have HBi := Lib.hid hbi
        have HSi := Lib.hid hsi
        have s0 := hsi.c0
        have s1 := hsi.c1
        clear hbi hsi HB5 HS5
        by_cases hjt : j < m
        · have hji : (j : Int) + 1 ≤ (m : Int) := by omega
          have HXJ := Lib.hid (HNX.out ((j : Int) + 1))
          rw [show outI (afterR l ((j : Int) + 1)) = .tuple #[.int .i64 (nxL l (j + 1)), .int .i64 0] by unfold afterR; rw [HHH.out, inB_iff.2 ⟨by omega, by omega⟩, show ((j : Int) + 1).toNat = j + 1 by omega]; rfl] at HXJ
          have HST := Lib.hid (tot_step HHH.out j)
          obtain ⟨x1, x2⟩ := nx_in HHH.out (j + 1)
          obtain ⟨y1, y2⟩ := tot_in HHH.out j
          have y3 : (j : Int) * maxL l ≤ 300 * 1099511627776 := Int.mul_le_mul (by omega) mx2 (by omega) (by omega)
          generalize nxL l (j + 1) = y at *
          obtain ⟨s, hs⟩ : ∃ s, totL l j = s := ⟨_, rfl⟩
          rw [hs] at HST y1 y2 ⊢
          have hw3 : IntKind.i64.wrap (s + y) = s + y := wrap_id (by omega) (by omega)
          have hw4 : IntKind.i64.wrap ((j : Int) + 1 + 1) = (j : Int) + 1 + 1 := wrap_id (by omega) (by omega)
          clear hs x1 x2 y1 y2 y3 hTT
          go_wp2_with fail
          refine Calls.mono (HXJ.out _ (HL.out.later HBi.out)) ?_
          rintro e w6 ⟨rfl, hb6⟩
          have HB6 := Lib.hid (HBi.out.trans (hb6.mono HBi.out.size))
          have HS6 := Lib.hid (HSi.out.later hb6)
          clear hb6 HBi HSi s0 s1 HXJ
          go_wp2_with fail
          refine Calls.mono (H0.out _) ?_
          rintro e w' ⟨rfl, he⟩
          have he := he.symm
          subst he
          go_wp2_with fail
          exact ⟨⟨j + 1, by congr 1, by omega, by rw [HST.out], HB6.out, HS6.out⟩, by simp [intOf]; omega⟩
        · have hji : ¬ ((j : Int) + 1 ≤ (m : Int)) := by omega
          obtain rfl : j = m := by omega
          rw [hTT]
          obtain ⟨t1, t2, t3⟩ := HT.out
          rw [hTT] at t1 t2 t3
          clear hTT HT
          have n1 : ¬ (T < (j : Int)) := by omega
          obtain ⟨M, hM⟩ : ∃ M, (j : Int) * maxL l = M := ⟨_, rfl⟩
          have hw5 : IntKind.i64.wrap ((j : Int) * maxL l) = M := by
            rw [hM]
            have : (j : Int) * maxL l ≤ 300 * 1099511627776 := Int.mul_le_mul (by omega) mx2 (by omega) (by omega)
            exact wrap_id (by omega) (by omega)
          rw [hM] at t2
          have n2 : ¬ (M < T) := by omega
          clear hM t1 t2 t3 hjm
          go_wp2_with fail
          go_wp2_with fail
          refine Calls.mono (H0.out _) ?_
          rintro e w' ⟨rfl, he⟩
          have he := he.symm
          subst he
          go_wp2_with fail
          refine Calls.mono (H0.out _) ?_
          rintro e w' ⟨rfl, he⟩
          have he := he.symm
          subst he
          go_wp2_with fail
          exact ⟨⟨k + 1, by go_num, by omega, by omega, HBi.out, HSi.out⟩, by simp [intOf]; omega⟩
    · by_cases hkt : k < n.length
      · have hkti : (k : Int) < (n.length : Int) := by omega
        have h20i : ¬ ((k : Int) < 20) := by omega
        clear hgo
        have HE1 := Lib.hid (HAL.out (-1))
        rw [show outI (totR l (-1)) = .tuple #[.int .i64 0, .int .i64 1] by unfold totR; rw [inB_not.2 (by omega), Bool.and_false]; rfl] at HE1
        have HE2 := Lib.hid (HAL.out 1048577)
        rw [show outI (totR l 1048577) = .tuple #[.int .i64 0, .int .i64 1] by unfold totR; rw [inB_not.2 (by omega), Bool.and_false]; rfl] at HE2
        clear hb hs HAL HNX
        go_wp2_with fail
        refine Calls.mono (HE1.out _ (HL.out.later HB.out)) ?_
        rintro e v1 ⟨rfl, gb1⟩
        have GB1 := Lib.hid (HB.out.trans (gb1.mono HB.out.size))
        have GS1 := Lib.hid (HS.out.later gb1)
        have g0 := GS1.out.c0
        clear gb1 HB HS s0 s1
        go_wp2_with fail
        refine Calls.mono (HE2.out _ (HL.out.later GB1.out)) ?_
        rintro e v2 ⟨rfl, gb2⟩
        have GB2 := Lib.hid (GB1.out.trans (gb2.mono GB1.out.size))
        clear gb2 GB1 GS1 g0
        go_wp2_with fail
        refine Calls.mono (HA1.out _) ?_
        rintro e v3 ⟨rfl, gb3⟩
        have GB3 := Lib.hid ((GB2.out.alloc GB2.out.size _).trans (gb3.mono (GB2.out.alloc GB2.out.size _).size))
        clear gb3 GB2
        go_wp2_with fail
        go_wp2_with fail
        refine Calls.mono (H1.out _) ?_
        rintro e w' ⟨rfl, he⟩
        have he := he.symm
        subst he
        go_wp2_with fail
        refine Calls.mono (H1.out _) ?_
        rintro e w' ⟨rfl, he⟩
        have he := he.symm
        subst he
        go_wp2_with fail
        refine Calls.mono (H0.out _) ?_
        rintro e w' ⟨rfl, he⟩
        have he := he.symm
        subst he
        go_wp2_with fail
        refine Calls.mono (HWK.out _) ?_
        rintro e v4 ⟨rfl, gb4⟩
        have GB4 := Lib.hid (GB3.out.trans (gb4.mono GB3.out.size))
        clear gb4 GB3
        go_wp2_with fail
        go_ret
        exact ⟨rfl, GB4.out⟩
      · have hkti : ¬ ((k : Int) < (n.length : Int)) := by omega
        clear hgo
        have HE1 := Lib.hid (HAL.out (-1))
        rw [show outI (totR l (-1)) = .tuple #[.int .i64 0, .int .i64 1] by unfold totR; rw [inB_not.2 (by omega), Bool.and_false]; rfl] at HE1
        have HE2 := Lib.hid (HAL.out 1048577)
        rw [show outI (totR l 1048577) = .tuple #[.int .i64 0, .int .i64 1] by unfold totR; rw [inB_not.2 (by omega), Bool.and_false]; rfl] at HE2
        clear hb hs HAL HNX
        go_wp2_with fail
        refine Calls.mono (HE1.out _ (HL.out.later HB.out)) ?_
        rintro e v1 ⟨rfl, gb1⟩
        have GB1 := Lib.hid (HB.out.trans (gb1.mono HB.out.size))
        have GS1 := Lib.hid (HS.out.later gb1)
        have g0 := GS1.out.c0
        clear gb1 HB HS s0 s1
        go_wp2_with fail
        refine Calls.mono (HE2.out _ (HL.out.later GB1.out)) ?_
        rintro e v2 ⟨rfl, gb2⟩
        have GB2 := Lib.hid (GB1.out.trans (gb2.mono GB1.out.size))
        clear gb2 GB1 GS1 g0
        go_wp2_with fail
        refine Calls.mono (HA1.out _) ?_
        rintro e v3 ⟨rfl, gb3⟩
        have GB3 := Lib.hid ((GB2.out.alloc GB2.out.size _).trans (gb3.mono (GB2.out.alloc GB2.out.size _).size))
        clear gb3 GB2
        go_wp2_with fail
        go_wp2_with fail
        refine Calls.mono (H1.out _) ?_
        rintro e w' ⟨rfl, he⟩
        have he := he.symm
        subst he
        go_wp2_with fail
        refine Calls.mono (H1.out _) ?_
        rintro e w' ⟨rfl, he⟩
        have he := he.symm
        subst he
        go_wp2_with fail
        refine Calls.mono (H0.out _) ?_
        rintro e w' ⟨rfl, he⟩
        have he := he.symm
        subst he
        go_wp2_with fail
        refine Calls.mono (HWK.out _) ?_
        rintro e v4 ⟨rfl, gb4⟩
        have GB4 := Lib.hid (GB3.out.trans (gb4.mono GB3.out.size))
        clear gb4 GB3
        go_wp2_with fail
        go_ret
        exact ⟨rfl, GB4.out⟩

theorem alls_false (u1 u2 : Value) (l n : List Int) (w : World) (hL : NAt w u1 l) (hN : NAt w u2 n) (h2 : l.length ≤ 2000) (hq : okL l = false) :
    Calls Try.prog 4 #[.agg #[u1, u2]] w fun e w' => e = .returned (.bool true) ∧ Below w.heap.size w w' := by
  have HL := Lib.hid hL
  obtain ⟨A1, c1, rfl, hll, _⟩ := hL.slice
  obtain ⟨A2, c2, rfl, hnl, _⟩ := hN.slice
  have h2i : ¬ ((2000 : Int) < (l.length : Int)) := by omega
  have HB0 := Lib.hid ((Below.refl w.heap.size w).alloc (Nat.le_refl _) (.cells #[.slice A1 l.length c1, .slice A2 n.length c2] 24))
  have HS0 := Lib.hid (SAt.new w (.slice A1 l.length c1) (.slice A2 n.length c2))
  have HBK := Lib.hid (fun W h => rBackoff_any l (.slice A1 l.length c1) W h)
  rw [hq] at HBK
  have HE1 := Lib.hid (fun W h => all_any l 1 (.slice A1 l.length c1) W h)
  rw [show outI (totR l 1) = .tuple #[.int .i64 0, .int .i64 1] by unfold totR; rw [hq, Bool.false_and]; rfl] at HE1
  have HWK := Lib.hid (fun W => wakes_any W)
  have H1 := Lib.hid (fun W => num_any 1 W)
  clear hL hN h2 hq
  go_enter Try.func4, Try.ntmps4
  go_wp2_with fail
  generalize (w.alloc (.cells #[.slice A1 l.length c1, .slice A2 n.length c2] 24)) = w0 at *
  refine Calls.mono (HBK.out _ (HL.out.later HB0.out)) ?_
  rintro e w' ⟨rfl, he⟩
  have he := he.symm
  subst he
  have s0 := HS0.out.c0
  go_wp2_with fail
  refine Calls.mono (HE1.out _ (HL.out.later HB0.out)) ?_
  rintro e v1 ⟨rfl, gb1⟩
  have GB1 := Lib.hid (HB0.out.trans (gb1.mono HB0.out.size))
  clear gb1 s0 HB0 HS0
  go_wp2_with fail
  refine Calls.mono (H1.out _) ?_
  rintro e w' ⟨rfl, he⟩
  have he := he.symm
  subst he
  go_wp2_with fail
  refine Calls.mono (HWK.out _) ?_
  rintro e v4 ⟨rfl, gb4⟩
  have GB4 := Lib.hid (GB1.out.trans (gb4.mono GB1.out.size))
  clear gb4 GB1
  go_wp2_with fail
  go_ret
  exact ⟨rfl, GB4.out⟩
theorem alls_any (u1 u2 : Value) (l n : List Int) (w : World) (hL : NAt w u1 l) (hN : NAt w u2 n) :
    Calls Try.prog 4 #[.agg #[u1, u2]] w fun e w' => e = .returned (.bool true) ∧ Below w.heap.size w w' := by
  by_cases h2 : l.length ≤ 2000
  · cases hq : okL l with
    | true => exact alls_true u1 u2 l n w hL hN h2 hq
    | false => exact alls_false u1 u2 l n w hL hN h2 hq
  · obtain ⟨A1, c1, rfl, hll, _⟩ := hL.slice
    obtain ⟨A2, c2, rfl, hnl, _⟩ := hN.slice
    have h2i : (2000 : Int) < (l.length : Int) := by omega
    have HB0 := Lib.hid ((Below.refl w.heap.size w).alloc (Nat.le_refl _) (.cells #[.slice A1 l.length c1, .slice A2 n.length c2] 24))
    clear hL hN
    go_enter Try.func4, Try.ntmps4
    go_wp2_with fail
    go_ret
    exact ⟨rfl, HB0.out⟩
end Go.Proofs.Ytaeehblmffidmaa

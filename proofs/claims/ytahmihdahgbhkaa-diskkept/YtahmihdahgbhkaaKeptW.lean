/-
  DiskKept: the law's walk.
  Conditions: as each theorem states them.
-/
import Derived.Test.YtahmihdahgbhkaaKB
namespace Go.Proofs.Ytahmihdahgbhkaa
open Go.RowKit

set_option maxHeartbeats 2000000 in
set_option maxRecDepth 100000 in
theorem kept_any (F : List (List UInt8)) (L : List Ac) (u v : Value) (w : World) (hF : RC w u F) (hF1 : F.length ≤ 140737488355328) (hF2 : ∀ l ∈ F, l.length ≤ 140737488355328) (hL : AcsAt w v L) :
    Calls Try.prog 4 #[.agg #[u, v]] w fun e w' => e = .returned (.bool true) ∧ Below w.heap.size w w' := by
  have HN := Lib.hid (fun n W => num_any n W)
  have HWK := Lib.hid (fun W => wakes_any W)
  obtain ⟨A0, c0, rfl, _, _⟩ := hF.slice
  obtain ⟨A1, c1, rfl, hlc, hcm⟩ := hL.slice
  have HL := Lib.hid hL
  obtain ⟨W0, hW0⟩ : ∃ W0, w.alloc (.cells #[.slice A0 F.length c0, .slice A1 L.length c1] 25) = W0 := ⟨_, rfl⟩
  have hX := show Blk W0 w.heap.size #[.slice A0 F.length c0, .slice A1 L.length c1] 25 by rw [← hW0]; exact Blk.new w _ _
  have hB := show Below w.heap.size w W0 by rw [← hW0]; exact (Below.refl _ w).alloc (Nat.le_refl _) _
  have HHV := Lib.hid (heavy_any F L _ _ W0 (hF.later hB) hF1 hF2 (hL.later hB))
  have HB0 := Lib.hid hB
  have HX0 := Lib.hid hX
  have hs0 := hB.size
  have e0 := hX.c 0 (u := .slice A0 F.length c0) rfl
  have e1 := hX.c 1 (u := .slice A1 L.length c1) rfl
  clear hF hL hX hB
  go_enter Try.func4, Try.ntmps4
  go_wp2_with fail
  refine Calls.mono HHV.out ?_
  rintro e w1 ⟨⟨hv, rfl, -⟩, hb1⟩
  have HB1 := Lib.hid (HB0.out.trans (hb1.mono hs0))
  have HX1 := Lib.hid (HX0.out.later hb1)
  have hs1 := hb1.size
  clear hb1 e0 e1 hW0
  cases hv with
  | true =>
    go_wp2_with fail
    go_ret
    exact ⟨rfl, HB1.out⟩
  | false =>
    have HNEW := Lib.hid (New_ok w1 [] (.slice none 0 0) (RC.nil w1) rfl)
    go_wp2_with fail
    refine Calls.mono HNEW.out ?_
    rintro e w2 ⟨p, rfl, hp, hb2, hk2⟩
    have HB2 := Lib.hid (HB1.out.trans (hb2.mono (by omega)))
    have HX2 := Lib.hid (HX1.out.later hb2)
    have hs2 := hb2.size
    have HS0 := Lib.hid (show KSt w1.heap.size p 0 0 0 w2 from ⟨newDk [], hk2, KInv.new, MxD.new _⟩)
    have hsx := HX1.out.lt
    clear hb2 hk2 HNEW
    go_wp2_with fail
    refine Calls.mono (HN.out _ _) ?_
    rintro e w' ⟨rfl, he⟩
    have he := he.symm
    subst he
    go_wp2_with fail
    go_loopw [5, 6, 7] (fun av cv iv wr => ∃ i a c : Nat, iv = .int .i64 i ∧ av = .int .i64 a ∧ cv = .int .i64 c ∧ i ≤ L.length ∧ i ≤ 20 ∧ a ≤ 9 * i ∧ c ≤ a ∧ Below w.heap.size w wr ∧ Blk wr w.heap.size #[.slice A0 F.length c0, .slice A1 L.length c1] 25 ∧ KSt w1.heap.size p c a i wr ∧ w1.heap.size ≤ wr.heap.size) (fun _ _ iv _ => 21 - (intOf iv).toNat)
    case atStart => exact ⟨0, 0, 0, rfl, rfl, rfl, Nat.zero_le _, Nat.zero_le _, Nat.le_refl _, Nat.le_refl _, HB2.out, HX2.out, HS0.out, hs2⟩
    case round =>
      obtain ⟨wz, hwz⟩ : ∃ wz, wz = wr := ⟨_, rfl⟩
      subst hwz
      obtain ⟨i, a, c, rfl, rfl, rfl, hiL, hi20, ha, hca, hb, hx, ⟨d, hnk, hki, hmx⟩, hsr⟩ := hrel
      have HB := Lib.hid hb
      have HXr := Lib.hid hx
      have HK := Lib.hid hnk
      have HKI := Lib.hid hki
      have HMX := Lib.hid hmx
      have hsz := hb.size
      have f1 := hx.c 1 (u := .slice A1 L.length c1) rfl
      by_cases hgo : i < L.length ∧ i < 20
      · have hlti : (i : Int) < (L.length : Int) := by omega
        have hlt20 : (i : Int) < 20 := by omega
        obtain ⟨b, o, bv, pv, rfl, hbl, d0, d1, d2, d3, -, -, -, -, -⟩ := (HL.out.later hb).at hgo.1
        have HD5 : Hid (∀ W, Below w.heap.size w W → W.cell? ⟨b, o + i * 6, none⟩ = some (.int .i64 L[i].d)) := Lib.hid fun W hW => by
          obtain ⟨b', o', bv', pv', hA', -, d0', -⟩ := (HL.out.later hW).at hgo.1
          injection hA' with hA'
          injection hA' with e1 e2
          subst e1 e2
          exact d0'
        have HWI := Lib.hid (fun W => lWithin_any L[i].k 9 W (by decide) (by decide))
        have HWD := Lib.hid (fun W => lWithin_any L[i].d 3 W (by decide) (by decide))
        obtain ⟨m1, m2⟩ := modI_in (i := L[i].k) (n := 9) (by decide)
        obtain ⟨q, hq⟩ : ∃ q : Nat, modI L[i].k 9 = (q : Int) := ⟨(modI L[i].k 9).toNat, by omega⟩
        rw [hq] at HWI m1 m2
        clear hq
        generalize L[i].k = zk at *
        generalize L[i].d = zd at *
        obtain ⟨y, hy⟩ : ∃ y, modI zd 3 = y := ⟨_, rfl⟩
        rw [hy] at HWD
        have hwn : IntKind.i64.wrap (1 + (q : Int)) = ((q + 1 : Nat) : Int) := by rw [wrap_id (by omega) (by omega)]; omega
        obtain ⟨W1, hmk, hrow, hbm⟩ := made_zero wz (q + 1) (by omega)
        have hmk : (Instr.makeSlice 37 (.int .i64 ((q : Int) + 1)) (.int .i64 ((q : Int) + 1))).run Try.prog wz = .ok (.slice (some ⟨wz.heap.size, 0, none⟩) (q + 1) (q + 1)) W1 := hmk
        rw [Int.natCast_add] at hwn
        have HBM := Lib.hid hbm
        have HRW := Lib.hid hrow
        have HXM := Lib.hid (HXr.out.later hbm)
        have hsm := hbm.size
        have hgl := (hrow.lt wz.heap.size rfl).2
        clear hb hx hnk hki hmx hrow hbm d1 d2
        go_wp2_with fail
        refine Calls.mono (HWI.out _) ?_
        rintro e w' ⟨rfl, he⟩
        have he := he.symm
        subst he
        go_wp2_with fail
        clear hmk
        go_loopw [10] (fun kv wk => ∃ k : Nat, kv = .int .i64 k ∧ k ≤ q + 1 ∧ BR wk wz.heap.size (.slice (some ⟨wz.heap.size, 0, none⟩) (q + 1) (q + 1)) (seqB a k ++ List.replicate (q + 1 - k) 0) ∧ Kept (fun j => wz.heap.size ≤ j) wz wk ∧ wz.heap.size < wk.heap.size) (fun kv _ => q + 1 - (intOf kv).toNat)
        case atStart => exact ⟨0, rfl, Nat.zero_le _, by simpa [seqB_zero] using HRW.out, Kept.of HBM.out, hgl⟩
        case round =>
          obtain ⟨k, rfl, hkq, hrk, hkk, hgk⟩ := hrel
          have HRK := Lib.hid hrk
          have HKK := Lib.hid hkk
          have hsk := hkk.size
          clear hrk hkk
          by_cases hltk : k < q + 1
          · have hltki : (k : Int) < (q : Int) + 1 := by omega
            obtain ⟨z0, z1, z2⟩ := seq_row HRK.out hltk
            have HZ := Lib.hid z2
            have hwak : IntKind.i64.wrap ((a : Int) + (k : Int)) = (a : Int) + (k : Int) := wrap_id (by omega) (by omega)
            have hw8 := wrap8 a k
            generalize (((a + k) % 256 : Nat) : Int) = bz at *
            clear z2
            go_wp2_with fail
            exact ⟨⟨k + 1, by go_num, by omega, HZ.out, HKK.out.setCell ⟨wz.heap.size, k, none⟩ (.inl (Nat.le_refl _)) _, by simpa [World.setCell] using hgk⟩, by simp [intOf]; omega⟩
          · have hltki : ¬ ((k : Int) < (q : Int) + 1) := by omega
            obtain rfl : k = q + 1 := by omega
            have hrk := HRK.out
            rw [Nat.sub_self, List.replicate_zero, List.append_nil] at hrk
            have HRQ := Lib.hid hrk
            have hbk : Below wz.heap.size wz wr := HKK.out.below (Nat.le_refl _) (fun j hj => by omega)
            have HBK2 := Lib.hid (HB.out.trans (hbk.mono hsz))
            have HXK := Lib.hid (HXr.out.later hbk)
            obtain ⟨hw0, hki1⟩ := HKI.out.wr (q + 1) (by omega)
            have HW := Lib.hid (nWrite wz wr w1.heap.size p (2 * i) d HK.out hbk hsr 1 (a : Int) (seqB a (q + 1)) _ hrk.rb (fun j hj => .inr (by
              have e : wz.heap.size = j := by simpa [Value.ownBlock] using hj
              omega)) HMX.out (by omega))
            rw [hw0] at HW
            have HKI1 := Lib.hid hki1
            have HMX1 := Lib.hid (HMX.out.wr 1 (a : Int) (seqB a (q + 1)))
            have hpk : p < wr.heap.size := by have := HK.out.lt; omega
            have hwaq : IntKind.i64.wrap ((a : Int) + ((q : Int) + 1)) = (a : Int) + ((q : Int) + 1) := wrap_id (by omega) (by omega)
            clear hw0 hki1 hbk hrk HKI HMX
            go_wp2_with fail
            refine Calls.mono HW.out ?_
            rintro e w5 ⟨rfl, hk5, hb5⟩
            have HB5 := Lib.hid (HBK2.out.trans (hb5.mono (by omega)))
            have HX5 := Lib.hid (HXK.out.heap (hb5.block _ (by omega)))
            have HK5 := Lib.hid hk5
            have hs5 := hb5.size
            have hp5 := hk5.lt
            clear hk5 hb5 HW
            go_wp2_with fail
            refine Calls.mono (HN.out _ _) ?_
            rintro e w' ⟨rfl, he⟩
            have he := he.symm
            subst he
            have g1 := HX5.out.c 1 (u := .slice (some ⟨b, o, none⟩) L.length c1) rfl
            have gd : w5.cell? ⟨b, o + i * 6, none⟩ = some (.int .i64 zd) := HD5.out w5 HB5.out
            go_wp2_with fail
            refine Calls.mono (HWD.out _) ?_
            rintro e w' ⟨rfl, he⟩
            have he := he.symm
            subst he
            by_cases hy0 : y = 0
            · have hyb : (y == 0) = true := beq_iff_eq.2 hy0
              obtain ⟨hs0', hki2⟩ := HKI1.out.sy
              have HS := Lib.hid (nSync w5 w1.heap.size p _ HK5.out (by omega) 1)
              rw [hs0'] at HS
              have HKI2 := Lib.hid hki2
              have HMX2 := Lib.hid (HMX1.out.sy 1)
              clear hs0' hki2 hy0
              go_wp2_with fail
              refine Calls.mono HS.out ?_
              rintro e w6 ⟨rfl, hk6, hb6⟩
              have HB6 := Lib.hid (HB5.out.trans (hb6.mono (by omega)))
              have HX6 := Lib.hid (HX5.out.heap (hb6.block _ (by omega)))
              have HS6 := Lib.hid (show KSt w1.heap.size p (a + (q + 1)) (a + (q + 1)) (i + 1) w6 from ⟨_, hk6, HKI2.out, HMX2.out⟩)
              have hs6 := hb6.size
              clear hk6 hb6 HS
              go_wp2_with fail
              refine Calls.mono (HN.out _ _) ?_
              rintro e w' ⟨rfl, he⟩
              have he := he.symm
              subst he
              go_wp2_with fail
              exact ⟨⟨i + 1, a + (q + 1), a + (q + 1), by go_num, by go_num, by go_num, by omega, by omega, by omega, Nat.le_refl _, HB6.out, HX6.out, HS6.out, by omega⟩, by simp [intOf]; omega⟩
            · have hyb : (y == 0) = false := beq_false_of_ne hy0
              have HS6 := Lib.hid (show KSt w1.heap.size p c (a + (q + 1)) (i + 1) w5 from ⟨_, HK5.out, HKI1.out, HMX1.out.mono (by omega)⟩)
              clear hy0
              go_wp2_with fail
              exact ⟨⟨i + 1, a + (q + 1), c, by go_num, by go_num, by go_num, by omega, by omega, by omega, by omega, HB5.out, HX5.out, HS6.out, by omega⟩, by simp [intOf]; omega⟩
      · by_cases hiL2 : i < L.length
        · have hlti : (i : Int) < (L.length : Int) := by omega
          have hlt20 : ¬ ((i : Int) < 20) := by omega
          have hl0 : L.length ≠ 0 := by omega
          have hl0b : (0 : Int) < (L.length : Int) := by omega
          obtain ⟨b, o, bv, pv, hAA, hbl, -, -, -, -, -, -, -, -, -⟩ := (HL.out.later hb).at (i := 0) (by omega)
          obtain ⟨b0, o0, bv0, pv0, hAA0, -, -, -, -, -, -, q5, -, hia, -, -, hpl⟩ := HL.out.at (i := 0) (by omega)
          clear hAA hbl bv pv
          subst hAA0
          obtain ⟨b9, o9, bv9, pv9, hA9, hbl9, -, -, -, -, -, p5, -, hia9, -⟩ := (HL.out.later hb).at (i := 0) (by omega)
          injection hA9 with hA9
          injection hA9 with e1 e2
          subst e1 e2
          have hpvs : pv9 = pv0 := by
            have e := (hb.cell (p := ⟨b0, o0 + 0 * 6 + 5, none⟩) (World.block_lt_of_cell? _ ⟨b0, o0 + 0 * 6 + 5, none⟩ q5)).trans q5
            rw [p5] at e
            exact Option.some.inj e
          subst hpvs
          have hpp : L[0].p ≠ [] → ∀ j, pv9.ownBlock = some j → j ≠ p := fun hne j hj => by
            obtain ⟨A', c', hv, _, _, h3⟩ := hia
            obtain ⟨b', o', hA, hlt, _⟩ := h3 hne
            rw [hv, hA] at hj
            have : b' = j := by simpa [Value.ownBlock] using hj
            have := HB1.out.size
            omega
          obtain ⟨pA, pc, rfl, _, _⟩ := hia.slice
          simp only [Nat.zero_mul, Nat.add_zero] at p5
          by_cases h100 : L[0].p.length < 100
          · have h100i : (L[0].p.length : Int) < 100 := by omega
            obtain ⟨m, hm1, hm2, hcr⟩ := HKI.out.crash L[0].p
            have HCR := Lib.hid (nCrash' wz w1.heap.size p (2 * i) d HK.out hsr L[0].p (.slice pA L[0].p.length pc) (hia.later hb) hpp HMX.out (by omega))
            rw [hcr] at HCR
            have hpz := HK.out.lt
            clear HK HMX HKI hia hpp hia9 q5
            go_wp2_with fail
            refine Calls.mono HCR.out ?_
            rintro e w10 ⟨u, rfl, ⟨us, hoc⟩, hk10, hb10⟩
            have HB10 := Lib.hid (HB.out.trans (hb10.mono (by omega)))
            have HX10 := Lib.hid (HXr.out.heap (hb10.block _ (by omega)))
            have HK10 := Lib.hid hk10
            have hs10 := hb10.size
            have hrc := hoc.rc
            have HRC := Lib.hid hrc
            obtain ⟨uA, uc, rfl⟩ := hoc.slice
            obtain ⟨b3, o3, y0, rfl, hbl3, hc0, hr0⟩ := hrc.at (i := 0) (by simp)
            obtain ⟨b', o', y1, hA1, -, hc1, hr1⟩ := hrc.at (i := 1) (by simp)
            injection hA1 with hA1
            injection hA1 with e1 e2
            subst e1 e2
            obtain ⟨b', o', y2, hA2, -, hc2, hr2⟩ := hrc.at (i := 2) (by simp)
            injection hA2 with hA2
            injection hA2 with e1 e2
            subst e1 e2
            have HR1 := Lib.hid hr1
            obtain ⟨Y0, yc0, rfl, _, _⟩ := hr0.slice
            obtain ⟨Y1, yc1, hy1, _, _⟩ := hr1.slice
            obtain ⟨Y2, yc2, rfl, _, _⟩ := hr2.slice
            simp only [List.getElem_cons_succ, List.getElem_cons_zero, seqB_len] at hy1
            subst hy1
            simp only [Nat.add_zero, List.getElem_cons_zero, List.length_nil] at hc0
            simp only [List.getElem_cons_succ, List.getElem_cons_zero, List.length_nil] at hc2
            have hmcn : ¬ (m < c) := by omega
            have hman : ¬ (a < m) := by omega
            have hw00 : IntKind.i64.wrap 0 = 0 := by decide
            have hmc : ¬ ((m : Int) < (c : Int)) := by omega
            have hma : ¬ ((a : Int) < (m : Int)) := by omega
            clear hoc hrc hb10 HCR hr0 hr1 hr2 hk10
            go_wp2_with fail
            go_quiet (fail)
            go_wp2_with fail
            clear hc0 hc2
            go_loopw [13] (fun kv wk => ∃ k : Nat, kv = .int .i64 k ∧ k ≤ m ∧ Below w10.heap.size w10 wk) (fun kv _ => m - (intOf kv).toNat)
            case atStart => exact ⟨0, rfl, Nat.zero_le _, below_drewN (Below.refl _ _) _⟩
            case round =>
              obtain ⟨k, rfl, hkm, hbk⟩ := hrel
              have HBK := Lib.hid hbk
              have hck : wr.cell? ⟨b3, o3 + 1, none⟩ = some (.slice Y1 m yc1) := (hbk.cell (p := ⟨b3, o3 + 1, none⟩) hbl3).trans hc1
              have hsk := hbk.size
              by_cases hltk : k < m
              · have hltki : (k : Int) < (m : Int) := by omega
                have hk0 : (0 : Int) ≤ (k : Int) := by omega
                have hrk := HR1.out.later hbk
                simp only [List.getElem_cons_succ, List.getElem_cons_zero] at hrk
                obtain ⟨b4, o4, rfl, _, hcy⟩ := hrk.cell (i := k) (by rw [seqB_len]; exact hltk)
                have hw8 := wrap8 0 k
                rw [seqB_at 0 m k hltk] at hcy
                simp only [UInt8.toNat_ofNat', Nat.reducePow, Nat.zero_add, Int.zero_add, Int.cast_ofNat_Int] at hcy hw8
                have hw8 : IntKind.u8.wrap (k : Int) = ((k % 256 : Nat) : Int) := by
                  have := wrap8 0 k
                  simpa using this
                generalize ((k % 256 : Nat) : Int) = bz at *
                clear hbk hrk
                go_wp2_with fail
                exact ⟨⟨k + 1, by go_num, by omega, HBK.out⟩, by simp [intOf]; omega⟩
              · have hltki : ¬ ((k : Int) < (m : Int)) := by omega
                have HKK := HK10.out.later hbk
                have HB11 := Lib.hid (HB10.out.trans (hbk.mono (by omega)))
                have HSI := Lib.hid (nSize wr w1.heap.size p ⟨d.f, none⟩ HKK 0)
                rw [show sizeD ⟨d.f, none⟩ 0 = (0, 10) from rfl] at HSI
                have hpw := HKK.lt
                clear hbk HKK
                go_wp2_with fail
                refine Calls.mono HSI.out ?_
                rintro e w12 ⟨rfl, hk12, hb12⟩
                have HB12 := Lib.hid (HB11.out.trans (hb12.mono (by omega)))
                have hs12 := hb12.size
                have HSY := Lib.hid (nSync w12 w1.heap.size p ⟨d.f, none⟩ hk12 (by omega) 0)
                rw [show (syD ⟨d.f, none⟩ 0).2 = 10 from rfl] at HSY
                have hp12 := hk12.lt
                clear hk12 hb12 HSI
                go_wp2_with fail
                refine Calls.mono (HN.out _ _) ?_
                rintro e w' ⟨rfl, he⟩
                have he := he.symm
                subst he
                go_wp2_with fail
                refine Calls.mono HSY.out ?_
                rintro e w13 ⟨rfl, -, hb13⟩
                have HB13 := Lib.hid (HB12.out.trans (hb13.mono (by omega)))
                have hs13 := hb13.size
                clear hb13 HSY
                go_wp2_with fail
                refine Calls.mono (HN.out _ _) ?_
                rintro e w' ⟨rfl, he⟩
                have he := he.symm
                subst he
                go_wp2_with fail
                refine Calls.mono (HWK.out _) ?_
                rintro e w14 ⟨rfl, hb14⟩
                have HB14 := Lib.hid (HB13.out.trans (hb14.mono (by omega)))
                clear hb14
                go_wp2_with fail
                go_ret
                exact ⟨rfl, HB14.out⟩
          · have h100i : ¬ ((L[0].p.length : Int) < 100) := by omega
            obtain ⟨m, hm1, hm2, hcr⟩ := HKI.out.crash []
            clear hia hpp hia9 q5
            have HCR := Lib.hid (nCrash' wz w1.heap.size p (2 * i) d HK.out hsr [] (.slice none 0 0) (IA.nil _) (fun h => absurd rfl h) HMX.out (by omega))
            rw [hcr] at HCR
            have hpz := HK.out.lt
            clear HK HMX HKI
            go_wp2_with fail
            refine Calls.mono HCR.out ?_
            rintro e w10 ⟨u, rfl, ⟨us, hoc⟩, hk10, hb10⟩
            have HB10 := Lib.hid (HB.out.trans (hb10.mono (by omega)))
            have HX10 := Lib.hid (HXr.out.heap (hb10.block _ (by omega)))
            have HK10 := Lib.hid hk10
            have hs10 := hb10.size
            have hrc := hoc.rc
            have HRC := Lib.hid hrc
            obtain ⟨uA, uc, rfl⟩ := hoc.slice
            obtain ⟨b3, o3, y0, rfl, hbl3, hc0, hr0⟩ := hrc.at (i := 0) (by simp)
            obtain ⟨b', o', y1, hA1, -, hc1, hr1⟩ := hrc.at (i := 1) (by simp)
            injection hA1 with hA1
            injection hA1 with e1 e2
            subst e1 e2
            obtain ⟨b', o', y2, hA2, -, hc2, hr2⟩ := hrc.at (i := 2) (by simp)
            injection hA2 with hA2
            injection hA2 with e1 e2
            subst e1 e2
            have HR1 := Lib.hid hr1
            obtain ⟨Y0, yc0, rfl, _, _⟩ := hr0.slice
            obtain ⟨Y1, yc1, hy1, _, _⟩ := hr1.slice
            obtain ⟨Y2, yc2, rfl, _, _⟩ := hr2.slice
            simp only [List.getElem_cons_succ, List.getElem_cons_zero, seqB_len] at hy1
            subst hy1
            simp only [Nat.add_zero, List.getElem_cons_zero, List.length_nil] at hc0
            simp only [List.getElem_cons_succ, List.getElem_cons_zero, List.length_nil] at hc2
            have hmcn : ¬ (m < c) := by omega
            have hman : ¬ (a < m) := by omega
            have hw00 : IntKind.i64.wrap 0 = 0 := by decide
            have hmc : ¬ ((m : Int) < (c : Int)) := by omega
            have hma : ¬ ((a : Int) < (m : Int)) := by omega
            clear hoc hrc hb10 HCR hr0 hr1 hr2 hk10
            go_wp2_with fail
            go_quiet (fail)
            go_wp2_with fail
            clear hc0 hc2
            go_loopw [13] (fun kv wk => ∃ k : Nat, kv = .int .i64 k ∧ k ≤ m ∧ Below w10.heap.size w10 wk) (fun kv _ => m - (intOf kv).toNat)
            case atStart => exact ⟨0, rfl, Nat.zero_le _, below_drewN (Below.refl _ _) _⟩
            case round =>
              obtain ⟨k, rfl, hkm, hbk⟩ := hrel
              have HBK := Lib.hid hbk
              have hck : wr.cell? ⟨b3, o3 + 1, none⟩ = some (.slice Y1 m yc1) := (hbk.cell (p := ⟨b3, o3 + 1, none⟩) hbl3).trans hc1
              have hsk := hbk.size
              by_cases hltk : k < m
              · have hltki : (k : Int) < (m : Int) := by omega
                have hk0 : (0 : Int) ≤ (k : Int) := by omega
                have hrk := HR1.out.later hbk
                simp only [List.getElem_cons_succ, List.getElem_cons_zero] at hrk
                obtain ⟨b4, o4, rfl, _, hcy⟩ := hrk.cell (i := k) (by rw [seqB_len]; exact hltk)
                have hw8 := wrap8 0 k
                rw [seqB_at 0 m k hltk] at hcy
                simp only [UInt8.toNat_ofNat', Nat.reducePow, Nat.zero_add, Int.zero_add, Int.cast_ofNat_Int] at hcy hw8
                have hw8 : IntKind.u8.wrap (k : Int) = ((k % 256 : Nat) : Int) := by
                  have := wrap8 0 k
                  simpa using this
                generalize ((k % 256 : Nat) : Int) = bz at *
                clear hbk hrk
                go_wp2_with fail
                exact ⟨⟨k + 1, by go_num, by omega, HBK.out⟩, by simp [intOf]; omega⟩
              · have hltki : ¬ ((k : Int) < (m : Int)) := by omega
                have HKK := HK10.out.later hbk
                have HB11 := Lib.hid (HB10.out.trans (hbk.mono (by omega)))
                have HSI := Lib.hid (nSize wr w1.heap.size p ⟨d.f, none⟩ HKK 0)
                rw [show sizeD ⟨d.f, none⟩ 0 = (0, 10) from rfl] at HSI
                have hpw := HKK.lt
                clear hbk HKK
                go_wp2_with fail
                refine Calls.mono HSI.out ?_
                rintro e w12 ⟨rfl, hk12, hb12⟩
                have HB12 := Lib.hid (HB11.out.trans (hb12.mono (by omega)))
                have hs12 := hb12.size
                have HSY := Lib.hid (nSync w12 w1.heap.size p ⟨d.f, none⟩ hk12 (by omega) 0)
                rw [show (syD ⟨d.f, none⟩ 0).2 = 10 from rfl] at HSY
                have hp12 := hk12.lt
                clear hk12 hb12 HSI
                go_wp2_with fail
                refine Calls.mono (HN.out _ _) ?_
                rintro e w' ⟨rfl, he⟩
                have he := he.symm
                subst he
                go_wp2_with fail
                refine Calls.mono HSY.out ?_
                rintro e w13 ⟨rfl, -, hb13⟩
                have HB13 := Lib.hid (HB12.out.trans (hb13.mono (by omega)))
                have hs13 := hb13.size
                clear hb13 HSY
                go_wp2_with fail
                refine Calls.mono (HN.out _ _) ?_
                rintro e w' ⟨rfl, he⟩
                have he := he.symm
                subst he
                go_wp2_with fail
                refine Calls.mono (HWK.out _) ?_
                rintro e w14 ⟨rfl, hb14⟩
                have HB14 := Lib.hid (HB13.out.trans (hb14.mono (by omega)))
                clear hb14
                go_wp2_with fail
                go_ret
                exact ⟨rfl, HB14.out⟩
        · have hlti : ¬ ((i : Int) < (L.length : Int)) := by omega
          by_cases hl0 : L.length = 0
          · have hl0i : (L.length : Int) = 0 := by omega
            have hl0b : ¬ ((0 : Int) < (L.length : Int)) := by omega
            obtain ⟨m, hm1, hm2, hcr⟩ := HKI.out.crash []
            clear hb hx hnk hki hmx hl0i hl0
            have HCR := Lib.hid (nCrash' wz w1.heap.size p (2 * i) d HK.out hsr [] (.slice none 0 0) (IA.nil _) (fun h => absurd rfl h) HMX.out (by omega))
            rw [hcr] at HCR
            have hpz := HK.out.lt
            clear HK HMX HKI
            go_wp2_with fail
            refine Calls.mono HCR.out ?_
            rintro e w10 ⟨u, rfl, ⟨us, hoc⟩, hk10, hb10⟩
            have HB10 := Lib.hid (HB.out.trans (hb10.mono (by omega)))
            have HX10 := Lib.hid (HXr.out.heap (hb10.block _ (by omega)))
            have HK10 := Lib.hid hk10
            have hs10 := hb10.size
            have hrc := hoc.rc
            have HRC := Lib.hid hrc
            obtain ⟨uA, uc, rfl⟩ := hoc.slice
            obtain ⟨b3, o3, y0, rfl, hbl3, hc0, hr0⟩ := hrc.at (i := 0) (by simp)
            obtain ⟨b', o', y1, hA1, -, hc1, hr1⟩ := hrc.at (i := 1) (by simp)
            injection hA1 with hA1
            injection hA1 with e1 e2
            subst e1 e2
            obtain ⟨b', o', y2, hA2, -, hc2, hr2⟩ := hrc.at (i := 2) (by simp)
            injection hA2 with hA2
            injection hA2 with e1 e2
            subst e1 e2
            have HR1 := Lib.hid hr1
            obtain ⟨Y0, yc0, rfl, _, _⟩ := hr0.slice
            obtain ⟨Y1, yc1, hy1, _, _⟩ := hr1.slice
            obtain ⟨Y2, yc2, rfl, _, _⟩ := hr2.slice
            simp only [List.getElem_cons_succ, List.getElem_cons_zero, seqB_len] at hy1
            subst hy1
            simp only [Nat.add_zero, List.getElem_cons_zero, List.length_nil] at hc0
            simp only [List.getElem_cons_succ, List.getElem_cons_zero, List.length_nil] at hc2
            have hmcn : ¬ (m < c) := by omega
            have hman : ¬ (a < m) := by omega
            have hw00 : IntKind.i64.wrap 0 = 0 := by decide
            have hmc : ¬ ((m : Int) < (c : Int)) := by omega
            have hma : ¬ ((a : Int) < (m : Int)) := by omega
            clear hoc hrc hb10 HCR hr0 hr1 hr2 hk10
            go_wp2_with fail
            go_quiet (fail)
            go_wp2_with fail
            clear hc0 hc2
            go_loopw [13] (fun kv wk => ∃ k : Nat, kv = .int .i64 k ∧ k ≤ m ∧ Below w10.heap.size w10 wk) (fun kv _ => m - (intOf kv).toNat)
            case atStart => exact ⟨0, rfl, Nat.zero_le _, below_drewN (Below.refl _ _) _⟩
            case round =>
              obtain ⟨k, rfl, hkm, hbk⟩ := hrel
              have HBK := Lib.hid hbk
              have hck : wr.cell? ⟨b3, o3 + 1, none⟩ = some (.slice Y1 m yc1) := (hbk.cell (p := ⟨b3, o3 + 1, none⟩) hbl3).trans hc1
              have hsk := hbk.size
              by_cases hltk : k < m
              · have hltki : (k : Int) < (m : Int) := by omega
                have hk0 : (0 : Int) ≤ (k : Int) := by omega
                have hrk := HR1.out.later hbk
                simp only [List.getElem_cons_succ, List.getElem_cons_zero] at hrk
                obtain ⟨b4, o4, rfl, _, hcy⟩ := hrk.cell (i := k) (by rw [seqB_len]; exact hltk)
                have hw8 := wrap8 0 k
                rw [seqB_at 0 m k hltk] at hcy
                simp only [UInt8.toNat_ofNat', Nat.reducePow, Nat.zero_add, Int.zero_add, Int.cast_ofNat_Int] at hcy hw8
                have hw8 : IntKind.u8.wrap (k : Int) = ((k % 256 : Nat) : Int) := by
                  have := wrap8 0 k
                  simpa using this
                generalize ((k % 256 : Nat) : Int) = bz at *
                clear hbk hrk
                go_wp2_with fail
                exact ⟨⟨k + 1, by go_num, by omega, HBK.out⟩, by simp [intOf]; omega⟩
              · have hltki : ¬ ((k : Int) < (m : Int)) := by omega
                have HKK := HK10.out.later hbk
                have HB11 := Lib.hid (HB10.out.trans (hbk.mono (by omega)))
                have HSI := Lib.hid (nSize wr w1.heap.size p ⟨d.f, none⟩ HKK 0)
                rw [show sizeD ⟨d.f, none⟩ 0 = (0, 10) from rfl] at HSI
                have hpw := HKK.lt
                clear hbk HKK
                go_wp2_with fail
                refine Calls.mono HSI.out ?_
                rintro e w12 ⟨rfl, hk12, hb12⟩
                have HB12 := Lib.hid (HB11.out.trans (hb12.mono (by omega)))
                have hs12 := hb12.size
                have HSY := Lib.hid (nSync w12 w1.heap.size p ⟨d.f, none⟩ hk12 (by omega) 0)
                rw [show (syD ⟨d.f, none⟩ 0).2 = 10 from rfl] at HSY
                have hp12 := hk12.lt
                clear hk12 hb12 HSI
                go_wp2_with fail
                refine Calls.mono (HN.out _ _) ?_
                rintro e w' ⟨rfl, he⟩
                have he := he.symm
                subst he
                go_wp2_with fail
                refine Calls.mono HSY.out ?_
                rintro e w13 ⟨rfl, -, hb13⟩
                have HB13 := Lib.hid (HB12.out.trans (hb13.mono (by omega)))
                have hs13 := hb13.size
                clear hb13 HSY
                go_wp2_with fail
                refine Calls.mono (HN.out _ _) ?_
                rintro e w' ⟨rfl, he⟩
                have he := he.symm
                subst he
                go_wp2_with fail
                refine Calls.mono (HWK.out _) ?_
                rintro e w14 ⟨rfl, hb14⟩
                have HB14 := Lib.hid (HB13.out.trans (hb14.mono (by omega)))
                clear hb14
                go_wp2_with fail
                go_ret
                exact ⟨rfl, HB14.out⟩
          · have hl0b : (0 : Int) < (L.length : Int) := by omega
            obtain ⟨b, o, bv, pv, hAA, hbl, -, -, -, -, -, -, -, -, -⟩ := (HL.out.later hb).at (i := 0) (by omega)
            obtain ⟨b0, o0, bv0, pv0, hAA0, -, -, -, -, -, -, q5, -, hia, -, -, hpl⟩ := HL.out.at (i := 0) (by omega)
            clear hAA hbl bv pv
            subst hAA0
            obtain ⟨b9, o9, bv9, pv9, hA9, hbl9, -, -, -, -, -, p5, -, hia9, -⟩ := (HL.out.later hb).at (i := 0) (by omega)
            injection hA9 with hA9
            injection hA9 with e1 e2
            subst e1 e2
            have hpvs : pv9 = pv0 := by
              have e := (hb.cell (p := ⟨b0, o0 + 0 * 6 + 5, none⟩) (World.block_lt_of_cell? _ ⟨b0, o0 + 0 * 6 + 5, none⟩ q5)).trans q5
              rw [p5] at e
              exact Option.some.inj e
            subst hpvs
            have hpp : L[0].p ≠ [] → ∀ j, pv9.ownBlock = some j → j ≠ p := fun hne j hj => by
              obtain ⟨A', c', hv, _, _, h3⟩ := hia
              obtain ⟨b', o', hA, hlt, _⟩ := h3 hne
              rw [hv, hA] at hj
              have : b' = j := by simpa [Value.ownBlock] using hj
              have := HB1.out.size
              omega
            obtain ⟨pA, pc, rfl, _, _⟩ := hia.slice
            simp only [Nat.zero_mul, Nat.add_zero] at p5
            by_cases h100 : L[0].p.length < 100
            · have h100i : (L[0].p.length : Int) < 100 := by omega
              obtain ⟨m, hm1, hm2, hcr⟩ := HKI.out.crash L[0].p
              have HCR := Lib.hid (nCrash' wz w1.heap.size p (2 * i) d HK.out hsr L[0].p (.slice pA L[0].p.length pc) (hia.later hb) hpp HMX.out (by omega))
              rw [hcr] at HCR
              have hpz := HK.out.lt
              clear HK HMX HKI hia hpp hia9 q5
              go_wp2_with fail
              refine Calls.mono HCR.out ?_
              rintro e w10 ⟨u, rfl, ⟨us, hoc⟩, hk10, hb10⟩
              have HB10 := Lib.hid (HB.out.trans (hb10.mono (by omega)))
              have HX10 := Lib.hid (HXr.out.heap (hb10.block _ (by omega)))
              have HK10 := Lib.hid hk10
              have hs10 := hb10.size
              have hrc := hoc.rc
              have HRC := Lib.hid hrc
              obtain ⟨uA, uc, rfl⟩ := hoc.slice
              obtain ⟨b3, o3, y0, rfl, hbl3, hc0, hr0⟩ := hrc.at (i := 0) (by simp)
              obtain ⟨b', o', y1, hA1, -, hc1, hr1⟩ := hrc.at (i := 1) (by simp)
              injection hA1 with hA1
              injection hA1 with e1 e2
              subst e1 e2
              obtain ⟨b', o', y2, hA2, -, hc2, hr2⟩ := hrc.at (i := 2) (by simp)
              injection hA2 with hA2
              injection hA2 with e1 e2
              subst e1 e2
              have HR1 := Lib.hid hr1
              obtain ⟨Y0, yc0, rfl, _, _⟩ := hr0.slice
              obtain ⟨Y1, yc1, hy1, _, _⟩ := hr1.slice
              obtain ⟨Y2, yc2, rfl, _, _⟩ := hr2.slice
              simp only [List.getElem_cons_succ, List.getElem_cons_zero, seqB_len] at hy1
              subst hy1
              simp only [Nat.add_zero, List.getElem_cons_zero, List.length_nil] at hc0
              simp only [List.getElem_cons_succ, List.getElem_cons_zero, List.length_nil] at hc2
              have hmcn : ¬ (m < c) := by omega
              have hman : ¬ (a < m) := by omega
              have hw00 : IntKind.i64.wrap 0 = 0 := by decide
              have hmc : ¬ ((m : Int) < (c : Int)) := by omega
              have hma : ¬ ((a : Int) < (m : Int)) := by omega
              clear hoc hrc hb10 HCR hr0 hr1 hr2 hk10
              go_wp2_with fail
              go_quiet (fail)
              go_wp2_with fail
              clear hc0 hc2
              go_loopw [13] (fun kv wk => ∃ k : Nat, kv = .int .i64 k ∧ k ≤ m ∧ Below w10.heap.size w10 wk) (fun kv _ => m - (intOf kv).toNat)
              case atStart => exact ⟨0, rfl, Nat.zero_le _, below_drewN (Below.refl _ _) _⟩
              case round =>
                obtain ⟨k, rfl, hkm, hbk⟩ := hrel
                have HBK := Lib.hid hbk
                have hck : wr.cell? ⟨b3, o3 + 1, none⟩ = some (.slice Y1 m yc1) := (hbk.cell (p := ⟨b3, o3 + 1, none⟩) hbl3).trans hc1
                have hsk := hbk.size
                by_cases hltk : k < m
                · have hltki : (k : Int) < (m : Int) := by omega
                  have hk0 : (0 : Int) ≤ (k : Int) := by omega
                  have hrk := HR1.out.later hbk
                  simp only [List.getElem_cons_succ, List.getElem_cons_zero] at hrk
                  obtain ⟨b4, o4, rfl, _, hcy⟩ := hrk.cell (i := k) (by rw [seqB_len]; exact hltk)
                  have hw8 := wrap8 0 k
                  rw [seqB_at 0 m k hltk] at hcy
                  simp only [UInt8.toNat_ofNat', Nat.reducePow, Nat.zero_add, Int.zero_add, Int.cast_ofNat_Int] at hcy hw8
                  have hw8 : IntKind.u8.wrap (k : Int) = ((k % 256 : Nat) : Int) := by
                    have := wrap8 0 k
                    simpa using this
                  generalize ((k % 256 : Nat) : Int) = bz at *
                  clear hbk hrk
                  go_wp2_with fail
                  exact ⟨⟨k + 1, by go_num, by omega, HBK.out⟩, by simp [intOf]; omega⟩
                · have hltki : ¬ ((k : Int) < (m : Int)) := by omega
                  have HKK := HK10.out.later hbk
                  have HB11 := Lib.hid (HB10.out.trans (hbk.mono (by omega)))
                  have HSI := Lib.hid (nSize wr w1.heap.size p ⟨d.f, none⟩ HKK 0)
                  rw [show sizeD ⟨d.f, none⟩ 0 = (0, 10) from rfl] at HSI
                  have hpw := HKK.lt
                  clear hbk HKK
                  go_wp2_with fail
                  refine Calls.mono HSI.out ?_
                  rintro e w12 ⟨rfl, hk12, hb12⟩
                  have HB12 := Lib.hid (HB11.out.trans (hb12.mono (by omega)))
                  have hs12 := hb12.size
                  have HSY := Lib.hid (nSync w12 w1.heap.size p ⟨d.f, none⟩ hk12 (by omega) 0)
                  rw [show (syD ⟨d.f, none⟩ 0).2 = 10 from rfl] at HSY
                  have hp12 := hk12.lt
                  clear hk12 hb12 HSI
                  go_wp2_with fail
                  refine Calls.mono (HN.out _ _) ?_
                  rintro e w' ⟨rfl, he⟩
                  have he := he.symm
                  subst he
                  go_wp2_with fail
                  refine Calls.mono HSY.out ?_
                  rintro e w13 ⟨rfl, -, hb13⟩
                  have HB13 := Lib.hid (HB12.out.trans (hb13.mono (by omega)))
                  have hs13 := hb13.size
                  clear hb13 HSY
                  go_wp2_with fail
                  refine Calls.mono (HN.out _ _) ?_
                  rintro e w' ⟨rfl, he⟩
                  have he := he.symm
                  subst he
                  go_wp2_with fail
                  refine Calls.mono (HWK.out _) ?_
                  rintro e w14 ⟨rfl, hb14⟩
                  have HB14 := Lib.hid (HB13.out.trans (hb14.mono (by omega)))
                  clear hb14
                  go_wp2_with fail
                  go_ret
                  exact ⟨rfl, HB14.out⟩
            · have h100i : ¬ ((L[0].p.length : Int) < 100) := by omega
              obtain ⟨m, hm1, hm2, hcr⟩ := HKI.out.crash []
              clear hia hpp hia9 q5
              have HCR := Lib.hid (nCrash' wz w1.heap.size p (2 * i) d HK.out hsr [] (.slice none 0 0) (IA.nil _) (fun h => absurd rfl h) HMX.out (by omega))
              rw [hcr] at HCR
              have hpz := HK.out.lt
              clear HK HMX HKI
              go_wp2_with fail
              refine Calls.mono HCR.out ?_
              rintro e w10 ⟨u, rfl, ⟨us, hoc⟩, hk10, hb10⟩
              have HB10 := Lib.hid (HB.out.trans (hb10.mono (by omega)))
              have HX10 := Lib.hid (HXr.out.heap (hb10.block _ (by omega)))
              have HK10 := Lib.hid hk10
              have hs10 := hb10.size
              have hrc := hoc.rc
              have HRC := Lib.hid hrc
              obtain ⟨uA, uc, rfl⟩ := hoc.slice
              obtain ⟨b3, o3, y0, rfl, hbl3, hc0, hr0⟩ := hrc.at (i := 0) (by simp)
              obtain ⟨b', o', y1, hA1, -, hc1, hr1⟩ := hrc.at (i := 1) (by simp)
              injection hA1 with hA1
              injection hA1 with e1 e2
              subst e1 e2
              obtain ⟨b', o', y2, hA2, -, hc2, hr2⟩ := hrc.at (i := 2) (by simp)
              injection hA2 with hA2
              injection hA2 with e1 e2
              subst e1 e2
              have HR1 := Lib.hid hr1
              obtain ⟨Y0, yc0, rfl, _, _⟩ := hr0.slice
              obtain ⟨Y1, yc1, hy1, _, _⟩ := hr1.slice
              obtain ⟨Y2, yc2, rfl, _, _⟩ := hr2.slice
              simp only [List.getElem_cons_succ, List.getElem_cons_zero, seqB_len] at hy1
              subst hy1
              simp only [Nat.add_zero, List.getElem_cons_zero, List.length_nil] at hc0
              simp only [List.getElem_cons_succ, List.getElem_cons_zero, List.length_nil] at hc2
              have hmcn : ¬ (m < c) := by omega
              have hman : ¬ (a < m) := by omega
              have hw00 : IntKind.i64.wrap 0 = 0 := by decide
              have hmc : ¬ ((m : Int) < (c : Int)) := by omega
              have hma : ¬ ((a : Int) < (m : Int)) := by omega
              clear hoc hrc hb10 HCR hr0 hr1 hr2 hk10
              go_wp2_with fail
              go_quiet (fail)
              go_wp2_with fail
              clear hc0 hc2
              go_loopw [13] (fun kv wk => ∃ k : Nat, kv = .int .i64 k ∧ k ≤ m ∧ Below w10.heap.size w10 wk) (fun kv _ => m - (intOf kv).toNat)
              case atStart => exact ⟨0, rfl, Nat.zero_le _, below_drewN (Below.refl _ _) _⟩
              case round =>
                obtain ⟨k, rfl, hkm, hbk⟩ := hrel
                have HBK := Lib.hid hbk
                have hck : wr.cell? ⟨b3, o3 + 1, none⟩ = some (.slice Y1 m yc1) := (hbk.cell (p := ⟨b3, o3 + 1, none⟩) hbl3).trans hc1
                have hsk := hbk.size
                by_cases hltk : k < m
                · have hltki : (k : Int) < (m : Int) := by omega
                  have hk0 : (0 : Int) ≤ (k : Int) := by omega
                  have hrk := HR1.out.later hbk
                  simp only [List.getElem_cons_succ, List.getElem_cons_zero] at hrk
                  obtain ⟨b4, o4, rfl, _, hcy⟩ := hrk.cell (i := k) (by rw [seqB_len]; exact hltk)
                  have hw8 := wrap8 0 k
                  rw [seqB_at 0 m k hltk] at hcy
                  simp only [UInt8.toNat_ofNat', Nat.reducePow, Nat.zero_add, Int.zero_add, Int.cast_ofNat_Int] at hcy hw8
                  have hw8 : IntKind.u8.wrap (k : Int) = ((k % 256 : Nat) : Int) := by
                    have := wrap8 0 k
                    simpa using this
                  generalize ((k % 256 : Nat) : Int) = bz at *
                  clear hbk hrk
                  go_wp2_with fail
                  exact ⟨⟨k + 1, by go_num, by omega, HBK.out⟩, by simp [intOf]; omega⟩
                · have hltki : ¬ ((k : Int) < (m : Int)) := by omega
                  have HKK := HK10.out.later hbk
                  have HB11 := Lib.hid (HB10.out.trans (hbk.mono (by omega)))
                  have HSI := Lib.hid (nSize wr w1.heap.size p ⟨d.f, none⟩ HKK 0)
                  rw [show sizeD ⟨d.f, none⟩ 0 = (0, 10) from rfl] at HSI
                  have hpw := HKK.lt
                  clear hbk HKK
                  go_wp2_with fail
                  refine Calls.mono HSI.out ?_
                  rintro e w12 ⟨rfl, hk12, hb12⟩
                  have HB12 := Lib.hid (HB11.out.trans (hb12.mono (by omega)))
                  have hs12 := hb12.size
                  have HSY := Lib.hid (nSync w12 w1.heap.size p ⟨d.f, none⟩ hk12 (by omega) 0)
                  rw [show (syD ⟨d.f, none⟩ 0).2 = 10 from rfl] at HSY
                  have hp12 := hk12.lt
                  clear hk12 hb12 HSI
                  go_wp2_with fail
                  refine Calls.mono (HN.out _ _) ?_
                  rintro e w' ⟨rfl, he⟩
                  have he := he.symm
                  subst he
                  go_wp2_with fail
                  refine Calls.mono HSY.out ?_
                  rintro e w13 ⟨rfl, -, hb13⟩
                  have HB13 := Lib.hid (HB12.out.trans (hb13.mono (by omega)))
                  have hs13 := hb13.size
                  clear hb13 HSY
                  go_wp2_with fail
                  refine Calls.mono (HN.out _ _) ?_
                  rintro e w' ⟨rfl, he⟩
                  have he := he.symm
                  subst he
                  go_wp2_with fail
                  refine Calls.mono (HWK.out _) ?_
                  rintro e w14 ⟨rfl, hb14⟩
                  have HB14 := Lib.hid (HB13.out.trans (hb14.mono (by omega)))
                  clear hb14
                  go_wp2_with fail
                  go_ret
                  exact ⟨rfl, HB14.out⟩
end Go.Proofs.Ytahmihdahgbhkaa

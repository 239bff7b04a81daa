/-
  DiskExact: the law's walk.
  Conditions: as the theorem states them: the argument lies in memory.
-/
import Derived.Test.YtahmihdahgbhkaaLA
import Derived.Test.YtahmihdahgbhkaaLB
import Derived.Test.YtahmihdahgbhkaaLC
import Derived.Test.YtahmihdahgbhkaaLD
import Derived.Test.YtahmihdahgbhkaaLE
import Derived.Test.YtahmihdahgbhkaaLF
import Derived.Test.YtahmihdahgbhkaaLG
import Derived.Deep.CutRange
import Derived.Deep.DeepCutAuto
namespace Go.Proofs.Ytahmihdahgbhkaa
open Go.RowKit

theorem newB_light {F : List (List UInt8)} (h : ∀ l ∈ F, l.length ≤ 8000) (h0 : F.length = 0 ∨ F.length = 3) : newB F = true := by
  unfold newB
  rw [Bool.and_eq_true, List.all_eq_true]
  refine ⟨?_, fun l hl => decide_eq_true (by have := h l hl; omega)⟩
  rcases h0 with h0 | h0 <;> simp [h0]
theorem RB.own {w : World} {v : Value} {l : List UInt8} (h : RB w v l) (hne : l ≠ []) {k : Nat} (hk : v.ownBlock = some k) : k < w.heap.size := by
  obtain ⟨A, c, rfl, _, _, h3⟩ := h
  obtain ⟨b, o, rfl, hlt, _⟩ := h3 hne
  have : b = k := by simpa [Value.ownBlock] using hk
  omega
theorem IA.own {w : World} {v : Value} {l : List Int} (h : IA w v l) (hne : l ≠ []) {k : Nat} (hk : v.ownBlock = some k) : k < w.heap.size := by
  obtain ⟨A, c, rfl, _, _, h3⟩ := h
  obtain ⟨b, o, rfl, hlt, _⟩ := h3 hne
  have : b = k := by simpa [Value.ownBlock] using hk
  omega
set_option maxHeartbeats 8000000 in
set_option maxRecDepth 100000 in
theorem exact_any (F : List (List UInt8)) (L : List Ac) (u v : Value) (w : World) (hF : RC w u F) (hF1 : F.length ≤ 140737488355328) (hF2 : ∀ l ∈ F, l.length ≤ 140737488355328) (hL : AcsAt w v L) :
    Calls Try.prog 3 #[.agg #[u, v]] w fun e w' => e = .returned (.bool true) ∧ Below w.heap.size w w' := by
  have HN := Lib.hid (fun n W => num_any n W)
  have HWK := Lib.hid (fun W => wakes_any W)
  obtain ⟨A0, c0, rfl, _, _⟩ := hF.slice
  obtain ⟨A1, c1, rfl, hlc, hcm⟩ := hL.slice
  have HL := Lib.hid hL
  have HF := Lib.hid hF
  obtain ⟨W0, hW0⟩ : ∃ W0, w.alloc (.cells #[.slice A0 F.length c0, .slice A1 L.length c1] 25) = W0 := ⟨_, rfl⟩
  have hX := show Blk W0 w.heap.size #[.slice A0 F.length c0, .slice A1 L.length c1] 25 by rw [← hW0]; exact Blk.new w _ _
  have hB := show Below w.heap.size w W0 by rw [← hW0]; exact (Below.refl _ w).alloc (Nat.le_refl _) _
  have HHV := Lib.hid (heavy_any F L _ _ W0 (hF.later hB) hF1 hF2 (hL.later hB))
  have HB0 := Lib.hid hB
  have HX0 := Lib.hid hX
  have hs0 := hB.size
  have e0 := hX.c 0 (u := .slice A0 F.length c0) rfl
  have e1 := hX.c 1 (u := .slice A1 L.length c1) rfl
  clear hF hL hX hB
  go_enter Try.func3, Try.ntmps3
  go_wp2_with fail
  refine Calls.mono HHV.out ?_
  rintro e w1 ⟨⟨hv, rfl, hlight⟩, hb1⟩
  have HB1 := Lib.hid (HB0.out.trans (hb1.mono hs0))
  have HX1 := Lib.hid (HX0.out.later hb1)
  have hs1 := hb1.size
  have HLT := Lib.hid hlight
  clear hb1 e0 e1 hW0 hlight
  cases hv with
  | true =>
    go_wp2_with fail
    go_ret
    exact ⟨rfl, HB1.out⟩
  | false =>
    obtain ⟨l1, l2, l3, l4⟩ := HLT.out rfl
    have HL2 := Lib.hid l2
    have HL4 := Lib.hid l4
    have f0 := HX1.out.c 0 (u := .slice A0 F.length c0) rfl
    have hx1 := HX1.out.lt
    have HCC := Lib.hid (copyCells_any F _ w1 (HF.out.later (HB1.out)) (by omega) (fun l hl => by have := l2 l hl; omega))
    clear l2 l4 HLT
    go_wp2_with fail
    refine Calls.mono HCC.out ?_
    rintro e w2 ⟨y, rfl, ⟨ys, hy⟩, hb2⟩
    have HB2 := Lib.hid (HB1.out.trans (hb2.mono (by omega)))
    have HX2 := Lib.hid (HX1.out.later hb2)
    have hs2 := hb2.size
    have HY := Lib.hid hy
    obtain ⟨yA, yc, rfl⟩ := hy.slice
    have g0 := HX2.out.c 0 (u := .slice A0 F.length c0) rfl
    have hx2 := HX2.out.lt
    clear hb2 f0 hy HCC
    by_cases hq : F.length = 0 ∨ F.length = 3
    · have hnb := newB_light HL2.out hq
      have HNB := Lib.hid hnb
      have HNEW := Lib.hid (New_ok w2 F _ HY.out.rc hnb)
      clear hnb hq
      go_wp2_with fail
      refine Calls.mono HNEW.out ?_
      rintro e w3 ⟨p, rfl, hp, hb3, hk3⟩
      have HB3 := Lib.hid (HB2.out.trans (hb3.mono (by omega)))
      have HX3 := Lib.hid (HX2.out.later hb3)
      have HK3 := Lib.hid hk3
      have hs3 := hb3.size
      have HMY := Lib.hid (fun (W : World) (hW : Below w.heap.size w W) => may_yes F _ W (HF.out.later hW) HNB.out)
      have f0 := HX3.out.c 0 (u := .slice A0 F.length c0) rfl
      have hx3 := HX3.out.lt
      clear hb3 hk3 g0 HNEW
      go_wp2_with fail
      refine Calls.mono (HMY.out w3 HB3.out) ?_
      rintro e w4 ⟨rfl, hb4⟩
      have HB4 := Lib.hid (HB3.out.trans (hb4.mono (by omega)))
      have HX4 := Lib.hid (HX3.out.later hb4)
      have HK4 := Lib.hid (HK3.out.later hb4)
      have hs4 := hb4.size
      have f4 := HX4.out.c 0 (u := .slice A0 F.length c0) rfl
      have hx4 := HX4.out.lt
      have HNR := Lib.hid (New_r F _ w4 (HF.out.later HB4.out) HNB.out)
      clear hb4 f0 HMY HK3
      go_wp2_with fail
      refine Calls.mono (HN.out _ _) ?_
      rintro e w' ⟨rfl, he⟩
      have he := he.symm
      subst he
      go_wp2_with fail
      refine Calls.mono (HN.out _ _) ?_
      rintro e w' ⟨rfl, he⟩
      have he := he.symm
      subst he
      go_wp2_with fail
      refine Calls.mono (HN.out _ _) ?_
      rintro e w' ⟨rfl, he⟩
      have he := he.symm
      subst he
      go_wp2_with fail
      refine Calls.mono HNR.out ?_
      rintro e w5 ⟨q, rfl, hq5, hb5, hr5⟩
      have HX5 := Lib.hid (HX4.out.later hb5)
      have HT5 := Lib.hid (Two.new (B := w2.heap.size) (g := w.heap.size) HK4.out hb5 hr5 hx2 HX5.out (Nat.le_refl _) (Nat.le_refl _))
      have HB5 := Lib.hid (HB4.out.trans (hb5.mono (by omega)))
      have hs5 := HB5.out.size
      have hwB : w.heap.size ≤ w2.heap.size := by omega
      clear hb5 hr5 HNR HK4 HX5 f4
      generalize w2.heap.size = B at *
      go_wp2_with fail
      go_loopw [3, 5, 6] (fun dv rv iv wr => ∃ (i p q : Nat) (D : Dk), iv = .int .i64 i ∧ dv = .pointer (some ⟨p, 0, none⟩) ∧ rv = .pointer (some ⟨q, 0, none⟩) ∧ i ≤ L.length ∧ i ≤ 40 ∧ Two B p q D D w.heap.size #[.slice A0 F.length c0, .slice A1 L.length c1] 25 wr ∧ MxD D i ∧ Below w.heap.size w wr) (fun _ _ iv _ => 41 - (intOf iv).toNat)
      case atStart => exact ⟨0, p, q, newDk F, rfl, rfl, rfl, Nat.zero_le _, Nat.zero_le _, HT5.out, MxD.new F, HB5.out⟩
      case round =>
        obtain ⟨i, p, q, D, rfl, rfl, rfl, hiL, hi40, h2, hmx, hb⟩ := hrel
        have HT := Lib.hid h2
        have HMX := Lib.hid hmx
        have HB := Lib.hid hb
        have hsz := hb.size
        have e1 := h2.blk.c 1 (u := .slice A1 L.length c1) rfl
        have hpl := h2.ltK
        have hql := h2.ltR
        have hBs := h2.base
        have hgl := h2.blk.lt
        clear h2 hmx hb HT5 HB5
        by_cases hgo : i < L.length ∧ i < 40
        · skip
          have hlti : (i : Int) < (L.length : Int) := by omega
          have hlt40 : (i : Int) < 40 := by omega
          obtain ⟨b, o, bv, pv, hAA, hbl, d0, d1, d2, d3, d4, d5, hrb, hia, han, -⟩ := HL.out.at hgo.1
          subst hAA
          have hal := HL4.out _ (List.getElem_mem hgo.1)
          have hi0 : (0 : Int) ≤ (i : Int) := by omega
          have hbl2 : b < wr.heap.size := by omega
          have d0 := (HB.out.cell (p := ⟨b, o + i * 6, none⟩) hbl).trans d0
          have d1 := (HB.out.cell (p := ⟨b, o + i * 6 + 1, none⟩) hbl).trans d1
          have d2 := (HB.out.cell (p := ⟨b, o + i * 6 + 2, none⟩) hbl).trans d2
          have d3 := (HB.out.cell (p := ⟨b, o + i * 6 + 3, none⟩) hbl).trans d3
          have d4 := (HB.out.cell (p := ⟨b, o + i * 6 + 4, none⟩) hbl).trans d4
          have d5 := (HB.out.cell (p := ⟨b, o + i * 6 + 5, none⟩) hbl).trans d5
          generalize L[i] = A at *
          have HBB := Lib.hid (show A.b ≠ [] → ∀ j, bv.ownBlock = some j → j < B from fun hne j hj => by have := hrb.own hne hj; omega)
          have HPB := Lib.hid (show A.p ≠ [] → ∀ j, pv.ownBlock = some j → j < B from fun hne j hj => by have := hia.own hne hj; omega)
          have HRB := Lib.hid hrb
          have HIA := Lib.hid hia
          obtain ⟨bA, bc, rfl, _, _⟩ := hrb.slice
          obtain ⟨pA, pc, rfl, _, _⟩ := hia.slice
          have hab := hal.1
          have hap := hal.2
          obtain ⟨w2', hw2⟩ : ∃ w2', wr.alloc (.cells #[.int .i64 A.d, .int .i64 A.n, .int .i64 A.a, .int .i64 A.k, .slice bA A.b.length bc, .slice pA A.p.length pc] 40) = w2' := ⟨_, rfl⟩
          have hbe : Below wr.heap.size wr w2' := by rw [← hw2]; exact (Below.refl _ wr).alloc (Nat.le_refl _) _
          have hbk : Blk w2' wr.heap.size #[.int .i64 A.d, .int .i64 A.n, .int .i64 A.a, .int .i64 A.k, .slice bA A.b.length bc, .slice pA A.p.length pc] 40 := by rw [← hw2]; exact Blk.new wr _ _
          have H2 := Lib.hid (HT.out.other hbe (Nat.le_refl _) hbk)
          have HX2 := Lib.hid (HT.out.blk.later hbe)
          have hx2l := HX2.out.lt
          have HB2 := Lib.hid (HB.out.trans (hbe.mono hsz))
          have HBV := Lib.hid (fun (W : World) (hW : Below B w2' W) => HRB.out.later (HB2.out.trans (hW.mono hwB)))
          have HPV := Lib.hid (fun (W : World) (hW : Below B w2' W) => HIA.out.later (HB2.out.trans (hW.mono hwB)))
          have a0 := hbk.c 0 (u := .int .i64 A.d) rfl
          have HWI := Lib.hid (fun W => lWithin_any A.d 12 W (by decide) (by decide))
          have HEW := Lib.hid hw2
          obtain ⟨m1, m2⟩ := modI_in (i := A.d) (n := 12) (by decide)
          clear hal hrb hia hbe hbk hw2
          go_wp2_with fail
          rw [HEW.out]
          refine Calls.mono (HWI.out _) ?_
          rintro e w' ⟨rfl, he⟩
          have he := he.symm
          subst he
          rcases (show modI A.d 12 = 0 ∨ modI A.d 12 = 1 ∨ modI A.d 12 = 2 ∨ modI A.d 12 = 3 ∨ modI A.d 12 = 4 ∨ modI A.d 12 = 5 ∨ modI A.d 12 = 6 ∨ modI A.d 12 = 7 ∨ modI A.d 12 = 8 ∨ modI A.d 12 = 9 ∨ modI A.d 12 = 10 ∨ modI A.d 12 = 11 by omega) with hm | hm | hm | hm | hm | hm | hm | hm | hm | hm | hm | hm
          · as_aux_lemma =>
              rw [hm]
              clear m1 m2 hm
              go_upto_if 101 with (fail)
              refine wp_cond_true rfl ?_
              refine size_case B p q wr.heap.size i D A (.slice bA A.b.length bc) (.slice pA A.p.length pc) w2' _ _ _ _ _ _ _ _ _ _ _ _ _ _ _ _ _ _ _ _ _ _ _ _ _ _ _ _ _ _ _ _ _ _ _ _ _ _ _ _ _ _ _ _ _ _ _ _ _ _ _ _ _ _ _ _ _ _ _ _ _ _ _ _ _ _ _ _ _ _ _ _ _ _ _ _ _ _ _ _ _ _ _ _ _ _ _ _ _ _ _ _ _ _ _ _ _ _ _ _ _ _ _ _ _ _ _ _ _ _ _ _ _ _ _ _ _ _ _ _ _ _ _ _ _ _ _ _ _ _ _ _ _ _ _ _ _ _ _ _ _ _ _ _ _ _ _ _ _ _ _ _ _ _ _ _ _ _ _ _ _ _ _ _ _ _ _ _ _ _ _ _ _ _ _ _ _ _ _ _ _ _ _ _ _ _ _ _ _ _ _ _ _ _ _ _ _ _ _ _ _ _ _ _ _ _ _ _ _ _ _ _ _ _ _ _ _ _ _ _ _ _ _ _ _ _ _ _ _ _ _ _ _ _ _ _ (by kernel_rfl) H2 HMX (by omega) han hab hap HBV HPV HBB HPB ?_
              intro _ _ _ _ _ _ _ _ _ _ _ _ _ _ _ _ _ _ _ _ _ _ _ D' p' q' n w' h2 hmx hb
              have HT3 := Lib.hid (h2.back (by omega) (HX2.out.heap (hb.block _ (by omega))))
              have HMX3 := Lib.hid hmx
              have HB3 := Lib.hid (HB2.out.trans (hb.mono hwB))
              clear h2 hmx hb
              go_wp2_with fail
              refine Calls.mono (HN.out _ _) ?_
              rintro e w'' ⟨rfl, he⟩
              have he := he.symm
              subst he
              go_wp2_with fail
              exact ⟨⟨i + 1, p', q', D', by go_num, rfl, rfl, by omega, by omega, HT3.out, HMX3.out, HB3.out⟩, by simp [intOf]; omega⟩
          · as_aux_lemma =>
              rw [hm]
              clear m1 m2 hm
              go_upto_if 122 with (fail)
              refine wp_cond_true rfl ?_
              go_upto_if 122 with (fail)
              refine wp_cond_true rfl ?_
              refine read_case B p q wr.heap.size i D A (.slice bA A.b.length bc) (.slice pA A.p.length pc) w2' _ _ _ _ _ _ _ _ _ _ _ _ _ _ _ _ _ _ _ _ _ _ _ _ _ _ _ _ _ _ _ _ _ _ _ _ _ _ _ _ _ _ _ _ _ _ _ _ _ _ _ _ _ _ _ _ _ _ _ _ _ _ _ _ _ _ _ _ _ _ _ _ _ _ _ _ _ _ _ _ _ _ _ _ _ _ _ _ _ _ _ _ _ _ _ _ _ _ _ _ _ _ _ _ _ _ _ _ _ _ _ _ _ _ _ _ _ _ _ _ _ _ _ _ _ _ _ _ _ _ _ _ _ _ _ _ _ _ _ _ _ _ _ _ _ _ _ _ _ _ _ _ _ _ _ _ _ _ _ _ _ _ _ _ _ _ _ _ _ _ _ _ _ _ _ _ _ _ _ _ _ _ _ _ _ _ _ _ _ _ _ _ _ _ _ _ _ _ _ _ _ _ _ _ _ _ _ _ _ _ _ _ _ _ _ _ _ _ _ _ _ _ _ _ _ _ _ _ _ _ _ _ _ _ _ _ (by kernel_rfl) H2 HMX (by omega) han hab hap HBV HPV HBB HPB ?_
              intro _ _ _ _ _ _ _ _ _ _ _ _ _ _ _ _ _ _ _ _ _ _ _ _ _ _ _ _ _ _ _ _ _ _ D' p' q' n w' h2 hmx hb
              have HT3 := Lib.hid (h2.back (by omega) (HX2.out.heap (hb.block _ (by omega))))
              have HMX3 := Lib.hid hmx
              have HB3 := Lib.hid (HB2.out.trans (hb.mono hwB))
              clear h2 hmx hb
              go_wp2_with fail
              refine Calls.mono (HN.out _ _) ?_
              rintro e w'' ⟨rfl, he⟩
              have he := he.symm
              subst he
              go_wp2_with fail
              exact ⟨⟨i + 1, p', q', D', by go_num, rfl, rfl, by omega, by omega, HT3.out, HMX3.out, HB3.out⟩, by simp [intOf]; omega⟩
          · as_aux_lemma =>
              rw [hm]
              clear m1 m2 hm
              go_upto_if 122 with (fail)
              refine wp_cond_false rfl ?_
              go_upto_if 122 with (fail)
              refine wp_cond_true rfl ?_
              refine read_case B p q wr.heap.size i D A (.slice bA A.b.length bc) (.slice pA A.p.length pc) w2' _ _ _ _ _ _ _ _ _ _ _ _ _ _ _ _ _ _ _ _ _ _ _ _ _ _ _ _ _ _ _ _ _ _ _ _ _ _ _ _ _ _ _ _ _ _ _ _ _ _ _ _ _ _ _ _ _ _ _ _ _ _ _ _ _ _ _ _ _ _ _ _ _ _ _ _ _ _ _ _ _ _ _ _ _ _ _ _ _ _ _ _ _ _ _ _ _ _ _ _ _ _ _ _ _ _ _ _ _ _ _ _ _ _ _ _ _ _ _ _ _ _ _ _ _ _ _ _ _ _ _ _ _ _ _ _ _ _ _ _ _ _ _ _ _ _ _ _ _ _ _ _ _ _ _ _ _ _ _ _ _ _ _ _ _ _ _ _ _ _ _ _ _ _ _ _ _ _ _ _ _ _ _ _ _ _ _ _ _ _ _ _ _ _ _ _ _ _ _ _ _ _ _ _ _ _ _ _ _ _ _ _ _ _ _ _ _ _ _ _ _ _ _ _ _ _ _ _ _ _ _ _ _ _ _ _ (by kernel_rfl) H2 HMX (by omega) han hab hap HBV HPV HBB HPB ?_
              intro _ _ _ _ _ _ _ _ _ _ _ _ _ _ _ _ _ _ _ _ _ _ _ _ _ _ _ _ _ _ _ _ _ _ D' p' q' n w' h2 hmx hb
              have HT3 := Lib.hid (h2.back (by omega) (HX2.out.heap (hb.block _ (by omega))))
              have HMX3 := Lib.hid hmx
              have HB3 := Lib.hid (HB2.out.trans (hb.mono hwB))
              clear h2 hmx hb
              go_wp2_with fail
              refine Calls.mono (HN.out _ _) ?_
              rintro e w'' ⟨rfl, he⟩
              have he := he.symm
              subst he
              go_wp2_with fail
              exact ⟨⟨i + 1, p', q', D', by go_num, rfl, rfl, by omega, by omega, HT3.out, HMX3.out, HB3.out⟩, by simp [intOf]; omega⟩
          · as_aux_lemma =>
              rw [hm]
              clear m1 m2 hm
              go_upto_if 190 with (fail)
              refine wp_cond_false rfl ?_
              refine write_case B p q wr.heap.size i D A (.slice bA A.b.length bc) (.slice pA A.p.length pc) w2' _ _ _ _ _ _ _ _ _ _ _ _ _ _ _ _ _ _ _ _ _ _ _ _ _ _ _ _ _ _ _ _ _ _ _ _ _ _ _ _ _ _ _ _ _ _ _ _ _ _ _ _ _ _ _ _ _ _ _ _ _ _ _ _ _ _ _ _ _ _ _ _ _ _ _ _ _ _ _ _ _ _ _ _ _ _ _ _ _ _ _ _ _ _ _ _ _ _ _ _ _ _ _ _ _ _ _ _ _ _ _ _ _ _ _ _ _ _ _ _ _ _ _ _ _ _ _ _ _ _ _ _ _ _ _ _ _ _ _ _ _ _ _ _ _ _ _ _ _ _ _ _ _ _ _ _ _ _ _ _ _ _ _ _ _ _ _ _ _ _ _ _ _ _ _ _ _ _ _ _ _ _ _ _ _ _ _ _ _ _ _ _ _ _ _ _ _ _ _ _ _ _ _ _ _ _ _ _ _ _ _ _ _ _ _ _ _ _ _ _ _ _ _ _ _ _ _ _ _ _ _ _ _ _ _ _ (by kernel_rfl) H2 HMX (by omega) han hab hap HBV HPV HBB HPB ?_
              intro _ _ _ _ _ _ _ _ _ _ _ _ _ _ _ _ _ _ _ _ _ D' p' q' n w' h2 hmx hb
              have HT3 := Lib.hid (h2.back (by omega) (HX2.out.heap (hb.block _ (by omega))))
              have HMX3 := Lib.hid hmx
              have HB3 := Lib.hid (HB2.out.trans (hb.mono hwB))
              clear h2 hmx hb
              go_wp2_with fail
              refine Calls.mono (HN.out _ _) ?_
              rintro e w'' ⟨rfl, he⟩
              have he := he.symm
              subst he
              go_wp2_with fail
              exact ⟨⟨i + 1, p', q', D', by go_num, rfl, rfl, by omega, by omega, HT3.out, HMX3.out, HB3.out⟩, by simp [intOf]; omega⟩
          · as_aux_lemma =>
              rw [hm]
              clear m1 m2 hm
              go_upto_if 190 with (fail)
              refine wp_cond_false rfl ?_
              refine write_case B p q wr.heap.size i D A (.slice bA A.b.length bc) (.slice pA A.p.length pc) w2' _ _ _ _ _ _ _ _ _ _ _ _ _ _ _ _ _ _ _ _ _ _ _ _ _ _ _ _ _ _ _ _ _ _ _ _ _ _ _ _ _ _ _ _ _ _ _ _ _ _ _ _ _ _ _ _ _ _ _ _ _ _ _ _ _ _ _ _ _ _ _ _ _ _ _ _ _ _ _ _ _ _ _ _ _ _ _ _ _ _ _ _ _ _ _ _ _ _ _ _ _ _ _ _ _ _ _ _ _ _ _ _ _ _ _ _ _ _ _ _ _ _ _ _ _ _ _ _ _ _ _ _ _ _ _ _ _ _ _ _ _ _ _ _ _ _ _ _ _ _ _ _ _ _ _ _ _ _ _ _ _ _ _ _ _ _ _ _ _ _ _ _ _ _ _ _ _ _ _ _ _ _ _ _ _ _ _ _ _ _ _ _ _ _ _ _ _ _ _ _ _ _ _ _ _ _ _ _ _ _ _ _ _ _ _ _ _ _ _ _ _ _ _ _ _ _ _ _ _ _ _ _ _ _ _ _ (by kernel_rfl) H2 HMX (by omega) han hab hap HBV HPV HBB HPB ?_
              intro _ _ _ _ _ _ _ _ _ _ _ _ _ _ _ _ _ _ _ _ _ D' p' q' n w' h2 hmx hb
              have HT3 := Lib.hid (h2.back (by omega) (HX2.out.heap (hb.block _ (by omega))))
              have HMX3 := Lib.hid hmx
              have HB3 := Lib.hid (HB2.out.trans (hb.mono hwB))
              clear h2 hmx hb
              go_wp2_with fail
              refine Calls.mono (HN.out _ _) ?_
              rintro e w'' ⟨rfl, he⟩
              have he := he.symm
              subst he
              go_wp2_with fail
              exact ⟨⟨i + 1, p', q', D', by go_num, rfl, rfl, by omega, by omega, HT3.out, HMX3.out, HB3.out⟩, by simp [intOf]; omega⟩
          · as_aux_lemma =>
              rw [hm]
              clear m1 m2 hm
              go_upto_if 190 with (fail)
              refine wp_cond_false rfl ?_
              refine write_case B p q wr.heap.size i D A (.slice bA A.b.length bc) (.slice pA A.p.length pc) w2' _ _ _ _ _ _ _ _ _ _ _ _ _ _ _ _ _ _ _ _ _ _ _ _ _ _ _ _ _ _ _ _ _ _ _ _ _ _ _ _ _ _ _ _ _ _ _ _ _ _ _ _ _ _ _ _ _ _ _ _ _ _ _ _ _ _ _ _ _ _ _ _ _ _ _ _ _ _ _ _ _ _ _ _ _ _ _ _ _ _ _ _ _ _ _ _ _ _ _ _ _ _ _ _ _ _ _ _ _ _ _ _ _ _ _ _ _ _ _ _ _ _ _ _ _ _ _ _ _ _ _ _ _ _ _ _ _ _ _ _ _ _ _ _ _ _ _ _ _ _ _ _ _ _ _ _ _ _ _ _ _ _ _ _ _ _ _ _ _ _ _ _ _ _ _ _ _ _ _ _ _ _ _ _ _ _ _ _ _ _ _ _ _ _ _ _ _ _ _ _ _ _ _ _ _ _ _ _ _ _ _ _ _ _ _ _ _ _ _ _ _ _ _ _ _ _ _ _ _ _ _ _ _ _ _ _ (by kernel_rfl) H2 HMX (by omega) han hab hap HBV HPV HBB HPB ?_
              intro _ _ _ _ _ _ _ _ _ _ _ _ _ _ _ _ _ _ _ _ _ D' p' q' n w' h2 hmx hb
              have HT3 := Lib.hid (h2.back (by omega) (HX2.out.heap (hb.block _ (by omega))))
              have HMX3 := Lib.hid hmx
              have HB3 := Lib.hid (HB2.out.trans (hb.mono hwB))
              clear h2 hmx hb
              go_wp2_with fail
              refine Calls.mono (HN.out _ _) ?_
              rintro e w'' ⟨rfl, he⟩
              have he := he.symm
              subst he
              go_wp2_with fail
              exact ⟨⟨i + 1, p', q', D', by go_num, rfl, rfl, by omega, by omega, HT3.out, HMX3.out, HB3.out⟩, by simp [intOf]; omega⟩
          · as_aux_lemma =>
              rw [hm]
              clear m1 m2 hm
              go_upto_if 190 with (fail)
              refine wp_cond_false rfl ?_
              refine write_case B p q wr.heap.size i D A (.slice bA A.b.length bc) (.slice pA A.p.length pc) w2' _ _ _ _ _ _ _ _ _ _ _ _ _ _ _ _ _ _ _ _ _ _ _ _ _ _ _ _ _ _ _ _ _ _ _ _ _ _ _ _ _ _ _ _ _ _ _ _ _ _ _ _ _ _ _ _ _ _ _ _ _ _ _ _ _ _ _ _ _ _ _ _ _ _ _ _ _ _ _ _ _ _ _ _ _ _ _ _ _ _ _ _ _ _ _ _ _ _ _ _ _ _ _ _ _ _ _ _ _ _ _ _ _ _ _ _ _ _ _ _ _ _ _ _ _ _ _ _ _ _ _ _ _ _ _ _ _ _ _ _ _ _ _ _ _ _ _ _ _ _ _ _ _ _ _ _ _ _ _ _ _ _ _ _ _ _ _ _ _ _ _ _ _ _ _ _ _ _ _ _ _ _ _ _ _ _ _ _ _ _ _ _ _ _ _ _ _ _ _ _ _ _ _ _ _ _ _ _ _ _ _ _ _ _ _ _ _ _ _ _ _ _ _ _ _ _ _ _ _ _ _ _ _ _ _ _ (by kernel_rfl) H2 HMX (by omega) han hab hap HBV HPV HBB HPB ?_
              intro _ _ _ _ _ _ _ _ _ _ _ _ _ _ _ _ _ _ _ _ _ D' p' q' n w' h2 hmx hb
              have HT3 := Lib.hid (h2.back (by omega) (HX2.out.heap (hb.block _ (by omega))))
              have HMX3 := Lib.hid hmx
              have HB3 := Lib.hid (HB2.out.trans (hb.mono hwB))
              clear h2 hmx hb
              go_wp2_with fail
              refine Calls.mono (HN.out _ _) ?_
              rintro e w'' ⟨rfl, he⟩
              have he := he.symm
              subst he
              go_wp2_with fail
              exact ⟨⟨i + 1, p', q', D', by go_num, rfl, rfl, by omega, by omega, HT3.out, HMX3.out, HB3.out⟩, by simp [intOf]; omega⟩
          · as_aux_lemma =>
              rw [hm]
              clear m1 m2 hm
              go_upto_if 155 with (fail)
              refine wp_cond_true rfl ?_
              refine cut_case B p q wr.heap.size i D A (.slice bA A.b.length bc) (.slice pA A.p.length pc) w2' _ _ _ _ _ _ _ _ _ _ _ _ _ _ _ _ _ _ _ _ _ _ _ _ _ _ _ _ _ _ _ _ _ _ _ _ _ _ _ _ _ _ _ _ _ _ _ _ _ _ _ _ _ _ _ _ _ _ _ _ _ _ _ _ _ _ _ _ _ _ _ _ _ _ _ _ _ _ _ _ _ _ _ _ _ _ _ _ _ _ _ _ _ _ _ _ _ _ _ _ _ _ _ _ _ _ _ _ _ _ _ _ _ _ _ _ _ _ _ _ _ _ _ _ _ _ _ _ _ _ _ _ _ _ _ _ _ _ _ _ _ _ _ _ _ _ _ _ _ _ _ _ _ _ _ _ _ _ _ _ _ _ _ _ _ _ _ _ _ _ _ _ _ _ _ _ _ _ _ _ _ _ _ _ _ _ _ _ _ _ _ _ _ _ _ _ _ _ _ _ _ _ _ _ _ _ _ _ _ _ _ _ _ _ _ _ _ _ _ _ _ _ _ _ _ _ _ _ _ _ _ _ _ _ _ _ (by kernel_rfl) H2 HMX (by omega) han hab hap HBV HPV HBB HPB ?_
              intro _ _ _ _ _ _ _ _ _ _ _ _ D' p' q' n w' h2 hmx hb
              have HT3 := Lib.hid (h2.back (by omega) (HX2.out.heap (hb.block _ (by omega))))
              have HMX3 := Lib.hid hmx
              have HB3 := Lib.hid (HB2.out.trans (hb.mono hwB))
              clear h2 hmx hb
              go_wp2_with fail
              refine Calls.mono (HN.out _ _) ?_
              rintro e w'' ⟨rfl, he⟩
              have he := he.symm
              subst he
              go_wp2_with fail
              exact ⟨⟨i + 1, p', q', D', by go_num, rfl, rfl, by omega, by omega, HT3.out, HMX3.out, HB3.out⟩, by simp [intOf]; omega⟩
          · as_aux_lemma =>
              rw [hm]
              clear m1 m2 hm
              go_upto_if 169 with (fail)
              refine wp_cond_true rfl ?_
              go_upto_if 169 with (fail)
              refine wp_cond_true rfl ?_
              refine sync_case B p q wr.heap.size i D A (.slice bA A.b.length bc) (.slice pA A.p.length pc) w2' _ _ _ _ _ _ _ _ _ _ _ _ _ _ _ _ _ _ _ _ _ _ _ _ _ _ _ _ _ _ _ _ _ _ _ _ _ _ _ _ _ _ _ _ _ _ _ _ _ _ _ _ _ _ _ _ _ _ _ _ _ _ _ _ _ _ _ _ _ _ _ _ _ _ _ _ _ _ _ _ _ _ _ _ _ _ _ _ _ _ _ _ _ _ _ _ _ _ _ _ _ _ _ _ _ _ _ _ _ _ _ _ _ _ _ _ _ _ _ _ _ _ _ _ _ _ _ _ _ _ _ _ _ _ _ _ _ _ _ _ _ _ _ _ _ _ _ _ _ _ _ _ _ _ _ _ _ _ _ _ _ _ _ _ _ _ _ _ _ _ _ _ _ _ _ _ _ _ _ _ _ _ _ _ _ _ _ _ _ _ _ _ _ _ _ _ _ _ _ _ _ _ _ _ _ _ _ _ _ _ _ _ _ _ _ _ _ _ _ _ _ _ _ _ _ _ _ _ _ _ _ _ _ _ _ _ (by kernel_rfl) H2 HMX (by omega) han hab hap HBV HPV HBB HPB ?_
              intro _ _ _ _ _ _ _ _ D' p' q' n w' h2 hmx hb
              have HT3 := Lib.hid (h2.back (by omega) (HX2.out.heap (hb.block _ (by omega))))
              have HMX3 := Lib.hid hmx
              have HB3 := Lib.hid (HB2.out.trans (hb.mono hwB))
              clear h2 hmx hb
              go_wp2_with fail
              refine Calls.mono (HN.out _ _) ?_
              rintro e w'' ⟨rfl, he⟩
              have he := he.symm
              subst he
              go_wp2_with fail
              exact ⟨⟨i + 1, p', q', D', by go_num, rfl, rfl, by omega, by omega, HT3.out, HMX3.out, HB3.out⟩, by simp [intOf]; omega⟩
          · as_aux_lemma =>
              rw [hm]
              clear m1 m2 hm
              go_upto_if 169 with (fail)
              refine wp_cond_false rfl ?_
              go_upto_if 169 with (fail)
              refine wp_cond_true rfl ?_
              refine sync_case B p q wr.heap.size i D A (.slice bA A.b.length bc) (.slice pA A.p.length pc) w2' _ _ _ _ _ _ _ _ _ _ _ _ _ _ _ _ _ _ _ _ _ _ _ _ _ _ _ _ _ _ _ _ _ _ _ _ _ _ _ _ _ _ _ _ _ _ _ _ _ _ _ _ _ _ _ _ _ _ _ _ _ _ _ _ _ _ _ _ _ _ _ _ _ _ _ _ _ _ _ _ _ _ _ _ _ _ _ _ _ _ _ _ _ _ _ _ _ _ _ _ _ _ _ _ _ _ _ _ _ _ _ _ _ _ _ _ _ _ _ _ _ _ _ _ _ _ _ _ _ _ _ _ _ _ _ _ _ _ _ _ _ _ _ _ _ _ _ _ _ _ _ _ _ _ _ _ _ _ _ _ _ _ _ _ _ _ _ _ _ _ _ _ _ _ _ _ _ _ _ _ _ _ _ _ _ _ _ _ _ _ _ _ _ _ _ _ _ _ _ _ _ _ _ _ _ _ _ _ _ _ _ _ _ _ _ _ _ _ _ _ _ _ _ _ _ _ _ _ _ _ _ _ _ _ _ _ (by kernel_rfl) H2 HMX (by omega) han hab hap HBV HPV HBB HPB ?_
              intro _ _ _ _ _ _ _ _ D' p' q' n w' h2 hmx hb
              have HT3 := Lib.hid (h2.back (by omega) (HX2.out.heap (hb.block _ (by omega))))
              have HMX3 := Lib.hid hmx
              have HB3 := Lib.hid (HB2.out.trans (hb.mono hwB))
              clear h2 hmx hb
              go_wp2_with fail
              refine Calls.mono (HN.out _ _) ?_
              rintro e w'' ⟨rfl, he⟩
              have he := he.symm
              subst he
              go_wp2_with fail
              exact ⟨⟨i + 1, p', q', D', by go_num, rfl, rfl, by omega, by omega, HT3.out, HMX3.out, HB3.out⟩, by simp [intOf]; omega⟩
          · as_aux_lemma =>
              rw [hm]
              clear m1 m2 hm
              go_upto_if 180 with (fail)
              refine wp_cond_true rfl ?_
              refine off_case B p q wr.heap.size i D A (.slice bA A.b.length bc) (.slice pA A.p.length pc) w2' _ _ _ _ _ _ _ _ _ _ _ _ _ _ _ _ _ _ _ _ _ _ _ _ _ _ _ _ _ _ _ _ _ _ _ _ _ _ _ _ _ _ _ _ _ _ _ _ _ _ _ _ _ _ _ _ _ _ _ _ _ _ _ _ _ _ _ _ _ _ _ _ _ _ _ _ _ _ _ _ _ _ _ _ _ _ _ _ _ _ _ _ _ _ _ _ _ _ _ _ _ _ _ _ _ _ _ _ _ _ _ _ _ _ _ _ _ _ _ _ _ _ _ _ _ _ _ _ _ _ _ _ _ _ _ _ _ _ _ _ _ _ _ _ _ _ _ _ _ _ _ _ _ _ _ _ _ _ _ _ _ _ _ _ _ _ _ _ _ _ _ _ _ _ _ _ _ _ _ _ _ _ _ _ _ _ _ _ _ _ _ _ _ _ _ _ _ _ _ _ _ _ _ _ _ _ _ _ _ _ _ _ _ _ _ _ _ _ _ _ _ _ _ _ _ _ _ _ _ _ _ _ _ _ _ _ (by kernel_rfl) H2 HMX (by omega) han hab hap HBV HPV HBB HPB ?_
              intro _ _ _ _ _ _ _ _ D' p' q' n w' h2 hmx hb
              have HT3 := Lib.hid (h2.back (by omega) (HX2.out.heap (hb.block _ (by omega))))
              have HMX3 := Lib.hid hmx
              have HB3 := Lib.hid (HB2.out.trans (hb.mono hwB))
              clear h2 hmx hb
              go_wp2_with fail
              refine Calls.mono (HN.out _ _) ?_
              rintro e w'' ⟨rfl, he⟩
              have he := he.symm
              subst he
              go_wp2_with fail
              exact ⟨⟨i + 1, p', q', D', by go_num, rfl, rfl, by omega, by omega, HT3.out, HMX3.out, HB3.out⟩, by simp [intOf]; omega⟩
          · as_aux_lemma =>
              rw [hm]
              clear m1 m2 hm
              go_upto_if 190 with (fail)
              refine wp_cond_true rfl ?_
              refine crash_case B p q wr.heap.size i D A (.slice bA A.b.length bc) (.slice pA A.p.length pc) w2' _ _ _ _ _ _ _ _ _ _ _ _ _ _ _ _ _ _ _ _ _ _ _ _ _ _ _ _ _ _ _ _ _ _ _ _ _ _ _ _ _ _ _ _ _ _ _ _ _ _ _ _ _ _ _ _ _ _ _ _ _ _ _ _ _ _ _ _ _ _ _ _ _ _ _ _ _ _ _ _ _ _ _ _ _ _ _ _ _ _ _ _ _ _ _ _ _ _ _ _ _ _ _ _ _ _ _ _ _ _ _ _ _ _ _ _ _ _ _ _ _ _ _ _ _ _ _ _ _ _ _ _ _ _ _ _ _ _ _ _ _ _ _ _ _ _ _ _ _ _ _ _ _ _ _ _ _ _ _ _ _ _ _ _ _ _ _ _ _ _ _ _ _ _ _ _ _ _ _ _ _ _ _ _ _ _ _ _ _ _ _ _ _ _ _ _ _ _ _ _ _ _ _ _ _ _ _ _ _ _ _ _ _ _ _ _ _ _ _ _ _ _ _ _ _ _ _ _ _ _ _ _ _ _ _ _ (by kernel_rfl) H2 HMX (by omega) han hab hap HBV HPV HBB HPB ?_
              intro _ _ _ _ _ _ _ _ _ _ _ _ _ _ _ _ _ _ _ _ _ _ _ _ _ _ D' p' q' n w' h2 hmx hb
              have HT3 := Lib.hid (h2.back (by omega) (HX2.out.heap (hb.block _ (by omega))))
              have HMX3 := Lib.hid hmx
              have HB3 := Lib.hid (HB2.out.trans (hb.mono hwB))
              clear h2 hmx hb
              go_wp2_with fail
              refine Calls.mono (HN.out _ _) ?_
              rintro e w'' ⟨rfl, he⟩
              have he := he.symm
              subst he
              go_wp2_with fail
              exact ⟨⟨i + 1, p', q', D', by go_num, rfl, rfl, by omega, by omega, HT3.out, HMX3.out, HB3.out⟩, by simp [intOf]; omega⟩
        · by_cases hiL2 : i < L.length
          · have hlti : (i : Int) < (L.length : Int) := by omega
            have hlt40 : ¬ ((i : Int) < 40) := by omega
            have hL0 : 0 < L.length := by omega
            as_aux_lemma =>
              have hl0b : (0 : Int) < (L.length : Int) := by omega
              obtain ⟨b, o, bv, pv, hAA, hbl, -, -, -, -, -, q5, -, hia, -⟩ := HL.out.at (i := 0) hL0
              subst hAA
              have p5 := (HB.out.cell (p := ⟨b, o + 0 * 6 + 5, none⟩) hbl).trans q5
              simp only [Nat.zero_mul, Nat.add_zero] at p5
              have HCR := Lib.hid (HT.out.crashes (Below.refl _ _) (HMX.out.lt (by omega)) (HMX.out.lt (by omega)) L[0].p pv (hia.later HB.out) (fun hne k hk => by have := hia.own hne hk; have := HT.out.geK; omega))
              have HIA := Lib.hid hia
              obtain ⟨pA, pc, rfl, _, _⟩ := hia.slice
              generalize L[0].p = P0 at *
              clear hia q5
              go_wp2_with fail
              refine Calls.mono HCR.out ?_
              rintro e w6 ⟨x, us, rfl, hx6, h26, hb6, hr6⟩
              have HB6 := Lib.hid (HB.out.trans (hb6.mono (by omega)))
              have HR := Lib.hid (hr6 _ (HIA.out.later HB6.out) (fun hne k hk => by have := HIA.out.own hne hk; have := h26.geR; omega))
              have hq6 := h26.ltR
              have hs6 := hb6.size
              obtain ⟨xA, xc, rfl⟩ := hx6.slice
              clear hx6 h26 hb6 hr6 HCR
              go_wp2_with fail
              refine Calls.mono HR.out ?_
              rintro e w7 ⟨y, ys, rfl, hy7, hx7, -, hb7⟩
              have HB7 := Lib.hid (HB6.out.trans (hb7.mono (by omega)))
              have HEQ := Lib.hid (eqCells_any _ _ _ w7 hx7.rc hy7.rc)
              obtain ⟨yA, yc, rfl⟩ := hy7.slice
              have hs7 := HB7.out.size
              clear hy7 hx7 hb7 HR
              go_wp2_with fail
              refine Calls.mono HEQ.out ?_
              rintro e w8 ⟨rfl, hb8⟩
              have HB8 := Lib.hid (HB7.out.trans (hb8.mono (by omega)))
              have hs8 := HB8.out.size
              clear hb8 HEQ
              go_wp2_with fail
              refine Calls.mono (HWK.out _) ?_
              rintro e w9 ⟨rfl, hb9⟩
              have HB9 := Lib.hid (HB8.out.trans (hb9.mono (by omega)))
              clear hb9
              go_wp2_with fail
              go_ret
              exact ⟨rfl, HB9.out⟩
          · have hlti : ¬ ((i : Int) < (L.length : Int)) := by omega
            as_aux_lemma =>
              by_cases hL0 : 0 < L.length
              · have hl0b : (0 : Int) < (L.length : Int) := by omega
                obtain ⟨b, o, bv, pv, hAA, hbl, -, -, -, -, -, q5, -, hia, -⟩ := HL.out.at (i := 0) hL0
                subst hAA
                have p5 := (HB.out.cell (p := ⟨b, o + 0 * 6 + 5, none⟩) hbl).trans q5
                simp only [Nat.zero_mul, Nat.add_zero] at p5
                have HCR := Lib.hid (HT.out.crashes (Below.refl _ _) (HMX.out.lt (by omega)) (HMX.out.lt (by omega)) L[0].p pv (hia.later HB.out) (fun hne k hk => by have := hia.own hne hk; have := HT.out.geK; omega))
                have HIA := Lib.hid hia
                obtain ⟨pA, pc, rfl, _, _⟩ := hia.slice
                generalize L[0].p = P0 at *
                clear hia q5
                go_wp2_with fail
                refine Calls.mono HCR.out ?_
                rintro e w6 ⟨x, us, rfl, hx6, h26, hb6, hr6⟩
                have HB6 := Lib.hid (HB.out.trans (hb6.mono (by omega)))
                have HR := Lib.hid (hr6 _ (HIA.out.later HB6.out) (fun hne k hk => by have := HIA.out.own hne hk; have := h26.geR; omega))
                have hq6 := h26.ltR
                have hs6 := hb6.size
                obtain ⟨xA, xc, rfl⟩ := hx6.slice
                clear hx6 h26 hb6 hr6 HCR
                go_wp2_with fail
                refine Calls.mono HR.out ?_
                rintro e w7 ⟨y, ys, rfl, hy7, hx7, -, hb7⟩
                have HB7 := Lib.hid (HB6.out.trans (hb7.mono (by omega)))
                have HEQ := Lib.hid (eqCells_any _ _ _ w7 hx7.rc hy7.rc)
                obtain ⟨yA, yc, rfl⟩ := hy7.slice
                have hs7 := HB7.out.size
                clear hy7 hx7 hb7 HR
                go_wp2_with fail
                refine Calls.mono HEQ.out ?_
                rintro e w8 ⟨rfl, hb8⟩
                have HB8 := Lib.hid (HB7.out.trans (hb8.mono (by omega)))
                have hs8 := HB8.out.size
                clear hb8 HEQ
                go_wp2_with fail
                refine Calls.mono (HWK.out _) ?_
                rintro e w9 ⟨rfl, hb9⟩
                have HB9 := Lib.hid (HB8.out.trans (hb9.mono (by omega)))
                clear hb9
                go_wp2_with fail
                go_ret
                exact ⟨rfl, HB9.out⟩
              · have hl0b : ¬ ((0 : Int) < (L.length : Int)) := by omega
                have hlz : L.length = 0 := by omega
                have HCR := Lib.hid (HT.out.crashes (Below.refl _ _) (HMX.out.lt (by omega)) (HMX.out.lt (by omega)) [] (.slice none 0 0) (IA.nil _) (fun hne => absurd rfl hne))
                clear hlz
                go_wp2_with fail
                refine Calls.mono HCR.out ?_
                rintro e w6 ⟨x, us, rfl, hx6, h26, hb6, hr6⟩
                have HB6 := Lib.hid (HB.out.trans (hb6.mono (by omega)))
                have HR := Lib.hid (hr6 (.slice none 0 0) (IA.nil _) (fun hne k hk => by exact absurd rfl hne))
                have hq6 := h26.ltR
                have hs6 := hb6.size
                obtain ⟨xA, xc, rfl⟩ := hx6.slice
                clear hx6 h26 hb6 hr6 HCR
                go_wp2_with fail
                refine Calls.mono HR.out ?_
                rintro e w7 ⟨y, ys, rfl, hy7, hx7, -, hb7⟩
                have HB7 := Lib.hid (HB6.out.trans (hb7.mono (by omega)))
                have HEQ := Lib.hid (eqCells_any _ _ _ w7 hx7.rc hy7.rc)
                obtain ⟨yA, yc, rfl⟩ := hy7.slice
                have hs7 := HB7.out.size
                clear hy7 hx7 hb7 HR
                go_wp2_with fail
                refine Calls.mono HEQ.out ?_
                rintro e w8 ⟨rfl, hb8⟩
                have HB8 := Lib.hid (HB7.out.trans (hb8.mono (by omega)))
                have hs8 := HB8.out.size
                clear hb8 HEQ
                go_wp2_with fail
                refine Calls.mono (HWK.out _) ?_
                rintro e w9 ⟨rfl, hb9⟩
                have HB9 := Lib.hid (HB8.out.trans (hb9.mono (by omega)))
                clear hb9
                go_wp2_with fail
                go_ret
                exact ⟨rfl, HB9.out⟩
    · have h0 : F.length ≠ 0 := fun e => hq (.inl e)
      have h3 : F.length ≠ 3 := fun e => hq (.inr e)
      have HNEW := Lib.hid (New_bad w2 F _ HY.out.rc h0 h3)
      have HMN := Lib.hid (fun (W : World) (hW : Below w.heap.size w W) => may_no F _ W (HF.out.later hW) h0 h3)
      clear hq h0 h3
      go_wp2_with fail
      refine Calls.mono HNEW.out ?_
      rintro e w3 ⟨rfl, hb3⟩
      have HB3 := Lib.hid (HB2.out.trans (hb3.mono (by omega)))
      have HX3 := Lib.hid (HX2.out.later hb3)
      have f0 := HX3.out.c 0 (u := .slice A0 F.length c0) rfl
      have hx3 := HX3.out.lt
      clear hb3 g0 HNEW
      go_wp2_with fail
      refine Calls.mono (HMN.out w3 HB3.out) ?_
      rintro e w4 ⟨rfl, hb4⟩
      have HB4 := Lib.hid (HB3.out.trans (hb4.mono (by omega)))
      have hs4 := HB4.out.size
      clear hb4 f0 HMN
      go_wp2_with fail
      refine Calls.mono (HN.out _ _) ?_
      rintro e w' ⟨rfl, he⟩
      have he := he.symm
      subst he
      go_wp2_with fail
      refine Calls.mono (HN.out _ _) ?_
      rintro e w' ⟨rfl, he⟩
      have he := he.symm
      subst he
      go_wp2_with fail
      refine Calls.mono (HN.out _ _) ?_
      rintro e w' ⟨rfl, he⟩
      have he := he.symm
      subst he
      go_wp2_with fail
      refine Calls.mono (HN.out _ _) ?_
      rintro e w' ⟨rfl, he⟩
      have he := he.symm
      subst he
      go_wp2_with fail
      refine Calls.mono (HWK.out _) ?_
      rintro e w9 ⟨rfl, hb9⟩
      have HB9 := Lib.hid (HB4.out.trans (hb9.mono (by omega)))
      clear hb9
      go_wp2_with fail
      go_ret
      exact ⟨rfl, HB9.out⟩
end Go.Proofs.Ytahmihdahgbhkaa

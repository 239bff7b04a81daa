/-
  BucketRates: the statement's own walk.
  Conditions: as the theorem states them: the argument lies in memory.
-/
import Derived.Test.YtcnkejndblcbhaaKI
import Derived.Deep.CutRange
import Derived.Deep.DeepCutAuto
import Derived.WalkSmall
namespace Go.Proofs.Ytcnkejndblcbhaa
open Go.RowKit

set_option maxHeartbeats 4000000 in
set_option maxRecDepth 100000 in
theorem rates_any (b : BI) (v : Value) (w : World) :
    Calls Try.prog 6 #[.agg #[.int .i64 b.l, .int .i64 b.c, .int .i64 b.f, .int .i64 b.e, .int .i64 b.d, v]] w fun e w' => e = .returned (.bool true) ∧ Below w.heap.size w w' := by
  obtain ⟨W, hW⟩ : ∃ W, w.alloc (.cells #[.int .i64 b.l, .int .i64 b.c, .int .i64 b.f, .int .i64 b.e, .int .i64 b.d, v] 26) = W := ⟨_, rfl⟩
  have HS := Lib.hid (show SAt W w.heap.size b v by rw [← hW]; exact SAt.new w b v)
  have HA := Lib.hid (show Below w.heap.size w W by rw [← hW]; exact (Below.refl _ w).alloc (Nat.le_refl _) _)
  have p1 := HS.out.c1
  have p2 := HS.out.c2
  have p3 := HS.out.c3
  have HW := Lib.hid (fun (i : Int) X => lWithin_any i 9 X (by decide) (by decide))
  obtain ⟨f0, f9⟩ := modI_in (i := b.f) (n := 9) (by decide)
  obtain ⟨e0, e9⟩ := modI_in (i := b.e) (n := 9) (by decide)
  obtain ⟨m0, m9⟩ := modI_in (i := b.c) (n := 9) (by decide)
  have hf : IntKind.i64.wrap (1 + modI b.f 9) = 1 + modI b.f 9 := wrap_id (by omega) (by omega)
  have he : IntKind.i64.wrap (1 + modI b.e 9) = 1 + modI b.e 9 := wrap_id (by omega) (by omega)
  have hm : IntKind.i64.wrap (9 + modI b.c 9) = 9 + modI b.c 9 := wrap_id (by omega) (by omega)
  go_enter Try.func6, Try.ntmps6
  go_wp2_with fail
  go_quiet ((go_at_call 11; exact Calls.quiet_of_same (HW.out _ _)))
  obtain ⟨F, hF, F1, F9⟩ : ∃ F : Nat, 1 + modI b.f 9 = (F : Int) ∧ 1 ≤ F ∧ F ≤ 9 := ⟨(1 + modI b.f 9).toNat, by omega, by omega, by omega⟩
  obtain ⟨E, hE, E1, E9⟩ : ∃ E : Nat, 1 + modI b.e 9 = (E : Int) ∧ 1 ≤ E ∧ E ≤ 9 := ⟨(1 + modI b.e 9).toNat, by omega, by omega, by omega⟩
  obtain ⟨M, hM, M1, M9⟩ : ∃ M : Nat, 9 + modI b.c 9 = (M : Int) ∧ 9 ≤ M ∧ M ≤ 17 := ⟨(9 + modI b.c 9).toNat, by omega, by omega, by omega⟩
  rw [hF, hE, hM]
  have HA1 := Lib.hid (below_drewN HA.out nq)
  clear hf he hm f0 f9 e0 e9 m0 m9 p1 p2 p3 HS HA HW hW hF hE hM
  generalize W.drewN nq = w1 at *
  generalize modI b.f 9 = x1
  generalize modI b.e 9 = x2
  generalize modI b.c 9 = x3
  have HOK := Lib.hid (fun (l d : Nat) (hl : l ≤ M) (hd : d < E) => (show (Bk.mk l M F E d).ok from ⟨by show M ≤ _; omega, by show F ≤ _; omega, hl, E1, by show E ≤ _; omega, hd⟩))
  have HN := Lib.hid (fun X => new_any (M : Int) (F : Int) (E : Int) X)
  rw [show newR (M : Int) (F : Int) (E : Int) = .ok ⟨M, M, F, E, 0⟩ by
    unfold newR
    rw [show okB (newI (M : Int) (F : Int) (E : Int)) = true from ok_of (k := ⟨M, M, F, E, 0⟩) (HOK.out M 0 (Nat.le_refl _) (by omega))]
    rfl] at HN
  have H0 := Lib.hid (fun X => num_any 0 X)
  have H9 := Lib.hid (fun X => num_any 9 X)
  simp only [outB] at HN
  unfold bV at HN
  have hq0 : ((0 : Int) != 0) = false := rfl
  have hq9 : ((9 : Int) != 0) = true := rfl
  go_wp2_with fail
  refine Calls.mono (HN.out _) ?_
  rintro e w2 ⟨rfl, hb2⟩
  have HB2 := Lib.hid (HA1.out.trans (hb2.mono HA1.out.size))
  clear hb2 HA1 HN
  have HBn := Lib.hid (HB2.out.alloc HB2.out.size (.cells #[.int .i64 (BI.mk (M : Int) (M : Int) (F : Int) (E : Int) 0).l, .int .i64 (BI.mk (M : Int) (M : Int) (F : Int) (E : Int) 0).c, .int .i64 (BI.mk (M : Int) (M : Int) (F : Int) (E : Int) 0).f, .int .i64 (BI.mk (M : Int) (M : Int) (F : Int) (E : Int) 0).e, .int .i64 (BI.mk (M : Int) (M : Int) (F : Int) (E : Int) 0).d] 23))
  have HHn := Lib.hid (BAt.new w2 ⟨(M : Int), (M : Int), (F : Int), (E : Int), 0⟩)
  have hs2 := HB2.out.size
  simp only [] at HBn HHn
  go_wp2_with fail
  refine Calls.mono (H0.out _) ?_
  rintro e w' ⟨rfl, he⟩
  have he := he.symm
  subst he
  go_wp2_with fail
  generalize hg : w2.heap.size = B at *
  generalize (w2.alloc (.cells #[.int .i64 (M : Int), .int .i64 (M : Int), .int .i64 (F : Int), .int .i64 (E : Int), .int .i64 0] 23)) = w3 at *
  clear HB2 hg
  go_loopw [8, 9] (fun gv tv wr => ∃ t : Nat, tv = .int .i64 (t : Int) ∧ t ≤ 20 * E ∧ gv = .int .i64 ((rateG M F E t : Nat) : Int) ∧ BAt wr B ⟨((rateL M F E t : Nat) : Int), M, F, E, ((t % E : Nat) : Int)⟩ ∧ Below w.heap.size w wr) (fun _ tv _ => 20 * E + 1 - (intOf tv).toNat)
  case atStart => exact ⟨0, rfl, Nat.zero_le _, rfl, by simpa [rateL] using HHn.out, HBn.out⟩
  case round =>
    obtain ⟨t, rfl, ht, rfl, hH, hb⟩ := hrel
    have HB := Lib.hid hb
    have HH := Lib.hid hH
    have HST := Lib.hid (rate_step (m := M) (f := F) E1 t)
    have hmt : t % E < E := Nat.mod_lt _ E1
    have hG : rateG M F E t ≤ 17 + 180 * 9 := by
      unfold rateG
      split
      · omega
      · have h1 : (t - 1) / E ≤ 180 := Nat.le_trans (Nat.div_le_self _ _) (by omega)
        have := Nat.mul_le_mul h1 (show min M F ≤ 9 by omega)
        omega
    have hL : rateL M F E t ≤ M := by
      unfold rateL
      split
      · omega
      · split <;> omega
    clear hb hH HBn HHn
    by_cases htE : t < 20 * E
    · have hlt : (t : Int) < 20 * (E : Int) := by omega
      have HGE := Lib.hid HST.out.2
      have HPE := Lib.hid HST.out.1
      clear HST
      generalize rateG M F E t = G at *
      generalize rateL M F E t = L at *
      generalize htm : t % E = d at *
      go_wp2_with fail
      go_loopw [8] (fun gv wr => ∃ j : Nat, gv = .int .i64 ((G + j : Nat) : Int) ∧ j ≤ L ∧ BAt wr B ⟨((L - j : Nat) : Int), M, F, E, (d : Int)⟩ ∧ Below w.heap.size w wr) (fun gv _ => G + L + 1 - (intOf gv).toNat)
      case atStart => exact ⟨0, rfl, Nat.zero_le _, HH.out, HB.out⟩
      case round =>
        clear HB HH
        obtain ⟨j, rfl, hj, hH, hb⟩ := hrel
        have HB := Lib.hid hb
        have HH := Lib.hid hH
        have hBs := hH.lt
        have c0 := HH.out.c0
        have c1 := HH.out.c1
        have c2 := HH.out.c2
        have c3 := HH.out.c3
        have c4 := HH.out.c4
        clear hb hH
        by_cases hjL : j < L
        · have HT := Lib.hid (fun X => take_any ⟨((L - j : Nat) : Int), M, F, E, (d : Int)⟩ 1 X)
          rw [show takeR ⟨((L - j : Nat) : Int), M, F, E, (d : Int)⟩ 1 = .ok ⟨((L - (j + 1) : Nat) : Int), M, F, E, (d : Int)⟩ from takeR_of (k := ⟨L - j, M, F, E, d⟩) (n := 1) (HOK.out _ _ (by omega) hmt) (by omega) (by show 1 ≤ L - j; omega)] at HT
          simp only [outB] at HT
          unfold bV at HT
          generalize ((L - j : Nat) : Int) = y at *
          obtain ⟨z, hz⟩ : ∃ z : Int, ((L - (j + 1) : Nat) : Int) = z := ⟨_, rfl⟩
          rw [hz] at HT
          have hgw : IntKind.i64.wrap (((G + j : Nat) : Int) + 1) = ((G + (j + 1) : Nat) : Int) := by rw [wrap_id (by omega) (by omega)]; omega
          have hgt : ¬ (10000 : Int) < ((G + (j + 1) : Nat) : Int) := by omega
          generalize hgj : ((G + j : Nat) : Int) = gj at *
          generalize hgk : ((G + (j + 1) : Nat) : Int) = gk at *
          have HGJ := Lib.hid hgj
          have HGK := Lib.hid hgk
          have HZ := Lib.hid hz
          clear hgj hgk hz
          go_wp2_with fail
          refine Calls.mono (HT.out _) ?_
          rintro e w5 ⟨rfl, hb5⟩
          have HH5 := Lib.hid (HH.out.later hb5)
          have HB5 := Lib.hid (HB.out.trans (hb5.mono HB.out.size))
          clear hb5 c0 c1 c2 c3 c4 HT hBs
          have c0 := HH5.out.c0
          have cz0 := HH5.out.fz 0
          have c1 := HH5.out.c1
          have cz1 := HH5.out.fz 1
          have c2 := HH5.out.c2
          have cz2 := HH5.out.fz 2
          have c3 := HH5.out.c3
          have cz3 := HH5.out.fz 3
          have c4 := HH5.out.c4
          have cz4 := HH5.out.fz 4
          have clt := HH5.out.lt
          have HHE := Lib.hid ((HH5.out.set5 z M F E d).alloc (.cells #[.int .i64 (BI.mk z (M : Int) (F : Int) (E : Int) (d : Int)).l, .int .i64 (BI.mk z (M : Int) (F : Int) (E : Int) (d : Int)).c, .int .i64 (BI.mk z (M : Int) (F : Int) (E : Int) (d : Int)).f, .int .i64 (BI.mk z (M : Int) (F : Int) (E : Int) (d : Int)).e, .int .i64 (BI.mk z (M : Int) (F : Int) (E : Int) (d : Int)).d] 23))
          have HBS := Lib.hid (below_set5 (k := B) HB5.out hs2 z M F E d)
          have HBE := Lib.hid (HBS.out.alloc HBS.out.size (.cells #[.int .i64 (BI.mk z (M : Int) (F : Int) (E : Int) (d : Int)).l, .int .i64 (BI.mk z (M : Int) (F : Int) (E : Int) (d : Int)).c, .int .i64 (BI.mk z (M : Int) (F : Int) (E : Int) (d : Int)).f, .int .i64 (BI.mk z (M : Int) (F : Int) (E : Int) (d : Int)).e, .int .i64 (BI.mk z (M : Int) (F : Int) (E : Int) (d : Int)).d] 23))
          simp only [] at HHE HBE
          go_wp2_with fail
          refine Calls.mono (H0.out _) ?_
          rintro e w' ⟨rfl, he⟩
          have he := he.symm
          subst he
          go_wp2_with fail
          exact ⟨⟨j + 1, by rw [HGK.out], by omega, by rw [HZ.out]; exact HHE.out, HBE.out⟩, by simp [intOf]; have := HGJ.out; have := HGK.out; omega⟩
        · have hjL' : L = j := by omega
          have HT := Lib.hid (fun X => take_any ⟨((L - j : Nat) : Int), M, F, E, (d : Int)⟩ 1 X)
          rw [show takeR ⟨((L - j : Nat) : Int), M, F, E, (d : Int)⟩ 1 = .error 9 from takeR_later (k := ⟨L - j, M, F, E, d⟩) (n := 1) (HOK.out _ _ (by omega) hmt) (by omega) (by show L - j < 1; omega)] at HT
          simp only [outB] at HT
          have HP := Lib.hid (fun X => pass_any ⟨((L - j : Nat) : Int), M, F, E, (d : Int)⟩ 1 X)
          rw [show passR ⟨((L - j : Nat) : Int), M, F, E, (d : Int)⟩ 1 = .ok (ofN ((Bk.mk (L - j) M F E d).pass 1)) from passR_of (k := ⟨L - j, M, F, E, d⟩) (n := 1) (HOK.out _ _ (by omega) hmt) (by omega), show L - j = 0 by omega, HPE.out] at HP
          rw [show L - j = 0 by omega] at HT HH
          simp only [outB, ofN] at HP
          have HGK := Lib.hid (show ((G + j : Nat) : Int) = ((rateG M F E (t + 1) : Nat) : Int) by rw [← HGE.out, hjL'])
          generalize ((G + j : Nat) : Int) = gj at *
          obtain ⟨z, hz⟩ : ∃ z : Int, ((rateL M F E (t + 1) : Nat) : Int) = z := ⟨_, rfl⟩
          obtain ⟨y, hy⟩ : ∃ y : Int, (((t + 1) % E : Nat) : Int) = y := ⟨_, rfl⟩
          rw [hz, hy] at HP
          have HZ := Lib.hid hz
          have HY := Lib.hid hy
          have HTM := Lib.hid htm
          unfold bV zI at HT
          unfold bV at HP
          simp only [] at HT HP
          clear hz hy htm hjL hjL' hj c0 c1 c2 c3 c4 hL hG
          have c0 := HH.out.c0
          have c1 := HH.out.c1
          have c2 := HH.out.c2
          have c3 := HH.out.c3
          have c4 := HH.out.c4
          go_wp2_with fail
          refine Calls.mono (HT.out _) ?_
          rintro e w5 ⟨rfl, hb5⟩
          have HH5 := Lib.hid (HH.out.later hb5)
          have HB5 := Lib.hid (HB.out.trans (hb5.mono HB.out.size))
          clear hb5 c0 c1 c2 c3 c4 HT hBs HH HB
          have c0 := HH5.out.c0
          have c1 := HH5.out.c1
          have c2 := HH5.out.c2
          have c3 := HH5.out.c3
          have c4 := HH5.out.c4
          have hBs := HH5.out.lt
          go_wp2_with fail
          refine Calls.mono (H9.out _) ?_
          rintro e w' ⟨rfl, he⟩
          have he := he.symm
          subst he
          go_wp2_with fail
          refine Calls.mono (HP.out _) ?_
          rintro e w6 ⟨rfl, hb6⟩
          have HH6 := Lib.hid ((HH5.out.alloc _).later hb6)
          have HBa := Lib.hid (HB5.out.alloc HB5.out.size (.cells #[.int .i64 0, .int .i64 0, .int .i64 0, .int .i64 0, .int .i64 0] 23))
          have HB6 := Lib.hid (HBa.out.trans (hb6.mono HBa.out.size))
          clear hb6 c0 c1 c2 c3 c4 HP hBs HH5 HB5 HBa
          have c0 := HH6.out.c0
          have cz0 := HH6.out.fz 0
          have c1 := HH6.out.c1
          have cz1 := HH6.out.fz 1
          have c2 := HH6.out.c2
          have cz2 := HH6.out.fz 2
          have c3 := HH6.out.c3
          have cz3 := HH6.out.fz 3
          have c4 := HH6.out.c4
          have cz4 := HH6.out.fz 4
          have clt := HH6.out.lt
          have HHE := Lib.hid ((HH6.out.set5 z M F E y).alloc (.cells #[.int .i64 (BI.mk z (M : Int) (F : Int) (E : Int) y).l, .int .i64 (BI.mk z (M : Int) (F : Int) (E : Int) y).c, .int .i64 (BI.mk z (M : Int) (F : Int) (E : Int) y).f, .int .i64 (BI.mk z (M : Int) (F : Int) (E : Int) y).e, .int .i64 (BI.mk z (M : Int) (F : Int) (E : Int) y).d] 23))
          have HBS := Lib.hid (below_set5 (k := B) HB6.out hs2 z M F E y)
          have HBE := Lib.hid (HBS.out.alloc HBS.out.size (.cells #[.int .i64 (BI.mk z (M : Int) (F : Int) (E : Int) y).l, .int .i64 (BI.mk z (M : Int) (F : Int) (E : Int) y).c, .int .i64 (BI.mk z (M : Int) (F : Int) (E : Int) y).f, .int .i64 (BI.mk z (M : Int) (F : Int) (E : Int) y).e, .int .i64 (BI.mk z (M : Int) (F : Int) (E : Int) y).d] 23))
          simp only [] at HHE HBE
          go_wp2_with fail
          refine Calls.mono (H0.out _) ?_
          rintro e w' ⟨rfl, he⟩
          have he := he.symm
          subst he
          go_wp2_with fail
          exact ⟨⟨t + 1, by go_num, by omega, by rw [HGK.out], by rw [HZ.out, HY.out]; exact HHE.out, HBE.out⟩, by simp [intOf]; omega⟩
    · have htt : t = 20 * E := by omega
      have hlt : ¬ (t : Int) < 20 * (E : Int) := by omega
      have HW := Lib.hid (wakes_any wr)
      have HGE := Lib.hid (show ((rateG M F E t : Nat) : Int) = (M : Int) + 19 * (F : Int) by rw [htt, rate_end E1]; omega)
      generalize ((rateG M F E t : Nat) : Int) = g at *
      have hg : (g == (M : Int) + 19 * (F : Int)) = true := beq_iff_eq.2 HGE.out
      have hmn : ¬ (M : Int) < (F : Int) := by omega
      clear htE htt hG hL HST HH
      go_wp2_with fail
      refine Calls.mono HW.out ?_
      rintro e w6 ⟨rfl, hb⟩
      have HB3 := Lib.hid (HB.out.trans (hb.mono HB.out.size))
      clear hb
      go_wp2_with fail
      go_ret
      exact ⟨rfl, HB3.out⟩
end Go.Proofs.Ytcnkejndblcbhaa

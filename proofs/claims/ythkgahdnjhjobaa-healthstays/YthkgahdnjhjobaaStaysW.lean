/-
  HealthStays: the statement's own walk.
  Conditions: as the theorem states them: the argument lies in memory.
-/
import Derived.Test.YthkgahdnjhjobaaHV
import Derived.Deep.CutRange
import Derived.Deep.DeepCutAuto
import Derived.Deep.RegionWith
import Derived.Deep.QuietTactic
import Derived.BigQuiet
import Derived.WalkSmall
namespace Go.Proofs.Ythkgahdnjhjobaa
open Go.RowKit

theorem eqH_self (s : Nat) (c : Int) : ((c == c) && eqF s s) = true := by rw [eq_self]; simp
theorem below_drew {B : Nat} {w w' : World} (h : Below B w w') (n : Nat) : Below B w (w'.drewN n) := below_drewN h n
theorem HAt.drewN {w : World} {b s : Nat} {c : Int} (h : HAt w b s c) (n : Nat) : HAt (w.drewN n) b s c := h
/-- The weights that the statement takes in turn. -/
def turnW (m : Nat) : Nat := if m = 0 then 4607182418800017408 else if m = 1 then 4602678819172646912 else if m = 2 then 4598175219545276416 else 4562146422526312448
theorem turnW_ok (m : Nat) : okW (turnW m) = true ∧ turnW m < 18446744073709551616 := by
  unfold turnW
  split
  · exact ⟨by decide, by decide⟩
  split
  · exact ⟨by decide, by decide⟩
  split
  · exact ⟨by decide, by decide⟩
  · exact ⟨by decide, by decide⟩

set_option maxHeartbeats 8000000 in
set_option maxRecDepth 100000 in
theorem stays_any (l : List (Nat × Nat)) (v0 v1 v2 v3 : Value) (w : World) (h : PsAt w v2 l) :
    Calls Try.prog 5 #[.agg #[v0, v1, v2, v3]] w fun e w' => e = .returned (.bool true) ∧ Below w.heap.size w w' := by
  have HU := Lib.hid h
  obtain ⟨A0, c0, rfl, hlen0, hlt0, _⟩ := h
  have HL0 := Lib.hid hlt0
  have hll : l.length < 9223372036854775808 := by unfold maxLen at hlen0; omega
  obtain ⟨n, hn⟩ : ∃ n, n = 9221120237041090561 := ⟨_, rfl⟩
  have HNO := Lib.hid (fun W => none_any n hn W)
  have HOK := Lib.hid (show okH n 0 = true ∧ n < 18446744073709551616 by rw [hn]; exact ⟨by decide, by decide⟩)
  have HSA := Lib.hid (SAt.new w v0 v1 (.slice A0 l.length c0) v3)
  have HBA := Lib.hid ((Below.refl _ w).alloc (Nat.le_refl _) (.cells #[v0, v1, (.slice A0 l.length c0), v3] 26))
  have hst := store_float
  have HN0 := Lib.hid (fun W => num_any 0 W)
  unfold hV at HNO
  clear hn hlen0 hlt0
  go_enter Try.func5, Try.ntmps5
  go_wp2_with fail
  refine Calls.mono (HNO.out _) ?_
  rintro e w1 ⟨rfl, hb1⟩
  have HS1 := Lib.hid (HSA.out.later hb1)
  have HB1 := Lib.hid (HBA.out.trans (hb1.mono (by simp)))
  have hs1 : w.heap.size < w1.heap.size := HS1.out.lt
  clear hb1 HSA HBA HNO
  have HSn := Lib.hid (HS1.out.alloc (.cells #[.float .f64 n, .int .i64 0] 30))
  have HHn := Lib.hid (HAt.new w1 n 0)
  have HBn := Lib.hid (HB1.out.alloc HB1.out.size (.cells #[.float .f64 n, .int .i64 0] 30))
  go_wp2_with fail
  generalize hg1 : w1.heap.size = B at *
  generalize (w1.alloc (.cells #[.float .f64 n, .int .i64 0] 30)) = w2 at *
  clear HB1 HS1 hg1
  go_loopw [4] (fun iv wr => ∃ (i : Nat) (s : Nat) (c : Int), iv = .int .i64 i ∧ i ≤ l.length ∧ i ≤ 20 ∧ HAt wr B s c ∧ okH s c = true ∧ s < 18446744073709551616 ∧ 0 ≤ c ∧ c ≤ i ∧ SAt wr w.heap.size v0 v1 (.slice A0 l.length c0) v3 ∧ Below w.heap.size w wr) (fun iv _ => 21 - (intOf iv).toNat)
  case atStart => exact ⟨0, n, 0, rfl, Nat.zero_le _, Nat.zero_le _, HHn.out, HOK.out.1, HOK.out.2, by omega, by omega, HSn.out, HBn.out⟩
  case round =>
    obtain ⟨i, s, c, rfl, hil, hi20, hH, hq, hs, hcn, hci, hS, hb⟩ := hrel
    have HB := Lib.hid hb
    have Hh := Lib.hid hH
    have Hp := Lib.hid hS
    have HQ := Lib.hid hq
    have q2 := hS.c2
    clear hb hH hS hq HSn HHn HBn
    by_cases hin : i < l.length ∧ i < 20
    · have hlti : (i : Int) < (l.length : Int) := by omega
      have h20i : (i : Int) < 20 := by omega
      obtain ⟨b, o, hA, hc1, hc2⟩ := HU.out.cell hin.1 rfl HB.out
      have hx := (HL0.out _ (List.getElem_mem hin.1)).1
      generalize (l[i]'hin.1).1 = x at *
      generalize (l[i]'hin.1).2 = x2 at *
      subst hA
      have hf := run_from x
      go_upto_region 6 with (fail)
      go_cut [6] (fun uv wc => ∃ u, uv = .float .f64 u ∧ okW u = true ∧ u < 18446744073709551616 ∧ Below wr.heap.size wr wc)
      case first =>
        obtain ⟨m, hm, hm4⟩ : ∃ m : Nat, (i : Int).tmod 4 = (m : Int) ∧ m < 4 := ⟨i % 4, by rw [Int.tmod_eq_emod_of_nonneg (by omega)]; omega, by omega⟩
        have hm2 : (i : Int) % 4 = (m : Int) := by rw [← hm, Int.tmod_eq_emod_of_nonneg (by omega)]
        have HT := Lib.hid (turnW_ok m)
        have HBW := Lib.hid ((Below.refl _ wr).alloc (Nat.le_refl _) (.cells #[.float .f64 4607182418800017408, .float .f64 4602678819172646912, .float .f64 4598175219545276416, .float .f64 4562146422526312448] 27))
        rcases (show m = 0 ∨ m = 1 ∨ m = 2 ∨ m = 3 by omega) with h | h | h | h
        · subst h
          rw [show ((0 : Nat) : Int) = 0 from rfl] at hm hm2
          clear hm4
          go_wp2_with fail
          go_meet
          case rel => exact ⟨_, rfl, HT.out.1, HT.out.2, HBW.out⟩
        · subst h
          rw [show ((1 : Nat) : Int) = 1 from rfl] at hm hm2
          clear hm4
          go_wp2_with fail
          go_meet
          case rel => exact ⟨_, rfl, HT.out.1, HT.out.2, HBW.out⟩
        · subst h
          rw [show ((2 : Nat) : Int) = 2 from rfl] at hm hm2
          clear hm4
          go_wp2_with fail
          go_meet
          case rel => exact ⟨_, rfl, HT.out.1, HT.out.2, HBW.out⟩
        · subst h
          rw [show ((3 : Nat) : Int) = 3 from rfl] at hm hm2
          clear hm4
          go_wp2_with fail
          go_meet
          case rel => exact ⟨_, rfl, HT.out.1, HT.out.2, HBW.out⟩
      case rest =>
        obtain ⟨u, rfl, hw, hu, hbc⟩ := hcut
        have HB10 := Lib.hid (HB.out.trans (hbc.mono HB.out.size))
        have Hh10 := Lib.hid (Hh.out.later hbc)
        have Hp10 := Lib.hid (Hp.out.later hbc)
        generalize wc = w10 at *
        have HNT := Lib.hid (fun W => note_any s c x u W hs hx hu)
        rw [endN_ok HQ.out hw] at HNT
        obtain ⟨hq2, ht⟩ := next_ok (u := u) hs hx HQ.out
        have HCK := Lib.hid (fun W => check_any (nextS s c x u) (nextC c x) W ht)
        rw [hq2] at HCK
        have HQ2 := Lib.hid hq2
        have HEQ := Lib.hid (fun W => eqHealth_any s s c c W)
        rw [eqH_self] at HEQ
        have hxx := ord_ne x
        have hxy := ord_eq x
        unfold hV at HNT HCK HEQ
        clear hbc q2 hc1 hc2 hw hq2
        cases hnx : nanF x with
        | true =>
          rw [hnx] at hxx hxy
          have ht1 : nextS s c x u = s := by unfold nextS; rw [hnx]; rfl
          have hd1 : nextC c x = c := by unfold nextC; rw [hnx]; rfl
          rw [ht1, hd1] at HNT HCK
          clear ht1 hd1 ht HQ2
          have eh10c0 := Hh10.out.c0
          have eh10c1 := Hh10.out.c1
          have eh10l := Hh10.out.lt
          go_wp2_with fail
          refine Calls.mono (HNT.out _) ?_
          rintro e w11 ⟨rfl, hb11⟩
          have Hh11 := Lib.hid (Hh10.out.later hb11)
          have Hp11 := Lib.hid (Hp10.out.later hb11)
          have HB11 := Lib.hid (HB10.out.trans (hb11.mono HB10.out.size))
          clear hb11
          clear eh10c0 eh10c1 eh10l
          have eh11c0 := Hh11.out.c0
          have eh11c1 := Hh11.out.c1
          have eh11l := Hh11.out.lt
          have Hg11 := Lib.hid (HAt.new w11 s c)
          go_wp2_with fail
          refine Calls.mono (HN0.out _) ?_
          rintro e w' ⟨rfl, he⟩
          have he := he.symm
          subst he
          go_wp2_with fail
          refine Calls.mono (HCK.out _) ?_
          rintro e w12 ⟨rfl, hb12⟩
          have Hh12 := Lib.hid ((Hh11.out.alloc (.cells #[.float .f64 s, .int .i64 c] 30)).later hb12)
          have Hp12 := Lib.hid ((Hp11.out.alloc (.cells #[.float .f64 s, .int .i64 c] 30)).later hb12)
          have Hg12 := Lib.hid (Hg11.out.later hb12)
          have HBa12 := Lib.hid (HB11.out.alloc HB11.out.size (.cells #[.float .f64 s, .int .i64 c] 30))
          have HB12 := Lib.hid (HBa12.out.trans (hb12.mono HBa12.out.size))
          clear hb12
          clear eh11c0 eh11c1 eh11l
          have eg12c0 := Hg12.out.c0
          have eg12c1 := Hg12.out.c1
          have eg12l := Hg12.out.lt
          have eh12c0 := Hh12.out.c0
          have eh12z0 := Hh12.out.fz 0
          have eh12c1 := Hh12.out.c1
          have eh12z1 := Hh12.out.fz 1
          have eh12l := Hh12.out.lt
          go_wp2_with fail
          refine Calls.mono (HN0.out _) ?_
          rintro e w' ⟨rfl, he⟩
          have he := he.symm
          subst he
          go_wp2_with fail
          refine Calls.mono (HEQ.out _) ?_
          rintro e w13 ⟨rfl, hb13⟩
          have Hh13 := Lib.hid (Hh12.out.later hb13)
          have Hp13 := Lib.hid (Hp12.out.later hb13)
          have Hg13 := Lib.hid (Hg12.out.later hb13)
          have HB13 := Lib.hid (HB12.out.trans (hb13.mono HB12.out.size))
          clear hb13
          clear eg12c0 eg12c1 eg12l eh12c0 eh12z0 eh12c1 eh12z1 eh12l
          have eg13c0 := Hg13.out.c0
          have eg13c1 := Hg13.out.c1
          have eg13l := Hg13.out.lt
          have eh13c0 := Hh13.out.c0
          have eh13z0 := Hh13.out.fz 0
          have eh13c1 := Hh13.out.c1
          have eh13z1 := Hh13.out.fz 1
          have eh13l := Hh13.out.lt
          have HhE := Lib.hid (Hh13.out.set s c)
          have HpE := Lib.hid ((Hp13.out.other (a := ⟨B, 0, none⟩) (Nat.ne_of_lt hs1) (.float .f64 s)).other (a := ⟨B, 1, none⟩) (Nat.ne_of_lt hs1) (.int .i64 c))
          have HBE := Lib.hid ((HB13.out.setCell (p := ⟨B, 0, none⟩) (Nat.le_of_lt hs1) (.float .f64 s)).setCell (p := ⟨B, 1, none⟩) (Nat.le_of_lt hs1) (.int .i64 c))
          go_wp2_with fail
          exact ⟨⟨i + 1, s, c, by go_num, by omega, by omega, HhE.out, HQ.out, hs, hcn, by omega, HpE.out, HBE.out⟩, by simp [intOf]; omega⟩
        | false =>
          rw [hnx] at hxx hxy
          have hd1 := next_count (c := c) hnx (by omega)
          have ht1 : nextS s c x u ≤ 4607182418800017408 := (okH_pos HQ2.out (by rw [hd1]; omega)).2.2
          rw [hd1] at HNT HCK HQ2
          have hfb := run_bits (nextS s c x u)
          have p1 := unit_gt ht1 (Nat.zero_le _)
          have p2 := unit_eq ht1 (Nat.zero_le _)
          have p3 := unit_lt ht1 (Nat.le_refl _)
          have p4 := unit_eq ht1 (Nat.le_refl _)
          have hne : (((nextS s c x u : Nat) : Int) != 9223372036854775808) = true := bne_iff_ne.2 (by omega)
          have hce : (c + 1 == c + 1) = true := by simp
          have HT1 := Lib.hid ht1
          generalize nextS s c x u = t at *
          clear hd1 ht1
          rcases (show t = 0 ∨ (0 < t ∧ t < 4607182418800017408) ∨ t = 4607182418800017408 by have := HT1.out; omega) with ht0 | ht0 | ht0
          · rw [decide_eq_false (by omega)] at p1 p4
            rw [decide_eq_true (by omega)] at p2 p3
            clear ht0
            have eh10c0 := Hh10.out.c0
            have eh10c1 := Hh10.out.c1
            have eh10l := Hh10.out.lt
            go_wp2_with fail
            refine Calls.mono (HNT.out _) ?_
            rintro e w11 ⟨rfl, hb11⟩
            have Hh11 := Lib.hid (Hh10.out.later hb11)
            have Hp11 := Lib.hid (Hp10.out.later hb11)
            have HB11 := Lib.hid (HB10.out.trans (hb11.mono HB10.out.size))
            clear hb11
            clear eh10c0 eh10c1 eh10l
            have eh11c0 := Hh11.out.c0
            have eh11c1 := Hh11.out.c1
            have eh11l := Hh11.out.lt
            have Hg11 := Lib.hid (HAt.new w11 t (c + 1))
            go_wp2_with fail
            refine Calls.mono (HN0.out _) ?_
            rintro e w' ⟨rfl, he⟩
            have he := he.symm
            subst he
            go_wp2_with fail
            refine Calls.mono (HCK.out _) ?_
            rintro e w12 ⟨rfl, hb12⟩
            have Hh12 := Lib.hid ((Hh11.out.alloc (.cells #[.float .f64 t, .int .i64 (c + 1)] 30)).later hb12)
            have Hp12 := Lib.hid ((Hp11.out.alloc (.cells #[.float .f64 t, .int .i64 (c + 1)] 30)).later hb12)
            have Hg12 := Lib.hid (Hg11.out.later hb12)
            have HBa12 := Lib.hid (HB11.out.alloc HB11.out.size (.cells #[.float .f64 t, .int .i64 (c + 1)] 30))
            have HB12 := Lib.hid (HBa12.out.trans (hb12.mono HBa12.out.size))
            clear hb12
            clear eh11c0 eh11c1 eh11l
            have eg12c0 := Hg12.out.c0
            have eg12c1 := Hg12.out.c1
            have eg12l := Hg12.out.lt
            have eh12c0 := Hh12.out.c0
            have eh12z0 := Hh12.out.fz 0
            have eh12c1 := Hh12.out.c1
            have eh12z1 := Hh12.out.fz 1
            have eh12l := Hh12.out.lt
            go_wp2_with fail
            refine Calls.mono (HN0.out _) ?_
            rintro e w' ⟨rfl, he⟩
            have he := he.symm
            subst he
            have HhE := Lib.hid (Hh12.out.set t (c + 1))
            have HpE := Lib.hid ((Hp12.out.other (a := ⟨B, 0, none⟩) (Nat.ne_of_lt hs1) (.float .f64 t)).other (a := ⟨B, 1, none⟩) (Nat.ne_of_lt hs1) (.int .i64 (c + 1)))
            have HBE := Lib.hid ((HB12.out.setCell (p := ⟨B, 0, none⟩) (Nat.le_of_lt hs1) (.float .f64 t)).setCell (p := ⟨B, 1, none⟩) (Nat.le_of_lt hs1) (.int .i64 (c + 1)))
            go_wp2_with fail
            exact ⟨⟨i + 1, t, (c + 1), by go_num, by omega, by omega, HhE.out, HQ2.out, ht, by omega, by omega, HpE.out, HBE.out⟩, by simp [intOf]; omega⟩
          · rw [decide_eq_false (by omega)] at p2 p4
            rw [decide_eq_true (by omega)] at p1 p3
            clear ht0
            have eh10c0 := Hh10.out.c0
            have eh10c1 := Hh10.out.c1
            have eh10l := Hh10.out.lt
            go_wp2_with fail
            refine Calls.mono (HNT.out _) ?_
            rintro e w11 ⟨rfl, hb11⟩
            have Hh11 := Lib.hid (Hh10.out.later hb11)
            have Hp11 := Lib.hid (Hp10.out.later hb11)
            have HB11 := Lib.hid (HB10.out.trans (hb11.mono HB10.out.size))
            clear hb11
            clear eh10c0 eh10c1 eh10l
            have eh11c0 := Hh11.out.c0
            have eh11c1 := Hh11.out.c1
            have eh11l := Hh11.out.lt
            have Hg11 := Lib.hid (HAt.new w11 t (c + 1))
            go_wp2_with fail
            refine Calls.mono (HN0.out _) ?_
            rintro e w' ⟨rfl, he⟩
            have he := he.symm
            subst he
            go_wp2_with fail
            refine Calls.mono (HCK.out _) ?_
            rintro e w12 ⟨rfl, hb12⟩
            have Hh12 := Lib.hid ((Hh11.out.alloc (.cells #[.float .f64 t, .int .i64 (c + 1)] 30)).later hb12)
            have Hp12 := Lib.hid ((Hp11.out.alloc (.cells #[.float .f64 t, .int .i64 (c + 1)] 30)).later hb12)
            have Hg12 := Lib.hid (Hg11.out.later hb12)
            have HBa12 := Lib.hid (HB11.out.alloc HB11.out.size (.cells #[.float .f64 t, .int .i64 (c + 1)] 30))
            have HB12 := Lib.hid (HBa12.out.trans (hb12.mono HBa12.out.size))
            clear hb12
            clear eh11c0 eh11c1 eh11l
            have eg12c0 := Hg12.out.c0
            have eg12c1 := Hg12.out.c1
            have eg12l := Hg12.out.lt
            have eh12c0 := Hh12.out.c0
            have eh12z0 := Hh12.out.fz 0
            have eh12c1 := Hh12.out.c1
            have eh12z1 := Hh12.out.fz 1
            have eh12l := Hh12.out.lt
            go_wp2_with fail
            refine Calls.mono (HN0.out _) ?_
            rintro e w' ⟨rfl, he⟩
            have he := he.symm
            subst he
            have HhE := Lib.hid (Hh12.out.set t (c + 1))
            have HpE := Lib.hid ((Hp12.out.other (a := ⟨B, 0, none⟩) (Nat.ne_of_lt hs1) (.float .f64 t)).other (a := ⟨B, 1, none⟩) (Nat.ne_of_lt hs1) (.int .i64 (c + 1)))
            have HBE := Lib.hid ((HB12.out.setCell (p := ⟨B, 0, none⟩) (Nat.le_of_lt hs1) (.float .f64 t)).setCell (p := ⟨B, 1, none⟩) (Nat.le_of_lt hs1) (.int .i64 (c + 1)))
            go_wp2_with fail
            exact ⟨⟨i + 1, t, (c + 1), by go_num, by omega, by omega, HhE.out, HQ2.out, ht, by omega, by omega, HpE.out, HBE.out⟩, by simp [intOf]; omega⟩
          · rw [decide_eq_false (by omega)] at p2 p3
            rw [decide_eq_true (by omega)] at p1 p4
            clear ht0
            have eh10c0 := Hh10.out.c0
            have eh10c1 := Hh10.out.c1
            have eh10l := Hh10.out.lt
            go_wp2_with fail
            refine Calls.mono (HNT.out _) ?_
            rintro e w11 ⟨rfl, hb11⟩
            have Hh11 := Lib.hid (Hh10.out.later hb11)
            have Hp11 := Lib.hid (Hp10.out.later hb11)
            have HB11 := Lib.hid (HB10.out.trans (hb11.mono HB10.out.size))
            clear hb11
            clear eh10c0 eh10c1 eh10l
            have eh11c0 := Hh11.out.c0
            have eh11c1 := Hh11.out.c1
            have eh11l := Hh11.out.lt
            have Hg11 := Lib.hid (HAt.new w11 t (c + 1))
            go_wp2_with fail
            refine Calls.mono (HN0.out _) ?_
            rintro e w' ⟨rfl, he⟩
            have he := he.symm
            subst he
            go_wp2_with fail
            refine Calls.mono (HCK.out _) ?_
            rintro e w12 ⟨rfl, hb12⟩
            have Hh12 := Lib.hid ((Hh11.out.alloc (.cells #[.float .f64 t, .int .i64 (c + 1)] 30)).later hb12)
            have Hp12 := Lib.hid ((Hp11.out.alloc (.cells #[.float .f64 t, .int .i64 (c + 1)] 30)).later hb12)
            have Hg12 := Lib.hid (Hg11.out.later hb12)
            have HBa12 := Lib.hid (HB11.out.alloc HB11.out.size (.cells #[.float .f64 t, .int .i64 (c + 1)] 30))
            have HB12 := Lib.hid (HBa12.out.trans (hb12.mono HBa12.out.size))
            clear hb12
            clear eh11c0 eh11c1 eh11l
            have eg12c0 := Hg12.out.c0
            have eg12c1 := Hg12.out.c1
            have eg12l := Hg12.out.lt
            have eh12c0 := Hh12.out.c0
            have eh12z0 := Hh12.out.fz 0
            have eh12c1 := Hh12.out.c1
            have eh12z1 := Hh12.out.fz 1
            have eh12l := Hh12.out.lt
            go_wp2_with fail
            refine Calls.mono (HN0.out _) ?_
            rintro e w' ⟨rfl, he⟩
            have he := he.symm
            subst he
            have HhE := Lib.hid (Hh12.out.set t (c + 1))
            have HpE := Lib.hid ((Hp12.out.other (a := ⟨B, 0, none⟩) (Nat.ne_of_lt hs1) (.float .f64 t)).other (a := ⟨B, 1, none⟩) (Nat.ne_of_lt hs1) (.int .i64 (c + 1)))
            have HBE := Lib.hid ((HB12.out.setCell (p := ⟨B, 0, none⟩) (Nat.le_of_lt hs1) (.float .f64 t)).setCell (p := ⟨B, 1, none⟩) (Nat.le_of_lt hs1) (.int .i64 (c + 1)))
            go_wp2_with fail
            exact ⟨⟨i + 1, t, (c + 1), by go_num, by omega, by omega, HhE.out, HQ2.out, ht, by omega, by omega, HpE.out, HBE.out⟩, by simp [intOf]; omega⟩
    have hszr := HB.out.size
    by_cases hlt : i < l.length
    · have hlti : (i : Int) < (l.length : Int) := by omega
      have h20i : decide ((i : Int) < 20) = false := decide_eq_false (by omega)
      go_wp2_with fail
      clear q2 Hp HU HL0 hll
      go_loopw [9] (fun kv wr => ∃ (k s : Nat) (c : Int), kv = .int .i64 k ∧ k ≤ 2 ∧ HAt wr B s c ∧ okH s c = true ∧ s < 18446744073709551616 ∧ 0 ≤ c ∧ c ≤ 20 + 80 * k ∧ (k ≠ 0 → 0 < c) ∧ Below w.heap.size w wr) (fun kv _ => 3 - (intOf kv).toNat)
      case atStart => exact ⟨0, s, c, rfl, Nat.zero_le _, Hh.out, HQ.out, hs, hcn, by omega, fun h => absurd rfl h, HB.out⟩
      case round =>
        clear HB Hh HQ hs hcn hci hil hi20 hin
        obtain ⟨k, s, c, rfl, hk2, hH, hq, hs, hcn, hci, hkc, hb⟩ := hrel
        have HB := Lib.hid hb
        have Hh := Lib.hid hH
        have HQ := Lib.hid hq
        have HK0 := Lib.hid hkc
        clear hb hH hq hkc
        rcases (show k = 0 ∨ k = 1 ∨ k = 2 by omega) with h | h | h
        · subst h
          rw [show ((0 : Nat) : Int) = 0 from rfl]
          have HZ := Lib.hid (show zeroI 0 s c by
            by_cases hc : c = 0
            · exact .inl ⟨hc, rfl⟩
            · exact .inr ⟨by omega, by rw [pw_zero]; exact (okH_pos HQ.out hc).2.2⟩)
          have HK := HZ
          go_wp2_with fail
          rw [show floatOfInt FloatKind.f64 0 = 0 by decide]
          go_loopw [11] (fun iv wr => ∃ (i s : Nat) (c : Int), iv = .int .i64 i ∧ i ≤ 80 ∧ HAt wr B s c ∧ okH s c = true ∧ s < 18446744073709551616 ∧ 0 ≤ c ∧ c ≤ 20 + i ∧ (zeroI i s c) ∧ Below w.heap.size w wr) (fun iv _ => 81 - (intOf iv).toNat)
          case atStart => exact ⟨0, s, c, rfl, Nat.zero_le _, Hh.out, HQ.out, hs, hcn, by omega, HZ.out, HB.out⟩
          case round =>
            clear HZ HK Hh HB HQ hs hcn hci
            obtain ⟨i, s, c, rfl, hi80, hH, hq, hs, hcn, hci, hI, hb⟩ := hrel
            have HB := Lib.hid hb
            have Hh := Lib.hid hH
            have HQ := Lib.hid hq
            have HI := Lib.hid hI
            clear hb hH hq hI
            by_cases hilt : i < 80
            · have hilti : (i : Int) < 80 := by omega
              have HNT := Lib.hid (fun W => note_any s c 0 4602678819172646912 W hs (by decide) (by decide))
              rw [endN_ok HQ.out (by decide), next_count (by decide) (by omega)] at HNT
              obtain ⟨hq2, ht⟩ := next_ok (x := 0) (u := 4602678819172646912) hs (by decide) HQ.out
              rw [next_count (by decide) (by omega)] at hq2
              have HQ2 := Lib.hid hq2
              have ht1 : nextS s c 0 4602678819172646912 ≤ 4607182418800017408 := (okH_pos hq2 (by omega)).2.2
              obtain ⟨hz1, hz2⟩ := zero_next hi80 HQ.out HI.out
              have HI2 := Lib.hid (show zeroI (i + 1) (nextS s c 0 4602678819172646912) (c + 1) from .inr ⟨by omega, hz1⟩)
              have HD := Lib.hid (fun (hc : c ≠ 0) => show ¬ distR s 0 < distR (nextS s c 0 4602678819172646912) 0 by
                rw [dist_zero (okH_pos HQ.out hc).2.2, dist_zero ht1]
                have := hz2 hc
                omega)
              clear hz1 hz2
              have HT1 := Lib.hid ht1
              generalize nextS s c 0 4602678819172646912 = t at *
              unfold hV at HNT
              clear ht1 hq2
              have eh30c0 := Hh.out.c0
              have eh30c1 := Hh.out.c1
              have eh30l := Hh.out.lt
              go_wp2_with fail
              refine Calls.mono (HNT.out _) ?_
              rintro e w31 ⟨rfl, hb31⟩
              have Hh31 := Lib.hid (Hh.out.later hb31)
              have HB31 := Lib.hid (HB.out.trans (hb31.mono HB.out.size))
              clear hb31
              clear eh30c0 eh30c1 eh30l
              have eh31c0 := Hh31.out.c0
              have eh31z0 := Hh31.out.fz 0
              have eh31c1 := Hh31.out.c1
              have eh31z1 := Hh31.out.fz 1
              have eh31l := Hh31.out.lt
              have Hg31 := Lib.hid (HAt.new w31 t (c + 1))
              by_cases hc : c = 0
              · have h0c : decide (0 < c) = false := decide_eq_false (by omega)
                clear hc HD
                go_wp2_with fail
                go_quiet (first | (go_at_call 10; exact Calls.quiet_of_same (HN0.out _)))
                have Hg32 := Lib.hid (Hg31.out.drewN nq)
                have Hh32 := Lib.hid ((Hh31.out.alloc (.cells #[.float .f64 t, .int .i64 (c + 1)] 30)).drewN nq)
                have HB32 := Lib.hid (below_drew (HB31.out.alloc HB31.out.size (.cells #[.float .f64 t, .int .i64 (c + 1)] 30)) nq)
                clear eh31c0 eh31z0 eh31c1 eh31z1 eh31l
                generalize ((w31.alloc (.cells #[.float .f64 t, .int .i64 (c + 1)] 30)).drewN nq) = w32 at *
                generalize w31.heap.size = gb at *
                have eg32c0 := Hg32.out.c0
                have eg32c1 := Hg32.out.c1
                have eg32l := Hg32.out.lt
                have eh32c0 := Hh32.out.c0
                have eh32z0 := Hh32.out.fz 0
                have eh32c1 := Hh32.out.c1
                have eh32z1 := Hh32.out.fz 1
                have eh32l := Hh32.out.lt
                have HhE := Lib.hid (Hh32.out.set t (c + 1))
                have HBE := Lib.hid ((HB32.out.setCell (p := ⟨B, 0, none⟩) (Nat.le_of_lt hs1) (.float .f64 t)).setCell (p := ⟨B, 1, none⟩) (Nat.le_of_lt hs1) (.int .i64 (c + 1)))
                go_wp2_with fail
                exact ⟨⟨i + 1, t, c + 1, by go_num, by omega, HhE.out, HQ2.out, ht, by omega, by omega, HI2.out, HBE.out⟩, by simp [intOf]; omega⟩
              · have h0c : 0 < c := by omega
                obtain ⟨r1, hr1, hl1, hm1, hd1⟩ := dist_ops HT1.out (show 0 ≤ 4607182418800017408 by decide)
                obtain ⟨r2, hr2, hl2, hm2, hd2⟩ := dist_ops (okH_pos HQ.out hc).2.2 (show 0 ≤ 4607182418800017408 by decide)
                have k1 := fun W => run_float_arith (P := Try.prog) W .sub 27 .f64 _ _ r1 hr1
                have k2 := fun W => run_float_arith (P := Try.prog) W .sub 27 .f64 _ _ r2 hr2
                have HA1 := Lib.hid (fun W => abs_any r1 W hl1)
                have HA2 := Lib.hid (fun W => abs_any r2 W hl2)
                rw [hm1] at HA1
                rw [hm2] at HA2
                have hgt := unit_gt hd1 hd2
                rw [decide_eq_false (HD.out hc)] at hgt
                generalize distR t 0 = d1 at *
                generalize distR s 0 = d2 at *
                clear hr1 hr2 hl1 hl2 hm1 hm2 hd1 hd2 hc
                go_wp2_with fail
                go_quiet (first | (go_at_call 10; exact Calls.quiet_of_same (HN0.out _)) | (go_at_call 25; exact Calls.quiet_of_same (HA1.out _)) | (go_at_call 25; exact Calls.quiet_of_same (HA2.out _)))
                have Hg32 := Lib.hid (Hg31.out.drewN nq)
                have Hh32 := Lib.hid ((Hh31.out.alloc (.cells #[.float .f64 t, .int .i64 (c + 1)] 30)).drewN nq)
                have HB32 := Lib.hid (below_drew (HB31.out.alloc HB31.out.size (.cells #[.float .f64 t, .int .i64 (c + 1)] 30)) nq)
                clear eh31c0 eh31z0 eh31c1 eh31z1 eh31l
                generalize ((w31.alloc (.cells #[.float .f64 t, .int .i64 (c + 1)] 30)).drewN nq) = w32 at *
                generalize w31.heap.size = gb at *
                have eg32c0 := Hg32.out.c0
                have eg32c1 := Hg32.out.c1
                have eg32l := Hg32.out.lt
                have eh32c0 := Hh32.out.c0
                have eh32z0 := Hh32.out.fz 0
                have eh32c1 := Hh32.out.c1
                have eh32z1 := Hh32.out.fz 1
                have eh32l := Hh32.out.lt
                have HhE := Lib.hid (Hh32.out.set t (c + 1))
                have HBE := Lib.hid ((HB32.out.setCell (p := ⟨B, 0, none⟩) (Nat.le_of_lt hs1) (.float .f64 t)).setCell (p := ⟨B, 1, none⟩) (Nat.le_of_lt hs1) (.int .i64 (c + 1)))
                go_wp2_with fail
                exact ⟨⟨i + 1, t, c + 1, by go_num, by omega, HhE.out, HQ2.out, ht, by omega, by omega, HI2.out, HBE.out⟩, by simp [intOf]; omega⟩
            have hilti : ¬ ((i : Int) < 80) := by omega
            have hs2 : s ≤ 4607182418800017408 := (okH_pos HQ.out (by rcases HI.out with h | h <;> omega)).2.2
            obtain ⟨r1, hr1, hl1, hm1, hd1⟩ := dist_ops hs2 (show 0 ≤ 4607182418800017408 by decide)
            have k1 := fun W => run_float_arith (P := Try.prog) W .sub 27 .f64 _ _ r1 hr1
            have HA1 := Lib.hid (fun W => abs_any r1 W hl1)
            rw [hm1] at HA1
            have hgt := unit_gt hd1 (show 4472406533629990549 ≤ 4607182418800017408 by decide)
            have hcp : 0 < c ∧ s ≤ pwR 80 := by
              obtain rfl : i = 80 := by omega
              rcases HI.out with h | h
              · omega
              · exact h
            have hfar : ¬ 4472406533629990549 < distR s 0 := by
              rw [dist_zero hs2]
              have h1 := hcp.2
              have h2 : pwR 80 < 4472406533629990549 := by decide
              omega
            rw [decide_eq_false hfar] at hgt
            clear hfar
            have hcp0 := hcp.1
            generalize distR s 0 = d1 at *
            have e0 := Hh.out.c0
            have e1 := Hh.out.c1
            clear hr1 hl1 hm1 hd1 hcp
            go_wp2_with fail
            refine Calls.mono (HA1.out _) ?_
            rintro e w' ⟨rfl, he⟩
            have he := he.symm
            subst he
            go_wp2_with fail
            exact ⟨⟨1, s, c, rfl, by omega, Hh.out, HQ.out, hs, hcn, by omega, fun _ => hcp0, HB.out⟩, by simp [intOf]⟩
        · subst h
          rw [show ((1 : Nat) : Int) = 1 from rfl]
          have HK := Lib.hid (HK0.out (by decide))
          have HZ := HK
          go_wp2_with fail
          rw [show floatOfInt FloatKind.f64 1 = 4607182418800017408 by decide]
          go_loopw [11] (fun iv wr => ∃ (i s : Nat) (c : Int), iv = .int .i64 i ∧ i ≤ 80 ∧ HAt wr B s c ∧ okH s c = true ∧ s < 18446744073709551616 ∧ 0 ≤ c ∧ c ≤ 100 + i ∧ (0 < c ∧ oneI i s) ∧ Below w.heap.size w wr) (fun iv _ => 81 - (intOf iv).toNat)
          case atStart => exact ⟨0, s, c, rfl, Nat.zero_le _, Hh.out, HQ.out, hs, hcn, by omega, ⟨HK.out, .inl rfl⟩, HB.out⟩
          case round =>
            clear HZ HK Hh HB HQ hs hcn hci
            obtain ⟨i, s, c, rfl, hi80, hH, hq, hs, hcn, hci, hI, hb⟩ := hrel
            have HB := Lib.hid hb
            have Hh := Lib.hid hH
            have HQ := Lib.hid hq
            have HI := Lib.hid hI
            clear hb hH hq hI
            by_cases hilt : i < 80
            · have hilti : (i : Int) < 80 := by omega
              have HNT := Lib.hid (fun W => note_any s c 4607182418800017408 4602678819172646912 W hs (by decide) (by decide))
              rw [endN_ok HQ.out (by decide), next_count (by decide) (by omega)] at HNT
              obtain ⟨hq2, ht⟩ := next_ok (x := 4607182418800017408) (u := 4602678819172646912) hs (by decide) HQ.out
              rw [next_count (by decide) (by omega)] at hq2
              have HQ2 := Lib.hid hq2
              have ht1 : nextS s c 4607182418800017408 4602678819172646912 ≤ 4607182418800017408 := (okH_pos hq2 (by omega)).2.2
              obtain ⟨hz1, hz2, hz3⟩ := one_next HQ.out (by have := HI.out.1; omega) HI.out.2
              have HI2 := Lib.hid (show 0 < c + 1 ∧ oneI (i + 1) (nextS s c 4607182418800017408 4602678819172646912) from ⟨by omega, hz1⟩)
              have HD := Lib.hid (fun (_ : c ≠ 0) => show ¬ distR s 4607182418800017408 < distR (nextS s c 4607182418800017408 4602678819172646912) 4607182418800017408 by
                have := dist_one hz2 hz3
                omega)
              clear hz1 hz2 hz3
              have HT1 := Lib.hid ht1
              generalize nextS s c 4607182418800017408 4602678819172646912 = t at *
              unfold hV at HNT
              clear ht1 hq2
              have eh30c0 := Hh.out.c0
              have eh30c1 := Hh.out.c1
              have eh30l := Hh.out.lt
              go_wp2_with fail
              refine Calls.mono (HNT.out _) ?_
              rintro e w31 ⟨rfl, hb31⟩
              have Hh31 := Lib.hid (Hh.out.later hb31)
              have HB31 := Lib.hid (HB.out.trans (hb31.mono HB.out.size))
              clear hb31
              clear eh30c0 eh30c1 eh30l
              have eh31c0 := Hh31.out.c0
              have eh31z0 := Hh31.out.fz 0
              have eh31c1 := Hh31.out.c1
              have eh31z1 := Hh31.out.fz 1
              have eh31l := Hh31.out.lt
              have Hg31 := Lib.hid (HAt.new w31 t (c + 1))
              by_cases hc : c = 0
              · have h0c : decide (0 < c) = false := decide_eq_false (by omega)
                clear hc HD
                go_wp2_with fail
                go_quiet (first | (go_at_call 10; exact Calls.quiet_of_same (HN0.out _)))
                have Hg32 := Lib.hid (Hg31.out.drewN nq)
                have Hh32 := Lib.hid ((Hh31.out.alloc (.cells #[.float .f64 t, .int .i64 (c + 1)] 30)).drewN nq)
                have HB32 := Lib.hid (below_drew (HB31.out.alloc HB31.out.size (.cells #[.float .f64 t, .int .i64 (c + 1)] 30)) nq)
                clear eh31c0 eh31z0 eh31c1 eh31z1 eh31l
                generalize ((w31.alloc (.cells #[.float .f64 t, .int .i64 (c + 1)] 30)).drewN nq) = w32 at *
                generalize w31.heap.size = gb at *
                have eg32c0 := Hg32.out.c0
                have eg32c1 := Hg32.out.c1
                have eg32l := Hg32.out.lt
                have eh32c0 := Hh32.out.c0
                have eh32z0 := Hh32.out.fz 0
                have eh32c1 := Hh32.out.c1
                have eh32z1 := Hh32.out.fz 1
                have eh32l := Hh32.out.lt
                have HhE := Lib.hid (Hh32.out.set t (c + 1))
                have HBE := Lib.hid ((HB32.out.setCell (p := ⟨B, 0, none⟩) (Nat.le_of_lt hs1) (.float .f64 t)).setCell (p := ⟨B, 1, none⟩) (Nat.le_of_lt hs1) (.int .i64 (c + 1)))
                go_wp2_with fail
                exact ⟨⟨i + 1, t, c + 1, by go_num, by omega, HhE.out, HQ2.out, ht, by omega, by omega, HI2.out, HBE.out⟩, by simp [intOf]; omega⟩
              · have h0c : 0 < c := by omega
                obtain ⟨r1, hr1, hl1, hm1, hd1⟩ := dist_ops HT1.out (show 4607182418800017408 ≤ 4607182418800017408 by decide)
                obtain ⟨r2, hr2, hl2, hm2, hd2⟩ := dist_ops (okH_pos HQ.out hc).2.2 (show 4607182418800017408 ≤ 4607182418800017408 by decide)
                have k1 := fun W => run_float_arith (P := Try.prog) W .sub 27 .f64 _ _ r1 hr1
                have k2 := fun W => run_float_arith (P := Try.prog) W .sub 27 .f64 _ _ r2 hr2
                have HA1 := Lib.hid (fun W => abs_any r1 W hl1)
                have HA2 := Lib.hid (fun W => abs_any r2 W hl2)
                rw [hm1] at HA1
                rw [hm2] at HA2
                have hgt := unit_gt hd1 hd2
                rw [decide_eq_false (HD.out hc)] at hgt
                generalize distR t 4607182418800017408 = d1 at *
                generalize distR s 4607182418800017408 = d2 at *
                clear hr1 hr2 hl1 hl2 hm1 hm2 hd1 hd2 hc
                go_wp2_with fail
                go_quiet (first | (go_at_call 10; exact Calls.quiet_of_same (HN0.out _)) | (go_at_call 25; exact Calls.quiet_of_same (HA1.out _)) | (go_at_call 25; exact Calls.quiet_of_same (HA2.out _)))
                have Hg32 := Lib.hid (Hg31.out.drewN nq)
                have Hh32 := Lib.hid ((Hh31.out.alloc (.cells #[.float .f64 t, .int .i64 (c + 1)] 30)).drewN nq)
                have HB32 := Lib.hid (below_drew (HB31.out.alloc HB31.out.size (.cells #[.float .f64 t, .int .i64 (c + 1)] 30)) nq)
                clear eh31c0 eh31z0 eh31c1 eh31z1 eh31l
                generalize ((w31.alloc (.cells #[.float .f64 t, .int .i64 (c + 1)] 30)).drewN nq) = w32 at *
                generalize w31.heap.size = gb at *
                have eg32c0 := Hg32.out.c0
                have eg32c1 := Hg32.out.c1
                have eg32l := Hg32.out.lt
                have eh32c0 := Hh32.out.c0
                have eh32z0 := Hh32.out.fz 0
                have eh32c1 := Hh32.out.c1
                have eh32z1 := Hh32.out.fz 1
                have eh32l := Hh32.out.lt
                have HhE := Lib.hid (Hh32.out.set t (c + 1))
                have HBE := Lib.hid ((HB32.out.setCell (p := ⟨B, 0, none⟩) (Nat.le_of_lt hs1) (.float .f64 t)).setCell (p := ⟨B, 1, none⟩) (Nat.le_of_lt hs1) (.int .i64 (c + 1)))
                go_wp2_with fail
                exact ⟨⟨i + 1, t, c + 1, by go_num, by omega, HhE.out, HQ2.out, ht, by omega, by omega, HI2.out, HBE.out⟩, by simp [intOf]; omega⟩
            have hilti : ¬ ((i : Int) < 80) := by omega
            have hs2 : s ≤ 4607182418800017408 := (okH_pos HQ.out (by have := HI.out.1; omega)).2.2
            obtain ⟨r1, hr1, hl1, hm1, hd1⟩ := dist_ops hs2 (show 4607182418800017408 ≤ 4607182418800017408 by decide)
            have k1 := fun W => run_float_arith (P := Try.prog) W .sub 27 .f64 _ _ r1 hr1
            have HA1 := Lib.hid (fun W => abs_any r1 W hl1)
            rw [hm1] at HA1
            have hgt := unit_gt hd1 (show 4472406533629990549 ≤ 4607182418800017408 by decide)
            have hcp : 0 < c ∧ 4607182418800017408 - s ≤ 1 := by
              obtain rfl : i = 80 := by omega
              refine ⟨HI.out.1, ?_⟩
              rcases HI.out.2 with h | h | h
              · omega
              · omega
              · exact h.2
            rw [decide_eq_false (by have := dist_last hcp.2 hs2; omega)] at hgt
            have hcp0 := hcp.1
            generalize distR s 4607182418800017408 = d1 at *
            have e0 := Hh.out.c0
            have e1 := Hh.out.c1
            clear hr1 hl1 hm1 hd1 hcp
            go_wp2_with fail
            refine Calls.mono (HA1.out _) ?_
            rintro e w' ⟨rfl, he⟩
            have he := he.symm
            subst he
            go_wp2_with fail
            exact ⟨⟨2, s, c, rfl, by omega, Hh.out, HQ.out, hs, hcn, by omega, fun _ => hcp0, HB.out⟩, by simp [intOf]⟩
        · subst h
          rw [show ((2 : Nat) : Int) = 2 from rfl]
          have HW := Lib.hid (wakes_any wr)
          have hszr := HB.out.size
          go_wp2_with fail
          refine Calls.mono HW.out ?_
          rintro e w6 ⟨rfl, hb⟩
          have HB3 := Lib.hid (HB.out.trans (hb.mono hszr))
          clear hb
          go_wp2_with fail
          go_ret
          exact ⟨rfl, HB3.out⟩
    · have hlti : decide ((i : Int) < (l.length : Int)) = false := decide_eq_false (by omega)
      go_wp2_with fail
      clear q2 Hp HU HL0 hll
      go_loopw [9] (fun kv wr => ∃ (k s : Nat) (c : Int), kv = .int .i64 k ∧ k ≤ 2 ∧ HAt wr B s c ∧ okH s c = true ∧ s < 18446744073709551616 ∧ 0 ≤ c ∧ c ≤ 20 + 80 * k ∧ (k ≠ 0 → 0 < c) ∧ Below w.heap.size w wr) (fun kv _ => 3 - (intOf kv).toNat)
      case atStart => exact ⟨0, s, c, rfl, Nat.zero_le _, Hh.out, HQ.out, hs, hcn, by omega, fun h => absurd rfl h, HB.out⟩
      case round =>
        clear HB Hh HQ hs hcn hci hil hi20 hin
        obtain ⟨k, s, c, rfl, hk2, hH, hq, hs, hcn, hci, hkc, hb⟩ := hrel
        have HB := Lib.hid hb
        have Hh := Lib.hid hH
        have HQ := Lib.hid hq
        have HK0 := Lib.hid hkc
        clear hb hH hq hkc
        rcases (show k = 0 ∨ k = 1 ∨ k = 2 by omega) with h | h | h
        · subst h
          rw [show ((0 : Nat) : Int) = 0 from rfl]
          have HZ := Lib.hid (show zeroI 0 s c by
            by_cases hc : c = 0
            · exact .inl ⟨hc, rfl⟩
            · exact .inr ⟨by omega, by rw [pw_zero]; exact (okH_pos HQ.out hc).2.2⟩)
          have HK := HZ
          go_wp2_with fail
          rw [show floatOfInt FloatKind.f64 0 = 0 by decide]
          go_loopw [11] (fun iv wr => ∃ (i s : Nat) (c : Int), iv = .int .i64 i ∧ i ≤ 80 ∧ HAt wr B s c ∧ okH s c = true ∧ s < 18446744073709551616 ∧ 0 ≤ c ∧ c ≤ 20 + i ∧ (zeroI i s c) ∧ Below w.heap.size w wr) (fun iv _ => 81 - (intOf iv).toNat)
          case atStart => exact ⟨0, s, c, rfl, Nat.zero_le _, Hh.out, HQ.out, hs, hcn, by omega, HZ.out, HB.out⟩
          case round =>
            clear HZ HK Hh HB HQ hs hcn hci
            obtain ⟨i, s, c, rfl, hi80, hH, hq, hs, hcn, hci, hI, hb⟩ := hrel
            have HB := Lib.hid hb
            have Hh := Lib.hid hH
            have HQ := Lib.hid hq
            have HI := Lib.hid hI
            clear hb hH hq hI
            by_cases hilt : i < 80
            · have hilti : (i : Int) < 80 := by omega
              have HNT := Lib.hid (fun W => note_any s c 0 4602678819172646912 W hs (by decide) (by decide))
              rw [endN_ok HQ.out (by decide), next_count (by decide) (by omega)] at HNT
              obtain ⟨hq2, ht⟩ := next_ok (x := 0) (u := 4602678819172646912) hs (by decide) HQ.out
              rw [next_count (by decide) (by omega)] at hq2
              have HQ2 := Lib.hid hq2
              have ht1 : nextS s c 0 4602678819172646912 ≤ 4607182418800017408 := (okH_pos hq2 (by omega)).2.2
              obtain ⟨hz1, hz2⟩ := zero_next hi80 HQ.out HI.out
              have HI2 := Lib.hid (show zeroI (i + 1) (nextS s c 0 4602678819172646912) (c + 1) from .inr ⟨by omega, hz1⟩)
              have HD := Lib.hid (fun (hc : c ≠ 0) => show ¬ distR s 0 < distR (nextS s c 0 4602678819172646912) 0 by
                rw [dist_zero (okH_pos HQ.out hc).2.2, dist_zero ht1]
                have := hz2 hc
                omega)
              clear hz1 hz2
              have HT1 := Lib.hid ht1
              generalize nextS s c 0 4602678819172646912 = t at *
              unfold hV at HNT
              clear ht1 hq2
              have eh30c0 := Hh.out.c0
              have eh30c1 := Hh.out.c1
              have eh30l := Hh.out.lt
              go_wp2_with fail
              refine Calls.mono (HNT.out _) ?_
              rintro e w31 ⟨rfl, hb31⟩
              have Hh31 := Lib.hid (Hh.out.later hb31)
              have HB31 := Lib.hid (HB.out.trans (hb31.mono HB.out.size))
              clear hb31
              clear eh30c0 eh30c1 eh30l
              have eh31c0 := Hh31.out.c0
              have eh31z0 := Hh31.out.fz 0
              have eh31c1 := Hh31.out.c1
              have eh31z1 := Hh31.out.fz 1
              have eh31l := Hh31.out.lt
              have Hg31 := Lib.hid (HAt.new w31 t (c + 1))
              by_cases hc : c = 0
              · have h0c : decide (0 < c) = false := decide_eq_false (by omega)
                clear hc HD
                go_wp2_with fail
                go_quiet (first | (go_at_call 10; exact Calls.quiet_of_same (HN0.out _)))
                have Hg32 := Lib.hid (Hg31.out.drewN nq)
                have Hh32 := Lib.hid ((Hh31.out.alloc (.cells #[.float .f64 t, .int .i64 (c + 1)] 30)).drewN nq)
                have HB32 := Lib.hid (below_drew (HB31.out.alloc HB31.out.size (.cells #[.float .f64 t, .int .i64 (c + 1)] 30)) nq)
                clear eh31c0 eh31z0 eh31c1 eh31z1 eh31l
                generalize ((w31.alloc (.cells #[.float .f64 t, .int .i64 (c + 1)] 30)).drewN nq) = w32 at *
                generalize w31.heap.size = gb at *
                have eg32c0 := Hg32.out.c0
                have eg32c1 := Hg32.out.c1
                have eg32l := Hg32.out.lt
                have eh32c0 := Hh32.out.c0
                have eh32z0 := Hh32.out.fz 0
                have eh32c1 := Hh32.out.c1
                have eh32z1 := Hh32.out.fz 1
                have eh32l := Hh32.out.lt
                have HhE := Lib.hid (Hh32.out.set t (c + 1))
                have HBE := Lib.hid ((HB32.out.setCell (p := ⟨B, 0, none⟩) (Nat.le_of_lt hs1) (.float .f64 t)).setCell (p := ⟨B, 1, none⟩) (Nat.le_of_lt hs1) (.int .i64 (c + 1)))
                go_wp2_with fail
                exact ⟨⟨i + 1, t, c + 1, by go_num, by omega, HhE.out, HQ2.out, ht, by omega, by omega, HI2.out, HBE.out⟩, by simp [intOf]; omega⟩
              · have h0c : 0 < c := by omega
                obtain ⟨r1, hr1, hl1, hm1, hd1⟩ := dist_ops HT1.out (show 0 ≤ 4607182418800017408 by decide)
                obtain ⟨r2, hr2, hl2, hm2, hd2⟩ := dist_ops (okH_pos HQ.out hc).2.2 (show 0 ≤ 4607182418800017408 by decide)
                have k1 := fun W => run_float_arith (P := Try.prog) W .sub 27 .f64 _ _ r1 hr1
                have k2 := fun W => run_float_arith (P := Try.prog) W .sub 27 .f64 _ _ r2 hr2
                have HA1 := Lib.hid (fun W => abs_any r1 W hl1)
                have HA2 := Lib.hid (fun W => abs_any r2 W hl2)
                rw [hm1] at HA1
                rw [hm2] at HA2
                have hgt := unit_gt hd1 hd2
                rw [decide_eq_false (HD.out hc)] at hgt
                generalize distR t 0 = d1 at *
                generalize distR s 0 = d2 at *
                clear hr1 hr2 hl1 hl2 hm1 hm2 hd1 hd2 hc
                go_wp2_with fail
                go_quiet (first | (go_at_call 10; exact Calls.quiet_of_same (HN0.out _)) | (go_at_call 25; exact Calls.quiet_of_same (HA1.out _)) | (go_at_call 25; exact Calls.quiet_of_same (HA2.out _)))
                have Hg32 := Lib.hid (Hg31.out.drewN nq)
                have Hh32 := Lib.hid ((Hh31.out.alloc (.cells #[.float .f64 t, .int .i64 (c + 1)] 30)).drewN nq)
                have HB32 := Lib.hid (below_drew (HB31.out.alloc HB31.out.size (.cells #[.float .f64 t, .int .i64 (c + 1)] 30)) nq)
                clear eh31c0 eh31z0 eh31c1 eh31z1 eh31l
                generalize ((w31.alloc (.cells #[.float .f64 t, .int .i64 (c + 1)] 30)).drewN nq) = w32 at *
                generalize w31.heap.size = gb at *
                have eg32c0 := Hg32.out.c0
                have eg32c1 := Hg32.out.c1
                have eg32l := Hg32.out.lt
                have eh32c0 := Hh32.out.c0
                have eh32z0 := Hh32.out.fz 0
                have eh32c1 := Hh32.out.c1
                have eh32z1 := Hh32.out.fz 1
                have eh32l := Hh32.out.lt
                have HhE := Lib.hid (Hh32.out.set t (c + 1))
                have HBE := Lib.hid ((HB32.out.setCell (p := ⟨B, 0, none⟩) (Nat.le_of_lt hs1) (.float .f64 t)).setCell (p := ⟨B, 1, none⟩) (Nat.le_of_lt hs1) (.int .i64 (c + 1)))
                go_wp2_with fail
                exact ⟨⟨i + 1, t, c + 1, by go_num, by omega, HhE.out, HQ2.out, ht, by omega, by omega, HI2.out, HBE.out⟩, by simp [intOf]; omega⟩
            have hilti : ¬ ((i : Int) < 80) := by omega
            have hs2 : s ≤ 4607182418800017408 := (okH_pos HQ.out (by rcases HI.out with h | h <;> omega)).2.2
            obtain ⟨r1, hr1, hl1, hm1, hd1⟩ := dist_ops hs2 (show 0 ≤ 4607182418800017408 by decide)
            have k1 := fun W => run_float_arith (P := Try.prog) W .sub 27 .f64 _ _ r1 hr1
            have HA1 := Lib.hid (fun W => abs_any r1 W hl1)
            rw [hm1] at HA1
            have hgt := unit_gt hd1 (show 4472406533629990549 ≤ 4607182418800017408 by decide)
            have hcp : 0 < c ∧ s ≤ pwR 80 := by
              obtain rfl : i = 80 := by omega
              rcases HI.out with h | h
              · omega
              · exact h
            have hfar : ¬ 4472406533629990549 < distR s 0 := by
              rw [dist_zero hs2]
              have h1 := hcp.2
              have h2 : pwR 80 < 4472406533629990549 := by decide
              omega
            rw [decide_eq_false hfar] at hgt
            clear hfar
            have hcp0 := hcp.1
            generalize distR s 0 = d1 at *
            have e0 := Hh.out.c0
            have e1 := Hh.out.c1
            clear hr1 hl1 hm1 hd1 hcp
            go_wp2_with fail
            refine Calls.mono (HA1.out _) ?_
            rintro e w' ⟨rfl, he⟩
            have he := he.symm
            subst he
            go_wp2_with fail
            exact ⟨⟨1, s, c, rfl, by omega, Hh.out, HQ.out, hs, hcn, by omega, fun _ => hcp0, HB.out⟩, by simp [intOf]⟩
        · subst h
          rw [show ((1 : Nat) : Int) = 1 from rfl]
          have HK := Lib.hid (HK0.out (by decide))
          have HZ := HK
          go_wp2_with fail
          rw [show floatOfInt FloatKind.f64 1 = 4607182418800017408 by decide]
          go_loopw [11] (fun iv wr => ∃ (i s : Nat) (c : Int), iv = .int .i64 i ∧ i ≤ 80 ∧ HAt wr B s c ∧ okH s c = true ∧ s < 18446744073709551616 ∧ 0 ≤ c ∧ c ≤ 100 + i ∧ (0 < c ∧ oneI i s) ∧ Below w.heap.size w wr) (fun iv _ => 81 - (intOf iv).toNat)
          case atStart => exact ⟨0, s, c, rfl, Nat.zero_le _, Hh.out, HQ.out, hs, hcn, by omega, ⟨HK.out, .inl rfl⟩, HB.out⟩
          case round =>
            clear HZ HK Hh HB HQ hs hcn hci
            obtain ⟨i, s, c, rfl, hi80, hH, hq, hs, hcn, hci, hI, hb⟩ := hrel
            have HB := Lib.hid hb
            have Hh := Lib.hid hH
            have HQ := Lib.hid hq
            have HI := Lib.hid hI
            clear hb hH hq hI
            by_cases hilt : i < 80
            · have hilti : (i : Int) < 80 := by omega
              have HNT := Lib.hid (fun W => note_any s c 4607182418800017408 4602678819172646912 W hs (by decide) (by decide))
              rw [endN_ok HQ.out (by decide), next_count (by decide) (by omega)] at HNT
              obtain ⟨hq2, ht⟩ := next_ok (x := 4607182418800017408) (u := 4602678819172646912) hs (by decide) HQ.out
              rw [next_count (by decide) (by omega)] at hq2
              have HQ2 := Lib.hid hq2
              have ht1 : nextS s c 4607182418800017408 4602678819172646912 ≤ 4607182418800017408 := (okH_pos hq2 (by omega)).2.2
              obtain ⟨hz1, hz2, hz3⟩ := one_next HQ.out (by have := HI.out.1; omega) HI.out.2
              have HI2 := Lib.hid (show 0 < c + 1 ∧ oneI (i + 1) (nextS s c 4607182418800017408 4602678819172646912) from ⟨by omega, hz1⟩)
              have HD := Lib.hid (fun (_ : c ≠ 0) => show ¬ distR s 4607182418800017408 < distR (nextS s c 4607182418800017408 4602678819172646912) 4607182418800017408 by
                have := dist_one hz2 hz3
                omega)
              clear hz1 hz2 hz3
              have HT1 := Lib.hid ht1
              generalize nextS s c 4607182418800017408 4602678819172646912 = t at *
              unfold hV at HNT
              clear ht1 hq2
              have eh30c0 := Hh.out.c0
              have eh30c1 := Hh.out.c1
              have eh30l := Hh.out.lt
              go_wp2_with fail
              refine Calls.mono (HNT.out _) ?_
              rintro e w31 ⟨rfl, hb31⟩
              have Hh31 := Lib.hid (Hh.out.later hb31)
              have HB31 := Lib.hid (HB.out.trans (hb31.mono HB.out.size))
              clear hb31
              clear eh30c0 eh30c1 eh30l
              have eh31c0 := Hh31.out.c0
              have eh31z0 := Hh31.out.fz 0
              have eh31c1 := Hh31.out.c1
              have eh31z1 := Hh31.out.fz 1
              have eh31l := Hh31.out.lt
              have Hg31 := Lib.hid (HAt.new w31 t (c + 1))
              by_cases hc : c = 0
              · have h0c : decide (0 < c) = false := decide_eq_false (by omega)
                clear hc HD
                go_wp2_with fail
                go_quiet (first | (go_at_call 10; exact Calls.quiet_of_same (HN0.out _)))
                have Hg32 := Lib.hid (Hg31.out.drewN nq)
                have Hh32 := Lib.hid ((Hh31.out.alloc (.cells #[.float .f64 t, .int .i64 (c + 1)] 30)).drewN nq)
                have HB32 := Lib.hid (below_drew (HB31.out.alloc HB31.out.size (.cells #[.float .f64 t, .int .i64 (c + 1)] 30)) nq)
                clear eh31c0 eh31z0 eh31c1 eh31z1 eh31l
                generalize ((w31.alloc (.cells #[.float .f64 t, .int .i64 (c + 1)] 30)).drewN nq) = w32 at *
                generalize w31.heap.size = gb at *
                have eg32c0 := Hg32.out.c0
                have eg32c1 := Hg32.out.c1
                have eg32l := Hg32.out.lt
                have eh32c0 := Hh32.out.c0
                have eh32z0 := Hh32.out.fz 0
                have eh32c1 := Hh32.out.c1
                have eh32z1 := Hh32.out.fz 1
                have eh32l := Hh32.out.lt
                have HhE := Lib.hid (Hh32.out.set t (c + 1))
                have HBE := Lib.hid ((HB32.out.setCell (p := ⟨B, 0, none⟩) (Nat.le_of_lt hs1) (.float .f64 t)).setCell (p := ⟨B, 1, none⟩) (Nat.le_of_lt hs1) (.int .i64 (c + 1)))
                go_wp2_with fail
                exact ⟨⟨i + 1, t, c + 1, by go_num, by omega, HhE.out, HQ2.out, ht, by omega, by omega, HI2.out, HBE.out⟩, by simp [intOf]; omega⟩
              · have h0c : 0 < c := by omega
                obtain ⟨r1, hr1, hl1, hm1, hd1⟩ := dist_ops HT1.out (show 4607182418800017408 ≤ 4607182418800017408 by decide)
                obtain ⟨r2, hr2, hl2, hm2, hd2⟩ := dist_ops (okH_pos HQ.out hc).2.2 (show 4607182418800017408 ≤ 4607182418800017408 by decide)
                have k1 := fun W => run_float_arith (P := Try.prog) W .sub 27 .f64 _ _ r1 hr1
                have k2 := fun W => run_float_arith (P := Try.prog) W .sub 27 .f64 _ _ r2 hr2
                have HA1 := Lib.hid (fun W => abs_any r1 W hl1)
                have HA2 := Lib.hid (fun W => abs_any r2 W hl2)
                rw [hm1] at HA1
                rw [hm2] at HA2
                have hgt := unit_gt hd1 hd2
                rw [decide_eq_false (HD.out hc)] at hgt
                generalize distR t 4607182418800017408 = d1 at *
                generalize distR s 4607182418800017408 = d2 at *
                clear hr1 hr2 hl1 hl2 hm1 hm2 hd1 hd2 hc
                go_wp2_with fail
                go_quiet (first | (go_at_call 10; exact Calls.quiet_of_same (HN0.out _)) | (go_at_call 25; exact Calls.quiet_of_same (HA1.out _)) | (go_at_call 25; exact Calls.quiet_of_same (HA2.out _)))
                have Hg32 := Lib.hid (Hg31.out.drewN nq)
                have Hh32 := Lib.hid ((Hh31.out.alloc (.cells #[.float .f64 t, .int .i64 (c + 1)] 30)).drewN nq)
                have HB32 := Lib.hid (below_drew (HB31.out.alloc HB31.out.size (.cells #[.float .f64 t, .int .i64 (c + 1)] 30)) nq)
                clear eh31c0 eh31z0 eh31c1 eh31z1 eh31l
                generalize ((w31.alloc (.cells #[.float .f64 t, .int .i64 (c + 1)] 30)).drewN nq) = w32 at *
                generalize w31.heap.size = gb at *
                have eg32c0 := Hg32.out.c0
                have eg32c1 := Hg32.out.c1
                have eg32l := Hg32.out.lt
                have eh32c0 := Hh32.out.c0
                have eh32z0 := Hh32.out.fz 0
                have eh32c1 := Hh32.out.c1
                have eh32z1 := Hh32.out.fz 1
                have eh32l := Hh32.out.lt
                have HhE := Lib.hid (Hh32.out.set t (c + 1))
                have HBE := Lib.hid ((HB32.out.setCell (p := ⟨B, 0, none⟩) (Nat.le_of_lt hs1) (.float .f64 t)).setCell (p := ⟨B, 1, none⟩) (Nat.le_of_lt hs1) (.int .i64 (c + 1)))
                go_wp2_with fail
                exact ⟨⟨i + 1, t, c + 1, by go_num, by omega, HhE.out, HQ2.out, ht, by omega, by omega, HI2.out, HBE.out⟩, by simp [intOf]; omega⟩
            have hilti : ¬ ((i : Int) < 80) := by omega
            have hs2 : s ≤ 4607182418800017408 := (okH_pos HQ.out (by have := HI.out.1; omega)).2.2
            obtain ⟨r1, hr1, hl1, hm1, hd1⟩ := dist_ops hs2 (show 4607182418800017408 ≤ 4607182418800017408 by decide)
            have k1 := fun W => run_float_arith (P := Try.prog) W .sub 27 .f64 _ _ r1 hr1
            have HA1 := Lib.hid (fun W => abs_any r1 W hl1)
            rw [hm1] at HA1
            have hgt := unit_gt hd1 (show 4472406533629990549 ≤ 4607182418800017408 by decide)
            have hcp : 0 < c ∧ 4607182418800017408 - s ≤ 1 := by
              obtain rfl : i = 80 := by omega
              refine ⟨HI.out.1, ?_⟩
              rcases HI.out.2 with h | h | h
              · omega
              · omega
              · exact h.2
            rw [decide_eq_false (by have := dist_last hcp.2 hs2; omega)] at hgt
            have hcp0 := hcp.1
            generalize distR s 4607182418800017408 = d1 at *
            have e0 := Hh.out.c0
            have e1 := Hh.out.c1
            clear hr1 hl1 hm1 hd1 hcp
            go_wp2_with fail
            refine Calls.mono (HA1.out _) ?_
            rintro e w' ⟨rfl, he⟩
            have he := he.symm
            subst he
            go_wp2_with fail
            exact ⟨⟨2, s, c, rfl, by omega, Hh.out, HQ.out, hs, hcn, by omega, fun _ => hcp0, HB.out⟩, by simp [intOf]⟩
        · subst h
          rw [show ((2 : Nat) : Int) = 2 from rfl]
          have HW := Lib.hid (wakes_any wr)
          have hszr := HB.out.size
          go_wp2_with fail
          refine Calls.mono HW.out ?_
          rintro e w6 ⟨rfl, hb⟩
          have HB3 := Lib.hid (HB.out.trans (hb.mono hszr))
          clear hb
          go_wp2_with fail
          go_ret
          exact ⟨rfl, HB3.out⟩
end Go.Proofs.Ythkgahdnjhjobaa

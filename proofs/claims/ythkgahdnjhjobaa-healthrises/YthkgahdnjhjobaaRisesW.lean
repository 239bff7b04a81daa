/-
  HealthRises: the statement's own walk.
  Conditions: as the theorem states them: the argument lies in memory.
-/
import Derived.Test.YthkgahdnjhjobaaHG
import Derived.Deep.CutRange
import Derived.Deep.DeepCutAuto
import Derived.WalkSmall
namespace Go.Proofs.Ythkgahdnjhjobaa
open Go.RowKit

/-- What is asked of two notes, a quarter and a half of the way: by their words. -/
theorem rises_facts {s x a b : Nat} {c : Int} (hs : s ≤ 4607182418800017408) (hx : x < 18446744073709551616) (hn : nanF x = false) (hc : c ≠ 0)
    (ha : a = nextS s c x 4598175219545276416) (hb : b = nextS s c x 4602678819172646912) :
    a ≤ 4607182418800017408 ∧ b ≤ 4607182418800017408 ∧ (keyF s ≤ keyF x → s ≤ a ∧ a ≤ b) ∧ (keyF x ≤ keyF s → a ≤ s ∧ b ≤ a) := by
  unfold nextS at ha hb
  rw [hn, if_neg (by decide), if_neg hc] at ha hb
  subst ha hb
  refine ⟨note_in hs, note_in hs, fun hk => ?_, fun hk => ?_⟩
  · have h := clamp_up hs hx hn hk
    exact ⟨note_up hs h, note_more_up h (by decide)⟩
  · have h := clamp_down hs hx hn hk
    generalize clampF x 0 4607182418800017408 = y at *
    refine ⟨note_down hs h, ?_⟩
    by_cases he : s ≤ y
    · obtain rfl : s = y := by omega
      exact Nat.le_trans (note_down hs (Nat.le_refl _)) (note_up hs (Nat.le_refl _))
    · exact note_more_down he (by decide)

set_option maxHeartbeats 8000000 in
set_option maxRecDepth 100000 in
theorem rises_any (l : List (Nat × Nat)) (v0 v1 v2 v3 : Value) (w : World) (h : PsAt w v2 l) :
    Calls Try.prog 7 #[.agg #[v0, v1, v2, v3]] w fun e w' => e = .returned (.bool true) ∧ Below w.heap.size w w' := by
  have HU := Lib.hid h
  obtain ⟨A0, c0, rfl, hlen0, hlt0, _⟩ := h
  have HL0 := Lib.hid hlt0
  have hll : l.length < 9223372036854775808 := by unfold maxLen at hlen0; omega
  obtain ⟨n, hn⟩ : ∃ n, n = 9221120237041090561 := ⟨_, rfl⟩
  have HNO := Lib.hid (fun W => none_any n hn W)
  have HOK := Lib.hid (show okH n 0 = true ∧ n < 18446744073709551616 by rw [hn]; exact ⟨by decide, by decide⟩)
  have HSA := Lib.hid (SAt.new w v0 v1 (.slice A0 l.length c0) v3)
  have HBA := Lib.hid ((Below.refl _ w).alloc (Nat.le_refl _) (.cells #[v0, v1, (.slice A0 l.length c0), v3] 26))
  have hst := store_float
  have H3 := Lib.hid (fun W => num_any 0 W)
  unfold hV at HNO
  clear hn hlen0 hlt0
  go_enter Try.func7, Try.ntmps7
  go_wp2_with fail
  refine Calls.mono (HNO.out _) ?_
  rintro e w1 ⟨rfl, hb1⟩
  have HS1 := Lib.hid (HSA.out.later hb1)
  have HB1 := Lib.hid (HBA.out.trans (hb1.mono (by simp)))
  have hs1 : w.heap.size < w1.heap.size := HS1.out.lt
  clear hb1 HSA HBA HNO
  have HSn := Lib.hid (HS1.out.alloc (.cells #[.float .f64 n, .int .i64 0] 30))
  have HHn := Lib.hid (HAt.new w1 n 0)
  have HBn := Lib.hid (HB1.out.alloc HB1.out.size (.cells #[.float .f64 n, .int .i64 0] 30))
  go_wp2_with fail
  generalize hg1 : w1.heap.size = B at *
  generalize (w1.alloc (.cells #[.float .f64 n, .int .i64 0] 30)) = w2 at *
  clear HB1 HS1 hg1
  go_loopw [4] (fun iv wr => ∃ (i : Nat) (s : Nat) (c : Int), iv = .int .i64 i ∧ i ≤ l.length ∧ i ≤ 20 ∧ HAt wr B s c ∧ okH s c = true ∧ s < 18446744073709551616 ∧ SAt wr w.heap.size v0 v1 (.slice A0 l.length c0) v3 ∧ Below w.heap.size w wr) (fun iv _ => 21 - (intOf iv).toNat)
  case atStart => exact ⟨0, n, 0, rfl, Nat.zero_le _, Nat.zero_le _, HHn.out, HOK.out.1, HOK.out.2, HSn.out, HBn.out⟩
  case round =>
    obtain ⟨i, s, c, rfl, hil, hi20, hH, hq, hs, hS, hb⟩ := hrel
    have HB := Lib.hid hb
    have HH := Lib.hid hH
    have HS := Lib.hid hS
    have HQ := Lib.hid hq
    have q2 := hS.c2
    have m0 := hH.c0
    have m1 := hH.c1
    have hBl := hH.lt
    clear hb hH hS hq HSn HHn HBn
    by_cases hin : i < l.length ∧ i < 20
    · have hlti : (i : Int) < (l.length : Int) := by omega
      have h20i : (i : Int) < 20 := by omega
      obtain ⟨b, o, hA, hc1, hc2⟩ := HU.out.cell hin.1 rfl HB.out
      have hx := (HL0.out _ (List.getElem_mem hin.1)).1
      generalize (l[i]'hin.1).1 = x at *
      generalize (l[i]'hin.1).2 = x2 at *
      subst hA
      have hf := run_from x
      have HN1 := Lib.hid (fun W => note_any s c x 4598175219545276416 W hs hx (by decide))
      have HN2 := Lib.hid (fun W => note_any s c x 4602678819172646912 W hs hx (by decide))
      rw [endN_ok HQ.out (by decide)] at HN1 HN2
      have HK := Lib.hid (next_ok (u := 4598175219545276416) hs hx HQ.out)
      unfold hV at HN1 HN2
      have HF := Lib.hid (fun (h1 : nanF x = false) (h2 : c ≠ 0) => rises_facts (a := nextS s c x 4598175219545276416) (b := nextS s c x 4602678819172646912) (okH_pos HQ.out h2).2.2 hx h1 h2 rfl rfl)
      have HP := Lib.hid (fun (h2 : c ≠ 0) => okH_pos HQ.out h2)
      have HC0 := Lib.hid (show 0 ≤ c by
        by_cases h2 : c = 0
        · omega
        · have := (okH_pos HQ.out h2).1
          omega)
      generalize nextS s c x 4598175219545276416 = a at *
      generalize nextS s c x 4602678819172646912 = bb at *
      generalize nextC c x = d at *
      have hne : ((0 : Int) != 0) = false := rfl
      go_wp2_with fail
      refine Calls.mono (HN1.out _) ?_
      rintro e w3 ⟨rfl, hb3⟩
      have HH3 := Lib.hid (HH.out.later hb3)
      have HS3 := Lib.hid (HS.out.later hb3)
      have HB3 := Lib.hid (HB.out.trans (hb3.mono HB.out.size))
      have HA3 := Lib.hid (HAt.new w3 a d)
      have g0 := HH3.out.c0
      have g1 := HH3.out.c1
      have hB3 := HH3.out.lt
      clear hb3 m0 m1 q2 hc1 hc2 HN1
      go_wp2_with fail
      refine Calls.mono (HN2.out _) ?_
      rintro e w4 ⟨rfl, hb4⟩
      have HH4 := Lib.hid ((HH3.out.alloc (.cells #[.float .f64 a, .int .i64 d] 30)).later hb4)
      have HS4 := Lib.hid ((HS3.out.alloc (.cells #[.float .f64 a, .int .i64 d] 30)).later hb4)
      have HB4 := Lib.hid ((HB3.out.alloc HB3.out.size (.cells #[.float .f64 a, .int .i64 d] 30)).trans (hb4.mono (by have := HB3.out.size; simp; omega)))
      have HA4 := Lib.hid (HA3.out.later hb4)
      have e0 := HH4.out.c0
      have e1 := HH4.out.c1
      have e2 := HH4.out.fz 0
      have e3 := HH4.out.fz 1
      have a0 := HA4.out.c0
      have a1 := HA4.out.c1
      have hB4 := HH4.out.lt
      have hA4 := HA4.out.lt
      have hszw : w.heap.size < w3.heap.size := HS3.out.lt
      have HHE := Lib.hid ((HH4.out.set a d).alloc (.cells #[.float .f64 bb, .int .i64 d] 30))
      have HSE := Lib.hid (((HS4.out.other (a := ⟨B, 0, none⟩) (Nat.ne_of_lt hs1) (.float .f64 a)).other (a := ⟨B, 1, none⟩) (Nat.ne_of_lt hs1) (.int .i64 d)).alloc (.cells #[.float .f64 bb, .int .i64 d] 30))
      have HBE := Lib.hid (((HB4.out.setCell (p := ⟨B, 0, none⟩) (Nat.le_of_lt hs1) (.float .f64 a)).setCell (p := ⟨B, 1, none⟩) (Nat.le_of_lt hs1) (.int .i64 d)).alloc (by have := HB4.out.size; simpa [World.setCell] using this) (.cells #[.float .f64 bb, .int .i64 d] 30))
      clear hb4 g0 g1 HN2
      go_wp2_with fail
      refine Calls.mono (H3.out _) ?_
      rintro e w' ⟨rfl, he⟩
      have he := he.symm
      subst he
      go_wp2_with fail
      refine Calls.mono (H3.out _) ?_
      rintro e w' ⟨rfl, he⟩
      have he := he.symm
      subst he
      have hxx := ord_eq x
      cases hnx : nanF x with
      | true =>
        rw [hnx] at hxx
        go_wp2_with fail
        exact ⟨⟨i + 1, a, d, by go_num, by omega, by omega, HHE.out, HK.out.1, HK.out.2, HSE.out, HBE.out⟩, by simp [intOf]; omega⟩
      | false =>
        rw [hnx] at hxx
        by_cases hc : c = 0
        · subst hc
          go_wp2_with fail
          exact ⟨⟨i + 1, a, d, by go_num, by omega, by omega, HHE.out, HK.out.1, HK.out.2, HSE.out, HBE.out⟩, by simp [intOf]; omega⟩
        · have hcp : 0 < c := (HP.out hc).1
          have hs1' := (HP.out hc).2.2
          obtain ⟨ha1, hb1, hup, hdn⟩ := HF.out hnx hc
          have o1 := ord_gt x s
          have o2 := ord_eq2 x s
          have o3 := ord_lt x s
          rw [hnx, (unit_in hs1').2.2.2.2] at o1 o2 o3
          simp only [Bool.not_false, Bool.true_and] at o1 o2 o3
          have p1 := unit_lt ha1 hs1'
          have p2 := unit_lt hb1 ha1
          have p3 := unit_gt ha1 hs1'
          have p4 := unit_gt hb1 ha1
          rcases Int.lt_trichotomy (keyF x) (keyF s) with hk | hk | hk
          · obtain ⟨k1, k2⟩ := hdn (by omega)
            rw [decide_eq_false (by omega)] at o1 o2
            rw [decide_eq_true hk] at o3
            rw [decide_eq_false (by omega)] at p3 p4
            clear hk k1 k2 hup hdn ha1 hb1 hs1' p1 p2 hc
            go_wp2_with fail
            exact ⟨⟨i + 1, a, d, by go_num, by omega, by omega, HHE.out, HK.out.1, HK.out.2, HSE.out, HBE.out⟩, by simp [intOf]; omega⟩
          · obtain ⟨k1, k2⟩ := hdn (by omega)
            obtain ⟨k3, k4⟩ := hup (by omega)
            rw [decide_eq_false (by omega)] at o1 o3
            rw [decide_eq_true (by omega)] at o2
            rw [decide_eq_false (by omega)] at p1 p2 p3 p4
            clear hk k1 k2 k3 k4 hup hdn ha1 hb1 hs1' hc
            go_wp2_with fail
            exact ⟨⟨i + 1, a, d, by go_num, by omega, by omega, HHE.out, HK.out.1, HK.out.2, HSE.out, HBE.out⟩, by simp [intOf]; omega⟩
          · obtain ⟨k3, k4⟩ := hup (by omega)
            rw [decide_eq_false (by omega)] at o2 o3
            rw [decide_eq_true hk] at o1
            rw [decide_eq_false (by omega)] at p1 p2
            clear hk k3 k4 hup hdn ha1 hb1 hs1' p3 p4 hc
            go_wp2_with fail
            exact ⟨⟨i + 1, a, d, by go_num, by omega, by omega, HHE.out, HK.out.1, HK.out.2, HSE.out, HBE.out⟩, by simp [intOf]; omega⟩
    have HW := Lib.hid (wakes_any wr)
    have hszr := HB.out.size
    by_cases hlt : i < l.length
    · have hlti : (i : Int) < (l.length : Int) := by omega
      have h20i : decide ((i : Int) < 20) = false := decide_eq_false (by omega)
      go_wp2_with fail
      refine Calls.mono HW.out ?_
      rintro e w6 ⟨rfl, hb⟩
      have HB3 := Lib.hid (HB.out.trans (hb.mono hszr))
      clear hb
      go_wp2_with fail
      go_ret
      exact ⟨rfl, HB3.out⟩
    · have hlti : decide ((i : Int) < (l.length : Int)) = false := decide_eq_false (by omega)
      go_wp2_with fail
      refine Calls.mono HW.out ?_
      rintro e w6 ⟨rfl, hb⟩
      have HB3 := Lib.hid (HB.out.trans (hb.mono hszr))
      clear hb
      go_wp2_with fail
      go_ret
      exact ⟨rfl, HB3.out⟩
end Go.Proofs.Ythkgahdnjhjobaa

/-
  BucketExact: the statement's own walk.
  Conditions: as the theorem states them: the argument lies in memory.
-/
import Derived.Test.YtcnkejndblcbhaaXNew
import Derived.Test.YtcnkejndblcbhaaXTake
import Derived.Test.YtcnkejndblcbhaaXWait
import Derived.Test.YtcnkejndblcbhaaXPass
import Derived.Deep.CutRange
import Derived.Deep.DeepCutAuto
import Derived.WalkSmall
import Derived.BigRegion
import Derived.Deep.RegionHeld3
namespace Go.Proofs.Ytcnkejndblcbhaa
open Go.RowKit

set_option maxHeartbeats 8000000 in
set_option maxRecDepth 100000 in
theorem exact_any (b : BI) (v : Value) (l : List F4) (w : World) (h : FsAt w v l) :
    Calls Try.prog 3 #[.agg #[.int .i64 b.l, .int .i64 b.c, .int .i64 b.f, .int .i64 b.e, .int .i64 b.d, v]] w fun e w' => e = .returned (.bool true) ∧ Below w.heap.size w w' := by
  have HU := Lib.hid h
  obtain ⟨A0, cp, rfl, hlen0, _, _⟩ := h
  have hll : l.length < 9223372036854775808 := by unfold maxLen at hlen0; omega
  clear hlen0
  obtain ⟨W, hW⟩ : ∃ W, w.alloc (.cells #[.int .i64 b.l, .int .i64 b.c, .int .i64 b.f, .int .i64 b.e, .int .i64 b.d, .slice A0 l.length cp] 26) = W := ⟨_, rfl⟩
  have HS := Lib.hid (show SAt W w.heap.size b (.slice A0 l.length cp) by rw [← hW]; exact SAt.new w b _)
  have HA := Lib.hid (show Below w.heap.size w W by rw [← hW]; exact (Below.refl _ w).alloc (Nat.le_refl _) _)
  have H0 := Lib.hid (fun X => num_any 0 X)
  have H1 := Lib.hid (fun X => num_any 1 X)
  have H9 := Lib.hid (fun X => num_any 9 X)
  have HWI := Lib.hid (fun (i : Int) X => lWithin_any i 6 X (by decide) (by decide))
  have p0 := HS.out.c0
  have p1 := HS.out.c1
  have p2 := HS.out.c2
  have p3 := HS.out.c3
  have p4 := HS.out.c4
  have p5 := HS.out.c5
  have plt := HS.out.lt
  by_cases h300 : l.length ≤ 300
  · have hl300 : ¬ (300 : Int) < (l.length : Int) := by omega
    go_enter Try.func3, Try.ntmps3
    go_wp2_with fail
    have HSn := Lib.hid (HS.out.alloc (.cells #[.int .i64 b.l, .int .i64 b.c, .int .i64 b.f, .int .i64 b.e, .int .i64 b.d] 23))
    have HBn := Lib.hid (HA.out.alloc HA.out.size (.cells #[.int .i64 b.l, .int .i64 b.c, .int .i64 b.f, .int .i64 b.e, .int .i64 b.d] 23))
    have HCn := Lib.hid (BAt.new W b)
    clear HS HA hW
    clear p0 p1 p2 p3 p4 p5
    generalize W.heap.size = B at *
    generalize (W.alloc (.cells #[.int .i64 b.l, .int .i64 b.c, .int .i64 b.f, .int .i64 b.e, .int .i64 b.d] 23)) = w1 at *
    go_loopw [4] (fun iv wr => ∃ (i : Nat) (a : BI), iv = .int .i64 i ∧ i ≤ l.length ∧ i ≤ 40 ∧ BAt wr B a ∧ SAt wr w.heap.size b (.slice A0 l.length cp) ∧ Below w.heap.size w wr) (fun iv _ => 41 - (intOf iv).toNat)
    case atStart => exact ⟨0, b, rfl, Nat.zero_le _, Nat.zero_le _, HCn.out, HSn.out, HBn.out⟩
    case round =>
      obtain ⟨i, a, rfl, hil, hi40, hC, hS, hb⟩ := hrel
      have HB := Lib.hid hb
      have HS := Lib.hid hS
      have HC := Lib.hid hC
      clear hb hS hC HSn HBn HCn
      by_cases hin : i < l.length ∧ i < 40
      · have hlti : (i : Int) < (l.length : Int) := by omega
        have h40i : (i : Int) < 40 := by omega
        have HV := Lib.hid (fun X => rBucket_any a X)
        have HK := Lib.hid (fun X => check_any a X)
        unfold bV at HV HK
        have p5 := HS.out.c5
        have plt1 := HS.out.lt
        have c0 := HC.out.c0
        have c1 := HC.out.c1
        have c2 := HC.out.c2
        have c3 := HC.out.c3
        have c4 := HC.out.c4
        have hBl := HC.out.lt
        obtain ⟨q, hq⟩ : ∃ q, okB a = q := ⟨_, rfl⟩
        rw [hq] at HV HK
        have HOK := Lib.hid hq
        clear hq
        go_wp2_with fail
        refine Calls.mono (HV.out _) ?_
        rintro e w2 ⟨rfl, hb2⟩
        have HC2 := Lib.hid (HC.out.later hb2)
        have HS2 := Lib.hid (HS.out.later hb2)
        have HB2 := Lib.hid (HB.out.trans (hb2.mono HB.out.size))
        clear hb2 HV HC HS HB p5 plt1 hBl
        clear c0 c1 c2 c3 c4
        have c0 := HC2.out.c0
        have c1 := HC2.out.c1
        have c2 := HC2.out.c2
        have c3 := HC2.out.c3
        have c4 := HC2.out.c4
        go_wp2_with fail
        refine Calls.mono (HK.out _) ?_
        rintro e w3 ⟨rfl, hb3⟩
        have HC3 := Lib.hid (HC2.out.later hb3)
        have HS3 := Lib.hid (HS2.out.later hb3)
        have HB3 := Lib.hid (HB2.out.trans (hb3.mono HB2.out.size))
        clear hb3 HK HC2 HS2 HB2
        clear c0 c1 c2 c3 c4
        have HNE := Lib.hid (fun X => num_any (errN q) X)
        go_wp2_with fail
        refine Calls.mono (HNE.out _) ?_
        rintro e w' ⟨rfl, he⟩
        have he := he.symm
        subst he
        go_upto_region 9 with (fail)
        go_cut [58] (fun tv wc => tv = .bool false ∧ w3 = wc)
        case first =>
          cases q with
          | true =>
            rw [show errN true = 0 from rfl]
            go_wp2_with fail
            go_meet
            case rel => exact ⟨rfl, rfl⟩
          | false =>
            rw [show errN false = 1 from rfl]
            go_wp2_with fail
            go_meet
            case rel => exact ⟨rfl, rfl⟩
        case rest =>
          obtain ⟨rfl, rfl⟩ := hcut
          clear HNE
          generalize errN q = qe at *
          have p5 := HS3.out.c5
          have plt3 := HS3.out.lt
          obtain ⟨kb, o, x, hA, _, hkw, hc0, hc1, hc2, hc3⟩ := HU.out.cell hin.1 rfl HB3.out
          subst hA
          have hkb : kb < w3.heap.size := Nat.lt_of_lt_of_le hkw HB3.out.size
          have hi0 : (0 : Int) ≤ (i : Int) := by omega
          have HNU := Lib.hid (fun X => rNum_any x.b 1048576 X)
          obtain ⟨q2, hq2⟩ : ∃ q2, inB x.b 0 1048576 = q2 := ⟨_, rfl⟩
          rw [hq2] at HNU
          have HIN := Lib.hid hq2
          clear hq2
          go_upto_region 12 with (fail)
          go_cut [8] (fun sv wc => sv = .bool (q && q2) ∧ w3 = wc)
          case first =>
            cases q with
            | true =>
              go_wp2_with fail
              refine Calls.mono (HNU.out _) ?_
              rintro e w' ⟨rfl, he⟩
              have he := he.symm
              subst he
              go_wp2_with fail
              go_meet
              case rel => exact ⟨rfl, rfl⟩
            | false =>
              go_wp2_with fail
              go_meet
              case rel => exact ⟨rfl, rfl⟩
          case rest =>
            obtain ⟨rfl, rfl⟩ := hcut
            clear HNU
            obtain ⟨s, hs⟩ : ∃ s, (q && q2) = s := ⟨_, rfl⟩
            rw [hs]
            have HSQ := Lib.hid (show (okB a && inB x.b 0 1048576) = s by rw [HOK.out, HIN.out, hs])
            clear hs
            go_wp2_with fail
            refine Calls.mono (HWI.out _ _) ?_
            rintro e w' ⟨rfl, he⟩
            have he := he.symm
            subst he
            obtain ⟨m0, m6⟩ := modI_in (i := x.a) (n := 6) (by decide)
            clear p5 hc0 hc1
            rcases (show modI x.a 6 = 0 ∨ (modI x.a 6 = 1 ∨ modI x.a 6 = 2) ∨ modI x.a 6 = 3 ∨ (modI x.a 6 = 4 ∨ modI x.a 6 = 5) by omega) with hm | hm | hm | hm
            · rw [hm]
              clear m0 m6 hm
              go_upto_if 108 with (fail)
              refine wp_cond_true rfl ?_
              refine new_case b a x l cp kb o i B q s w w3 _ _ _ _ _ _ _ _ _ _ _ _ _ _ _ _ _ _ _ _ _ _ _ _ _ _ _ _ _ _ _ _ _ _ _ _ _ _ _ _ _ _ _ _ _ _ _ _ _ _ _ _ _ _ _ _ _ _ _ _ _ _ _ _ _ _ _ _ _ _ _ _ _ _ _ _ _ _ _ _ _ _ _ _ _ _ _ _ _ _ _ _ _ _ _ _ _ _ _ _ _ _ _ _ _ _ _ _ _ _ _ _ _ _ _ _ _ _ _ _ _ _ _ _ _ _ _ _ _ _ _ _ _ _ _ _ _ _ _ _ _ _ _ _ _ _ _ _ _ _ _ _ _ _ _ _ _ _ _ _ _ _ _ _ _ _ _ _ _ _ _ _ _ _ _ _ _ _ _ _ _ _ _ _ _ _ _ _ _ _ _ _ _ _ _ _ _ _ _ _ _ _ _ _ _ _ _ _ _ _ _ _ _ _ _ _ _ _ _ _ _ _ _ _ _ (by kernel_rfl) HC3 HS3 HB3 plt HOK HSQ hll hlti hkb hc2 hc3 ?_
              intro _ _ _ _ _ _ _ _ _ _ _ _ _ _ _ _ _ _ _ _ _ _ _ _ _ _ _ _ _ _ _ _ _ _ _ _ _ _ _ _ _ _ _ _ _ _ _ _ _ _ _ _ _ _ _ _ _ _ _ _ _ _ _ _ _ _ _ _ _ _ _ _ _ _ _ _ _ _ _ _ _ _ _ _ _ _ _ _ _ _ _ _ _ _ _ _ _ _ _ _ _ _ _ _ _ _ _ _ _ _ _ _ _ _ _ _ _ _ _ _ _ _ _ _ _ _ _ _ _ _ _ _ _ _ _ _ _ _ _ _ _ _ _ _ _ _ _ _ _ _ _ _ _ _ _ _ _ _ _ _ _ _ _ _ _ _ _ _ _ _ _ _ _ _ _ _ _ _ _ _ _ _ _ _ _ _ _ _ _ _ _ _ _ _ _ _ _ _ _ _ _ _ _ _ _ _ _ _ _ _ _ _ _ _ a' w' h1 h2 h3
              have HE1 := Lib.hid h1
              have HE2 := Lib.hid h2
              have HE3 := Lib.hid h3
              clear h1 h2 h3
              go_wp2_with fail
              exact ⟨⟨i + 1, a', by go_num, by omega, by omega, HE1.out, HE2.out, HE3.out⟩, by simp [intOf]; omega⟩
            · have e0 : (modI x.a 6 == 0) = false := beq_eq_false_iff_ne.2 (by omega)
              obtain ⟨c1, e1, e2⟩ : ∃ c1, (modI x.a 6 == 1) = c1 ∧ (modI x.a 6 == 2) = !c1 := by
                rcases hm with hm | hm <;> rw [hm] <;> exact ⟨_, rfl, rfl⟩
              generalize modI x.a 6 = mt at *
              clear m0 m6 hm
              go_upto_if 168 with (fail)
              go_cut [168] (fun tv wc => tv = .bool true ∧ w3 = wc)
              case first =>
                cases c1 with
                | true =>
                  go_wp2_with fail
                  go_meet
                  case rel => exact ⟨rfl, rfl⟩
                | false =>
                  go_wp2_with fail
                  go_meet
                  case rel => exact ⟨rfl, rfl⟩
              case rest =>
                obtain ⟨rfl, rfl⟩ := hcut
                clear e0 e1 e2
                go_upto_if 168 with (fail)
                refine wp_cond_true rfl ?_
                refine take_case b a x l cp kb o i B q s w w3 _ _ _ _ _ _ _ _ _ _ _ _ _ _ _ _ _ _ _ _ _ _ _ _ _ _ _ _ _ _ _ _ _ _ _ _ _ _ _ _ _ _ _ _ _ _ _ _ _ _ _ _ _ _ _ _ _ _ _ _ _ _ _ _ _ _ _ _ _ _ _ _ _ _ _ _ _ _ _ _ _ _ _ _ _ _ _ _ _ _ _ _ _ _ _ _ _ _ _ _ _ _ _ _ _ _ _ _ _ _ _ _ _ _ _ _ _ _ _ _ _ _ _ _ _ _ _ _ _ _ _ _ _ _ _ _ _ _ _ _ _ _ _ _ _ _ _ _ _ _ _ _ _ _ _ _ _ _ _ _ _ _ _ _ _ _ _ _ _ _ _ _ _ _ _ _ _ _ _ _ _ _ _ _ _ _ _ _ _ _ _ _ _ _ _ _ _ _ _ _ _ _ _ _ _ _ _ _ _ _ _ _ _ _ _ _ _ _ _ _ _ _ _ _ _ (by kernel_rfl) HC3 HS3 HB3 plt HOK HSQ hll hlti hkb hc2 hc3 ?_
                intro _ _ _ _ _ _ _ _ _ _ _ _ _ _ _ _ _ _ _ _ _ _ _ _ _ _ _ _ _ _ _ _ _ _ _ _ _ _ _ _ _ _ _ _ _ _ _ _ _ _ _ _ _ _ _ _ _ _ _ _ _ _ _ _ _ _ _ _ _ _ _ _ _ _ _ _ _ _ _ _ _ _ _ _ _ _ _ _ _ _ _ _ _ _ _ _ _ _ _ _ _ _ _ _ _ _ _ _ _ _ _ _ _ _ _ _ _ _ _ _ _ _ _ _ _ _ _ _ _ _ _ _ _ _ _ _ _ _ _ _ _ _ _ _ _ _ _ _ _ _ _ _ _ _ _ _ _ _ _ _ _ _ _ _ _ _ _ _ _ _ _ _ _ _ _ _ _ _ _ _ _ _ _ _ _ _ _ _ _ _ _ _ _ _ _ _ _ _ _ _ _ _ _ _ _ _ _ _ _ _ _ _ _ _ a' w' h1 h2 h3
                have HE1 := Lib.hid h1
                have HE2 := Lib.hid h2
                have HE3 := Lib.hid h3
                clear h1 h2 h3
                go_wp2_with fail
                exact ⟨⟨i + 1, a', by go_num, by omega, by omega, HE1.out, HE2.out, HE3.out⟩, by simp [intOf]; omega⟩
            · rw [hm]
              clear m0 m6 hm
              go_upto_if 204 with (fail)
              refine wp_cond_true rfl ?_
              refine wait_case b a x l cp kb o i B q s w w3 _ _ _ _ _ _ _ _ _ _ _ _ _ _ _ _ _ _ _ _ _ _ _ _ _ _ _ _ _ _ _ _ _ _ _ _ _ _ _ _ _ _ _ _ _ _ _ _ _ _ _ _ _ _ _ _ _ _ _ _ _ _ _ _ _ _ _ _ _ _ _ _ _ _ _ _ _ _ _ _ _ _ _ _ _ _ _ _ _ _ _ _ _ _ _ _ _ _ _ _ _ _ _ _ _ _ _ _ _ _ _ _ _ _ _ _ _ _ _ _ _ _ _ _ _ _ _ _ _ _ _ _ _ _ _ _ _ _ _ _ _ _ _ _ _ _ _ _ _ _ _ _ _ _ _ _ _ _ _ _ _ _ _ _ _ _ _ _ _ _ _ _ _ _ _ _ _ _ _ _ _ _ _ _ _ _ _ _ _ _ _ _ _ _ _ _ _ _ _ _ _ _ _ _ _ _ _ _ _ _ _ _ _ _ _ _ _ _ _ _ _ _ _ _ _ (by kernel_rfl) HC3 HS3 HB3 plt HOK HSQ hll hlti hkb hc2 hc3 ?_
              intro _ _ _ _ _ _ _ _ _ _ _ _ _ _ _ _ _ _ _ _ _ _ _ _ _ _ _ _ _ _ _ _ _ _ _ _ _ _ _ _ _ _ _ _ _ _ _ _ _ _ _ _ _ _ _ _ _ _ _ _ _ _ _ _ _ _ _ _ _ _ _ _ _ _ _ _ _ _ _ _ _ _ _ _ _ _ _ _ _ _ _ _ _ _ _ _ _ _ _ _ _ _ _ _ _ _ _ _ _ _ _ _ _ _ _ _ _ _ _ _ _ _ _ _ _ _ _ _ _ _ _ _ _ _ _ _ _ _ _ _ _ _ _ _ _ _ _ _ _ _ _ _ _ _ _ _ _ _ _ _ _ _ _ _ _ _ _ _ _ _ _ _ _ _ _ _ _ _ _ _ _ _ _ _ _ _ _ _ _ _ _ _ _ _ _ _ _ _ _ _ _ _ _ _ _ _ _ _ _ _ _ _ _ _ a' w' h1 h2 h3
              have HE1 := Lib.hid h1
              have HE2 := Lib.hid h2
              have HE3 := Lib.hid h3
              clear h1 h2 h3
              go_wp2_with fail
              exact ⟨⟨i + 1, a', by go_num, by omega, by omega, HE1.out, HE2.out, HE3.out⟩, by simp [intOf]; omega⟩
            · have e0 : (modI x.a 6 == 0) = false := beq_eq_false_iff_ne.2 (by omega)
              have e1 : (modI x.a 6 == 1) = false := beq_eq_false_iff_ne.2 (by omega)
              have e2 : (modI x.a 6 == 2) = false := beq_eq_false_iff_ne.2 (by omega)
              have e3 : (modI x.a 6 == 3) = false := beq_eq_false_iff_ne.2 (by omega)
              generalize modI x.a 6 = mt at *
              clear m0 m6 hm
              go_upto_if 204 with (fail)
              refine wp_cond_false rfl ?_
              refine pass_case b a x l cp kb o i B q s w w3 _ _ _ _ _ _ _ _ _ _ _ _ _ _ _ _ _ _ _ _ _ _ _ _ _ _ _ _ _ _ _ _ _ _ _ _ _ _ _ _ _ _ _ _ _ _ _ _ _ _ _ _ _ _ _ _ _ _ _ _ _ _ _ _ _ _ _ _ _ _ _ _ _ _ _ _ _ _ _ _ _ _ _ _ _ _ _ _ _ _ _ _ _ _ _ _ _ _ _ _ _ _ _ _ _ _ _ _ _ _ _ _ _ _ _ _ _ _ _ _ _ _ _ _ _ _ _ _ _ _ _ _ _ _ _ _ _ _ _ _ _ _ _ _ _ _ _ _ _ _ _ _ _ _ _ _ _ _ _ _ _ _ _ _ _ _ _ _ _ _ _ _ _ _ _ _ _ _ _ _ _ _ _ _ _ _ _ _ _ _ _ _ _ _ _ _ _ _ _ _ _ _ _ _ _ _ _ _ _ _ _ _ _ _ _ _ _ _ _ _ _ _ _ _ _ (by kernel_rfl) HC3 HS3 HB3 plt HOK HSQ hll hlti hkb hc2 hc3 ?_
              intro _ _ _ _ _ _ _ _ _ _ _ _ _ _ _ _ _ _ _ _ _ _ _ _ _ _ _ _ _ _ _ _ _ _ _ _ _ _ _ _ _ _ _ _ _ _ _ _ _ _ _ _ _ _ _ _ _ _ _ _ _ _ _ _ _ _ _ _ _ _ _ _ _ _ _ _ _ _ _ _ _ _ _ _ _ _ _ _ _ _ _ _ _ _ _ _ _ _ _ _ _ _ _ _ _ _ _ _ _ _ _ _ _ _ _ _ _ _ _ _ _ _ _ _ _ _ _ _ _ _ _ _ _ _ _ _ _ _ _ _ _ _ _ _ _ _ _ _ _ _ _ _ _ _ _ _ _ _ _ _ _ _ _ _ _ _ _ _ _ _ _ _ _ _ _ _ _ _ _ _ _ _ _ _ _ _ _ _ _ _ _ _ _ _ _ _ _ _ _ _ _ _ _ _ _ _ _ _ _ _ _ _ _ _ a' w' h1 h2 h3
              have HE1 := Lib.hid h1
              have HE2 := Lib.hid h2
              have HE3 := Lib.hid h3
              clear h1 h2 h3
              go_wp2_with fail
              exact ⟨⟨i + 1, a', by go_num, by omega, by omega, HE1.out, HE2.out, HE3.out⟩, by simp [intOf]; omega⟩
      have HW := Lib.hid (wakes_any wr)
      have p5 := HS.out.c5
      by_cases hlt : i < l.length
      · have hlti : (i : Int) < (l.length : Int) := by omega
        have h40i : decide ((i : Int) < 40) = false := decide_eq_false (by omega)
        go_wp2_with fail
        refine Calls.mono HW.out ?_
        rintro e w6 ⟨rfl, hb⟩
        have HB3 := Lib.hid (HB.out.trans (hb.mono HB.out.size))
        clear hb
        go_wp2_with fail
        go_ret
        exact ⟨rfl, HB3.out⟩
      · have hlti : decide ((i : Int) < (l.length : Int)) = false := decide_eq_false (by omega)
        go_wp2_with fail
        refine Calls.mono HW.out ?_
        rintro e w6 ⟨rfl, hb⟩
        have HB3 := Lib.hid (HB.out.trans (hb.mono HB.out.size))
        clear hb
        go_wp2_with fail
        go_ret
        exact ⟨rfl, HB3.out⟩
  · have hl300 : (300 : Int) < (l.length : Int) := by omega
    go_enter Try.func3, Try.ntmps3
    go_wp2_with fail
    go_ret
    exact ⟨rfl, HA.out⟩
end Go.Proofs.Ytcnkejndblcbhaa

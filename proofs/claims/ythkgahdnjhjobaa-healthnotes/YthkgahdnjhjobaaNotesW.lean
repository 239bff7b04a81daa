/-
  HealthNotes: the statement's own walk.
  Conditions: as the theorem states them: the argument lies in memory.
-/
import Derived.Test.YthkgahdnjhjobaaHG
import Derived.Deep.CutRange
import Derived.Deep.DeepCutAuto
import Derived.Deep.RegionWith
import Derived.Deep.QuietTactic
import Derived.BigQuiet
import Derived.WalkSmall
namespace Go.Proofs.Ythkgahdnjhjobaa
open Go.RowKit

theorem HAt.drew {w : World} {b s : Nat} {c : Int} (h : HAt w b s c) : HAt w.drew b s c := h
theorem SAt.drew {w : World} {b : Nat} {p q r t : Value} (h : SAt w b p q r t) : SAt w.drew b p q r t := h
theorem HAt.drewN {w : World} {b s : Nat} {c : Int} (h : HAt w b s c) (n : Nat) : HAt (w.drewN n) b s c := h
theorem SAt.drewN {w : World} {b : Nat} {p q r t : Value} (h : SAt w b p q r t) (n : Nat) : SAt (w.drewN n) b p q r t := h
theorem eqH_self (s : Nat) (c : Int) : ((c == c) && eqF s s) = true := by rw [eq_self]; simp

set_option maxHeartbeats 8000000 in
set_option maxRecDepth 100000 in
theorem notes_any (a : Nat) (cn : Int) (l : List (Nat × Nat)) (v2 v3 : Value) (w : World) (ha : a < 18446744073709551616) (h : PsAt w v2 l) :
    Calls Try.prog 3 #[.agg #[.int .u64 (a : Int), .int .i64 cn, v2, v3]] w fun e w' => e = .returned (.bool true) ∧ Below w.heap.size w w' := by
  have HU := Lib.hid h
  obtain ⟨A0, c0, rfl, hlen0, hlt0, _⟩ := h
  have HL0 := Lib.hid hlt0
  have hll : l.length < 9223372036854775808 := by unfold maxLen at hlen0; omega
  have hst := store_float
  have hfa := run_from a
  clear hlen0 hlt0
  go_enter Try.func3, Try.ntmps3
  go_upto_region 1 with (fail)
  go_cut [3] (fun pv wc => pv = .pointer (some ⟨w.heap.size + 1, 0, none⟩) ∧ HAt wc (w.heap.size + 1) a cn ∧ SAt wc w.heap.size (.int .u64 (a : Int)) (.int .i64 cn) (.slice A0 l.length c0) v3 ∧ Below w.heap.size w wc)
  case first =>
    go_region_with (fail)
    all_goals
      go_wp2_with fail
      go_meet
      case rel => exact ⟨rfl, (HAt.new1 w _ a cn).drew, ((SAt.new w _ _ _ _).alloc _).drew, (((Below.refl _ w).alloc (Nat.le_refl _) _).alloc (by simp) _).drew⟩
  case rest =>
    obtain ⟨rfl, hH, hS, hB⟩ := hcut
    have HH0 := Lib.hid hH
    have HS0 := Lib.hid hS
    have HB0 := Lib.hid hB
    clear hH hS hB
    generalize wc = w2 at *
    obtain ⟨B, hBw⟩ : ∃ B, w.heap.size + 1 = B := ⟨_, rfl⟩
    have hs1 : w.heap.size < B := by omega
    rw [hBw] at HH0 ⊢
    clear hBw hfa
    go_wp2_with fail
    go_loopw [4] (fun iv wr => ∃ (i : Nat) (s : Nat) (c : Int), iv = .int .i64 i ∧ i ≤ l.length ∧ i ≤ 20 ∧ HAt wr B s c ∧ s < 18446744073709551616 ∧ SAt wr w.heap.size (.int .u64 (a : Int)) (.int .i64 cn) (.slice A0 l.length c0) v3 ∧ Below w.heap.size w wr) (fun iv _ => 21 - (intOf iv).toNat)
    case atStart => exact ⟨0, a, cn, rfl, Nat.zero_le _, Nat.zero_le _, HH0.out, ha, HS0.out, HB0.out⟩
    case round =>
      obtain ⟨i, s, c, rfl, hil, hi20, hH, hs, hS, hb⟩ := hrel
      have HB := Lib.hid hb
      have Hh := Lib.hid hH
      have Hp := Lib.hid hS
      clear hb hH hS HH0 HS0 HB0
      by_cases hin : i < l.length ∧ i < 20
      · have hlti : (i : Int) < (l.length : Int) := by omega
        have h20i : (i : Int) < 20 := by omega
        have hx := (HL0.out _ (List.getElem_mem hin.1)).1
        have hu := (HL0.out _ (List.getElem_mem hin.1)).2
        have HCL := Lib.hid (fun W (hW : Below w.heap.size w W) => HU.out.cell hin.1 rfl hW)
        generalize (l[i]'hin.1).1 = x at *
        generalize (l[i]'hin.1).2 = u at *
        obtain ⟨b, o, hA, _⟩ := HCL.out _ HB.out
        subst hA
        have HCI : Hid (∀ W, Below w.heap.size w W → W.cell? ⟨b, o + i * 2, none⟩ = some (.int .u64 (x : Int)) ∧ W.cell? ⟨b, o + i * 2 + 1, none⟩ = some (.int .u64 (u : Int))) := Lib.hid (fun W hW => by
          obtain ⟨b', o', hA, h1, h2⟩ := HCL.out W hW
          cases hA
          exact ⟨h1, h2⟩)
        clear HCL
        have hf1 := run_from x
        have hf2 := run_from u
        have HRH := Lib.hid (fun W => rHealth_any s c W hs)
        have HCK := Lib.hid (fun W => check_any s c W hs)
        have HNT := Lib.hid (fun W => note_any s c x u W hs hx hu)
        have HMN := Lib.hid (fun W => mayNote_any s c u W hs hu)
        have HRN := Lib.hid (fun (h1 : okH s c = true) (h2 : okW u = true) W => rNote_any s c x u W hx h1 h2)
        have HNX := Lib.hid (fun (h : okH s c = true) => (next_ok (u := u) hs hx h).2)
        have HEN := Lib.hid (fun (h1 : okH s c = true) (h2 : okW u = true) => endN_ok (x := x) h1 h2)
        have HEB := Lib.hid (fun (h : (okH s c && okW u) = false) => endN_bad (x := x) h)
        have HEQ := Lib.hid (fun s' c' W => eqHealth_any s' s' c' c' W)
        simp only [eqH_self] at HEQ
        have HN0 := Lib.hid (fun W => num_any 0 W)
        have HN1 := Lib.hid (fun W => num_any 1 W)
        unfold hV at HRH HCK HNT HMN HRN HEN HEB HEQ
        clear hx hu hin
        have hp2 := Hp.out.c2
        have hh0 := Hh.out.c0
        have hh1 := Hh.out.c1
        cases hq : okH s c with
        | true =>
          rw [hq] at HRH HCK HMN
          cases hw : okW u with
          | true =>
            rw [hw] at HMN
            rw [HEN.out hq hw] at HNT
            have HRN := Lib.hid (HRN.out hq hw)
            have HNX := Lib.hid (HNX.out hq)
            clear HEN HEB HN1
            generalize nextS s c x u = t at *
            generalize nextC c x = d at *
            have HEQ := Lib.hid (HEQ.out t d)
            clear hq hw
            go_wp2_with fail
            refine Calls.mono (HRH.out _) ?_
            rintro e w11 ⟨rfl, hb11⟩
            have Hh11 := Lib.hid (Hh.out.later hb11)
            have Hp11 := Lib.hid (Hp.out.later hb11)
            have HB11 := Lib.hid (HB.out.trans (hb11.mono HB.out.size))
            clear hb11
            clear hp2 hh0 hh1
            have eh11c0 := Hh11.out.c0
            have eh11c1 := Hh11.out.c1
            have eh11l := Hh11.out.lt
            have ep11c0 := Hp11.out.c0
            have ep11c1 := Hp11.out.c1
            have ep11c2 := Hp11.out.c2
            have ep11l := Hp11.out.lt
            go_wp2_with fail
            refine Calls.mono (HCK.out _) ?_
            rintro e w12 ⟨rfl, hb12⟩
            have Hh12 := Lib.hid (Hh11.out.later hb12)
            have Hp12 := Lib.hid (Hp11.out.later hb12)
            have HB12 := Lib.hid (HB11.out.trans (hb12.mono HB11.out.size))
            clear hb12
            clear eh11c0 eh11c1 eh11l ep11c0 ep11c1 ep11c2 ep11l
            have eh12c0 := Hh12.out.c0
            have eh12c1 := Hh12.out.c1
            have eh12l := Hh12.out.lt
            have ep12c0 := Hp12.out.c0
            have ep12c1 := Hp12.out.c1
            have ep12c2 := Hp12.out.c2
            have ep12l := Hp12.out.lt
            go_wp2_with fail
            refine Calls.mono (HN0.out _) ?_
            rintro e w' ⟨rfl, he⟩
            have he := he.symm
            subst he
            have hcx := (HCI.out w12 HB12.out).1
            have hcu := (HCI.out w12 HB12.out).2
            go_wp2_with fail
            go_quiet (fail)
            have Hh13 := Lib.hid (Hh12.out.drewN nq)
            have Hp13 := Lib.hid (Hp12.out.drewN nq)
            have HB13 := Lib.hid (below_drewN HB12.out nq)
            generalize (w12.drewN nq) = w13 at *
            clear hcx hcu
            clear eh12c0 eh12c1 eh12l ep12c0 ep12c1 ep12c2 ep12l
            have eh13c0 := Hh13.out.c0
            have eh13c1 := Hh13.out.c1
            have eh13l := Hh13.out.lt
            go_wp2_with fail
            refine Calls.mono (HNT.out _) ?_
            rintro e w14 ⟨rfl, hb14⟩
            have Hh14 := Lib.hid (Hh13.out.later hb14)
            have Hp14 := Lib.hid (Hp13.out.later hb14)
            have HB14 := Lib.hid (HB13.out.trans (hb14.mono HB13.out.size))
            clear hb14
            clear eh13c0 eh13c1 eh13l
            have eh14c0 := Hh14.out.c0
            have eh14c1 := Hh14.out.c1
            have eh14l := Hh14.out.lt
            have Hg14 := Lib.hid (HAt.new w14 t d)
            go_wp2_with fail
            refine Calls.mono (HMN.out _) ?_
            rintro e w15 ⟨rfl, hb15⟩
            have Hh15 := Lib.hid ((Hh14.out.alloc (.cells #[.float .f64 t, .int .i64 d] 30)).later hb15)
            have Hp15 := Lib.hid ((Hp14.out.alloc (.cells #[.float .f64 t, .int .i64 d] 30)).later hb15)
            have Hg15 := Lib.hid (Hg14.out.later hb15)
            have HBa15 := Lib.hid (HB14.out.alloc HB14.out.size (.cells #[.float .f64 t, .int .i64 d] 30))
            have HB15 := Lib.hid (HBa15.out.trans (hb15.mono HBa15.out.size))
            clear hb15
            clear eh14c0 eh14c1 eh14l
            have eh15c0 := Hh15.out.c0
            have eh15c1 := Hh15.out.c1
            have eh15l := Hh15.out.lt
            go_wp2_with fail
            refine Calls.mono (HRN.out _) ?_
            rintro e w16 ⟨rfl, hb16⟩
            have Hh16 := Lib.hid (Hh15.out.later hb16)
            have Hp16 := Lib.hid (Hp15.out.later hb16)
            have Hg16 := Lib.hid (Hg15.out.later hb16)
            have HB16 := Lib.hid (HB15.out.trans (hb16.mono HB15.out.size))
            clear hb16
            clear eh15c0 eh15c1 eh15l
            have eg16c0 := Hg16.out.c0
            have eg16c1 := Hg16.out.c1
            have eg16l := Hg16.out.lt
            have Hk16 := Lib.hid (HAt.new w16 t d)
            go_wp2_with fail
            refine Calls.mono (HN0.out _) ?_
            rintro e w' ⟨rfl, he⟩
            have he := he.symm
            subst he
            go_wp2_with fail
            refine Calls.mono (HEQ.out _) ?_
            rintro e w17 ⟨rfl, hb17⟩
            have Hh17 := Lib.hid ((Hh16.out.alloc (.cells #[.float .f64 t, .int .i64 d] 30)).later hb17)
            have Hp17 := Lib.hid ((Hp16.out.alloc (.cells #[.float .f64 t, .int .i64 d] 30)).later hb17)
            have Hg17 := Lib.hid ((Hg16.out.alloc (.cells #[.float .f64 t, .int .i64 d] 30)).later hb17)
            have Hk17 := Lib.hid (Hk16.out.later hb17)
            have HBa17 := Lib.hid (HB16.out.alloc HB16.out.size (.cells #[.float .f64 t, .int .i64 d] 30))
            have HB17 := Lib.hid (HBa17.out.trans (hb17.mono HBa17.out.size))
            clear hb17
            clear eg16c0 eg16c1 eg16l
            have ek17c0 := Hk17.out.c0
            have ek17c1 := Hk17.out.c1
            have ek17l := Hk17.out.lt
            have eh17c0 := Hh17.out.c0
            have eh17z0 := Hh17.out.fz 0
            have eh17c1 := Hh17.out.c1
            have eh17z1 := Hh17.out.fz 1
            have eh17l := Hh17.out.lt
            have HhE := Lib.hid (Hh17.out.set t d)
            have HpE := Lib.hid ((Hp17.out.other (a := ⟨B, 0, none⟩) (Nat.ne_of_lt hs1) (.float .f64 t)).other (a := ⟨B, 1, none⟩) (Nat.ne_of_lt hs1) (.int .i64 d))
            have HBE := Lib.hid ((HB17.out.setCell (p := ⟨B, 0, none⟩) (Nat.le_of_lt hs1) (.float .f64 t)).setCell (p := ⟨B, 1, none⟩) (Nat.le_of_lt hs1) (.int .i64 d))
            go_wp2_with fail
            exact ⟨⟨i + 1, t, d, by go_num, by omega, by omega, HhE.out, HNX.out, HpE.out, HBE.out⟩, by simp [intOf]; omega⟩
          | false =>
            rw [hw] at HMN
            rw [HEB.out (by rw [hw, Bool.and_false])] at HNT
            clear HEN HEB HRN HNX HEQ hq hw
            go_wp2_with fail
            refine Calls.mono (HRH.out _) ?_
            rintro e w11 ⟨rfl, hb11⟩
            have Hh11 := Lib.hid (Hh.out.later hb11)
            have Hp11 := Lib.hid (Hp.out.later hb11)
            have HB11 := Lib.hid (HB.out.trans (hb11.mono HB.out.size))
            clear hb11
            clear hp2 hh0 hh1
            have eh11c0 := Hh11.out.c0
            have eh11c1 := Hh11.out.c1
            have eh11l := Hh11.out.lt
            have ep11c0 := Hp11.out.c0
            have ep11c1 := Hp11.out.c1
            have ep11c2 := Hp11.out.c2
            have ep11l := Hp11.out.lt
            go_wp2_with fail
            refine Calls.mono (HCK.out _) ?_
            rintro e w12 ⟨rfl, hb12⟩
            have Hh12 := Lib.hid (Hh11.out.later hb12)
            have Hp12 := Lib.hid (Hp11.out.later hb12)
            have HB12 := Lib.hid (HB11.out.trans (hb12.mono HB11.out.size))
            clear hb12
            clear eh11c0 eh11c1 eh11l ep11c0 ep11c1 ep11c2 ep11l
            have eh12c0 := Hh12.out.c0
            have eh12c1 := Hh12.out.c1
            have eh12l := Hh12.out.lt
            have ep12c0 := Hp12.out.c0
            have ep12c1 := Hp12.out.c1
            have ep12c2 := Hp12.out.c2
            have ep12l := Hp12.out.lt
            go_wp2_with fail
            refine Calls.mono (HN0.out _) ?_
            rintro e w' ⟨rfl, he⟩
            have he := he.symm
            subst he
            have hcx := (HCI.out w12 HB12.out).1
            have hcu := (HCI.out w12 HB12.out).2
            go_wp2_with fail
            go_quiet (fail)
            have Hh13 := Lib.hid (Hh12.out.drewN nq)
            have Hp13 := Lib.hid (Hp12.out.drewN nq)
            have HB13 := Lib.hid (below_drewN HB12.out nq)
            generalize (w12.drewN nq) = w13 at *
            clear hcx hcu
            clear eh12c0 eh12c1 eh12l ep12c0 ep12c1 ep12c2 ep12l
            have eh13c0 := Hh13.out.c0
            have eh13c1 := Hh13.out.c1
            have eh13l := Hh13.out.lt
            go_wp2_with fail
            refine Calls.mono (HNT.out _) ?_
            rintro e w14 ⟨rfl, hb14⟩
            have Hh14 := Lib.hid (Hh13.out.later hb14)
            have Hp14 := Lib.hid (Hp13.out.later hb14)
            have HB14 := Lib.hid (HB13.out.trans (hb14.mono HB13.out.size))
            clear hb14
            clear eh13c0 eh13c1 eh13l
            have eh14c0 := Hh14.out.c0
            have eh14c1 := Hh14.out.c1
            have eh14l := Hh14.out.lt
            have Hg14 := Lib.hid (HAt.new w14 0 0)
            go_wp2_with fail
            refine Calls.mono (HMN.out _) ?_
            rintro e w15 ⟨rfl, hb15⟩
            have Hh15 := Lib.hid ((Hh14.out.alloc (.cells #[.float .f64 0, .int .i64 0] 30)).later hb15)
            have Hp15 := Lib.hid ((Hp14.out.alloc (.cells #[.float .f64 0, .int .i64 0] 30)).later hb15)
            have Hg15 := Lib.hid (Hg14.out.later hb15)
            have HBa15 := Lib.hid (HB14.out.alloc HB14.out.size (.cells #[.float .f64 0, .int .i64 0] 30))
            have HB15 := Lib.hid (HBa15.out.trans (hb15.mono HBa15.out.size))
            clear hb15
            clear eh14c0 eh14c1 eh14l
            go_wp2_with fail
            refine Calls.mono (HN1.out _) ?_
            rintro e w' ⟨rfl, he⟩
            have he := he.symm
            subst he
            go_wp2_with fail
            exact ⟨⟨i + 1, s, c, by go_num, by omega, by omega, Hh15.out, hs, Hp15.out, HB15.out⟩, by simp [intOf]; omega⟩
        | false =>
          rw [hq, Bool.false_and] at HMN
          rw [hq] at HRH HCK
          rw [HEB.out (by rw [hq, Bool.false_and])] at HNT
          clear HEN HEB HRN HNX HEQ hq
          go_wp2_with fail
          refine Calls.mono (HRH.out _) ?_
          rintro e w11 ⟨rfl, hb11⟩
          have Hh11 := Lib.hid (Hh.out.later hb11)
          have Hp11 := Lib.hid (Hp.out.later hb11)
          have HB11 := Lib.hid (HB.out.trans (hb11.mono HB.out.size))
          clear hb11
          clear hp2 hh0 hh1
          have eh11c0 := Hh11.out.c0
          have eh11c1 := Hh11.out.c1
          have eh11l := Hh11.out.lt
          have ep11c0 := Hp11.out.c0
          have ep11c1 := Hp11.out.c1
          have ep11c2 := Hp11.out.c2
          have ep11l := Hp11.out.lt
          go_wp2_with fail
          refine Calls.mono (HCK.out _) ?_
          rintro e w12 ⟨rfl, hb12⟩
          have Hh12 := Lib.hid (Hh11.out.later hb12)
          have Hp12 := Lib.hid (Hp11.out.later hb12)
          have HB12 := Lib.hid (HB11.out.trans (hb12.mono HB11.out.size))
          clear hb12
          clear eh11c0 eh11c1 eh11l ep11c0 ep11c1 ep11c2 ep11l
          have eh12c0 := Hh12.out.c0
          have eh12c1 := Hh12.out.c1
          have eh12l := Hh12.out.lt
          have ep12c0 := Hp12.out.c0
          have ep12c1 := Hp12.out.c1
          have ep12c2 := Hp12.out.c2
          have ep12l := Hp12.out.lt
          go_wp2_with fail
          refine Calls.mono (HN1.out _) ?_
          rintro e w' ⟨rfl, he⟩
          have he := he.symm
          subst he
          have hcx := (HCI.out w12 HB12.out).1
          have hcu := (HCI.out w12 HB12.out).2
          go_wp2_with fail
          go_quiet (fail)
          have Hh13 := Lib.hid (Hh12.out.drewN nq)
          have Hp13 := Lib.hid (Hp12.out.drewN nq)
          have HB13 := Lib.hid (below_drewN HB12.out nq)
          generalize (w12.drewN nq) = w13 at *
          clear hcx hcu
          clear eh12c0 eh12c1 eh12l ep12c0 ep12c1 ep12c2 ep12l
          have eh13c0 := Hh13.out.c0
          have eh13c1 := Hh13.out.c1
          have eh13l := Hh13.out.lt
          go_wp2_with fail
          refine Calls.mono (HNT.out _) ?_
          rintro e w14 ⟨rfl, hb14⟩
          have Hh14 := Lib.hid (Hh13.out.later hb14)
          have Hp14 := Lib.hid (Hp13.out.later hb14)
          have HB14 := Lib.hid (HB13.out.trans (hb14.mono HB13.out.size))
          clear hb14
          clear eh13c0 eh13c1 eh13l
          have eh14c0 := Hh14.out.c0
          have eh14c1 := Hh14.out.c1
          have eh14l := Hh14.out.lt
          have Hg14 := Lib.hid (HAt.new w14 0 0)
          go_wp2_with fail
          refine Calls.mono (HMN.out _) ?_
          rintro e w15 ⟨rfl, hb15⟩
          have Hh15 := Lib.hid ((Hh14.out.alloc (.cells #[.float .f64 0, .int .i64 0] 30)).later hb15)
          have Hp15 := Lib.hid ((Hp14.out.alloc (.cells #[.float .f64 0, .int .i64 0] 30)).later hb15)
          have Hg15 := Lib.hid (Hg14.out.later hb15)
          have HBa15 := Lib.hid (HB14.out.alloc HB14.out.size (.cells #[.float .f64 0, .int .i64 0] 30))
          have HB15 := Lib.hid (HBa15.out.trans (hb15.mono HBa15.out.size))
          clear hb15
          clear eh14c0 eh14c1 eh14l
          go_wp2_with fail
          refine Calls.mono (HN1.out _) ?_
          rintro e w' ⟨rfl, he⟩
          have he := he.symm
          subst he
          go_wp2_with fail
          exact ⟨⟨i + 1, s, c, by go_num, by omega, by omega, Hh15.out, hs, Hp15.out, HB15.out⟩, by simp [intOf]; omega⟩
      have hp2 := Hp.out.c2
      have hszr := HB.out.size
      obtain ⟨n, hn⟩ : ∃ n, n = 9221120237041090561 := ⟨_, rfl⟩
      have HNO := Lib.hid (fun W => none_any n hn W)
      have HRO := Lib.hid (fun W => rnone_any n hn W)
      have HEQ := Lib.hid (fun W => eqHealth_any n n 0 0 W)
      rw [eqH_self] at HEQ
      have HW := Lib.hid (fun W => wakes_any W)
      unfold hV at HNO HRO HEQ
      clear hn
      by_cases hlt : i < l.length
      · have hlti : (i : Int) < (l.length : Int) := by omega
        have h20i : decide ((i : Int) < 20) = false := decide_eq_false (by omega)
        go_wp2_with fail
        refine Calls.mono (HNO.out _) ?_
        rintro e w21 ⟨rfl, hb21⟩
        have HB21 := Lib.hid (HB.out.trans (hb21.mono HB.out.size))
        clear hb21
        go_wp2_with fail
        refine Calls.mono (HRO.out _) ?_
        rintro e w22 ⟨rfl, hb22⟩
        have HB22 := Lib.hid (HB21.out.trans (hb22.mono HB21.out.size))
        clear hb22
        go_wp2_with fail
        refine Calls.mono (HEQ.out _) ?_
        rintro e w23 ⟨rfl, hb23⟩
        have HB23 := Lib.hid (HB22.out.trans (hb23.mono HB22.out.size))
        clear hb23
        go_wp2_with fail
        refine Calls.mono (HW.out _) ?_
        rintro e w24 ⟨rfl, hb24⟩
        have HB24 := Lib.hid (HB23.out.trans (hb24.mono HB23.out.size))
        clear hb24
        go_wp2_with fail
        go_ret
        exact ⟨rfl, HB24.out⟩
      · have hlti : decide ((i : Int) < (l.length : Int)) = false := decide_eq_false (by omega)
        go_wp2_with fail
        refine Calls.mono (HNO.out _) ?_
        rintro e w21 ⟨rfl, hb21⟩
        have HB21 := Lib.hid (HB.out.trans (hb21.mono HB.out.size))
        clear hb21
        go_wp2_with fail
        refine Calls.mono (HRO.out _) ?_
        rintro e w22 ⟨rfl, hb22⟩
        have HB22 := Lib.hid (HB21.out.trans (hb22.mono HB21.out.size))
        clear hb22
        go_wp2_with fail
        refine Calls.mono (HEQ.out _) ?_
        rintro e w23 ⟨rfl, hb23⟩
        have HB23 := Lib.hid (HB22.out.trans (hb23.mono HB22.out.size))
        clear hb23
        go_wp2_with fail
        refine Calls.mono (HW.out _) ?_
        rintro e w24 ⟨rfl, hb24⟩
        have HB24 := Lib.hid (HB23.out.trans (hb24.mono HB23.out.size))
        clear hb24
        go_wp2_with fail
        go_ret
        exact ⟨rfl, HB24.out⟩
end Go.Proofs.Ythkgahdnjhjobaa

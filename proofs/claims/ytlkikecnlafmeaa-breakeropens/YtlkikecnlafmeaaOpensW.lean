/-
  BreakerOpens: the statement's own walk.
  Conditions: as the theorem states them: the argument lies in memory.
-/
import Derived.Test.YtlkikecnlafmeaaQR
import Derived.Deep.CutRange
import Derived.Deep.DeepCutAuto
import Derived.Deep.RegionWith
import Derived.Deep.RegionHeld3
import Derived.Deep.QuietTactic
import Derived.BigQuiet
import Derived.WalkSmall
namespace Go.Proofs.Ytlkikecnlafmeaa
open Go.RowKit

set_option maxHeartbeats 8000000 in
set_option maxRecDepth 100000 in
theorem opens_any (b : BR) (sc : Nat) (v : Value) (l : List AR) (w : World) (h : AcsAt w v l) :
    Calls Try.prog 7 #[sV b sc v] w fun e w' => e = .returned (.bool true) ∧ Below w.heap.size w w' := by
  obtain ⟨A0, cp, rfl, hll⟩ := h.slice
  clear h
  have hst := store_float
  obtain ⟨n, hn⟩ : ∃ n, n = 9221120237041090561 := ⟨_, rfl⟩
  have HNN := Lib.hid (fun W => nan_any W)
  rw [← hn] at HNN
  obtain ⟨m, hm⟩ : ∃ m, modI (l.length : Int) 6 = m := ⟨_, rfl⟩
  obtain ⟨P, hP⟩ : ∃ P, modI b.u 1000 = P := ⟨_, rfl⟩
  have HWI := Lib.hid (fun (x k : Int) (h : k = 6 ∨ k = 1000) W => lWithin_any x k W (by omega) (by omega))
  have hm1 : 0 ≤ m ∧ m < 6 := by rw [← hm]; exact modI_in (by decide)
  have hP1 : 0 ≤ P ∧ P < 1000 := by rw [← hP]; exact modI_in (by decide)
  have hw0 : IntKind.i64.wrap (1 + m) = 1 + m := wrap_id (by omega) (by omega)
  obtain ⟨F, hF⟩ : ∃ F, 1 + m = F := ⟨_, rfl⟩
  have hF1 : 1 ≤ F ∧ F ≤ 6 := by omega
  rw [hF] at hw0
  have HF1 := Lib.hid hF1
  have HP1 := Lib.hid hP1
  have HN := Lib.hid hn
  clear hm1
  have HNW := Lib.hid (fun W => bnew_any n hn W)
  have HMY := Lib.hid (fun (c : BR) (i : Int) W (hs : c.s < 18446744073709551616) => bmay_any c i W hs)
  have HBG := Lib.hid (fun (c : BR) (i : Int) W (hs : c.s < 18446744073709551616) => bbegin_any c i W hs)
  have HEN := Lib.hid (fun (c : BR) (ok : Bool) (i : Int) W (hs : c.s < 18446744073709551616) => bend_any c ok i F P n n hn W hs)
  have HN0 := Lib.hid (fun W => num_any 0 W)
  have HN9 := Lib.hid (fun W => num_any 9 W)
  have HW := Lib.hid (fun W => wakes_any W)
  have HS0 := Lib.hid (SAt.new w b sc (.slice A0 l.length cp))
  have HB0 := Lib.hid ((Below.refl _ w).alloc (Nat.le_refl _) (.cells #[.int .i64 b.t, .int .i64 b.f, .int .i64 b.u, .float .f64 b.s, .int .i64 b.c, .int .u64 (sc : Int), .slice A0 l.length cp] 30))
  unfold bV at HNW
  unfold sV
  clear hn hF1 hP1
  go_enter Try.func7, Try.ntmps7
  go_upto_region 1 with (fail)
  go_cut [3] (fun cv wc => ∃ C, cv = .pointer (some ⟨C, 0, none⟩) ∧ CfAt wc C F P n ∧ SAt wc w.heap.size b sc (.slice A0 l.length cp) ∧ Below w.heap.size w wc ∧ w.heap.size < C)
  case first =>
    generalize w.alloc (.cells #[.int .i64 b.t, .int .i64 b.f, .int .i64 b.u, .float .f64 b.s, .int .i64 b.c, .int .u64 (sc : Int), .slice A0 l.length cp] 30) = w1 at *
    have HSK : Hid (∀ W, Below w1.heap.size w1 W → (W.cell? ⟨w.heap.size, 6, none⟩ = some (.slice A0 l.length cp) ∧ W.cell? ⟨w.heap.size, 2, none⟩ = some (.int .i64 b.u))) := Lib.hid (fun W hW => ⟨(HS0.out.later hW).c6, (HS0.out.later hW).c2⟩)
    have hslt := HS0.out.lt
    clear hll
    go_region_held3 (fun W => W.cell? ⟨w.heap.size, 6, none⟩ = some (.slice A0 l.length cp) ∧ W.cell? ⟨w.heap.size, 2, none⟩ = some (.int .i64 b.u))
      (first | with_reducible exact HSK.out _ (Below.refl _ _).drew | with_reducible exact HSK.out _ ((Below.refl _ _).alloc (Nat.le_refl _) _).drew)
      (first
        | (go_at_call 20; refine (HWI.out _ _ (by first | exact Or.inl rfl | exact Or.inr rfl) _).mono ?_; rintro e w' ⟨rfl, rfl⟩)
        | (go_at_call 21; refine (HNN.out _).mono ?_; rintro e w' ⟨rfl, rfl⟩))
    all_goals
      go_wp2_with fail
      go_meet
      case rel => exact ⟨w1.heap.size, rfl, (CfAt.new w1 F P n).drew, (HS0.out.alloc _).drew, (HB0.out.alloc HB0.out.size _).drew, hslt⟩
  case rest =>
    obtain ⟨C, rfl, hC, hS, hB, hSC⟩ := hcut
    have HC1 := Lib.hid hC
    have HS1 := Lib.hid hS
    have HB1 := Lib.hid hB
    clear hC hS hB HS0 HB0 HWI HNN hw0 hm hP
    generalize wc = w1 at *
    go_wp2_with fail
    refine Calls.mono (HNW.out _) ?_
    rintro e w2 ⟨rfl, hb2⟩
    have hCn : C < w2.heap.size := Nat.lt_of_lt_of_le HC1.out.lt hb2.size
    have HB2 := Lib.hid ((HB1.out.trans (hb2.mono HB1.out.size)).alloc (HB1.out.trans (hb2.mono HB1.out.size)).size (.cells #[.int .i64 (BR.mk 0 0 0 n 0).t, .int .i64 (BR.mk 0 0 0 n 0).f, .int .i64 (BR.mk 0 0 0 n 0).u, .float .f64 (BR.mk 0 0 0 n 0).s, .int .i64 (BR.mk 0 0 0 n 0).c] 26))
    have HC2 := Lib.hid ((HC1.out.later hb2).alloc (.cells #[.int .i64 (BR.mk 0 0 0 n 0).t, .int .i64 (BR.mk 0 0 0 n 0).f, .int .i64 (BR.mk 0 0 0 n 0).u, .float .f64 (BR.mk 0 0 0 n 0).s, .int .i64 (BR.mk 0 0 0 n 0).c] 26))
    have HS2 := Lib.hid ((HS1.out.later hb2).alloc (.cells #[.int .i64 (BR.mk 0 0 0 n 0).t, .int .i64 (BR.mk 0 0 0 n 0).f, .int .i64 (BR.mk 0 0 0 n 0).u, .float .f64 (BR.mk 0 0 0 n 0).s, .int .i64 (BR.mk 0 0 0 n 0).c] 26))
    have HX2 := Lib.hid (BAt.new w2 ⟨0, 0, 0, n, 0⟩)
    clear hb2 HC1 HS1 HB1
    go_wp2_with fail
    generalize w2.heap.size = B at *
    go_loopw [5] (fun iv wi => ∃ i : Nat, iv = .int .i64 i ∧ (i : Int) ≤ F ∧ BAt wi B (opI n F P i) ∧ CfAt wi C F P n ∧ SAt wi w.heap.size b sc (.slice A0 l.length cp) ∧ Below w.heap.size w wi) (fun iv _ => 7 - (intOf iv).toNat)
    case atStart => exact ⟨0, rfl, by have := HF1.out; omega, by rw [op_at (by have := HF1.out; omega)]; exact HX2.out, HC2.out, HS2.out, HB2.out⟩
    case round =>
      clear HX2 HC2 HS2 HB2
      obtain ⟨i, rfl, hiF, hX, hC, hS, hb⟩ := hrel
      have HX3 := Lib.hid hX
      have HC3 := Lib.hid hC
      have HS3 := Lib.hid hS
      have HB3 := Lib.hid hb
      clear hX hC hS hb
      have hi6 : (i : Int) ≤ 6 := by have := HF1.out; omega
      have c5 := HC3.out.c5
      by_cases hin : (i : Int) < F
      · have hin' := hin
        have HOK := Lib.hid (op_ok (P := P) HN.out HF1.out.2 hin)
        have HM1 := Lib.hid (fun W => HMY.out (opI n F P i) (10 + (i : Int)) W HOK.out.2)
        have HG1 := Lib.hid (fun W => HBG.out (opI n F P i) (10 + (i : Int)) W HOK.out.2)
        have HE1 := Lib.hid (fun W => HEN.out (opI n F P i) false (10 + (i : Int)) W HOK.out.2)
        rw [op_may HN.out HF1.out.2 hin] at HM1
        rw [op_begin HN.out HF1.out.2 hin] at HG1
        rw [op_end HN.out HF1.out.1 HF1.out.2 HP1.out hin] at HE1
        clear HOK
        generalize opI n F P i = c at *
        obtain ⟨d, hd⟩ : ∃ d, opI n F P (i + 1) = d := ⟨_, rfl⟩
        rw [hd] at HE1
        have HD := Lib.hid hd
        clear hd hin'
        unfold bV cV at HE1
        unfold bV at HM1 HG1
        have hwi : IntKind.i64.wrap (10 + (i : Int)) = 10 + (i : Int) := wrap_id (by omega) (by omega)
        have m0 := HX3.out.c0
        have m1 := HX3.out.c1
        have m2 := HX3.out.c2
        have m3 := HX3.out.c3
        have m4 := HX3.out.c4
        go_wp2_with fail
        refine Calls.mono (HM1.out _) ?_
        rintro e w4 ⟨rfl, hb4⟩
        have HB4 := Lib.hid (HB3.out.trans (hb4.mono HB3.out.size))
        have HX4 := Lib.hid (HX3.out.later hb4)
        have HC4 := Lib.hid (HC3.out.later hb4)
        have HS4 := Lib.hid (HS3.out.later hb4)
        clear hb4 HX3 HC3 HS3 HB3 m0 m1 m2 m3 m4 c5
        have m0 := HX4.out.c0
        have m1 := HX4.out.c1
        have m2 := HX4.out.c2
        have m3 := HX4.out.c3
        have m4 := HX4.out.c4
        go_wp2_with fail
        refine Calls.mono (HG1.out _) ?_
        rintro e w5 ⟨rfl, hb5⟩
        have HB5 := Lib.hid ((HB4.out.trans (hb5.mono HB4.out.size)).alloc (HB4.out.trans (hb5.mono HB4.out.size)).size (.cells #[.int .i64 c.t, .int .i64 c.f, .int .i64 c.u, .float .f64 c.s, .int .i64 c.c] 26))
        have HX5 := Lib.hid ((HX4.out.later hb5).alloc (.cells #[.int .i64 c.t, .int .i64 c.f, .int .i64 c.u, .float .f64 c.s, .int .i64 c.c] 26))
        have HC5 := Lib.hid ((HC4.out.later hb5).alloc (.cells #[.int .i64 c.t, .int .i64 c.f, .int .i64 c.u, .float .f64 c.s, .int .i64 c.c] 26))
        have HS5 := Lib.hid ((HS4.out.later hb5).alloc (.cells #[.int .i64 c.t, .int .i64 c.f, .int .i64 c.u, .float .f64 c.s, .int .i64 c.c] 26))
        have HY5 := Lib.hid (BAt.new w5 c)
        have c0 := (HC4.out.later hb5).c0
        have c1 := (HC4.out.later hb5).c1
        have c2 := (HC4.out.later hb5).c2
        have c3 := (HC4.out.later hb5).c3
        have c4 := (HC4.out.later hb5).c4
        have c5 := (HC4.out.later hb5).c5
        have c6 := (HC4.out.later hb5).c6
        have c7 := (HC4.out.later hb5).c7
        have clt := (HC4.out.later hb5).lt
        clear hb5 HX4 HC4 HS4 HB4 m0 m1 m2 m3 m4
        go_wp2_with fail
        refine Calls.mono (HE1.out _) ?_
        rintro e w7 ⟨rfl, hb7⟩
        have HB7 := Lib.hid ((HB5.out.trans (hb7.mono HB5.out.size)).alloc (HB5.out.trans (hb7.mono HB5.out.size)).size (.cells #[.int .i64 d.t, .int .i64 d.f, .int .i64 d.u, .float .f64 d.s, .int .i64 d.c] 26))
        have HX7 := Lib.hid ((HX5.out.later hb7).alloc (.cells #[.int .i64 d.t, .int .i64 d.f, .int .i64 d.u, .float .f64 d.s, .int .i64 d.c] 26))
        have HC7 := Lib.hid ((HC5.out.later hb7).alloc (.cells #[.int .i64 d.t, .int .i64 d.f, .int .i64 d.u, .float .f64 d.s, .int .i64 d.c] 26))
        have HS7 := Lib.hid ((HS5.out.later hb7).alloc (.cells #[.int .i64 d.t, .int .i64 d.f, .int .i64 d.u, .float .f64 d.s, .int .i64 d.c] 26))
        have HZ7 := Lib.hid (BAt.new w7 d)
        clear hb7 HX5 HC5 HS5 HB5 HY5 c0 c1 c2 c3 c4 c5 c6 c7 clt
        have hBlt := HX7.out.lt
        go_wp2_with fail
        generalize w7.alloc (.cells #[.int .i64 d.t, .int .i64 d.f, .int .i64 d.u, .float .f64 d.s, .int .i64 d.c] 26) = w8 at *
        generalize w7.heap.size = Z at *
        have n0 := HX7.out.c0
        have nz0 := HX7.out.fz 0
        have n1 := HX7.out.c1
        have nz1 := HX7.out.fz 1
        have n2 := HX7.out.c2
        have nz2 := HX7.out.fz 2
        have n3 := HX7.out.c3
        have nz3 := HX7.out.fz 3
        have n4 := HX7.out.c4
        have nz4 := HX7.out.fz 4
        have nlt := HX7.out.lt
        have z0 := HZ7.out.c0
        have z1 := HZ7.out.c1
        have z2 := HZ7.out.c2
        have z3 := HZ7.out.c3
        have z4 := HZ7.out.c4
        refine Calls.mono (HN0.out _) ?_
        rintro e w' ⟨rfl, he⟩
        have he := he.symm
        subst he
        go_wp2_with fail
        refine Calls.mono (HN0.out _) ?_
        rintro e w' ⟨rfl, he⟩
        have he := he.symm
        subst he
        go_wp2_with fail
        refine Calls.mono (HN0.out _) ?_
        rintro e w' ⟨rfl, he⟩
        have he := he.symm
        subst he
        go_wp2_with fail
        exact ⟨⟨i + 1, by go_num, by push_cast; omega, by rw [HD.out]; exact HX7.out.set5 d.t d.f d.u d.s d.c, HC7.out.other5 (by omega) _ _ _ _ _, HS7.out.other5 (by omega) _ _ _ _ _, below_set5 HB7.out (by omega) _ _ _ _ _⟩, by simp [intOf]; omega⟩
      · have hnd : decide ((i : Int) < F) = false := decide_eq_false hin
        have HX3 := Lib.hid (show BAt wr B ⟨1, F, 9 + F + P, 0, F⟩ by rw [← op_last (n := n) hin]; exact HX3.out)
        clear hiF hi6 hin c5
        obtain ⟨U, hU⟩ : ∃ U, 9 + F + P = U := ⟨_, rfl⟩
        rw [hU] at HX3
        obtain ⟨hF1, hF6⟩ := HF1.out
        obtain ⟨hP0, hP9⟩ := HP1.out
        have hUb : 10 ≤ U ∧ U < 2000 := by omega
        obtain ⟨hU1, hU2⟩ := hUb
        have HM1 := Lib.hid (fun W => HMY.out ⟨1, F, U, 0, F⟩ (U - 1) W (show 0 < 18446744073709551616 by decide))
        rw [early_may hF1 hF6 ⟨hU1, hU2⟩] at HM1
        have HG1 := Lib.hid (fun W => HBG.out ⟨1, F, U, 0, F⟩ (U - 1) W (show 0 < 18446744073709551616 by decide))
        rw [early_begin hF1 hF6 ⟨hU1, hU2⟩] at HG1
        have HG2 := Lib.hid (fun W => HBG.out ⟨1, F, U, 0, F⟩ U W (show 0 < 18446744073709551616 by decide))
        rw [due_begin hF1 hF6 ⟨hU1, hU2⟩] at HG2
        have HM2 := Lib.hid (fun W => HMY.out ⟨2, F, 0, 0, F⟩ (U + 9) W (show 0 < 18446744073709551616 by decide))
        rw [half_may hF1 hF6 ⟨hU1, hU2⟩] at HM2
        have HE1 := Lib.hid (fun W => HEN.out ⟨2, F, 0, 0, F⟩ true (U + 9) W (show 0 < 18446744073709551616 by decide))
        rw [half_good hF1 hF6 HP1.out ⟨hU1, hU2⟩] at HE1
        have HE2 := Lib.hid (fun W => HEN.out ⟨2, F, 0, 0, F⟩ false (U + 9) W (show 0 < 18446744073709551616 by decide))
        rw [half_bad hF1 hF6 HP1.out ⟨hU1, hU2⟩] at HE2
        unfold bV cV at HE1 HE2
        unfold bV zB at HG1
        unfold bV at HM1 HG2 HM2
        have hw1 : IntKind.i64.wrap (9 + F) = 9 + F := wrap_id (by omega) (by omega)
        have hw2 : IntKind.i64.wrap (9 + F + P) = U := by rw [hU]; exact wrap_id (by omega) (by omega)
        have hw3 : IntKind.i64.wrap (U - 1) = U - 1 := wrap_id (by omega) (by omega)
        have hw4 : IntKind.i64.wrap (U + 9) = U + 9 := wrap_id (by omega) (by omega)
        have hw5 : IntKind.i64.wrap (U + 9 + P) = U + 9 + P := wrap_id (by omega) (by omega)
        have m0 := HX3.out.c0
        have m1 := HX3.out.c1
        have m2 := HX3.out.c2
        have m3 := HX3.out.c3
        have m4 := HX3.out.c4
        have mlt := HX3.out.lt
        have c0 := HC3.out.c0
        have c1 := HC3.out.c1
        have c2 := HC3.out.c2
        have c3 := HC3.out.c3
        have c4 := HC3.out.c4
        have c5 := HC3.out.c5
        have c6 := HC3.out.c6
        have c7 := HC3.out.c7
        have clt := HC3.out.lt
        by_cases hPp : 0 < P
        · go_wp2_with fail
          refine Calls.mono (HM1.out _) ?_
          rintro e a1 ⟨rfl, hb1⟩
          have HB4 := Lib.hid (HB3.out.trans (hb1.mono HB3.out.size))
          have HX4 := Lib.hid (HX3.out.later hb1)
          have HC4 := Lib.hid (HC3.out.later hb1)
          have HS4 := Lib.hid (HS3.out.later hb1)
          clear m0 m1 m2 m3 m4 mlt
          clear c0 c1 c2 c3 c4 c5 c6 c7 clt
          clear hb1 HX3 HC3 HS3 HB3
          have m0 := HX4.out.c0
          have m1 := HX4.out.c1
          have m2 := HX4.out.c2
          have m3 := HX4.out.c3
          have m4 := HX4.out.c4
          have mlt := HX4.out.lt
          go_wp2_with fail
          refine Calls.mono (HG1.out _) ?_
          rintro e a2 ⟨rfl, hb2⟩
          have HB5 := Lib.hid ((HB4.out.trans (hb2.mono HB4.out.size)).alloc (HB4.out.trans (hb2.mono HB4.out.size)).size (.cells #[.int .i64 (BR.mk 0 0 0 0 0).t, .int .i64 (BR.mk 0 0 0 0 0).f, .int .i64 (BR.mk 0 0 0 0 0).u, .float .f64 (BR.mk 0 0 0 0 0).s, .int .i64 (BR.mk 0 0 0 0 0).c] 26))
          have HX5 := Lib.hid ((HX4.out.later hb2).alloc (.cells #[.int .i64 (BR.mk 0 0 0 0 0).t, .int .i64 (BR.mk 0 0 0 0 0).f, .int .i64 (BR.mk 0 0 0 0 0).u, .float .f64 (BR.mk 0 0 0 0 0).s, .int .i64 (BR.mk 0 0 0 0 0).c] 26))
          have HC5 := Lib.hid ((HC4.out.later hb2).alloc (.cells #[.int .i64 (BR.mk 0 0 0 0 0).t, .int .i64 (BR.mk 0 0 0 0 0).f, .int .i64 (BR.mk 0 0 0 0 0).u, .float .f64 (BR.mk 0 0 0 0 0).s, .int .i64 (BR.mk 0 0 0 0 0).c] 26))
          have HS5 := Lib.hid ((HS4.out.later hb2).alloc (.cells #[.int .i64 (BR.mk 0 0 0 0 0).t, .int .i64 (BR.mk 0 0 0 0 0).f, .int .i64 (BR.mk 0 0 0 0 0).u, .float .f64 (BR.mk 0 0 0 0 0).s, .int .i64 (BR.mk 0 0 0 0 0).c] 26))
          clear m0 m1 m2 m3 m4 mlt
          have m0 := (HX4.out.later hb2).c0
          have m1 := (HX4.out.later hb2).c1
          have m2 := (HX4.out.later hb2).c2
          have m3 := (HX4.out.later hb2).c3
          have m4 := (HX4.out.later hb2).c4
          have mlt := (HX4.out.later hb2).lt
          clear hb2 HX4 HC4 HS4 HB4
          go_wp2_with fail
          refine Calls.mono (HN0.out _) ?_
          rintro e w' ⟨rfl, he⟩
          have he := he.symm
          subst he
          go_wp2_with fail
          refine Calls.mono (HN9.out _) ?_
          rintro e w' ⟨rfl, he⟩
          have he := he.symm
          subst he
          go_wp2_with fail
          refine Calls.mono (HG2.out _) ?_
          rintro e a5 ⟨rfl, hb5⟩
          have HB5b := Lib.hid ((HB5.out.trans (hb5.mono HB5.out.size)).alloc (HB5.out.trans (hb5.mono HB5.out.size)).size (.cells #[.int .i64 (BR.mk 2 F 0 0 F).t, .int .i64 (BR.mk 2 F 0 0 F).f, .int .i64 (BR.mk 2 F 0 0 F).u, .float .f64 (BR.mk 2 F 0 0 F).s, .int .i64 (BR.mk 2 F 0 0 F).c] 26))
          have HC5b := Lib.hid ((HC5.out.later hb5).alloc (.cells #[.int .i64 (BR.mk 2 F 0 0 F).t, .int .i64 (BR.mk 2 F 0 0 F).f, .int .i64 (BR.mk 2 F 0 0 F).u, .float .f64 (BR.mk 2 F 0 0 F).s, .int .i64 (BR.mk 2 F 0 0 F).c] 26))
          have HS5b := Lib.hid ((HS5.out.later hb5).alloc (.cells #[.int .i64 (BR.mk 2 F 0 0 F).t, .int .i64 (BR.mk 2 F 0 0 F).f, .int .i64 (BR.mk 2 F 0 0 F).u, .float .f64 (BR.mk 2 F 0 0 F).s, .int .i64 (BR.mk 2 F 0 0 F).c] 26))
          have HY5b := Lib.hid (BAt.new a5 ⟨2, F, 0, 0, F⟩)
          clear hb5 HX5 HC5 HS5 HB5 m0 m1 m2 m3 m4 mlt
          go_wp2_with fail
          refine Calls.mono (HM2.out _) ?_
          rintro e a6 ⟨rfl, hb6⟩
          have HB6b := Lib.hid (HB5b.out.trans (hb6.mono HB5b.out.size))
          have HC6b := Lib.hid (HC5b.out.later hb6)
          have HS6b := Lib.hid (HS5b.out.later hb6)
          have HY6b := Lib.hid (HY5b.out.later hb6)
          have y0 := HY6b.out.c0
          have y1 := HY6b.out.c1
          have y2 := HY6b.out.c2
          have y3 := HY6b.out.c3
          have y4 := HY6b.out.c4
          have ylt := HY6b.out.lt
          have c0 := HC6b.out.c0
          have c1 := HC6b.out.c1
          have c2 := HC6b.out.c2
          have c3 := HC6b.out.c3
          have c4 := HC6b.out.c4
          have c5 := HC6b.out.c5
          have c6 := HC6b.out.c6
          have c7 := HC6b.out.c7
          have clt := HC6b.out.lt
          clear hb6 HC5b HS5b HB5b HY5b
          go_wp2_with fail
          refine Calls.mono (HE1.out _) ?_
          rintro e a7 ⟨rfl, hb7⟩
          have HB7b := Lib.hid ((HB6b.out.trans (hb7.mono HB6b.out.size)).alloc (HB6b.out.trans (hb7.mono HB6b.out.size)).size (.cells #[.int .i64 (BR.mk 0 0 0 n 0).t, .int .i64 (BR.mk 0 0 0 n 0).f, .int .i64 (BR.mk 0 0 0 n 0).u, .float .f64 (BR.mk 0 0 0 n 0).s, .int .i64 (BR.mk 0 0 0 n 0).c] 26))
          have HC7b := Lib.hid ((HC6b.out.later hb7).alloc (.cells #[.int .i64 (BR.mk 0 0 0 n 0).t, .int .i64 (BR.mk 0 0 0 n 0).f, .int .i64 (BR.mk 0 0 0 n 0).u, .float .f64 (BR.mk 0 0 0 n 0).s, .int .i64 (BR.mk 0 0 0 n 0).c] 26))
          have HS7b := Lib.hid ((HS6b.out.later hb7).alloc (.cells #[.int .i64 (BR.mk 0 0 0 n 0).t, .int .i64 (BR.mk 0 0 0 n 0).f, .int .i64 (BR.mk 0 0 0 n 0).u, .float .f64 (BR.mk 0 0 0 n 0).s, .int .i64 (BR.mk 0 0 0 n 0).c] 26))
          have HY7b := Lib.hid ((HY6b.out.later hb7).alloc (.cells #[.int .i64 (BR.mk 0 0 0 n 0).t, .int .i64 (BR.mk 0 0 0 n 0).f, .int .i64 (BR.mk 0 0 0 n 0).u, .float .f64 (BR.mk 0 0 0 n 0).s, .int .i64 (BR.mk 0 0 0 n 0).c] 26))
          have HG7b := Lib.hid (BAt.new a7 ⟨0, 0, 0, n, 0⟩)
          clear y0 y1 y2 y3 y4 ylt
          clear c0 c1 c2 c3 c4 c5 c6 c7 clt
          have y0 := (HY6b.out.later hb7).c0
          have y1 := (HY6b.out.later hb7).c1
          have y2 := (HY6b.out.later hb7).c2
          have y3 := (HY6b.out.later hb7).c3
          have y4 := (HY6b.out.later hb7).c4
          have ylt := (HY6b.out.later hb7).lt
          have c0 := (HC6b.out.later hb7).c0
          have c1 := (HC6b.out.later hb7).c1
          have c2 := (HC6b.out.later hb7).c2
          have c3 := (HC6b.out.later hb7).c3
          have c4 := (HC6b.out.later hb7).c4
          have c5 := (HC6b.out.later hb7).c5
          have c6 := (HC6b.out.later hb7).c6
          have c7 := (HC6b.out.later hb7).c7
          have clt := (HC6b.out.later hb7).lt
          clear hb7 HC6b HS6b HB6b HY6b
          go_wp2_with fail
          refine Calls.mono (HE2.out _) ?_
          rintro e a8 ⟨rfl, hb8⟩
          have HB8b := Lib.hid ((HB7b.out.trans (hb8.mono HB7b.out.size)).alloc (HB7b.out.trans (hb8.mono HB7b.out.size)).size (.cells #[.int .i64 (BR.mk 1 (F + 1) (U + 9 + P) 0 (F + 1)).t, .int .i64 (BR.mk 1 (F + 1) (U + 9 + P) 0 (F + 1)).f, .int .i64 (BR.mk 1 (F + 1) (U + 9 + P) 0 (F + 1)).u, .float .f64 (BR.mk 1 (F + 1) (U + 9 + P) 0 (F + 1)).s, .int .i64 (BR.mk 1 (F + 1) (U + 9 + P) 0 (F + 1)).c] 26))
          have HC8b := Lib.hid ((HC7b.out.later hb8).alloc (.cells #[.int .i64 (BR.mk 1 (F + 1) (U + 9 + P) 0 (F + 1)).t, .int .i64 (BR.mk 1 (F + 1) (U + 9 + P) 0 (F + 1)).f, .int .i64 (BR.mk 1 (F + 1) (U + 9 + P) 0 (F + 1)).u, .float .f64 (BR.mk 1 (F + 1) (U + 9 + P) 0 (F + 1)).s, .int .i64 (BR.mk 1 (F + 1) (U + 9 + P) 0 (F + 1)).c] 26))
          have HS8b := Lib.hid ((HS7b.out.later hb8).alloc (.cells #[.int .i64 (BR.mk 1 (F + 1) (U + 9 + P) 0 (F + 1)).t, .int .i64 (BR.mk 1 (F + 1) (U + 9 + P) 0 (F + 1)).f, .int .i64 (BR.mk 1 (F + 1) (U + 9 + P) 0 (F + 1)).u, .float .f64 (BR.mk 1 (F + 1) (U + 9 + P) 0 (F + 1)).s, .int .i64 (BR.mk 1 (F + 1) (U + 9 + P) 0 (F + 1)).c] 26))
          have HY8b := Lib.hid ((HY7b.out.later hb8).alloc (.cells #[.int .i64 (BR.mk 1 (F + 1) (U + 9 + P) 0 (F + 1)).t, .int .i64 (BR.mk 1 (F + 1) (U + 9 + P) 0 (F + 1)).f, .int .i64 (BR.mk 1 (F + 1) (U + 9 + P) 0 (F + 1)).u, .float .f64 (BR.mk 1 (F + 1) (U + 9 + P) 0 (F + 1)).s, .int .i64 (BR.mk 1 (F + 1) (U + 9 + P) 0 (F + 1)).c] 26))
          have HG8b := Lib.hid ((HG7b.out.later hb8).alloc (.cells #[.int .i64 (BR.mk 1 (F + 1) (U + 9 + P) 0 (F + 1)).t, .int .i64 (BR.mk 1 (F + 1) (U + 9 + P) 0 (F + 1)).f, .int .i64 (BR.mk 1 (F + 1) (U + 9 + P) 0 (F + 1)).u, .float .f64 (BR.mk 1 (F + 1) (U + 9 + P) 0 (F + 1)).s, .int .i64 (BR.mk 1 (F + 1) (U + 9 + P) 0 (F + 1)).c] 26))
          clear y0 y1 y2 y3 y4 ylt
          clear c0 c1 c2 c3 c4 c5 c6 c7 clt
          have y0 := (HY7b.out.later hb8).c0
          have y1 := (HY7b.out.later hb8).c1
          have y2 := (HY7b.out.later hb8).c2
          have y3 := (HY7b.out.later hb8).c3
          have y4 := (HY7b.out.later hb8).c4
          have ylt := (HY7b.out.later hb8).lt
          have c0 := (HC7b.out.later hb8).c0
          have c1 := (HC7b.out.later hb8).c1
          have c2 := (HC7b.out.later hb8).c2
          have c3 := (HC7b.out.later hb8).c3
          have c4 := (HC7b.out.later hb8).c4
          have c5 := (HC7b.out.later hb8).c5
          have c6 := (HC7b.out.later hb8).c6
          have c7 := (HC7b.out.later hb8).c7
          have clt := (HC7b.out.later hb8).lt
          have g0 := (HG7b.out.later hb8).c0
          have g1 := (HG7b.out.later hb8).c1
          have g2 := (HG7b.out.later hb8).c2
          have g3 := (HG7b.out.later hb8).c3
          have g4 := (HG7b.out.later hb8).c4
          have glt := (HG7b.out.later hb8).lt
          clear hb8 HC7b HS7b HY7b HG7b HB7b
          go_wp2_with fail
          refine Calls.mono (HN0.out _) ?_
          rintro e w' ⟨rfl, he⟩
          have he := he.symm
          subst he
          go_wp2_with fail
          refine Calls.mono (HN0.out _) ?_
          rintro e w' ⟨rfl, he⟩
          have he := he.symm
          subst he
          go_wp2_with fail
          refine Calls.mono (HN0.out _) ?_
          rintro e w' ⟨rfl, he⟩
          have he := he.symm
          subst he
          go_wp2_with fail
          refine Calls.mono (HN0.out _) ?_
          rintro e w' ⟨rfl, he⟩
          have he := he.symm
          subst he
          go_wp2_with fail
          refine Calls.mono (HW.out _) ?_
          rintro e a9 ⟨rfl, hb9⟩
          have HB9 := Lib.hid (HB8b.out.trans (hb9.mono HB8b.out.size))
          clear hb9
          go_wp2_with fail
          go_ret
          exact ⟨rfl, HB9.out⟩
        · have hPn : decide (0 < P) = false := decide_eq_false hPp
          go_wp2_with fail
          refine Calls.mono (HG2.out _) ?_
          rintro e a5 ⟨rfl, hb5⟩
          have HB5b := Lib.hid ((HB3.out.trans (hb5.mono HB3.out.size)).alloc (HB3.out.trans (hb5.mono HB3.out.size)).size (.cells #[.int .i64 (BR.mk 2 F 0 0 F).t, .int .i64 (BR.mk 2 F 0 0 F).f, .int .i64 (BR.mk 2 F 0 0 F).u, .float .f64 (BR.mk 2 F 0 0 F).s, .int .i64 (BR.mk 2 F 0 0 F).c] 26))
          have HC5b := Lib.hid ((HC3.out.later hb5).alloc (.cells #[.int .i64 (BR.mk 2 F 0 0 F).t, .int .i64 (BR.mk 2 F 0 0 F).f, .int .i64 (BR.mk 2 F 0 0 F).u, .float .f64 (BR.mk 2 F 0 0 F).s, .int .i64 (BR.mk 2 F 0 0 F).c] 26))
          have HS5b := Lib.hid ((HS3.out.later hb5).alloc (.cells #[.int .i64 (BR.mk 2 F 0 0 F).t, .int .i64 (BR.mk 2 F 0 0 F).f, .int .i64 (BR.mk 2 F 0 0 F).u, .float .f64 (BR.mk 2 F 0 0 F).s, .int .i64 (BR.mk 2 F 0 0 F).c] 26))
          have HY5b := Lib.hid (BAt.new a5 ⟨2, F, 0, 0, F⟩)
          clear hb5 HX3 HC3 HS3 HB3 m0 m1 m2 m3 m4 mlt c0 c1 c2 c3 c4 c5 c6 c7 clt
          go_wp2_with fail
          refine Calls.mono (HM2.out _) ?_
          rintro e a6 ⟨rfl, hb6⟩
          have HB6b := Lib.hid (HB5b.out.trans (hb6.mono HB5b.out.size))
          have HC6b := Lib.hid (HC5b.out.later hb6)
          have HS6b := Lib.hid (HS5b.out.later hb6)
          have HY6b := Lib.hid (HY5b.out.later hb6)
          have y0 := HY6b.out.c0
          have y1 := HY6b.out.c1
          have y2 := HY6b.out.c2
          have y3 := HY6b.out.c3
          have y4 := HY6b.out.c4
          have ylt := HY6b.out.lt
          have c0 := HC6b.out.c0
          have c1 := HC6b.out.c1
          have c2 := HC6b.out.c2
          have c3 := HC6b.out.c3
          have c4 := HC6b.out.c4
          have c5 := HC6b.out.c5
          have c6 := HC6b.out.c6
          have c7 := HC6b.out.c7
          have clt := HC6b.out.lt
          clear hb6 HC5b HS5b HB5b HY5b
          go_wp2_with fail
          refine Calls.mono (HE1.out _) ?_
          rintro e a7 ⟨rfl, hb7⟩
          have HB7b := Lib.hid ((HB6b.out.trans (hb7.mono HB6b.out.size)).alloc (HB6b.out.trans (hb7.mono HB6b.out.size)).size (.cells #[.int .i64 (BR.mk 0 0 0 n 0).t, .int .i64 (BR.mk 0 0 0 n 0).f, .int .i64 (BR.mk 0 0 0 n 0).u, .float .f64 (BR.mk 0 0 0 n 0).s, .int .i64 (BR.mk 0 0 0 n 0).c] 26))
          have HC7b := Lib.hid ((HC6b.out.later hb7).alloc (.cells #[.int .i64 (BR.mk 0 0 0 n 0).t, .int .i64 (BR.mk 0 0 0 n 0).f, .int .i64 (BR.mk 0 0 0 n 0).u, .float .f64 (BR.mk 0 0 0 n 0).s, .int .i64 (BR.mk 0 0 0 n 0).c] 26))
          have HS7b := Lib.hid ((HS6b.out.later hb7).alloc (.cells #[.int .i64 (BR.mk 0 0 0 n 0).t, .int .i64 (BR.mk 0 0 0 n 0).f, .int .i64 (BR.mk 0 0 0 n 0).u, .float .f64 (BR.mk 0 0 0 n 0).s, .int .i64 (BR.mk 0 0 0 n 0).c] 26))
          have HY7b := Lib.hid ((HY6b.out.later hb7).alloc (.cells #[.int .i64 (BR.mk 0 0 0 n 0).t, .int .i64 (BR.mk 0 0 0 n 0).f, .int .i64 (BR.mk 0 0 0 n 0).u, .float .f64 (BR.mk 0 0 0 n 0).s, .int .i64 (BR.mk 0 0 0 n 0).c] 26))
          have HG7b := Lib.hid (BAt.new a7 ⟨0, 0, 0, n, 0⟩)
          clear y0 y1 y2 y3 y4 ylt
          clear c0 c1 c2 c3 c4 c5 c6 c7 clt
          have y0 := (HY6b.out.later hb7).c0
          have y1 := (HY6b.out.later hb7).c1
          have y2 := (HY6b.out.later hb7).c2
          have y3 := (HY6b.out.later hb7).c3
          have y4 := (HY6b.out.later hb7).c4
          have ylt := (HY6b.out.later hb7).lt
          have c0 := (HC6b.out.later hb7).c0
          have c1 := (HC6b.out.later hb7).c1
          have c2 := (HC6b.out.later hb7).c2
          have c3 := (HC6b.out.later hb7).c3
          have c4 := (HC6b.out.later hb7).c4
          have c5 := (HC6b.out.later hb7).c5
          have c6 := (HC6b.out.later hb7).c6
          have c7 := (HC6b.out.later hb7).c7
          have clt := (HC6b.out.later hb7).lt
          clear hb7 HC6b HS6b HB6b HY6b
          go_wp2_with fail
          refine Calls.mono (HE2.out _) ?_
          rintro e a8 ⟨rfl, hb8⟩
          have HB8b := Lib.hid ((HB7b.out.trans (hb8.mono HB7b.out.size)).alloc (HB7b.out.trans (hb8.mono HB7b.out.size)).size (.cells #[.int .i64 (BR.mk 1 (F + 1) (U + 9 + P) 0 (F + 1)).t, .int .i64 (BR.mk 1 (F + 1) (U + 9 + P) 0 (F + 1)).f, .int .i64 (BR.mk 1 (F + 1) (U + 9 + P) 0 (F + 1)).u, .float .f64 (BR.mk 1 (F + 1) (U + 9 + P) 0 (F + 1)).s, .int .i64 (BR.mk 1 (F + 1) (U + 9 + P) 0 (F + 1)).c] 26))
          have HC8b := Lib.hid ((HC7b.out.later hb8).alloc (.cells #[.int .i64 (BR.mk 1 (F + 1) (U + 9 + P) 0 (F + 1)).t, .int .i64 (BR.mk 1 (F + 1) (U + 9 + P) 0 (F + 1)).f, .int .i64 (BR.mk 1 (F + 1) (U + 9 + P) 0 (F + 1)).u, .float .f64 (BR.mk 1 (F + 1) (U + 9 + P) 0 (F + 1)).s, .int .i64 (BR.mk 1 (F + 1) (U + 9 + P) 0 (F + 1)).c] 26))
          have HS8b := Lib.hid ((HS7b.out.later hb8).alloc (.cells #[.int .i64 (BR.mk 1 (F + 1) (U + 9 + P) 0 (F + 1)).t, .int .i64 (BR.mk 1 (F + 1) (U + 9 + P) 0 (F + 1)).f, .int .i64 (BR.mk 1 (F + 1) (U + 9 + P) 0 (F + 1)).u, .float .f64 (BR.mk 1 (F + 1) (U + 9 + P) 0 (F + 1)).s, .int .i64 (BR.mk 1 (F + 1) (U + 9 + P) 0 (F + 1)).c] 26))
          have HY8b := Lib.hid ((HY7b.out.later hb8).alloc (.cells #[.int .i64 (BR.mk 1 (F + 1) (U + 9 + P) 0 (F + 1)).t, .int .i64 (BR.mk 1 (F + 1) (U + 9 + P) 0 (F + 1)).f, .int .i64 (BR.mk 1 (F + 1) (U + 9 + P) 0 (F + 1)).u, .float .f64 (BR.mk 1 (F + 1) (U + 9 + P) 0 (F + 1)).s, .int .i64 (BR.mk 1 (F + 1) (U + 9 + P) 0 (F + 1)).c] 26))
          have HG8b := Lib.hid ((HG7b.out.later hb8).alloc (.cells #[.int .i64 (BR.mk 1 (F + 1) (U + 9 + P) 0 (F + 1)).t, .int .i64 (BR.mk 1 (F + 1) (U + 9 + P) 0 (F + 1)).f, .int .i64 (BR.mk 1 (F + 1) (U + 9 + P) 0 (F + 1)).u, .float .f64 (BR.mk 1 (F + 1) (U + 9 + P) 0 (F + 1)).s, .int .i64 (BR.mk 1 (F + 1) (U + 9 + P) 0 (F + 1)).c] 26))
          clear y0 y1 y2 y3 y4 ylt
          clear c0 c1 c2 c3 c4 c5 c6 c7 clt
          have y0 := (HY7b.out.later hb8).c0
          have y1 := (HY7b.out.later hb8).c1
          have y2 := (HY7b.out.later hb8).c2
          have y3 := (HY7b.out.later hb8).c3
          have y4 := (HY7b.out.later hb8).c4
          have ylt := (HY7b.out.later hb8).lt
          have c0 := (HC7b.out.later hb8).c0
          have c1 := (HC7b.out.later hb8).c1
          have c2 := (HC7b.out.later hb8).c2
          have c3 := (HC7b.out.later hb8).c3
          have c4 := (HC7b.out.later hb8).c4
          have c5 := (HC7b.out.later hb8).c5
          have c6 := (HC7b.out.later hb8).c6
          have c7 := (HC7b.out.later hb8).c7
          have clt := (HC7b.out.later hb8).lt
          have g0 := (HG7b.out.later hb8).c0
          have g1 := (HG7b.out.later hb8).c1
          have g2 := (HG7b.out.later hb8).c2
          have g3 := (HG7b.out.later hb8).c3
          have g4 := (HG7b.out.later hb8).c4
          have glt := (HG7b.out.later hb8).lt
          clear hb8 HC7b HS7b HY7b HG7b HB7b
          go_wp2_with fail
          refine Calls.mono (HN0.out _) ?_
          rintro e w' ⟨rfl, he⟩
          have he := he.symm
          subst he
          go_wp2_with fail
          refine Calls.mono (HN0.out _) ?_
          rintro e w' ⟨rfl, he⟩
          have he := he.symm
          subst he
          go_wp2_with fail
          refine Calls.mono (HN0.out _) ?_
          rintro e w' ⟨rfl, he⟩
          have he := he.symm
          subst he
          go_wp2_with fail
          refine Calls.mono (HN0.out _) ?_
          rintro e w' ⟨rfl, he⟩
          have he := he.symm
          subst he
          go_wp2_with fail
          refine Calls.mono (HW.out _) ?_
          rintro e a9 ⟨rfl, hb9⟩
          have HB9 := Lib.hid (HB8b.out.trans (hb9.mono HB8b.out.size))
          clear hb9
          go_wp2_with fail
          go_ret
          exact ⟨rfl, HB9.out⟩
end Go.Proofs.Ytlkikecnlafmeaa

/-
  BreakerTries: the statement's own walk.
  Conditions: as the theorem states them: the argument lies in memory.
-/
import Derived.Test.YtlkikecnlafmeaaQM
import Derived.Deep.CutRange
import Derived.Deep.DeepCutAuto
import Derived.Deep.QuietTactic
import Derived.BigQuiet
import Derived.WalkSmall
namespace Go.Proofs.Ytlkikecnlafmeaa
open Go.RowKit

theorem open_ok {n : Nat} (hn : n = 9221120237041090561) : okB ⟨1, 0, 50, n, 0⟩ = true := by
  subst hn
  decide
theorem half_ok {n : Nat} (hn : n = 9221120237041090561) : okB ⟨2, 0, 0, n, 0⟩ = true := by
  subst hn
  decide
theorem tries_early {n : Nat} {i : Int} (hn : n = 9221120237041090561) (h0 : 0 ≤ i) (h : i < 50) : outB (beginR ⟨1, 0, 50, n, 0⟩ i) = .tuple #[bV zB, .int .i64 9] := by
  unfold beginR askB mayB
  rw [open_ok hn, inB_iff.2 ⟨h0, (by omega : i ≤ 1099511627776)⟩, decide_eq_false (show ¬ (50 : Int) ≤ i by omega)]
  rfl
theorem tries_late {n : Nat} {i : Int} (hn : n = 9221120237041090561) (h : 50 ≤ i) (h2 : i < 60) : outB (beginR ⟨1, 0, 50, n, 0⟩ i) = .tuple #[bV ⟨2, 0, 0, n, 0⟩, .int .i64 0] := by
  unfold beginR askB mayB
  rw [open_ok hn, inB_iff.2 ⟨(by omega : 0 ≤ i), (by omega : i ≤ 1099511627776)⟩, decide_eq_true (show (50 : Int) ≤ i by omega)]
  rfl
theorem tries_half {n : Nat} {i : Int} (hn : n = 9221120237041090561) (h : 0 ≤ i) (h2 : i < 2000) : outB (beginR ⟨2, 0, 0, n, 0⟩ i) = .tuple #[bV zB, .int .i64 9] := by
  unfold beginR askB mayB
  rw [half_ok hn, inB_iff.2 ⟨h, (by omega : i ≤ 1099511627776)⟩]
  rfl
theorem tries_may {n : Nat} {i : Int} (hn : n = 9221120237041090561) (h : 0 ≤ i) (h2 : i < 2000) : outM ⟨2, 0, 0, n, 0⟩ i = .tuple #[.bool false, .int .i64 0] := by
  unfold outM askB mayB
  rw [half_ok hn, inB_iff.2 ⟨h, (by omega : i ≤ 1099511627776)⟩]
  rfl
theorem tries_shut {n : Nat} (hn : n = 9221120237041090561) : outB (beginR ⟨0, 0, 0, n, 0⟩ 3) = .tuple #[bV ⟨0, 0, 0, n, 0⟩, .int .i64 0] := by
  unfold beginR askB
  rw [nan_ok hn]
  rfl
set_option maxHeartbeats 4000000 in
set_option maxRecDepth 100000 in
theorem tries_any (b : BR) (sc : Nat) (v : Value) (l : List AR) (w : World) (h : AcsAt w v l) :
    Calls Try.prog 9 #[sV b sc v] w fun e w' => e = .returned (.bool true) ∧ Below w.heap.size w w' := by
  obtain ⟨A0, cp, rfl, hll⟩ := h.slice
  clear h
  have hst := store_float
  obtain ⟨n, hn⟩ : ∃ n, n = 9221120237041090561 := ⟨_, rfl⟩
  have HN := Lib.hid hn
  have HNN := Lib.hid (fun W => nan_any W)
  rw [← hn] at HNN
  have hns : n < 18446744073709551616 := by omega
  have HBG := Lib.hid (fun (c : BR) (i : Int) W (hs : c.s < 18446744073709551616) => bbegin_any c i W hs)
  have HMY := Lib.hid (fun (c : BR) (i : Int) W (hs : c.s < 18446744073709551616) => bmay_any c i W hs)
  have HNW := Lib.hid (fun W => bnew_any n hn W)
  have HW := Lib.hid (fun W => wakes_any W)
  have HN0 := Lib.hid (fun W => num_any 0 W)
  have HN9 := Lib.hid (fun W => num_any 9 W)
  have HS := Lib.hid ((SAt.new w b sc (.slice A0 l.length cp)).alloc (.cells #[.int .i64 (BR.mk 1 0 50 n 0).t, .int .i64 (BR.mk 1 0 50 n 0).f, .int .i64 (BR.mk 1 0 50 n 0).u, .float .f64 (BR.mk 1 0 50 n 0).s, .int .i64 (BR.mk 1 0 50 n 0).c] 26))
  have HX := Lib.hid (BAt.new1 w (.cells #[.int .i64 b.t, .int .i64 b.f, .int .i64 b.u, .float .f64 b.s, .int .i64 b.c, .int .u64 (sc : Int), .slice A0 l.length cp] 30) ⟨1, 0, 50, n, 0⟩)
  have HB := Lib.hid (((Below.refl _ w).alloc (Nat.le_refl _) (.cells #[.int .i64 b.t, .int .i64 b.f, .int .i64 b.u, .float .f64 b.s, .int .i64 b.c, .int .u64 (sc : Int), .slice A0 l.length cp] 30)).alloc (by simp) (.cells #[.int .i64 (BR.mk 1 0 50 n 0).t, .int .i64 (BR.mk 1 0 50 n 0).f, .int .i64 (BR.mk 1 0 50 n 0).u, .float .f64 (BR.mk 1 0 50 n 0).s, .int .i64 (BR.mk 1 0 50 n 0).c] 26))
  have HBS := Lib.hid (fun W => HBG.out ⟨0, 0, 0, n, 0⟩ 3 W hns)
  rw [tries_shut hn] at HBS
  have HNS := Lib.hid hns
  clear hn hns
  unfold bV at HNW HBS
  unfold sV
  go_enter Try.func9, Try.ntmps9
  go_wp2_with fail
  refine Calls.mono (HNN.out _) ?_
  rintro e w' ⟨rfl, he⟩
  have he := he.symm
  subst he
  go_wp2_with fail
  go_loopw [4] (fun iv wr => ∃ i : Nat, iv = .int .i64 i ∧ 45 ≤ i ∧ i ≤ 55 ∧ BAt wr (w.heap.size + 1) ⟨1, 0, 50, n, 0⟩ ∧ SAt wr w.heap.size b sc (.slice A0 l.length cp) ∧ Below w.heap.size w wr) (fun iv _ => 56 - (intOf iv).toNat)
  case atStart => exact ⟨45, rfl, by omega, by omega, HX.out, HS.out, HB.out⟩
  case round =>
    obtain ⟨i, rfl, hi1, hi2, hX, hS, hb⟩ := hrel
    have HX1 := Lib.hid hX
    have HS1 := Lib.hid hS
    have HB1 := Lib.hid hb
    clear hX hS hb HX HS HB
    have m0 := HX1.out.c0
    have m1 := HX1.out.c1
    have m2 := HX1.out.c2
    have m3 := HX1.out.c3
    have m4 := HX1.out.c4
    by_cases h55 : i < 55
    · have h55i : (i : Int) < 55 := by omega
      have HBG1 := Lib.hid (fun W => HBG.out ⟨1, 0, 50, n, 0⟩ (i : Int) W HNS.out)
      by_cases h50 : i < 50
      · have h50i : (i : Int) < 50 := by omega
        rw [tries_early HN.out (by omega) h50i] at HBG1
        unfold bV zB at HBG1
        go_wp2_with fail
        refine Calls.mono (HBG1.out _) ?_
        rintro e w2 ⟨rfl, hb2⟩
        have HX2 := Lib.hid ((HX1.out.later hb2).alloc (.cells #[.int .i64 zB.t, .int .i64 zB.f, .int .i64 zB.u, .float .f64 zB.s, .int .i64 zB.c] 26))
        have HS2 := Lib.hid ((HS1.out.later hb2).alloc (.cells #[.int .i64 zB.t, .int .i64 zB.f, .int .i64 zB.u, .float .f64 zB.s, .int .i64 zB.c] 26))
        have HB2 := Lib.hid ((HB1.out.trans (hb2.mono HB1.out.size)).alloc (HB1.out.trans (hb2.mono HB1.out.size)).size (.cells #[.int .i64 zB.t, .int .i64 zB.f, .int .i64 zB.u, .float .f64 zB.s, .int .i64 zB.c] 26))
        clear hb2 HX1 HS1 HB1 m0 m1 m2 m3 m4
        go_wp2_with fail
        refine Calls.mono (HN9.out _) ?_
        rintro e w' ⟨rfl, he⟩
        have he := he.symm
        subst he
        go_wp2_with fail
        exact ⟨⟨i + 1, by go_num, by omega, by omega, HX2.out, HS2.out, HB2.out⟩, by simp [intOf]; omega⟩
      · have h50i : decide ((i : Int) < 50) = false := decide_eq_false (by omega)
        have h50n : ¬ (i : Int) < 50 := by omega
        have hw1 : IntKind.i64.wrap ((i : Int) + 1000) = (i : Int) + 1000 := wrap_id (by omega) (by omega)
        rw [tries_late HN.out (by omega) (by omega)] at HBG1
        have HBG2 := Lib.hid (fun W => HBG.out ⟨2, 0, 0, n, 0⟩ (i : Int) W HNS.out)
        rw [tries_half HN.out (by omega) (by omega)] at HBG2
        have HMY1 := Lib.hid (fun W => HMY.out ⟨2, 0, 0, n, 0⟩ ((i : Int) + 1000) W HNS.out)
        rw [tries_may HN.out (by omega) (by omega)] at HMY1
        unfold bV at HBG1 HMY1
        unfold bV zB at HBG2
        go_wp2_with fail
        refine Calls.mono (HBG1.out _) ?_
        rintro e w2 ⟨rfl, hb2⟩
        have HX2 := Lib.hid ((HX1.out.later hb2).alloc (.cells #[.int .i64 (BR.mk 2 0 0 n 0).t, .int .i64 (BR.mk 2 0 0 n 0).f, .int .i64 (BR.mk 2 0 0 n 0).u, .float .f64 (BR.mk 2 0 0 n 0).s, .int .i64 (BR.mk 2 0 0 n 0).c] 26))
        have HS2 := Lib.hid ((HS1.out.later hb2).alloc (.cells #[.int .i64 (BR.mk 2 0 0 n 0).t, .int .i64 (BR.mk 2 0 0 n 0).f, .int .i64 (BR.mk 2 0 0 n 0).u, .float .f64 (BR.mk 2 0 0 n 0).s, .int .i64 (BR.mk 2 0 0 n 0).c] 26))
        have HB2 := Lib.hid ((HB1.out.trans (hb2.mono HB1.out.size)).alloc (HB1.out.trans (hb2.mono HB1.out.size)).size (.cells #[.int .i64 (BR.mk 2 0 0 n 0).t, .int .i64 (BR.mk 2 0 0 n 0).f, .int .i64 (BR.mk 2 0 0 n 0).u, .float .f64 (BR.mk 2 0 0 n 0).s, .int .i64 (BR.mk 2 0 0 n 0).c] 26))
        have HY2 := Lib.hid (BAt.new w2 ⟨2, 0, 0, n, 0⟩)
        clear hb2 HX1 HS1 HB1 m0 m1 m2 m3 m4
        go_wp2_with fail
        refine Calls.mono (HBG2.out _) ?_
        rintro e w3 ⟨rfl, hb3⟩
        have HX3 := Lib.hid ((HX2.out.later hb3).alloc (.cells #[.int .i64 zB.t, .int .i64 zB.f, .int .i64 zB.u, .float .f64 zB.s, .int .i64 zB.c] 26))
        have HS3 := Lib.hid ((HS2.out.later hb3).alloc (.cells #[.int .i64 zB.t, .int .i64 zB.f, .int .i64 zB.u, .float .f64 zB.s, .int .i64 zB.c] 26))
        have HB3 := Lib.hid ((HB2.out.trans (hb3.mono HB2.out.size)).alloc (HB2.out.trans (hb3.mono HB2.out.size)).size (.cells #[.int .i64 zB.t, .int .i64 zB.f, .int .i64 zB.u, .float .f64 zB.s, .int .i64 zB.c] 26))
        have HY3 := Lib.hid ((HY2.out.later hb3).alloc (.cells #[.int .i64 zB.t, .int .i64 zB.f, .int .i64 zB.u, .float .f64 zB.s, .int .i64 zB.c] 26))
        have HZ3 := Lib.hid (BAt.new w3 zB)
        have y0 := (HY2.out.later hb3).c0
        have y1 := (HY2.out.later hb3).c1
        have y2 := (HY2.out.later hb3).c2
        have y3 := (HY2.out.later hb3).c3
        have y4 := (HY2.out.later hb3).c4
        have ylt := (HY2.out.later hb3).lt
        clear hb3 HX2 HS2 HB2 HY2
        go_wp2_with fail
        refine Calls.mono (HMY1.out _) ?_
        rintro e w4 ⟨rfl, hb4⟩
        have HX4 := Lib.hid (HX3.out.later hb4)
        have HS4 := Lib.hid (HS3.out.later hb4)
        have HB4 := Lib.hid (HB3.out.trans (hb4.mono HB3.out.size))
        have HY4 := Lib.hid (HY3.out.later hb4)
        have HZ4 := Lib.hid (HZ3.out.later hb4)
        clear hb4 HX3 HS3 HB3 HY3 HZ3 y0 y1 y2 y3 y4 ylt
        have y0 := HY4.out.c0
        have y2 := HY4.out.c2
        have z0 := HZ4.out.c0
        have z2 := HZ4.out.c2
        unfold zB at z0 z2
        go_wp2_with fail
        refine Calls.mono (HN0.out _) ?_
        rintro e w' ⟨rfl, he⟩
        have he := he.symm
        subst he
        go_wp2_with fail
        refine Calls.mono (HN9.out _) ?_
        rintro e w' ⟨rfl, he⟩
        have he := he.symm
        subst he
        go_wp2_with fail
        refine Calls.mono (HN0.out _) ?_
        rintro e w' ⟨rfl, he⟩
        have he := he.symm
        subst he
        go_wp2_with fail
        exact ⟨⟨i + 1, by go_num, by omega, by omega, HX4.out, HS4.out, HB4.out⟩, by simp [intOf]; omega⟩
    · have h55i : decide ((i : Int) < 55) = false := decide_eq_false (by omega)
      have h55n : ¬ (i : Int) < 55 := by omega
      go_wp2_with fail
      refine Calls.mono (HNW.out _) ?_
      rintro e w2 ⟨rfl, hb2⟩
      have HS2 := Lib.hid (HS1.out.later hb2)
      have HB2 := Lib.hid (HB1.out.trans (hb2.mono HB1.out.size))
      clear hb2 HX1 HS1 HB1 m0 m1 m2 m3 m4
      go_wp2_with fail
      refine Calls.mono (HBS.out _) ?_
      rintro e w3 ⟨rfl, hb3⟩
      have HS3 := Lib.hid ((HS2.out.later hb3).alloc (.cells #[.int .i64 (BR.mk 0 0 0 n 0).t, .int .i64 (BR.mk 0 0 0 n 0).f, .int .i64 (BR.mk 0 0 0 n 0).u, .float .f64 (BR.mk 0 0 0 n 0).s, .int .i64 (BR.mk 0 0 0 n 0).c] 26))
      have HB3 := Lib.hid ((HB2.out.trans (hb3.mono HB2.out.size)).alloc (HB2.out.trans (hb3.mono HB2.out.size)).size (.cells #[.int .i64 (BR.mk 0 0 0 n 0).t, .int .i64 (BR.mk 0 0 0 n 0).f, .int .i64 (BR.mk 0 0 0 n 0).u, .float .f64 (BR.mk 0 0 0 n 0).s, .int .i64 (BR.mk 0 0 0 n 0).c] 26))
      have s2 := (HS2.out.later hb3).c6
      have slt := (HS2.out.later hb3).lt
      clear hb3 HS2 HB2
      go_wp2_with fail
      refine Calls.mono (HN0.out _) ?_
      rintro e w' ⟨rfl, he⟩
      have he := he.symm
      subst he
      go_wp2_with fail
      refine Calls.mono (HW.out _) ?_
      rintro e w4 ⟨rfl, hb4⟩
      have HB4 := Lib.hid (HB3.out.trans (hb4.mono HB3.out.size))
      clear hb4
      go_wp2_with fail
      go_ret
      exact ⟨rfl, HB4.out⟩
end Go.Proofs.Ytlkikecnlafmeaa

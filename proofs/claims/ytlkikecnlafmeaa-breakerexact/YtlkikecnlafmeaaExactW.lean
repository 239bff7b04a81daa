/-
  BreakerExact: the statement's own walk.
  Conditions: as the theorem states them: the argument lies in memory.
-/
import Derived.Test.YtlkikecnlafmeaaQP
namespace Go.Proofs.Ytlkikecnlafmeaa
open Go.RowKit

theorem below_in {w w5 : World} (h : Below w.drew.heap.size w.drew w5) : Below w.heap.size w w5 := (Below.refl _ w).drew.trans h
theorem below_in2 {w w5 : World} {o : Obj} (h : Below (w.alloc o).drew.heap.size (w.alloc o).drew w5) : Below w.heap.size w w5 := ((Below.refl _ w).alloc (Nat.le_refl _) o).drew.trans (h.mono (show w.heap.size ≤ (w.alloc o).heap.size by simp))
theorem err_ok (b : Bool) : (errN b == 0) = b := by cases b <;> rfl
set_option maxHeartbeats 8000000 in
set_option maxRecDepth 100000 in
theorem exact_any (b : BR) (sc : Nat) (v : Value) (l : List AR) (w : World) (hsc : sc < 18446744073709551616) (h : AcsAt w v l) :
    Calls Try.prog 3 #[sV b sc v] w fun e w' => e = .returned (.bool true) ∧ Below w.heap.size w w' := by
  have HU := Lib.hid h
  obtain ⟨A0, cp, rfl, hll⟩ := h.slice
  have hst := store_float
  have hfr := run_from sc
  have HST := Lib.hid (fun (b : BR) (a : AR) W (hs : b.s < 18446744073709551616) (hf : a.fo < 18446744073709551616) => step_any b a W hs hf)
  have HCK := Lib.hid (fun (b : BR) W (hs : b.s < 18446744073709551616) => bcheck_any b W hs)
  have HPB := Lib.hid (fun (b : BR) W (hs : b.s < 18446744073709551616) => rBreaker_any b W hs)
  have HNU := Lib.hid (fun (n : Int) W => num_any n W)
  have HW := Lib.hid (fun W => wakes_any W)
  obtain ⟨n, hn⟩ : ∃ n, n = 9221120237041090561 := ⟨_, rfl⟩
  have HNB := Lib.hid (fun W => bnew_any n hn W)
  have HRB := Lib.hid (fun W => rnew_any n hn W)
  have HEQ := Lib.hid (fun W => eqBreaker_any ⟨0, 0, 0, n, 0⟩ ⟨0, 0, 0, n, 0⟩ W)
  rw [eqB_self] at HEQ
  have HS := Lib.hid ((SAt.new w b sc (.slice A0 l.length cp)).alloc (.cells #[.int .i64 (BR.mk b.t b.f b.u sc b.c).t, .int .i64 (BR.mk b.t b.f b.u sc b.c).f, .int .i64 (BR.mk b.t b.f b.u sc b.c).u, .float .f64 (BR.mk b.t b.f b.u sc b.c).s, .int .i64 (BR.mk b.t b.f b.u sc b.c).c] 26))
  have HX := Lib.hid (BAt.new1 w (.cells #[.int .i64 b.t, .int .i64 b.f, .int .i64 b.u, .float .f64 b.s, .int .i64 b.c, .int .u64 (sc : Int), .slice A0 l.length cp] 30) ⟨b.t, b.f, b.u, sc, b.c⟩)
  have HB := Lib.hid (((Below.refl _ w).alloc (Nat.le_refl _) (.cells #[.int .i64 b.t, .int .i64 b.f, .int .i64 b.u, .float .f64 b.s, .int .i64 b.c, .int .u64 (sc : Int), .slice A0 l.length cp] 30)).alloc (by simp) (.cells #[.int .i64 (BR.mk b.t b.f b.u sc b.c).t, .int .i64 (BR.mk b.t b.f b.u sc b.c).f, .int .i64 (BR.mk b.t b.f b.u sc b.c).u, .float .f64 (BR.mk b.t b.f b.u sc b.c).s, .int .i64 (BR.mk b.t b.f b.u sc b.c).c] 26))
  have HSC := Lib.hid hsc
  clear h hsc hn
  unfold bV aV at HST
  unfold bV at HCK HPB HNB HRB HEQ
  unfold sV
  by_cases h300 : l.length > 300
  · have h300i : (300 : Int) < (l.length : Int) := by omega
    go_enter Try.func3, Try.ntmps3
    go_wp2_with fail
    go_ret
    exact ⟨rfl, (Below.refl _ w).alloc (Nat.le_refl _) _⟩
  have h300d : decide ((300 : Int) < (l.length : Int)) = false := decide_eq_false (by omega)
  have h300n : ¬ ((300 : Int) < (l.length : Int)) := by omega
  clear h300
  go_enter Try.func3, Try.ntmps3
  go_wp2_with fail
  clear h300d h300n
  go_loopw [4] (fun iv wr => ∃ (i : Nat) (c : BR), iv = .int .i64 i ∧ i ≤ l.length ∧ i ≤ 40 ∧ BAt wr (w.heap.size + 1) c ∧ c.s < 18446744073709551616 ∧ SAt wr w.heap.size b sc (.slice A0 l.length cp) ∧ Below w.heap.size w wr) (fun iv _ => 41 - (intOf iv).toNat)
  case atStart => exact ⟨0, ⟨b.t, b.f, b.u, sc, b.c⟩, rfl, Nat.zero_le _, Nat.zero_le _, HX.out, HSC.out, HS.out, HB.out⟩
  case round =>
    obtain ⟨i, c, rfl, hil, hi40, hX, hcs, hS, hb⟩ := hrel
    have HX1 := Lib.hid hX
    have HS1 := Lib.hid hS
    have HB1 := Lib.hid hb
    have HCS := Lib.hid hcs
    clear hX hS hb HX HS HB hfr hcs
    have s2 := HS1.out.c6
    have m0 := HX1.out.c0
    have m1 := HX1.out.c1
    have m2 := HX1.out.c2
    have m3 := HX1.out.c3
    have m4 := HX1.out.c4
    have mlt := HX1.out.lt
    have slt := HS1.out.lt
    by_cases hin : i < l.length ∧ i < 40
    · have hlti : (i : Int) < (l.length : Int) := by omega
      have h40i : (i : Int) < 40 := by omega
      have HCK := Lib.hid (fun W => HCK.out c W HCS.out)
      have HPB := Lib.hid (fun W => HPB.out c W HCS.out)
      have HNU := Lib.hid (fun W => HNU.out (errN (okB c)) W)
      have HE0 := Lib.hid (err_ok (okB c))
      have HE1 := Lib.hid (show okB c = false → errN (okB c) = 1 from fun h => by rw [h]; rfl)
      obtain ⟨k, hk⟩ : ∃ k, errN (okB c) = k := ⟨_, rfl⟩
      rw [hk] at HCK HNU HE0 HE1
      clear hk
      generalize okB c = qq at *
      have he0 := HE0.out
      go_wp2_with fail
      refine Calls.mono (HCK.out _) ?_
      rintro e w2 ⟨rfl, hb2⟩
      have HX2 := Lib.hid (HX1.out.later hb2)
      have HS2 := Lib.hid (HS1.out.later hb2)
      have HB2 := Lib.hid (HB1.out.trans (hb2.mono HB1.out.size))
      clear hb2 m0 m1 m2 m3 m4 mlt s2 slt HX1 HS1 HB1
      have m0 := HX2.out.c0
      have m1 := HX2.out.c1
      have m2 := HX2.out.c2
      have m3 := HX2.out.c3
      have m4 := HX2.out.c4
      go_wp2_with fail
      refine Calls.mono (HNU.out _) ?_
      rintro e w' ⟨rfl, he⟩
      have he := he.symm
      subst he
      go_upto_region 9 with (fail)
      go_cut [45] (fun tv wc => tv = .bool false ∧ Below w2.heap.size w2 wc)
      case first =>
        cases qq with
        | true =>
          have hk0 : k = 0 := beq_iff_eq.1 he0
          subst hk0
          go_wp2_with fail
          refine Calls.mono (HPB.out _) ?_
          rintro e w3 ⟨rfl, hb3⟩
          go_wp2_with fail
          go_meet
          case rel => exact ⟨rfl, hb3⟩
        | false =>
          have hk1 := HE1.out (by simp)
          subst hk1
          go_wp2_with fail
          refine Calls.mono (HPB.out _) ?_
          rintro e w3 ⟨rfl, hb3⟩
          go_wp2_with fail
          go_meet
          case rel => exact ⟨rfl, hb3⟩
      case rest =>
        obtain ⟨rfl, hb3⟩ := hcut
        have HX3 := Lib.hid (HX2.out.later hb3)
        have HS3 := Lib.hid (HS2.out.later hb3)
        have HB3 := Lib.hid (HB2.out.trans (hb3.mono HB2.out.size))
        generalize wc = w3 at *
        clear hb3 m0 m1 m2 m3 m4 HX2 HS2 HB2
        obtain ⟨kb, ko, q, hA, hkb0, hkb, hq⟩ := HU.out.at hin.1 rfl HB3.out
        subst hA
        have HST := Lib.hid (fun W => HST.out c q W HCS.out hq.fo)
        have HSK : Hid (∀ W, Below w3.heap.size w3 W → (W.cell? ⟨w.heap.size + 1, 0, none⟩ = some (.int .i64 c.t) ∧ W.cell? ⟨w.heap.size + 1, 1, none⟩ = some (.int .i64 c.f) ∧ W.cell? ⟨w.heap.size + 1, 2, none⟩ = some (.int .i64 c.u) ∧ W.cell? ⟨w.heap.size + 1, 3, none⟩ = some (.float .f64 c.s) ∧ W.cell? ⟨w.heap.size + 1, 4, none⟩ = some (.int .i64 c.c) ∧ W.cell? ⟨w.heap.size, 6, none⟩ = some (.slice (some ⟨kb, ko, none⟩) l.length cp) ∧ W.cell? ⟨kb, ko + i * 6, none⟩ = some (.int .i64 q.d) ∧ W.cell? ⟨kb, ko + i * 6 + 1, none⟩ = some (.int .i64 q.n) ∧ W.cell? ⟨kb, ko + i * 6 + 2, none⟩ = some (.int .i64 q.fl) ∧ W.cell? ⟨kb, ko + i * 6 + 3, none⟩ = some (.int .i64 q.pa) ∧ W.cell? ⟨kb, ko + i * 6 + 4, none⟩ = some (.bool q.ok) ∧ W.cell? ⟨kb, ko + i * 6 + 5, none⟩ = some (.int .u64 (q.fo : Int)))) := Lib.hid (fun W hW => ⟨(HX3.out.later hW).c0, (HX3.out.later hW).c1, (HX3.out.later hW).c2, (HX3.out.later hW).c3, (HX3.out.later hW).c4, (HS3.out.later hW).c6,
          (hW.cell (p := ⟨kb, ko + i * 6, none⟩) hkb).trans hq.c0, (hW.cell (p := ⟨kb, ko + i * 6 + 1, none⟩) hkb).trans hq.c1, (hW.cell (p := ⟨kb, ko + i * 6 + 2, none⟩) hkb).trans hq.c2, (hW.cell (p := ⟨kb, ko + i * 6 + 3, none⟩) hkb).trans hq.c3, (hW.cell (p := ⟨kb, ko + i * 6 + 4, none⟩) hkb).trans hq.c4, (hW.cell (p := ⟨kb, ko + i * 6 + 5, none⟩) hkb).trans hq.c5⟩)
        clear hq he0
        go_upto_region 11 with (fail)
        go_cut [6, 7] (fun pv ov wc => ∃ (X : Nat) (x : BR), pv = .pointer (some ⟨X, 0, none⟩) ∧ ov = .bool true ∧ BAt wc X x ∧ x.s < 18446744073709551616 ∧ X ≠ w.heap.size + 1 ∧ Below w3.heap.size w3 wc)
        case first =>
          have hsz := HX3.out.lt
          have m0 := HX3.out.c0
          have m1 := HX3.out.c1
          have m2 := HX3.out.c2
          have m3 := HX3.out.c3
          have m4 := HX3.out.c4
          have slt := HS3.out.lt
          have s2 := HS3.out.c6
          obtain ⟨-, -, -, -, -, -, a0, a1, a2, a3, a4, a5⟩ := HSK.out w3 (Below.refl _ _)
          clear hll hin hil hi40 hkb0
          go_region_law (first
              | (go_simp; go_at_call 14; refine (HST.out _).mono ?_; rintro e w5 ⟨⟨x, rfl, hxs⟩, hb5⟩; (have hk5 : Below w3.heap.size w3 w5 := (by with_reducible exact below_in hb5)))
              | (go_simp; go_at_call 14; refine (HST.out _).mono ?_; rintro e w5 ⟨⟨x, rfl, hxs⟩, hb5⟩; (have hk5 : Below w3.heap.size w3 w5 := (by with_reducible exact below_in2 hb5)); (have hm5 := (BAt.new w3 zB).drew.later hb5); (have n0 := hm5.c0); (have z0 := hm5.fz 0); (have n1 := hm5.c1); (have z1 := hm5.fz 1); (have n2 := hm5.c2); (have z2 := hm5.fz 2); (have n3 := hm5.c3); (have z3 := hm5.fz 3); (have n4 := hm5.c4); (have z4 := hm5.fz 4); (have nlt := hm5.lt)))
          all_goals
            go_wp2_with fail
            go_meet
            case rel =>
              first
              | exact ⟨w3.heap.size, x, rfl, rfl, hm5.set5 x.t x.f x.u x.s x.c, hxs, by omega, below_set5 hk5 (Nat.le_refl _) _ _ _ _ _⟩
              | exact ⟨w5.heap.size, x, rfl, rfl, BAt.new w5 x, hxs, by have := hk5.size; omega, hk5.alloc hk5.size _⟩
        case rest =>
          obtain ⟨X, x, rfl, rfl, hY, hxs, hXn, hb4⟩ := hcut
          have HY4 := Lib.hid hY
          have HB4 := Lib.hid (HB3.out.trans (hb4.mono HB3.out.size))
          have HX4 := Lib.hid (HX3.out.later hb4)
          have HS4 := Lib.hid (HS3.out.later hb4)
          have HXS := Lib.hid hxs
          generalize wc = w4 at *
          clear hY hb4 HX3 HS3 HB3 hxs
          have y0 := HY4.out.c0
          have y1 := HY4.out.c1
          have y2 := HY4.out.c2
          have y3 := HY4.out.c3
          have y4 := HY4.out.c4
          have m0 := HX4.out.c0
          have m1 := HX4.out.c1
          have m2 := HX4.out.c2
          have m3 := HX4.out.c3
          have m4 := HX4.out.c4
          have mz0 := HX4.out.fz 0
          have mz1 := HX4.out.fz 1
          have mz2 := HX4.out.fz 2
          have mz3 := HX4.out.fz 3
          have mz4 := HX4.out.fz 4
          have mlt := HX4.out.lt
          go_wp2_with fail
          exact ⟨⟨i + 1, x, by go_num, by omega, by omega, HX4.out.set5 x.t x.f x.u x.s x.c, HXS.out, HS4.out.other5 (by omega) _ _ _ _ _, below_set5 HB4.out (by omega) _ _ _ _ _⟩, by simp [intOf]; omega⟩
    · by_cases hlt : i < l.length
      · have hlti : (i : Int) < (l.length : Int) := by omega
        have h40i : decide ((i : Int) < 40) = false := decide_eq_false (by omega)
        go_wp2_with fail
        refine Calls.mono (HNB.out _) ?_
        rintro e w4 ⟨rfl, hb4⟩
        have HB4 := Lib.hid (HB1.out.trans (hb4.mono HB1.out.size))
        clear hb4
        go_wp2_with fail
        refine Calls.mono (HRB.out _) ?_
        rintro e w5 ⟨rfl, hb5⟩
        have HB5 := Lib.hid (HB4.out.trans (hb5.mono HB4.out.size))
        clear hb5
        go_wp2_with fail
        refine Calls.mono (HEQ.out _) ?_
        rintro e w6 ⟨rfl, hb6⟩
        have HB6 := Lib.hid (HB5.out.trans (hb6.mono HB5.out.size))
        clear hb6
        go_wp2_with fail
        refine Calls.mono (HW.out _) ?_
        rintro e w7 ⟨rfl, hb7⟩
        have HB7 := Lib.hid (HB6.out.trans (hb7.mono HB6.out.size))
        clear hb7
        go_wp2_with fail
        go_ret
        exact ⟨rfl, HB7.out⟩
      · have hlti : decide ((i : Int) < (l.length : Int)) = false := decide_eq_false (by omega)
        go_wp2_with fail
        refine Calls.mono (HNB.out _) ?_
        rintro e w4 ⟨rfl, hb4⟩
        have HB4 := Lib.hid (HB1.out.trans (hb4.mono HB1.out.size))
        clear hb4
        go_wp2_with fail
        refine Calls.mono (HRB.out _) ?_
        rintro e w5 ⟨rfl, hb5⟩
        have HB5 := Lib.hid (HB4.out.trans (hb5.mono HB4.out.size))
        clear hb5
        go_wp2_with fail
        refine Calls.mono (HEQ.out _) ?_
        rintro e w6 ⟨rfl, hb6⟩
        have HB6 := Lib.hid (HB5.out.trans (hb6.mono HB5.out.size))
        clear hb6
        go_wp2_with fail
        refine Calls.mono (HW.out _) ?_
        rintro e w7 ⟨rfl, hb7⟩
        have HB7 := Lib.hid (HB6.out.trans (hb7.mono HB6.out.size))
        clear hb7
        go_wp2_with fail
        go_ret
        exact ⟨rfl, HB7.out⟩
end Go.Proofs.Ytlkikecnlafmeaa

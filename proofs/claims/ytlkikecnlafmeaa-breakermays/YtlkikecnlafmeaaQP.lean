/-
  One step of a statement's script, whatever it is; the statements' own round of acts of one kind, walked.
  Conditions: as each theorem states them: a word is below 2 to the 64; the list of acts lies in memory.
-/
import Derived.Test.YtlkikecnlafmeaaQM
import Derived.Test.YtlkikecnlafmeaaQK
import Derived.Test.YtlkikecnlafmeaaQN
namespace Go.Proofs.Ytlkikecnlafmeaa
open Go.RowKit

theorem step_any (b : BR) (a : AR) (w : World) (hs : b.s < 18446744073709551616) (hf : a.fo < 18446744073709551616) :
    Calls Try.prog 14 #[bV b, aV a] w fun e w' => (∃ x : BR, e = .returned (.tuple #[bV x, .bool true]) ∧ x.s < 18446744073709551616) ∧ Below w.heap.size w w' := by
  obtain ⟨m1, m2⟩ := modI_in (i := a.d) (n := 6) (by decide)
  by_cases h0 : modI a.d 6 = 0
  · exact step_may b a w hs hf h0
  · by_cases h1 : modI a.d 6 = 1
    · exact step_begin b a w hs hf 1 h1 (Or.inl rfl)
    · by_cases h2 : modI a.d 6 = 2
      · exact step_begin b a w hs hf 2 h2 (Or.inr rfl)
      · exact step_end b a w hs hf _ rfl (by omega)

set_option maxHeartbeats 4000000 in
set_option maxRecDepth 100000 in
theorem only_any (b : BR) (sc : Nat) (v : Value) (l : List AR) (dd : Int) (w : World) (hsc : sc < 18446744073709551616) (h : AcsAt w v l) :
    Calls Try.prog 19 #[sV b sc v, .int .i64 dd] w fun e w' => e = .returned (.bool true) ∧ Below w.heap.size w w' := by
  have HU := Lib.hid h
  obtain ⟨A0, cp, rfl, hll⟩ := h.slice
  have hst := store_float
  have hfr := run_from sc
  have HST := Lib.hid (fun (a : AR) W (hf : a.fo < 18446744073709551616) => step_any ⟨b.t, b.f, b.u, sc, b.c⟩ a W hsc hf)
  have HW := Lib.hid (fun W => wakes_any W)
  have HS := Lib.hid ((SAt.new w b sc (.slice A0 l.length cp)).alloc (.cells #[.int .i64 (BR.mk b.t b.f b.u sc b.c).t, .int .i64 (BR.mk b.t b.f b.u sc b.c).f, .int .i64 (BR.mk b.t b.f b.u sc b.c).u, .float .f64 (BR.mk b.t b.f b.u sc b.c).s, .int .i64 (BR.mk b.t b.f b.u sc b.c).c] 26))
  have HX := Lib.hid (BAt.new1 w (.cells #[.int .i64 b.t, .int .i64 b.f, .int .i64 b.u, .float .f64 b.s, .int .i64 b.c, .int .u64 (sc : Int), .slice A0 l.length cp] 30) ⟨b.t, b.f, b.u, sc, b.c⟩)
  have HB := Lib.hid (((Below.refl _ w).alloc (Nat.le_refl _) (.cells #[.int .i64 b.t, .int .i64 b.f, .int .i64 b.u, .float .f64 b.s, .int .i64 b.c, .int .u64 (sc : Int), .slice A0 l.length cp] 30)).alloc (by simp) (.cells #[.int .i64 (BR.mk b.t b.f b.u sc b.c).t, .int .i64 (BR.mk b.t b.f b.u sc b.c).f, .int .i64 (BR.mk b.t b.f b.u sc b.c).u, .float .f64 (BR.mk b.t b.f b.u sc b.c).s, .int .i64 (BR.mk b.t b.f b.u sc b.c).c] 26))
  clear h hsc
  unfold bV aV at HST
  unfold sV
  go_enter Try.func19, Try.ntmps19
  go_wp2_with fail
  go_loopw [6] (fun iv wr => ∃ i : Nat, iv = .int .i64 i ∧ i ≤ l.length ∧ i ≤ 40 ∧ BAt wr (w.heap.size + 1) ⟨b.t, b.f, b.u, sc, b.c⟩ ∧ SAt wr w.heap.size b sc (.slice A0 l.length cp) ∧ Below w.heap.size w wr) (fun iv _ => 41 - (intOf iv).toNat)
  case atStart => exact ⟨0, rfl, Nat.zero_le _, Nat.zero_le _, HX.out, HS.out, HB.out⟩
  case round =>
    obtain ⟨i, rfl, hil, hi40, hX, hS, hb⟩ := hrel
    have HX1 := Lib.hid hX
    have HS1 := Lib.hid hS
    have HB1 := Lib.hid hb
    clear hX hS hb HX HS HB hfr
    have s2 := HS1.out.c6
    have m0 := HX1.out.c0
    have m1 := HX1.out.c1
    have m2 := HX1.out.c2
    have m3 := HX1.out.c3
    have m4 := HX1.out.c4
    have mlt := HX1.out.lt
    have slt := HS1.out.lt
    by_cases hin : i < l.length ∧ i < 40
    · have hlti : (i : Int) < (l.length : Int) := by omega
      have h40i : (i : Int) < 40 := by omega
      obtain ⟨kb, ko, q, hA, _, hkb, hq⟩ := HU.out.at hin.1 rfl HB1.out
      subst hA
      have HST := Lib.hid (fun W => HST.out ⟨dd, q.n, q.fl, q.pa, q.ok, q.fo⟩ W hq.fo)
      have a0 := hq.c0
      have a1 := hq.c1
      have a2 := hq.c2
      have a3 := hq.c3
      have a4 := hq.c4
      have a5 := hq.c5
      have HBa := Lib.hid (HB1.out.alloc HB1.out.size (.cells #[.int .i64 dd, .int .i64 q.n, .int .i64 q.fl, .int .i64 q.pa, .bool q.ok, .int .u64 (q.fo : Int)] 39))
      have HXa := Lib.hid (HX1.out.alloc (.cells #[.int .i64 dd, .int .i64 q.n, .int .i64 q.fl, .int .i64 q.pa, .bool q.ok, .int .u64 (q.fo : Int)] 39))
      have HSa := Lib.hid (HS1.out.alloc (.cells #[.int .i64 dd, .int .i64 q.n, .int .i64 q.fl, .int .i64 q.pa, .bool q.ok, .int .u64 (q.fo : Int)] 39))
      clear hq HX1 HS1 HB1
      go_wp2_with fail
      refine Calls.mono (HST.out _) ?_
      rintro e w3 ⟨⟨x, rfl, hxs⟩, hb3⟩
      have HB3 := Lib.hid ((HBa.out.trans (hb3.mono HBa.out.size)).alloc (HBa.out.trans (hb3.mono HBa.out.size)).size (.cells #[.int .i64 x.t, .int .i64 x.f, .int .i64 x.u, .float .f64 x.s, .int .i64 x.c] 26))
      have HX3 := Lib.hid ((HXa.out.later hb3).alloc (.cells #[.int .i64 x.t, .int .i64 x.f, .int .i64 x.u, .float .f64 x.s, .int .i64 x.c] 26))
      have HS3 := Lib.hid ((HSa.out.later hb3).alloc (.cells #[.int .i64 x.t, .int .i64 x.f, .int .i64 x.u, .float .f64 x.s, .int .i64 x.c] 26))
      clear hb3 hxs a0 a1 a2 a3 a4 a5 m0 m1 m2 m3 m4 s2 mlt slt
      go_wp2_with fail
      exact ⟨⟨i + 1, by go_num, by omega, by omega, HX3.out, HS3.out, HB3.out⟩, by simp [intOf]; omega⟩
    · by_cases hlt : i < l.length
      · have hlti : (i : Int) < (l.length : Int) := by omega
        have h40i : decide ((i : Int) < 40) = false := decide_eq_false (by omega)
        go_wp2_with fail
        refine Calls.mono (HW.out _) ?_
        rintro e w4 ⟨rfl, hb4⟩
        have HB4 := Lib.hid (HB1.out.trans (hb4.mono HB1.out.size))
        clear hb4
        go_wp2_with fail
        go_ret
        exact ⟨rfl, HB4.out⟩
      · have hlti : decide ((i : Int) < (l.length : Int)) = false := decide_eq_false (by omega)
        go_wp2_with fail
        refine Calls.mono (HW.out _) ?_
        rintro e w4 ⟨rfl, hb4⟩
        have HB4 := Lib.hid (HB1.out.trans (hb4.mono HB1.out.size))
        clear hb4
        go_wp2_with fail
        go_ret
        exact ⟨rfl, HB4.out⟩
end Go.Proofs.Ytlkikecnlafmeaa

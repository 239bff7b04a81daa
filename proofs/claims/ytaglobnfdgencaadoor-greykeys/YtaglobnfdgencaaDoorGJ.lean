/-
  Package grey's valid, walked.
  Conditions: as each theorem states them.
-/
import Derived.Test.YtaglobnfdgencaaDoorGI
import Derived.Shelf.SlSortCmp.QuietGrown
import Derived.Laws.Cover1
namespace Go.Proofs.YtaglobnfdgencaaDoor
open Go.RowKit

theorem grow_one (w : World) (o : Obj) : Go.Sort.grow (w.drewN 0) #[o] = w.alloc o := by
  unfold Go.Sort.grow World.alloc World.drewN
  simp only [Array.append_singleton]
  rfl
theorem entry_grown (g : Gy) (w : World) : Calls Tryd.prog 27 #[gV g] w fun e w' => e = .returned (.bool (okG g)) ∧ ∃ q os', w' = Go.Sort.grow (w.drewN q) os' :=
  (entry_at g w).mono fun _ _ ⟨he, hw⟩ => ⟨he, 0, _, hw.trans (grow_one _ _).symm⟩
theorem below_grow (w : World) (n : Nat) (os : Array Obj) : Below w.heap.size w (Go.Sort.grow (w.drewN n) os) :=
  ⟨rfl, rfl, rfl, by show _ ≤ (w.heap ++ os).size; simp, fun k hk => by show (w.heap ++ os)[k]? = _; rw [Array.getElem?_append_left hk]⟩

set_option maxHeartbeats 2000000 in
theorem valid_any (l : List Gy) (v : Value) (w : World) (h : GR w v l) (hl : l.length < 1000000) :
    Calls Tryd.prog 19 #[v] w fun e w' => e = .returned (.bool (okL l)) ∧ Below w.heap.size w w' := by
  have HU := Lib.hid h
  obtain ⟨A, c, rfl, hlc, hc⟩ := h.slice
  have HE := Lib.hid (fun g W => entry_grown g W)
  unfold gV at HE
  clear h
  by_cases hn : l.length ≤ 32
  · have hn' : ¬ ((32 : Int) < (l.length : Int)) := by omega
    have HL := Lib.hid hn
    go_enter Tryd.func19, Tryd.ntmps19
    go_wp2_with fail
    go_loopw [10] (fun iv wr => ∃ i : Nat, iv = .int .i64 i ∧ i ≤ l.length ∧ Hid ((∀ j (hj : j < l.length), j < i → okG l[j] = true) ∧ (∀ j (hj : j + 1 < l.length), j + 1 < i → ltK (l[j]'(by omega)).k l[j + 1].k = true)) ∧ Below w.heap.size w wr) (fun iv _ => l.length - (intOf iv).toNat)
    case atStart => exact ⟨0, rfl, Nat.zero_le _, ⟨fun _ _ h => absurd h (Nat.not_lt_zero _), fun _ _ h => absurd h (Nat.not_lt_zero _)⟩, Below.refl _ _⟩
    case round =>
      obtain ⟨i, rfl, hil, I, hb⟩ := hrel
      have HB := Lib.hid hb
      clear hb
      by_cases hlt : i < l.length
      · have hlti : (i : Int) < (l.length : Int) := by omega
        obtain ⟨b, o, hA, hbl, c0, c1, c2, c3⟩ := HU.out.at (i := i) hlt rfl HB.out
        subst hA
        obtain ⟨x, hx⟩ : ∃ x, l[i] = x := ⟨_, rfl⟩
        rw [hx] at c0 c1 c2 c3
        have HX := Lib.hid hx
        clear hx
        have HN := Lib.hid (EAt.new wr x)
        have hEx := Lib.hid (fun W => HE.out x W)
        obtain ⟨q, hq⟩ : ∃ q, okG x = q := ⟨_, rfl⟩
        rw [hq] at hEx
        have HQ := Lib.hid hq
        clear hq
        cases q with
        | false =>
          have mixed : Tryd.prog.follows .mixedOrders = true := by kernel_rfl
          have hg0 := fun n os => cell_grown HN.out.lt HN.out.c0 n os
          have hg1 := fun n os => cell_grown HN.out.lt HN.out.c1 n os
          have hg2 := fun n os => cell_grown HN.out.lt HN.out.c2 n os
          have hg3 := fun n os => cell_grown HN.out.lt HN.out.c3 n os
          go_upto_region 6 with (fail)
          refine wp_region_quiet_grown (by assumption) (by kernel_rfl) ?_
          repeat (first | go_big_quiet_skip | (go_big_quiet_want; go_big_quiet_op; first | go_big_quiet_on | go_big_quiet_call (first | (go_at_call 27; exact Calls.grown_of (hEx.out _)))) | quiet_step (first | (go_at_call 27; exact Calls.grown_of (hEx.out _))))
          refine wpQuiet_nil ?_
          intro _ hw'
          obtain ⟨⟨nq, osq⟩, hw''⟩ := hw'
          subst hw''
          have hwc := below_grow (wr.alloc (.cells #[.string x.k, .int .i64 x.b, .int .i64 x.l, .bool x.p] 53)) nq osq
          generalize Go.Sort.grow ((wr.alloc (.cells #[.string x.k, .int .i64 x.b, .int .i64 x.l, .bool x.p] 53)).drewN nq) osq = wc at *
          have HB1 := Lib.hid ((HB.out.alloc HB.out.size _).trans (hwc.mono (by have := HB.out.size; simp; omega)))
          clear hwc hg0 hg1 hg2 hg3
          go_wp2_with fail
          go_ret
          refine ⟨?_, HB1.out⟩
          rw [okL_bad hlt (by rw [HX.out]; exact HQ.out)]; rfl
        | true =>
          have hI1 : ∀ j (hj : j < l.length), j < i + 1 → okG l[j] = true := fun j hj h => by
            by_cases h' : j = i
            · subst h'; rw [HX.out]; exact HQ.out
            · exact I.out.1 j hj (by omega)
          have HI1 := Lib.hid hI1
          clear hI1
          by_cases h0 : i = 0
          · have HI0 := Lib.hid h0
            have hi0 : decide (0 < i) = false := decide_eq_false (by omega)
            clear h0
            have mixed : Tryd.prog.follows .mixedOrders = true := by kernel_rfl
            have hg0 := fun n os => cell_grown HN.out.lt HN.out.c0 n os
            have hg1 := fun n os => cell_grown HN.out.lt HN.out.c1 n os
            have hg2 := fun n os => cell_grown HN.out.lt HN.out.c2 n os
            have hg3 := fun n os => cell_grown HN.out.lt HN.out.c3 n os
            go_upto_region 6 with (fail)
            refine wp_region_quiet_grown (by assumption) (by kernel_rfl) ?_
            repeat (first | go_big_quiet_skip | (go_big_quiet_want; go_big_quiet_op; first | go_big_quiet_on | go_big_quiet_call (first | (go_at_call 27; exact Calls.grown_of (hEx.out _)))) | quiet_step (first | (go_at_call 27; exact Calls.grown_of (hEx.out _))))
            refine wpQuiet_nil ?_
            intro _ hw'
            obtain ⟨⟨nq, osq⟩, hw''⟩ := hw'
            subst hw''
            have hwc := below_grow (wr.alloc (.cells #[.string x.k, .int .i64 x.b, .int .i64 x.l, .bool x.p] 53)) nq osq
            generalize Go.Sort.grow ((wr.alloc (.cells #[.string x.k, .int .i64 x.b, .int .i64 x.l, .bool x.p] 53)).drewN nq) osq = wc at *
            have HB1 := Lib.hid ((HB.out.alloc HB.out.size _).trans (hwc.mono (by have := HB.out.size; simp; omega)))
            clear hwc hg0 hg1 hg2 hg3
            go_wp2_with fail
            refine ⟨⟨i + 1, by go_num, by omega, ⟨HI1.out, fun j hj h => by have := HI0.out; omega⟩, HB1.out⟩, by simp [intOf]; omega⟩
          · obtain ⟨k, rfl⟩ : ∃ k, i = k + 1 := ⟨i - 1, by omega⟩
            have hk1 : k < l.length := by omega
            have hi0 : decide ((0 : Int) < ((k + 1 : Nat) : Int)) = true := decide_eq_true (by omega)
            obtain ⟨b', o', hA, _, d0, _, _, _⟩ := HU.out.at (i := k) hk1 rfl HB.out
            simp only [Option.some.injEq, Addr.mk.injEq, and_true] at hA
            obtain ⟨rfl, rfl⟩ := hA
            obtain ⟨y, hy⟩ : ∃ y, l[k].k = y := ⟨_, rfl⟩
            rw [hy] at d0
            have HY := Lib.hid hy
            have HD := Lib.hid d0
            obtain ⟨q2, hq2⟩ : ∃ q2, ltK y x.k = q2 := ⟨_, rfl⟩
            have HQ2 := Lib.hid hq2
            have hbyt := lt_of_toList y x.k
            rw [hq2] at hbyt
            clear hy hq2 h0
            have mixed : Tryd.prog.follows .mixedOrders = true := by kernel_rfl
            have hg0 := fun n os => cell_grown HN.out.lt HN.out.c0 n os
            have hg1 := fun n os => cell_grown HN.out.lt HN.out.c1 n os
            have hg2 := fun n os => cell_grown HN.out.lt HN.out.c2 n os
            have hg3 := fun n os => cell_grown HN.out.lt HN.out.c3 n os
            have hg4 := fun n os => cell_grown (w := (wr.alloc (.cells #[.string x.k, .int .i64 x.b, .int .i64 x.l, .bool x.p] 53))) (a := ⟨b, o + k * 4, none⟩) (by show b < _; simp; omega) ((World.cell?_of_block (w := wr) (Below.heap_alloc wr _ b hbl)).trans HD.out) n os
            go_upto_region 6 with (fail)
            refine wp_region_quiet_grown (by assumption) (by kernel_rfl) ?_
            repeat (first | go_big_quiet_skip | (go_big_quiet_want; go_big_quiet_op; first | go_big_quiet_on | go_big_quiet_call (first | (go_at_call 27; exact Calls.grown_of (hEx.out _)))) | quiet_step (first | (go_at_call 27; exact Calls.grown_of (hEx.out _))))
            refine wpQuiet_nil ?_
            intro _ hw'
            obtain ⟨⟨nq, osq⟩, hw''⟩ := hw'
            subst hw''
            have hwc := below_grow (wr.alloc (.cells #[.string x.k, .int .i64 x.b, .int .i64 x.l, .bool x.p] 53)) nq osq
            generalize Go.Sort.grow ((wr.alloc (.cells #[.string x.k, .int .i64 x.b, .int .i64 x.l, .bool x.p] 53)).drewN nq) osq = wc at *
            have HB1 := Lib.hid ((HB.out.alloc HB.out.size _).trans (hwc.mono (by have := HB.out.size; simp; omega)))
            clear hwc hg0 hg1 hg2 hg3
            cases q2 with
            | false =>
              go_wp2_with fail
              go_ret
              refine ⟨?_, HB1.out⟩
              rw [okL_turned (i := k) hlt (by rw [HX.out, HY.out]; exact HQ2.out)]; rfl
            | true =>
              go_wp2_with fail
              refine ⟨⟨k + 1 + 1, by go_num, by omega, ⟨HI1.out, fun j hj h => ?_⟩, HB1.out⟩, by simp [intOf]; omega⟩
              by_cases h' : j = k
              · subst h'; rw [HX.out, HY.out]; exact HQ2.out
              · exact I.out.2 j hj (by omega)
      · have hlti : ¬ ((i : Int) < (l.length : Int)) := by omega
        obtain rfl : i = l.length := by omega
        go_wp2_with fail
        go_ret
        refine ⟨?_, HB.out⟩
        rw [okL_all HL.out (fun j hj => I.out.1 j hj hj) (fun j hj => I.out.2 j hj hj)]; rfl
  · have hn' : (32 : Int) < (l.length : Int) := by omega
    have HL := Lib.hid (okL_long (l := l) (by omega))
    go_enter Tryd.func19, Tryd.ntmps19
    go_wp2_with fail
    go_ret
    exact ⟨by rw [HL.out]; rfl, Below.refl _ _⟩
end Go.Proofs.YtaglobnfdgencaaDoor

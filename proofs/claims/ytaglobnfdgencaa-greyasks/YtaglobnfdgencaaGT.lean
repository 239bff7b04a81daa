/-
  The page's question whether a list may be, walked.
  Conditions: as each theorem states them.
-/
import Derived.Test.YtaglobnfdgencaaGQ
namespace Go.Proofs.Ytaglobnfdgencaa
open Go.RowKit

theorem okG_of {g : Gy} (h1 : okK g.k = true) (h2 : inB g.l 0 1099511627776 = true) (h3 : inB g.b 0 g.l = true) : okG g = true := by
  rw [inB_iff] at h2 h3
  unfold okG
  rw [h1, inB_iff.2 (show 0 ≤ g.b ∧ g.b ≤ 1099511627776 by omega), inB_iff.2 h2, decide_eq_true h3.2]
  rfl
theorem okG_k {g : Gy} (h : ¬ (1 ≤ (g.k.size : Int) ∧ (g.k.size : Int) ≤ 700)) : okG g = false := by
  have : okK g.k = false := inB_not.2 h
  unfold okG
  rw [this]
  rfl
theorem okG_l {g : Gy} (h : inB g.l 0 1099511627776 = false) : okG g = false := by
  unfold okG
  rw [h, Bool.and_false, Bool.false_and]
theorem okG_bl {g : Gy} (h : inB g.b 0 g.l = false) : okG g = false := by
  rw [inB_not] at h
  cases e : okG g
  · rfl
  · unfold okG at e
    simp only [Bool.and_eq_true, inB_iff, decide_eq_true_eq] at e
    omega
set_option maxHeartbeats 2000000 in
theorem rGreys_any (l : List Gy) (v : Value) (w : World) (h : GR w v l) (hl : l.length < 1000000) :
    Calls Try.prog 10 #[v] w fun e w' => e = .returned (.bool (okL l)) ∧ Below w.heap.size w w' := by
  have HU := Lib.hid h
  obtain ⟨A, c, rfl, hlc, hc⟩ := h.slice
  have HNM := Lib.hid (fun a b W => rNum_any a b W)
  clear h
  by_cases hn : l.length ≤ 32
  · have hn' : decide ((32 : Int) < (l.length : Int)) = false := decide_eq_false (by omega)
    have hn'' : ¬ ((32 : Int) < (l.length : Int)) := by omega
    have HL := Lib.hid hn
    go_enter Try.func10, Try.ntmps10
    go_wp2_with fail
    go_loopw [3] (fun iv wr => ∃ i : Nat, iv = .int .i64 i ∧ i ≤ l.length ∧ Hid ((∀ j (hj : j < l.length), j < i → okG l[j] = true) ∧ (∀ j (hj : j + 1 < l.length), j + 1 < i → ltK (l[j]'(by omega)).k l[j + 1].k = true)) ∧ Below w.heap.size w wr) (fun iv _ => l.length - (intOf iv).toNat)
    case atStart => exact ⟨0, rfl, Nat.zero_le _, ⟨fun _ _ h => absurd h (Nat.not_lt_zero _), fun _ _ h => absurd h (Nat.not_lt_zero _)⟩, Below.refl _ _⟩
    case round =>
      obtain ⟨i, rfl, hil, I, hb⟩ := hrel
      have HB := Lib.hid hb
      clear hb
      by_cases hlt : i < l.length
      · have hlti : (i : Int) < (l.length : Int) := by omega
        obtain ⟨b, o, hA, hbl, c0, c1, c2, c3⟩ := HU.out.at (i := i) hlt rfl HB.out
        subst hA
        obtain ⟨x, hx⟩ : ∃ x, l[i] = x := ⟨_, rfl⟩
        rw [hx] at c0 c1 c2 c3
        have HX := Lib.hid hx
        clear hx
        obtain ⟨z, hz⟩ : ∃ z : Int, (x.k.size : Int) = z := ⟨_, rfl⟩
        have HZ := Lib.hid hz
        by_cases hz1 : z < 1
        · have hd1 : decide (z < 1) = true := decide_eq_true hz1
          have HQ := Lib.hid (show okG x = false from okG_k (by omega))
          go_upto_region 7 with (fail)
          go_quiet (first | (go_at_call 22; exact Calls.quiet_of_same (HNM.out _ _ _)))
          have HB1 := Lib.hid (below_drewN (HB.out.alloc HB.out.size (.cells #[.string x.k, .int .i64 x.b, .int .i64 x.l, .bool x.p] 45)) nq)
          generalize World.drewN _ nq = wc at *
          go_wp2_with fail
          go_ret
          refine ⟨?_, HB1.out⟩
          rw [okL_bad hlt (by rw [HX.out]; exact HQ.out)]; rfl
        · have hd1 : decide (z < 1) = false := decide_eq_false hz1
          by_cases hz2 : 700 < z
          · have hd2 : decide (700 < z) = true := decide_eq_true hz2
            have HQ := Lib.hid (show okG x = false from okG_k (by omega))
            go_upto_region 7 with (fail)
            go_quiet (first | (go_at_call 22; exact Calls.quiet_of_same (HNM.out _ _ _)))
            have HB1 := Lib.hid (below_drewN (HB.out.alloc HB.out.size (.cells #[.string x.k, .int .i64 x.b, .int .i64 x.l, .bool x.p] 45)) nq)
            generalize World.drewN _ nq = wc at *
            go_wp2_with fail
            go_ret
            refine ⟨?_, HB1.out⟩
            rw [okL_bad hlt (by rw [HX.out]; exact HQ.out)]; rfl
          · have hd2 : decide (700 < z) = false := decide_eq_false hz2
            have HK := Lib.hid (show okK x.k = true from inB_iff.2 (by omega))
            cases hn1 : inB x.l 0 1099511627776 with
            | false =>
              have HQ := Lib.hid (okG_l hn1)
              go_upto_region 7 with (fail)
              go_quiet (first | (go_at_call 22; exact Calls.quiet_of_same (HNM.out _ _ _)))
              have HB1 := Lib.hid (below_drewN (HB.out.alloc HB.out.size (.cells #[.string x.k, .int .i64 x.b, .int .i64 x.l, .bool x.p] 45)) nq)
              generalize World.drewN _ nq = wc at *
              go_wp2_with fail
              go_ret
              refine ⟨?_, HB1.out⟩
              rw [okL_bad hlt (by rw [HX.out]; exact HQ.out)]; rfl
            | true =>
              cases hn2 : inB x.b 0 x.l with
              | false =>
                have HQ := Lib.hid (okG_bl hn2)
                go_upto_region 7 with (fail)
                go_quiet (first | (go_at_call 22; exact Calls.quiet_of_same (HNM.out _ _ _)))
                have HB1 := Lib.hid (below_drewN (HB.out.alloc HB.out.size (.cells #[.string x.k, .int .i64 x.b, .int .i64 x.l, .bool x.p] 45)) nq)
                generalize World.drewN _ nq = wc at *
                go_wp2_with fail
                go_ret
                refine ⟨?_, HB1.out⟩
                rw [okL_bad hlt (by rw [HX.out]; exact HQ.out)]; rfl
              | true =>
                have HQ := Lib.hid (okG_of HK.out hn1 hn2)
                have hI1 : ∀ j (hj : j < l.length), j < i + 1 → okG l[j] = true := fun j hj h => by
                  by_cases h' : j = i
                  · subst h'; rw [HX.out]; exact HQ.out
                  · exact I.out.1 j hj (by omega)
                have HI1 := Lib.hid hI1
                clear hI1
                by_cases h0 : i = 0
                · have HI0 := Lib.hid h0
                  have hi0 : decide (0 < i) = false := decide_eq_false (by omega)
                  clear h0
                  go_upto_region 7 with (fail)
                  go_quiet (first | (go_at_call 22; exact Calls.quiet_of_same (HNM.out _ _ _)))
                  have HB1 := Lib.hid (below_drewN (HB.out.alloc HB.out.size (.cells #[.string x.k, .int .i64 x.b, .int .i64 x.l, .bool x.p] 45)) nq)
                  generalize World.drewN _ nq = wc at *
                  go_wp2_with fail
                  refine ⟨⟨i + 1, by go_num, by omega, ⟨HI1.out, fun j hj h => by have := HI0.out; omega⟩, HB1.out⟩, by simp [intOf]; omega⟩
                · obtain ⟨k, rfl⟩ : ∃ k, i = k + 1 := ⟨i - 1, by omega⟩
                  have hk1 : k < l.length := by omega
                  have hi0 : decide ((0 : Int) < ((k + 1 : Nat) : Int)) = true := decide_eq_true (by omega)
                  obtain ⟨b', o', hA, _, d0, _, _, _⟩ := HU.out.at (i := k) hk1 rfl HB.out
                  simp only [Option.some.injEq, Addr.mk.injEq, and_true] at hA
                  obtain ⟨rfl, rfl⟩ := hA
                  obtain ⟨y, hy⟩ : ∃ y, l[k].k = y := ⟨_, rfl⟩
                  rw [hy] at d0
                  have HY := Lib.hid hy
                  obtain ⟨q2, hq2⟩ : ∃ q2, ltK y x.k = q2 := ⟨_, rfl⟩
                  have HQ2 := Lib.hid hq2
                  have hbyt := lt_of_toList y x.k
                  rw [hq2] at hbyt
                  clear hy hq2 h0
                  go_upto_region 7 with (fail)
                  go_quiet (first | (go_at_call 22; exact Calls.quiet_of_same (HNM.out _ _ _)))
                  have HB1 := Lib.hid (below_drewN (HB.out.alloc HB.out.size (.cells #[.string x.k, .int .i64 x.b, .int .i64 x.l, .bool x.p] 45)) nq)
                  generalize World.drewN _ nq = wc at *
                  cases q2 with
                  | false =>
                    go_wp2_with fail
                    go_ret
                    refine ⟨?_, HB1.out⟩
                    rw [okL_turned (i := k) hlt (by rw [HX.out, HY.out]; exact HQ2.out)]; rfl
                  | true =>
                    go_wp2_with fail
                    refine ⟨⟨k + 1 + 1, by go_num, by omega, ⟨HI1.out, fun j hj h => ?_⟩, HB1.out⟩, by simp [intOf]; omega⟩
                    by_cases h' : j = k
                    · subst h'; rw [HX.out, HY.out]; exact HQ2.out
                    · exact I.out.2 j hj (by omega)
      · have hlti : ¬ ((i : Int) < (l.length : Int)) := by omega
        obtain rfl : i = l.length := by omega
        go_wp2_with fail
        go_ret
        refine ⟨?_, HB.out⟩
        rw [okL_all HL.out (fun j hj => I.out.1 j hj hj) (fun j hj => I.out.2 j hj hj)]; rfl
  · have hn' : (32 : Int) < (l.length : Int) := by omega
    have HL := Lib.hid (okL_long (l := l) (by omega))
    go_enter Try.func10, Try.ntmps10
    go_wp2_with fail
    go_ret
    exact ⟨by rw [HL.out]; rfl, Below.refl _ _⟩
end Go.Proofs.Ytaglobnfdgencaa

/-
  Package health's Note and Good, the page's MayNote, Note and Good, walked.
  Conditions: as each theorem states them: a word is below 2 to the 64.
-/
import Derived.Test.YtlkikecnlafmeaaHC
namespace Go.Proofs.Ytlkikecnlafmeaa
open Go.RowKit

/-- The score behind a note, and the count. -/
def nextS (s : Nat) (c : Int) (x u : Nat) : Nat := if nanF x then s else if c = 0 then clampF x 0 4607182418800017408 else noteR s (clampF x 0 4607182418800017408) u
def nextC (c : Int) (x : Nat) : Int := if nanF x then c else if c + 1 ≤ 1099511627776 then c + 1 else 1099511627776
/-- How Note ends. -/
def endN (s : Nat) (c : Int) (x u : Nat) : Ending := if okH s c && okW u then .returned (.tuple #[hV (nextS s c x u) (nextC c x), .int .i64 0]) else .returned (.tuple #[hV 0 0, .int .i64 1])

theorem clamp_le {x : Nat} (h : x < 18446744073709551616) (hn : nanF x = false) : clampF x 0 4607182418800017408 ≤ 4607182418800017408 := by
  by_cases k : x < 9223372036854775808
  · have hx : x < 9218868437227405313 := by
      unfold nanF at hn
      have := of_decide_eq_false hn
      omega
    rw [clamp_unit hx]
    exact Nat.min_le_right _ _
  · unfold clampF
    rw [hn, show (false || nanF 0 || nanF 4607182418800017408) = false by decide, if_neg (by decide), if_pos]
    · omega
    · left
      rw [cmp_neg]
      unfold bitsF
      rw [hn, if_neg (by decide), if_neg k, show nanF 0 = false by decide]
      simp
      omega
theorem okH_pos {s : Nat} {c : Int} (h : okH s c = true) (hc : c ≠ 0) : 0 < c ∧ c ≤ 1099511627776 ∧ s ≤ 4607182418800017408 := by
  unfold okH at h
  rw [if_neg hc, Bool.and_eq_true, Bool.and_eq_true, decide_eq_true_eq, decide_eq_true_eq, decide_eq_true_eq] at h
  exact ⟨h.1.1, h.1.2, h.2⟩
theorem okH_zero {s : Nat} (h : okH s 0 = true) : nanF s = true := by
  unfold okH at h
  rw [if_pos rfl] at h
  exact h
theorem okW_le {u : Nat} (h : okW u = true) : 0 < u ∧ u ≤ 4607182418800017408 := by
  unfold okW at h
  rw [Bool.and_eq_true, decide_eq_true_eq, decide_eq_true_eq] at h
  exact h
theorem HAt.new1 (w : World) (o : Obj) (s : Nat) (c : Int) : HAt ((w.alloc o).alloc (.cells #[.float .f64 s, .int .i64 c] 24)) (w.heap.size + 1) s c := by
  have := HAt.new (w.alloc o) s c
  rwa [show (w.alloc o).heap.size = w.heap.size + 1 by simp] at this

set_option maxHeartbeats 1000000 in
theorem note_any (s : Nat) (c : Int) (x u : Nat) (w : World) (hs : s < 18446744073709551616) (hx : x < 18446744073709551616) (hu : u < 18446744073709551616) :
    Calls Try.prog 47 #[hV s c, .float .f64 x, .float .f64 u] w fun e w' => e = endN s c x u ∧ Below w.heap.size w w' := by
  have HA := Lib.hid (((Below.refl _ w).alloc (Nat.le_refl _) (.cells #[.float .f64 s, .int .i64 c] 24)).alloc (by simp) (.cells #[.float .f64 0, .int .i64 0] 24))
  have HX0 := Lib.hid ((HAt.new w s c).alloc (.cells #[.float .f64 0, .int .i64 0] 24))
  have HR0 := Lib.hid (HAt.new1 w (.cells #[.float .f64 s, .int .i64 c] 24) 0 0)
  have hst := store_float
  have HV := Lib.hid (fun W => valid_any s c W hs)
  have HW := Lib.hid (fun W => validWeight_any u W hu)
  have HN := Lib.hid (fun W => isNaN_any x W)
  have HC := Lib.hid (fun W => fClamp_any x 0 4607182418800017408 W hx (by decide) (by decide))
  have HCL := Lib.hid (fun h => clamp_le hx h)
  have HEE := Lib.hid (show endN s c x u = if okH s c && okW u then .returned (.tuple #[hV (nextS s c x u) (nextC c x), .int .i64 0]) else .returned (.tuple #[hV 0 0, .int .i64 1]) from rfl)
  unfold hV at HV ⊢
  clear hs hx hu
  go_enter Try.func47, Try.ntmps47
  go_wp2_with fail
  refine Calls.mono (HV.out _) ?_
  rintro e w1 ⟨rfl, hb⟩
  have HB := Lib.hid (HA.out.trans (hb.mono (by simp; omega)))
  have HX := Lib.hid (HX0.out.later hb)
  have HR := Lib.hid (HR0.out.later hb)
  have m0 := HX.out.c0
  have m1 := HX.out.c1
  have r0 := HR.out.c0
  have r1 := HR.out.c1
  have z0 := HR.out.fz 0
  have z1 := HR.out.fz 1
  have hlt := HR.out.lt
  clear hb HA HX0 HR0
  cases hq : okH s c with
  | false =>
    have HE := Lib.hid (show Ending.returned (.tuple #[hV 0 0, .int .i64 1]) = endN s c x u by rw [HEE.out, hq]; rfl)
    go_wp2_with fail
    have HS := HR.out.set (0) (0)
    have f0 := HS.c0
    have f1 := HS.c1
    exact bodyPost_ret (v := .tuple #[hV (0) (0), .int .i64 1]) (by simp [results, Try.results47, go_sem, f0, f1, hV]) rfl ⟨HE.out, (HB.out.setCell (p := ⟨w.heap.size + 1, 0, none⟩) (Nat.le_succ _) _).setCell (p := ⟨w.heap.size + 1, 1, none⟩) (Nat.le_succ _) _⟩
  | true =>
    go_wp2_with fail
    refine Calls.mono (HW.out _) ?_
    rintro e w' ⟨rfl, rfl⟩
    cases hw : okW u with
    | false =>
      have HE := Lib.hid (show Ending.returned (.tuple #[hV 0 0, .int .i64 1]) = endN s c x u by rw [HEE.out, hq, hw]; rfl)
      go_wp2_with fail
      have HS := HR.out.set (0) (0)
      have f0 := HS.c0
      have f1 := HS.c1
      exact bodyPost_ret (v := .tuple #[hV (0) (0), .int .i64 1]) (by simp [results, Try.results47, go_sem, f0, f1, hV]) rfl ⟨HE.out, (HB.out.setCell (p := ⟨w.heap.size + 1, 0, none⟩) (Nat.le_succ _) _).setCell (p := ⟨w.heap.size + 1, 1, none⟩) (Nat.le_succ _) _⟩
    | true =>
      rw [hq, hw] at HEE
      go_wp2_with fail
      refine Calls.mono (HN.out _) ?_
      rintro e w' ⟨rfl, he⟩
      have he := he.symm
      subst he
      cases hn : nanF x with
      | true =>
        have HE := Lib.hid (show Ending.returned (.tuple #[hV s c, .int .i64 0]) = endN s c x u by rw [HEE.out]; unfold nextS nextC; rw [hn]; rfl)
        go_wp2_with fail
        have HS := HR.out.set (s) (c)
        have f0 := HS.c0
        have f1 := HS.c1
        exact bodyPost_ret (v := .tuple #[hV (s) (c), .int .i64 0]) (by simp [results, Try.results47, go_sem, f0, f1, hV]) rfl ⟨HE.out, (HB.out.setCell (p := ⟨w.heap.size + 1, 0, none⟩) (Nat.le_succ _) _).setCell (p := ⟨w.heap.size + 1, 1, none⟩) (Nat.le_succ _) _⟩
      | false =>
        have hcl := HCL.out hn
        go_wp2_with fail
        refine Calls.mono (HC.out _) ?_
        rintro e w' ⟨rfl, he⟩
        have he := he.symm
        subst he
        by_cases hc : c = 0
        · subst hc
          have HE := Lib.hid (show Ending.returned (.tuple #[hV (clampF x 0 4607182418800017408) 1, .int .i64 0]) = endN s 0 x u by rw [HEE.out]; unfold nextS nextC; rw [hn]; rfl)
          generalize clampF x 0 4607182418800017408 = y at *
          go_wp2_with fail
          have HS := HR.out.set (y) (1)
          have f0 := HS.c0
          have f1 := HS.c1
          exact bodyPost_ret (v := .tuple #[hV (y) (1), .int .i64 0]) (by simp [results, Try.results47, go_sem, f0, f1, hV]) rfl ⟨HE.out, (HB.out.setCell (p := ⟨w.heap.size + 1, 0, none⟩) (Nat.le_succ _) _).setCell (p := ⟨w.heap.size + 1, 1, none⟩) (Nat.le_succ _) _⟩
        · obtain ⟨hc1, hc2, hs1⟩ := okH_pos hq hc
          have HT := Lib.hid (fun W => toward_any s (clampF x 0 4607182418800017408) u W hs1 hcl (okW_le hw).2)
          have HE0 := Lib.hid (show Ending.returned (.tuple #[hV (noteR s (clampF x 0 4607182418800017408) u) (if c + 1 ≤ 1099511627776 then c + 1 else 1099511627776), .int .i64 0]) = endN s c x u by rw [HEE.out, if_pos (show (true && true) = true from rfl)]; unfold nextS nextC; simp only [hn, Bool.false_eq_true, if_false, if_neg hc])
          generalize clampF x 0 4607182418800017408 = y at *
          clear hc
          go_wp2_with fail
          refine Calls.mono (HT.out _) ?_
          rintro e w' ⟨g, rfl, hg, hgc, rfl⟩
          have HG := Lib.hid (fun W => fClamp_any g 0 4607182418800017408 W hg (by decide) (by decide))
          rw [hgc] at HG
          generalize noteR s y u = t at *
          clear hgc hg HT HC
          by_cases hm : c + 1 ≤ 1099511627776
          · rw [if_pos hm] at HE0
            have HE := HE0
            go_wp2_with fail
            refine Calls.mono (HG.out _) ?_
            rintro e w' ⟨rfl, he⟩
            have he := he.symm
            subst he
            go_wp2_with fail
            have HS := HR.out.set (t) (c + 1)
            have f0 := HS.c0
            have f1 := HS.c1
            exact bodyPost_ret (v := .tuple #[hV (t) (c + 1), .int .i64 0]) (by simp [results, Try.results47, go_sem, f0, f1, hV]) rfl ⟨HE.out, (HB.out.setCell (p := ⟨w.heap.size + 1, 0, none⟩) (Nat.le_succ _) _).setCell (p := ⟨w.heap.size + 1, 1, none⟩) (Nat.le_succ _) _⟩
          · rw [if_neg hm] at HE0
            have HE := HE0
            go_wp2_with fail
            refine Calls.mono (HG.out _) ?_
            rintro e w' ⟨rfl, he⟩
            have he := he.symm
            subst he
            go_wp2_with fail
            have HS := HR.out.set (t) (1099511627776)
            have f0 := HS.c0
            have f1 := HS.c1
            exact bodyPost_ret (v := .tuple #[hV (t) (1099511627776), .int .i64 0]) (by simp [results, Try.results47, go_sem, f0, f1, hV]) rfl ⟨HE.out, (HB.out.setCell (p := ⟨w.heap.size + 1, 0, none⟩) (Nat.le_succ _) _).setCell (p := ⟨w.heap.size + 1, 1, none⟩) (Nat.le_succ _) _⟩


/-- Is a score good, by a floor? -/
def goodF (s f : Nat) : Bool := !(!nanF s && !nanF f && decide (keyF s < keyF f))
theorem good_any (s : Nat) (c : Int) (f : Nat) (w : World) (hs : s < 18446744073709551616) : Calls Try.prog 48 #[hV s c, .float .f64 f] w fun e w' => e = .returned (.tuple #[.bool (okH s c && goodF s f), .int .i64 (errN (okH s c))]) ∧ Below w.heap.size w w' := by
  have HA := Lib.hid ((Below.refl _ w).alloc (Nat.le_refl _) (.cells #[.float .f64 s, .int .i64 c] 24))
  have HX0 := Lib.hid (HAt.new w s c)
  have HV := Lib.hid (fun W => valid_any s c W hs)
  have h0 := ord_lt s f
  have HG := Lib.hid (show goodF s f = !(!nanF s && !nanF f && decide (keyF s < keyF f)) from rfl)
  generalize (!nanF s && !nanF f && decide (keyF s < keyF f)) = b at *
  generalize okH s c = q at *
  unfold hV at *
  clear hs
  go_enter Try.func48, Try.ntmps48
  go_wp2_with fail
  refine Calls.mono (HV.out _) ?_
  rintro e w1 ⟨rfl, hb⟩
  have HB := Lib.hid (HA.out.trans (hb.mono (by simp)))
  have HX := Lib.hid (HX0.out.later hb)
  have m0 := HX.out.c0
  have m1 := HX.out.c1
  clear hb
  cases q with
  | false =>
    go_wp2_with fail
    go_ret2
    exact ⟨rfl, HB.out⟩
  | true =>
    go_wp2_with fail
    go_ret2
    exact ⟨by rw [HG.out]; rfl, HB.out⟩
theorem rGood_any (s : Nat) (c : Int) (f : Nat) (w : World) (hq : okH s c = true) : Calls Try.prog 45 #[hV s c, .float .f64 f] w fun e w' => e = .returned (.bool (goodF s f)) ∧ Below w.heap.size w w' := by
  have HA := Lib.hid ((Below.refl _ w).alloc (Nat.le_refl _) (.cells #[.float .f64 s, .int .i64 c] 24))
  have h0 := ord_lt s f
  have hf := ord_ne f
  have HG := Lib.hid (show goodF s f = !(!nanF s && !nanF f && decide (keyF s < keyF f)) from rfl)
  unfold hV
  by_cases hc : c = 0
  · subst hc
    have hn := okH_zero hq
    have HE := Lib.hid (show goodF s f = true by rw [HG.out, hn]; rfl)
    clear hq hn h0 hf HG
    go_enter Try.func45, Try.ntmps45
    go_wp2_with fail
    go_ret
    exact ⟨by rw [HE.out]; rfl, HA.out⟩
  · have hcb : (c == 0) = false := beq_eq_false_iff_ne.2 hc
    clear hq hc
    cases hn : nanF f with
    | true =>
      rw [hn] at hf
      have HE := Lib.hid (show goodF s f = true by rw [HG.out, hn]; cases nanF s <;> rfl)
      clear h0 hn HG
      go_enter Try.func45, Try.ntmps45
      go_wp2_with fail
      go_ret
      exact ⟨by rw [HE.out]; rfl, HA.out⟩
    | false =>
      rw [hn] at hf
      generalize (!nanF s && !nanF f && decide (keyF s < keyF f)) = b at *
      clear hn
      go_enter Try.func45, Try.ntmps45
      go_wp2_with fail
      go_ret
      exact ⟨by rw [HG.out]; rfl, HA.out⟩
end Go.Proofs.Ytlkikecnlafmeaa

/-
  A health in memory; package health's valid, Check, None, Good and the page's Num, Health, MayNote, None, Good, EqHealth, walked.
  Conditions: as each theorem states them: a word is below 2 to the 64.
-/
import Derived.Test.YtlkikecnlafmeaaHB
namespace Go.Proofs.Ytlkikecnlafmeaa
open Go.RowKit

/-- A float is stored as any single cell is. -/
theorem store_float (a : Addr) (m : Mode) (b : Nat) (W : World) : (store a (.float .f64 b) m).run Try.prog W = stored Try.prog W a (.float .f64 b) m := run_store Try.prog W a _ m rfl
/-- A health in a block. -/
def HAt (w : World) (b : Nat) (s : Nat) (c : Int) : Prop := w.heap[b]? = some (.cells #[.float .f64 s, .int .i64 c] 24 (0, 0))
theorem HAt.lt {w : World} {b s : Nat} {c : Int} (h : HAt w b s c) : b < w.heap.size := (Array.getElem?_eq_some_iff.1 h).1
theorem HAt.c0 {w : World} {b s : Nat} {c : Int} (h : HAt w b s c) : w.cell? ⟨b, 0, none⟩ = some (.float .f64 s) := by
  have h' : w.heap[b]? = some (.cells #[.float .f64 s, .int .i64 c] 24 (0, 0)) := h
  simp [World.cell?, h']
theorem HAt.c1 {w : World} {b s : Nat} {c : Int} (h : HAt w b s c) : w.cell? ⟨b, 1, none⟩ = some (.int .i64 c) := by
  have h' : w.heap[b]? = some (.cells #[.float .f64 s, .int .i64 c] 24 (0, 0)) := h
  simp [World.cell?, h']
theorem HAt.fz {w : World} {b s : Nat} {c : Int} (h : HAt w b s c) (j : Nat) : w.frozen? ⟨b, j, none⟩ = false := by
  have h' : w.heap[b]? = some (.cells #[.float .f64 s, .int .i64 c] 24 (0, 0)) := h
  simp [World.frozen?, h']
theorem HAt.later {w w' : World} {b s : Nat} {c : Int} (h : HAt w b s c) (hb : Below w.heap.size w w') : HAt w' b s c := (hb.block b h.lt).trans h
theorem HAt.alloc {w : World} {b s : Nat} {c : Int} (h : HAt w b s c) (o : Obj) : HAt (w.alloc o) b s c := (Below.heap_alloc w o b h.lt).trans h
theorem HAt.other {w : World} {b s : Nat} {c : Int} (h : HAt w b s c) {p : Addr} (hp : b ≠ p.block) (v : Value) : HAt (w.setCell p v) b s c := (Below.heap_setCell w p v b hp).trans h
theorem HAt.set {w : World} {b s : Nat} {c : Int} (h : HAt w b s c) (s' : Nat) (c' : Int) : HAt ((w.setCell ⟨b, 0, none⟩ (.float .f64 s')).setCell ⟨b, 1, none⟩ (.int .i64 c')) b s' c' := by
  have h' : w.heap[b]? = some (.cells #[.float .f64 s, .int .i64 c] 24 (0, 0)) := h
  show ((w.setCell ⟨b, 0, none⟩ _).setCell ⟨b, 1, none⟩ _).heap[b]? = _
  simp only [World.setCell, Array.getElem?_modify, if_true, h']
  rfl
theorem HAt.new (w : World) (s : Nat) (c : Int) : HAt (w.alloc (.cells #[.float .f64 s, .int .i64 c] 24)) w.heap.size s c := heap_alloc_new w _

theorem valid_any (s : Nat) (c : Int) (w : World) (hs : s < 18446744073709551616) : Calls Try.prog 49 #[hV s c] w fun e w' => e = .returned (.bool (okH s c)) ∧ Below w.heap.size w w' := by
  have HA := Lib.hid ((Below.refl _ w).alloc (Nat.le_refl _) (.cells #[.float .f64 s, .int .i64 c] 24))
  unfold hV
  have HN := Lib.hid (fun W => isNaN_any s W)
  have HS := Lib.hid (fun W => validScore_any s W hs)
  by_cases hc : c = 0
  · subst hc
    have HE := Lib.hid (show okH s 0 = nanF s by unfold okH; rw [if_pos rfl])
    clear hs HS
    go_enter Try.func49, Try.ntmps49
    go_wp2_with fail
    refine Calls.mono (HN.out _) ?_
    rintro e w' ⟨rfl, he⟩
    have he := he.symm
    subst he
    go_wp2_with fail
    go_ret
    exact ⟨by rw [HE.out]; rfl, HA.out⟩
  · have hcb : (c == 0) = false := beq_eq_false_iff_ne.2 hc
    have HE := Lib.hid (show okH s c = (decide (0 < c) && decide (c ≤ 1099511627776) && decide (s ≤ 4607182418800017408)) by unfold okH; rw [if_neg hc])
    clear hs HN
    by_cases h1 : 0 < c
    · rw [decide_eq_true h1, Bool.true_and] at HE
      by_cases h2 : c ≤ 1099511627776
      · rw [decide_eq_true h2, Bool.true_and] at HE
        clear hc
        go_enter Try.func49, Try.ntmps49
        go_wp2_with fail
        refine Calls.mono (HS.out _) ?_
        rintro e w' ⟨rfl, he⟩
        have he := he.symm
        subst he
        generalize decide (s ≤ 4607182418800017408) = q at *
        go_wp2_with fail
        go_ret
        exact ⟨by rw [HE.out]; rfl, HA.out⟩
      · have h2d : decide (c ≤ 1099511627776) = false := decide_eq_false h2
        rw [h2d, Bool.false_and] at HE
        clear hc
        go_enter Try.func49, Try.ntmps49
        go_wp2_with fail
        go_ret
        exact ⟨by rw [HE.out]; rfl, HA.out⟩
    · have h1d : decide (0 < c) = false := decide_eq_false h1
      rw [h1d, Bool.false_and, Bool.false_and] at HE
      clear hc
      go_enter Try.func49, Try.ntmps49
      go_wp2_with fail
      go_ret
      exact ⟨by rw [HE.out]; rfl, HA.out⟩
/-- An error's number: none, or that of the form. -/
def errN (b : Bool) : Int := if b then 0 else 1
theorem check_any (s : Nat) (c : Int) (w : World) (hs : s < 18446744073709551616) : Calls Try.prog 42 #[hV s c] w fun e w' => e = .returned (.int .i64 (errN (okH s c))) ∧ Below w.heap.size w w' := by
  have HA := Lib.hid ((Below.refl _ w).alloc (Nat.le_refl _) (.cells #[.float .f64 s, .int .i64 c] 24))
  have HV := Lib.hid (fun W => valid_any s c W hs)
  generalize okH s c = q at *
  unfold hV at *
  clear hs
  go_enter Try.func42, Try.ntmps42
  go_wp2_with fail
  refine Calls.mono (HV.out _) ?_
  rintro e w1 ⟨rfl, hb⟩
  have HB := Lib.hid (HA.out.trans (hb.mono (by simp)))
  clear hb
  cases q with
  | true =>
    go_wp2_with fail
    go_ret
    exact ⟨rfl, HB.out⟩
  | false =>
    go_wp2_with fail
    go_ret
    exact ⟨rfl, HB.out⟩
theorem none_any (n : Nat) (hn : n = 9221120237041090561) (w : World) : Calls Try.prog 33 #[] w fun e w' => e = .returned (hV n 0) ∧ Below w.heap.size w w' := by
  have HN := Lib.hid (fun W => nan_any W)
  have hst := store_float
  rw [← hn] at HN
  clear hn
  have HB := Lib.hid ((Below.refl _ w).alloc (Nat.le_refl _) (.cells #[.float .f64 n, .int .i64 0] 24))
  go_enter Try.func33, Try.ntmps33
  go_wp2_with fail
  refine Calls.mono (HN.out _) ?_
  rintro e w' ⟨rfl, he⟩
  have he := he.symm
  subst he
  go_wp2_with fail
  exact bodyPost_ret (v := hV n 0) (by simp [results, Try.results33, go_sem, hV]) rfl ⟨rfl, HB.out⟩
theorem rnone_any (n : Nat) (hn : n = 9221120237041090561) (w : World) : Calls Try.prog 34 #[] w fun e w' => e = .returned (hV n 0) ∧ Below w.heap.size w w' := by
  have HN := Lib.hid (fun W => nan_any W)
  have hst := store_float
  rw [← hn] at HN
  clear hn
  have HB := Lib.hid ((Below.refl _ w).alloc (Nat.le_refl _) (.cells #[.float .f64 n, .int .i64 0] 24))
  go_enter Try.func34, Try.ntmps34
  go_wp2_with fail
  refine Calls.mono (HN.out _) ?_
  rintro e w' ⟨rfl, he⟩
  have he := he.symm
  subst he
  go_wp2_with fail
  exact bodyPost_ret (v := hV n 0) (by simp [results, Try.results34, go_sem, hV]) rfl ⟨rfl, HB.out⟩
theorem rNum_any (c m : Int) (w : World) : Calls Try.prog 26 #[.int .i64 c, .int .i64 m] w fun e w' => e = .returned (.bool (decide (0 ≤ c) && decide (c ≤ m))) ∧ w' = w := by
  by_cases h1 : 0 ≤ c
  · by_cases h2 : c ≤ m
    · have HE := Lib.hid (show (decide (0 ≤ c) && decide (c ≤ m)) = true by rw [decide_eq_true h1, decide_eq_true h2]; rfl)
      go_enter Try.func26, Try.ntmps26
      go_wp2_with fail
      go_ret
      exact ⟨by first | rfl | (rw [HE.out]; rfl), rfl⟩
    · have h2d : decide (c ≤ m) = false := decide_eq_false h2
      have HE := Lib.hid (show (decide (0 ≤ c) && decide (c ≤ m)) = false by rw [h2d, Bool.and_false])
      go_enter Try.func26, Try.ntmps26
      go_wp2_with fail
      go_ret
      exact ⟨by first | rfl | (rw [HE.out]; rfl), rfl⟩
  · have h1d : decide (0 ≤ c) = false := decide_eq_false h1
    have HE := Lib.hid (show (decide (0 ≤ c) && decide (c ≤ m)) = false by rw [h1d, Bool.false_and])
    go_enter Try.func26, Try.ntmps26
    go_wp2_with fail
    go_ret
    exact ⟨by first | rfl | (rw [HE.out]; rfl), rfl⟩
theorem rHealth_any (s : Nat) (c : Int) (w : World) (hs : s < 18446744073709551616) : Calls Try.prog 27 #[hV s c] w fun e w' => e = .returned (.bool (okH s c)) ∧ Below w.heap.size w w' := by
  have HA := Lib.hid ((Below.refl _ w).alloc (Nat.le_refl _) (.cells #[.float .f64 s, .int .i64 c] 24))
  unfold hV
  have HK := Lib.hid (fun W => rNum_any c 1099511627776 W)
  have H1 := Lib.hid (fun W => rCmp_any s 0 W hs (by decide))
  have H2 := Lib.hid (fun W => rCmp_any s 4607182418800017408 W hs (by decide))
  have hN := ord_ne s
  have HU : Hid (s ≤ 4607182418800017408 ↔ 0 ≤ cmpF s 0 ∧ cmpF s 4607182418800017408 ≤ 0) := Lib.hid (by
    rw [unit_iff hs, cmp_flip 0 s]
    omega)
  clear hs
  generalize cmpF s 0 = a at *
  generalize cmpF s 4607182418800017408 = b at *
  by_cases hc : c = 0
  · subst hc
    have HE := Lib.hid (show okH s 0 = nanF s by unfold okH; rw [if_pos rfl])
    rw [show (decide ((0 : Int) ≤ 0) && decide ((0 : Int) ≤ 1099511627776)) = true by decide] at HK
    generalize nanF s = q at *
    go_enter Try.func27, Try.ntmps27
    go_wp2_with fail
    refine Calls.mono (HK.out _) ?_
    rintro e w' ⟨rfl, he⟩
    have he := he.symm
    subst he
    go_wp2_with fail
    go_ret
    exact ⟨by rw [HE.out]; rfl, HA.out⟩
  · have hcb : (c == 0) = false := beq_eq_false_iff_ne.2 hc
    have HE := Lib.hid (show okH s c = (decide (0 < c) && decide (c ≤ 1099511627776) && decide (s ≤ 4607182418800017408)) by unfold okH; rw [if_neg hc])
    clear hN
    by_cases h1 : 0 < c ∧ c ≤ 1099511627776
    · rw [decide_eq_true h1.1, decide_eq_true h1.2] at HE
      rw [decide_eq_true (show 0 ≤ c by omega), decide_eq_true h1.2] at HK
      clear hc h1
      by_cases ha : 0 ≤ a
      · by_cases hb : b ≤ 0
        · have HF := Lib.hid (decide_eq_true (HU.out.2 ⟨ha, hb⟩))
          go_enter Try.func27, Try.ntmps27
          go_wp2_with fail
          refine Calls.mono (HK.out _) ?_
          rintro e w' ⟨rfl, he⟩
          have he := he.symm
          subst he
          go_wp2_with fail
          refine Calls.mono (H1.out _) ?_
          rintro e w' ⟨rfl, he⟩
          have he := he.symm
          subst he
          go_wp2_with fail
          refine Calls.mono (H2.out _) ?_
          rintro e w' ⟨rfl, he⟩
          have he := he.symm
          subst he
          go_wp2_with fail
          go_ret
          exact ⟨by rw [HE.out, HF.out]; rfl, HA.out⟩
        · have HF := Lib.hid (decide_eq_false (fun h => hb (HU.out.1 h).2))
          have hbd : decide (b ≤ 0) = false := decide_eq_false hb
          go_enter Try.func27, Try.ntmps27
          go_wp2_with fail
          refine Calls.mono (HK.out _) ?_
          rintro e w' ⟨rfl, he⟩
          have he := he.symm
          subst he
          go_wp2_with fail
          refine Calls.mono (H1.out _) ?_
          rintro e w' ⟨rfl, he⟩
          have he := he.symm
          subst he
          go_wp2_with fail
          refine Calls.mono (H2.out _) ?_
          rintro e w' ⟨rfl, he⟩
          have he := he.symm
          subst he
          go_wp2_with fail
          go_ret
          exact ⟨by rw [HE.out, HF.out]; rfl, HA.out⟩
      · have HF := Lib.hid (decide_eq_false (fun h => ha (HU.out.1 h).1))
        have had : decide (0 ≤ a) = false := decide_eq_false ha
        go_enter Try.func27, Try.ntmps27
        go_wp2_with fail
        refine Calls.mono (HK.out _) ?_
        rintro e w' ⟨rfl, he⟩
        have he := he.symm
        subst he
        go_wp2_with fail
        refine Calls.mono (H1.out _) ?_
        rintro e w' ⟨rfl, he⟩
        have he := he.symm
        subst he
        go_wp2_with fail
        go_ret
        exact ⟨by rw [HE.out, HF.out]; rfl, HA.out⟩
    · have HF := Lib.hid (show okH s c = false by
        rw [HE.out]
        by_cases k : 0 < c
        · rw [decide_eq_false (show ¬ c ≤ 1099511627776 by omega), Bool.and_false, Bool.false_and]
        · rw [decide_eq_false k, Bool.false_and, Bool.false_and])
      rw [show (decide (0 ≤ c) && decide (c ≤ 1099511627776)) = false by
        by_cases k : 0 ≤ c
        · rw [decide_eq_false (show ¬ c ≤ 1099511627776 by omega), Bool.and_false]
        · rw [decide_eq_false k, Bool.false_and]] at HK
      clear HE h1 hc
      go_enter Try.func27, Try.ntmps27
      go_wp2_with fail
      refine Calls.mono (HK.out _) ?_
      rintro e w' ⟨rfl, he⟩
      have he := he.symm
      subst he
      go_wp2_with fail
      go_ret
      exact ⟨by rw [HF.out]; rfl, HA.out⟩
theorem eqHealth_any (s t : Nat) (c d : Int) (w : World) : Calls Try.prog 32 #[hV s c, hV t d] w fun e w' => e = .returned (.bool ((c == d) && eqF s t)) ∧ Below w.heap.size w w' := by
  have HA := Lib.hid (((Below.refl _ w).alloc (Nat.le_refl _) (.cells #[.float .f64 s, .int .i64 c] 24)).alloc (by simp) (.cells #[.float .f64 t, .int .i64 d] 24))
  have HM := Lib.hid ((HAt.new w s c).alloc (.cells #[.float .f64 t, .int .i64 d] 24))
  have m0 := HM.out.c0
  have m1 := HM.out.c1
  have HE := Lib.hid (fun W => eqFloat_any s t W)
  unfold hV
  cases hq : (c == d) with
  | true =>
    go_enter Try.func32, Try.ntmps32
    go_wp2_with fail
    refine Calls.mono (HE.out _) ?_
    rintro e w' ⟨rfl, he⟩
    have he := he.symm
    subst he
    go_wp2_with fail
    go_ret
    exact ⟨rfl, HA.out⟩
  | false =>
    go_enter Try.func32, Try.ntmps32
    go_wp2_with fail
    go_ret
    exact ⟨rfl, HA.out⟩
end Go.Proofs.Ytlkikecnlafmeaa

/-
  RealOrder: the order of all floats goes by their numbers: the statement's own walk, and package math's next float.
  Conditions: as each theorem states them: the words given lie in memory; the library's two tables are as their initialisers lay them.
-/
import Derived.Test.YtfbkokkpcgmapaaDoorRG
import Derived.Test.YtfbkokkpcgmapaaDoorRHClassesW
namespace Go.Proofs.YtfbkokkpcgmapaaDoor
open Go.RowKit

/-- The language's order, and the order of numbers. -/
theorem not_lt {a b : Nat} (ha : a < 18446744073709551616) (hb : b < 18446744073709551616) (h : bitsF b ≤ bitsF a) : (FloatKind.f64.format.order a b == some .lt) = false := by
  rw [ord_lt]
  cases na : nanF a
  · cases nb : nanF b
    · have : ¬ (keyF a < keyF b) := fun k => by have := key_bits ha hb na nb k; omega
      rw [decide_eq_false this]
      rfl
    · rfl
  · rfl
theorem not_gt {a b : Nat} (ha : a < 18446744073709551616) (hb : b < 18446744073709551616) (h : bitsF a ≤ bitsF b) : (FloatKind.f64.format.order a b == some .gt) = false := by
  rw [ord_gt]
  cases na : nanF a
  · cases nb : nanF b
    · have : ¬ (keyF b < keyF a) := fun k => by have := key_bits hb ha nb na k; omega
      rw [decide_eq_false this]
      rfl
    · rfl
  · rfl

/-- The float behind one that is finite and not nought. -/
def nextF (a : Nat) : Nat := if a < 9223372036854775808 then a + 1 else a - 1
theorem key_of {a : Nat} (ha : a < 18446744073709551616) : keyF a = if 9223372036854775808 ≤ a then -((a : Int) - 9223372036854775808) else (a : Int) := by
  unfold keyF
  rw [neg_iff ha]
  by_cases k : 9223372036854775808 ≤ a
  · rw [decide_eq_true k, if_pos rfl, if_pos k]; omega
  · rw [decide_eq_false k, if_neg (by decide), if_neg k]; omega
/-- What the statement asks of a float before it asks for the next one. -/
theorem next_case {a : Nat} (ha : a < 18446744073709551616) (h1 : (FloatKind.f64.format.order a 9218868437227405311 == some .lt) = true) (h2 : (FloatKind.f64.format.order a 18442240474082181119 == some .gt) = true) (h3 : (FloatKind.f64.format.order a 0 != some .eq) = true) :
    nanF a = false ∧ ((0 < a ∧ a < 9218868437227405311) ∨ (9223372036854775808 < a ∧ a < 18442240474082181119)) := by
  rw [ord_lt] at h1
  rw [ord_gt] at h2
  simp only [Bool.and_eq_true, Bool.not_eq_true', decide_eq_true_eq] at h1 h2
  have hn := h1.1.1
  refine ⟨hn, ?_⟩
  have h3' : ¬ (keyF a = keyF 0) := fun k => by
    have e := ord_eq2 a 0
    rw [hn, show nanF 0 = false by decide, decide_eq_true k] at e
    have : (FloatKind.f64.format.order a 0 != some .eq) = false := by
      show (!(FloatKind.f64.format.order a 0 == some .eq)) = false
      rw [e]
      rfl
    rw [this] at h3
    cases h3
  have k1 := h1.2
  have k2 := h2.2
  rw [show keyF 9218868437227405311 = 9218868437227405311 by decide] at k1
  rw [show keyF 18442240474082181119 = -9218868437227405311 by decide] at k2
  rw [show keyF 0 = 0 by decide] at h3'
  rw [key_of ha] at k1 k2 h3'
  split at k1 <;> omega
theorem next_lt {a : Nat} (h : (0 < a ∧ a < 9218868437227405311) ∨ (9223372036854775808 < a ∧ a < 18442240474082181119)) : nextF a < 18446744073709551616 := by unfold nextF; split <;> omega
theorem next_bits {a : Nat} (hn : nanF a = false) (h : (0 < a ∧ a < 9218868437227405311) ∨ (9223372036854775808 < a ∧ a < 18442240474082181119)) : bitsF (nextF a) = bitsF a + 1 := by
  have hm : nanF (nextF a) = false := by
    unfold nanF nextF
    split <;> exact decide_eq_false (by omega)
  unfold bitsF
  rw [hn, hm]
  unfold nextF
  simp only [Bool.false_eq_true, if_false]
  split <;> split <;> omega

set_option maxRecDepth 100000 in
theorem nextafter_any (a : Nat) (w : World) (ha : a < 18446744073709551616) (hn : nanF a = false) (h : (0 < a ∧ a < 9218868437227405311) ∨ (9223372036854775808 < a ∧ a < 18442240474082181119)) :
    Calls Tryd.prog 37 #[.float .f64 a, .float .f64 9218868437227405312] w fun e w' => e = .returned (.float .f64 (nextF a)) ∧ w' = w := by
  have HN := Lib.hid (fun W => isNaN_any a W)
  have HI := Lib.hid (fun W => isNaN_any 9218868437227405312 W)
  rw [hn] at HN
  rw [show nanF 9218868437227405312 = false by decide] at HI
  have hk := key_of ha
  have e1 : (FloatKind.f64.format.order a 9218868437227405312 == some .eq) = false := by
    rw [ord_eq2, decide_eq_false (show ¬ keyF a = keyF 9218868437227405312 by rw [show keyF 9218868437227405312 = 9218868437227405312 by decide, hk]; split <;> omega), Bool.and_false]
  have e2 : (FloatKind.f64.format.order a 0 == some .eq) = false := by
    rw [ord_eq2, decide_eq_false (show ¬ keyF a = keyF 0 by rw [show keyF 0 = 0 by decide, hk]; split <;> omega), Bool.and_false]
  have e3 : (FloatKind.f64.format.order 9218868437227405312 a == some .gt) = true := by
    rw [ord_gt, hn, show nanF 9218868437227405312 = false by decide, decide_eq_true (show keyF a < keyF 9218868437227405312 by rw [show keyF 9218868437227405312 = 9218868437227405312 by decide, hk]; split <;> omega)]
    rfl
  have hfb := run_bits a
  rcases h with h | h
  · have e4 : (FloatKind.f64.format.order a 0 == some .gt) = true := by
      rw [ord_gt, hn, show nanF 0 = false by decide, decide_eq_true (show keyF 0 < keyF a by rw [show keyF 0 = 0 by decide, hk]; split <;> omega)]
      rfl
    have HE := Lib.hid (show nextF a = a + 1 by unfold nextF; rw [if_pos (by omega)])
    have hff : ∀ w, (callFunc 42 #[.int .u64 ((a : Int) + 1)]).run Tryd.prog w = .ok (.value (.float .f64 (a + 1))) w := fun w => by
      have := run_from (a + 1) w
      rw [show ((a + 1 : Nat) : Int) = (a : Int) + 1 from rfl] at this
      exact this
    clear hk hn
    go_enter Tryd.func37, Tryd.ntmps37
    go_wp2_with fail
    refine Calls.mono (HN.out _) ?_
    rintro e w' ⟨rfl, rfl⟩
    go_wp2_with fail
    refine Calls.mono (HI.out _) ?_
    rintro e w' ⟨rfl, rfl⟩
    go_wp2_with fail
    go_ret
    exact ⟨by rw [HE.out]; rfl, rfl⟩
  · have e4 : (FloatKind.f64.format.order a 0 == some .gt) = false := by
      rw [ord_gt, hn, show nanF 0 = false by decide, decide_eq_false (show ¬ keyF 0 < keyF a by rw [show keyF 0 = 0 by decide, hk]; split <;> omega)]
      rfl
    have HE := Lib.hid (show nextF a = a - 1 by unfold nextF; rw [if_neg (by omega)])
    obtain ⟨b, hb⟩ : ∃ b, a - 1 = b := ⟨_, rfl⟩
    have hw : (a : Int) - 1 = (b : Int) := by omega
    have hff := run_from b
    rw [hb] at HE
    clear hk hn
    go_enter Tryd.func37, Tryd.ntmps37
    go_wp2_with fail
    refine Calls.mono (HN.out _) ?_
    rintro e w' ⟨rfl, rfl⟩
    go_wp2_with fail
    refine Calls.mono (HI.out _) ?_
    rintro e w' ⟨rfl, rfl⟩
    go_wp2_with fail
    go_ret
    exact ⟨by rw [HE.out]; rfl, rfl⟩

theorem cmp_is {a b : Nat} : (bitsF a < bitsF b ∧ cmpF a b = -1 ∧ cmpF b a = 1) ∨ (bitsF a = bitsF b ∧ cmpF a b = 0 ∧ cmpF b a = 0) ∨ (bitsF b < bitsF a ∧ cmpF a b = 1 ∧ cmpF b a = -1) := by
  unfold cmpF
  rcases Nat.lt_trichotomy (bitsF a) (bitsF b) with h | h | h
  · exact .inl ⟨h, by rw [if_pos h], by rw [if_neg (by omega), if_pos h]⟩
  · exact .inr (.inl ⟨h, by rw [if_neg (by omega), if_neg (by omega)], by rw [if_neg (by omega), if_neg (by omega)]⟩)
  · exact .inr (.inr ⟨h, by rw [if_neg (by omega), if_pos h], by rw [if_pos h]⟩)

set_option maxHeartbeats 8000000 in
set_option maxRecDepth 100000 in
theorem order_any (l : List Nat) (v : Value) (w : World) (h : UsAt w v l) (hT : Tabs w) :
    Calls Tryd.prog 10 #[v] w fun e w' => e = .returned (.bool true) ∧ Below w.heap.size w w' := by
  have HT := Lib.hid hT
  have HA := Lib.hid (all_any l v w h)
  have HLT := Lib.hid (all_lt (show ∀ x ∈ l, x < 18446744073709551616 by obtain ⟨_, _, _, _, h, _⟩ := h; exact h))
  have HU := Lib.hid h
  obtain ⟨A0, c0, rfl, hlen0, _, _⟩ := h
  have hll : l.length < 9223372036854775808 := by unfold maxLen at hlen0; omega
  clear hT hlen0
  go_enter Tryd.func10, Tryd.ntmps10
  go_wp2_with fail
  refine Calls.mono HA.out ?_
  rintro e w1 ⟨u, rfl, hrow, hb1⟩
  have HB1 := Lib.hid hb1
  have HT1 := Lib.hid (HT.out.keep hb1)
  obtain ⟨g, cap, rfl, hg, hgs, hcell⟩ := hrow.get (by unfold allL edgeL; simp)
  have HCELL := Lib.hid hcell
  have hsz1 := hb1.size
  have hX : (allL l).length ≤ 45 := by unfold allL; rw [List.length_append, show edgeL.length = 15 from rfl, List.length_take]; omega
  have hX0 : 15 ≤ (allL l).length := by unfold allL; rw [List.length_append, show edgeL.length = 15 from rfl]; omega
  generalize allL l = X at *
  clear hrow hb1 hcell HA HT hg
  go_wp2_with fail
  go_loopw [4] (fun iv wr => ∃ i : Nat, iv = .int .i64 i ∧ i ≤ X.length ∧ Below w1.heap.size w1 wr) (fun iv _ => X.length - (intOf iv).toNat)
  case atStart => exact ⟨0, rfl, Nat.zero_le _, Below.refl _ _⟩
  case round =>
    obtain ⟨i, rfl, hi, hb⟩ := hrel
    have HB := Lib.hid hb
    have hszr := hb.size
    clear hb
    by_cases hlt : i < X.length
    · have hlti : (i : Int) < (X.length : Int) := by omega
      have HCI := Lib.hid (HCELL.out i hlt)
      have hc := (HB.out.cell (p := ⟨g, i, none⟩) hgs).trans HCI.out
      have ha := HLT.out _ (List.getElem_mem hlt)
      generalize X[i] = a at *
      have HBA := Lib.hid (fun W => fBits_any a W ha)
      have HOA := Lib.hid (fun W => fOf_any (bitsF a) W (bits_lt ha))
      have HEQ := Lib.hid (fun W => eqFloat_any (ofF (bitsF a)) a W)
      have heq : eqF (ofF (bitsF a)) a = true := by
        cases hn : nanF a with
        | false => rw [of_bits ha hn]; exact eq_self a
        | true => rw [of_nan hn]; unfold eqF; rw [hn, show nanF 9221120237041090561 = true by decide]; rfl
      rw [heq] at HEQ
      clear heq
      generalize ofF (bitsF a) = oa at *
      go_wp2_with fail
      refine Calls.mono (HBA.out _) ?_
      rintro e w5 ⟨rfl, rfl⟩
      go_wp2_with fail
      go_quiet (first | (go_at_call 35; exact Calls.quiet_of_same (HOA.out _)) | (go_at_call 20; exact Calls.quiet_of_same (HEQ.out _)))
      have HB' := Lib.hid (below_drew HB.out nq)
      generalize w5.drewN nq = wi at *
      clear HB hc HOA HEQ
      go_wp2_with fail
      go_loopw [6] (fun kv wk => ∃ k : Nat, kv = .int .i64 k ∧ k ≤ X.length ∧ Below w1.heap.size w1 wk) (fun kv _ => X.length - (intOf kv).toNat)
      case atStart => exact ⟨0, rfl, Nat.zero_le _, HB'.out⟩
      case round =>
        obtain ⟨k, rfl, hk, hb⟩ := hrel
        have HBk := Lib.hid hb
        clear hb HB'
        have hc := (HBk.out.cell (p := ⟨g, i, none⟩) hgs).trans HCI.out
        by_cases hkt : k < X.length
        · have hkti : (k : Int) < (X.length : Int) := by omega
          have HDI := Lib.hid (HCELL.out k hkt)
          have hd := (HBk.out.cell (p := ⟨g, k, none⟩) hgs).trans HDI.out
          have hbb := HLT.out _ (List.getElem_mem hkt)
          generalize X[k] = b at *
          have HBB := Lib.hid (fun W => fBits_any b W hbb)
          have HF := Lib.hid (fun W => fCmp_any a b W ha hbb)
          have HF2 := Lib.hid (fun W => fCmp_any b a W hbb ha)
          rcases cmp_is (a := a) (b := b) with ⟨hx, h1, h2⟩ | ⟨hx, h1, h2⟩ | ⟨hx, h1, h2⟩
          · rw [h1] at HF
            rw [h2] at HF2
            have hng := not_gt ha hbb (Nat.le_of_lt hx)
            clear h1 h2 ha hbb HBA
            generalize bitsF a = x at *
            generalize bitsF b = y at *
            have hxi : (x : Int) < (y : Int) := by omega
            have hyi : decide ((y : Int) < (x : Int)) = false := decide_eq_false (by omega)
            have hyj : ¬ ((y : Int) < (x : Int)) := by omega
            have hyn : decide (y < x) = false := decide_eq_false (by omega)
            have hym : ¬ (y < x) := by omega
            have hyl : (x : Int) ≤ (y : Int) := by omega
            have hyk : x ≤ y := by omega
            clear hx
            cases hq : (FloatKind.f64.format.order a b == some .lt) with
            | true =>
              go_wp2_with fail
              refine Calls.mono (HBB.out _) ?_
              rintro e w5 ⟨rfl, rfl⟩
              go_wp2_with fail
              go_quiet (first | (go_at_call 14; exact Calls.quiet_of_same (HF.out _)))
              have HBq := Lib.hid (below_drew HBk.out nq)
              have hc2 := (HBq.out.cell (p := ⟨g, i, none⟩) hgs).trans HCI.out
              have hd2 := (HBq.out.cell (p := ⟨g, k, none⟩) hgs).trans HDI.out
              generalize w5.drewN nq = wq at *
              clear hc hd HBk
              go_wp2_with fail
              go_quiet (first | (go_at_call 14; exact Calls.quiet_of_same (HF2.out _)))
              have HBq2 := Lib.hid (below_drew HBq.out nq)
              have hc := (HBq2.out.cell (p := ⟨g, i, none⟩) hgs).trans HCI.out
              have hd := (HBq2.out.cell (p := ⟨g, k, none⟩) hgs).trans HDI.out
              generalize wq.drewN nq = wq2 at *
              clear hc2 hd2 HBq
              go_wp2_with fail
              go_quiet (fail)
              go_wp2_with fail
              exact ⟨⟨k + 1, by go_num, by omega, below_drew HBq2.out _⟩, by simp [intOf]; omega⟩
            | false =>
              go_wp2_with fail
              refine Calls.mono (HBB.out _) ?_
              rintro e w5 ⟨rfl, rfl⟩
              go_wp2_with fail
              go_quiet (first | (go_at_call 14; exact Calls.quiet_of_same (HF.out _)))
              have HBq := Lib.hid (below_drew HBk.out nq)
              have hc2 := (HBq.out.cell (p := ⟨g, i, none⟩) hgs).trans HCI.out
              have hd2 := (HBq.out.cell (p := ⟨g, k, none⟩) hgs).trans HDI.out
              generalize w5.drewN nq = wq at *
              clear hc hd HBk
              go_wp2_with fail
              go_quiet (first | (go_at_call 14; exact Calls.quiet_of_same (HF2.out _)))
              have HBq2 := Lib.hid (below_drew HBq.out nq)
              have hc := (HBq2.out.cell (p := ⟨g, i, none⟩) hgs).trans HCI.out
              have hd := (HBq2.out.cell (p := ⟨g, k, none⟩) hgs).trans HDI.out
              generalize wq.drewN nq = wq2 at *
              clear hc2 hd2 HBq
              go_wp2_with fail
              go_quiet (fail)
              go_wp2_with fail
              exact ⟨⟨k + 1, by go_num, by omega, below_drew HBq2.out _⟩, by simp [intOf]; omega⟩
          · rw [h1] at HF
            rw [h2] at HF2
            have hng := not_gt ha hbb (Nat.le_of_eq hx)
            have hnl := not_lt ha hbb (Nat.le_of_eq hx.symm)
            clear h1 h2 ha hbb HBA
            rw [← hx] at HBB
            clear hx
            generalize bitsF a = x at *
            have hxi : decide ((x : Int) < (x : Int)) = false := decide_eq_false (by omega)
            go_wp2_with fail
            refine Calls.mono (HBB.out _) ?_
            rintro e w5 ⟨rfl, rfl⟩
            go_wp2_with fail
            go_quiet (first | (go_at_call 14; exact Calls.quiet_of_same (HF.out _)))
            have HBq := Lib.hid (below_drew HBk.out nq)
            have hc2 := (HBq.out.cell (p := ⟨g, i, none⟩) hgs).trans HCI.out
            have hd2 := (HBq.out.cell (p := ⟨g, k, none⟩) hgs).trans HDI.out
            generalize w5.drewN nq = wq at *
            clear hc hd HBk
            go_wp2_with fail
            go_quiet (first | (go_at_call 14; exact Calls.quiet_of_same (HF2.out _)))
            have HBq2 := Lib.hid (below_drew HBq.out nq)
            have hc := (HBq2.out.cell (p := ⟨g, i, none⟩) hgs).trans HCI.out
            have hd := (HBq2.out.cell (p := ⟨g, k, none⟩) hgs).trans HDI.out
            generalize wq.drewN nq = wq2 at *
            clear hc2 hd2 HBq
            go_wp2_with fail
            go_quiet (fail)
            go_wp2_with fail
            exact ⟨⟨k + 1, by go_num, by omega, below_drew HBq2.out _⟩, by simp [intOf]; omega⟩
          · rw [h1] at HF
            rw [h2] at HF2
            have hnl := not_lt ha hbb (Nat.le_of_lt hx)
            clear h1 h2 ha hbb HBA
            generalize bitsF a = x at *
            generalize bitsF b = y at *
            have hxi : (y : Int) < (x : Int) := by omega
            have hyi : decide ((x : Int) < (y : Int)) = false := decide_eq_false (by omega)
            have hyj : ¬ ((x : Int) < (y : Int)) := by omega
            have hyn : decide (x < y) = false := decide_eq_false (by omega)
            have hym : ¬ (x < y) := by omega
            have hyl : (y : Int) ≤ (x : Int) := by omega
            have hyk : y ≤ x := by omega
            clear hx
            cases hq : (FloatKind.f64.format.order a b == some .gt) with
            | true =>
              go_wp2_with fail
              refine Calls.mono (HBB.out _) ?_
              rintro e w5 ⟨rfl, rfl⟩
              go_wp2_with fail
              go_quiet (first | (go_at_call 14; exact Calls.quiet_of_same (HF.out _)))
              have HBq := Lib.hid (below_drew HBk.out nq)
              have hc2 := (HBq.out.cell (p := ⟨g, i, none⟩) hgs).trans HCI.out
              have hd2 := (HBq.out.cell (p := ⟨g, k, none⟩) hgs).trans HDI.out
              generalize w5.drewN nq = wq at *
              clear hc hd HBk
              go_wp2_with fail
              go_quiet (first | (go_at_call 14; exact Calls.quiet_of_same (HF2.out _)))
              have HBq2 := Lib.hid (below_drew HBq.out nq)
              have hc := (HBq2.out.cell (p := ⟨g, i, none⟩) hgs).trans HCI.out
              have hd := (HBq2.out.cell (p := ⟨g, k, none⟩) hgs).trans HDI.out
              generalize wq.drewN nq = wq2 at *
              clear hc2 hd2 HBq
              go_wp2_with fail
              go_quiet (fail)
              go_wp2_with fail
              exact ⟨⟨k + 1, by go_num, by omega, below_drew HBq2.out _⟩, by simp [intOf]; omega⟩
            | false =>
              go_wp2_with fail
              refine Calls.mono (HBB.out _) ?_
              rintro e w5 ⟨rfl, rfl⟩
              go_wp2_with fail
              go_quiet (first | (go_at_call 14; exact Calls.quiet_of_same (HF.out _)))
              have HBq := Lib.hid (below_drew HBk.out nq)
              have hc2 := (HBq.out.cell (p := ⟨g, i, none⟩) hgs).trans HCI.out
              have hd2 := (HBq.out.cell (p := ⟨g, k, none⟩) hgs).trans HDI.out
              generalize w5.drewN nq = wq at *
              clear hc hd HBk
              go_wp2_with fail
              go_quiet (first | (go_at_call 14; exact Calls.quiet_of_same (HF2.out _)))
              have HBq2 := Lib.hid (below_drew HBq.out nq)
              have hc := (HBq2.out.cell (p := ⟨g, i, none⟩) hgs).trans HCI.out
              have hd := (HBq2.out.cell (p := ⟨g, k, none⟩) hgs).trans HDI.out
              generalize wq.drewN nq = wq2 at *
              clear hc2 hd2 HBq
              go_wp2_with fail
              go_quiet (fail)
              go_wp2_with fail
              exact ⟨⟨k + 1, by go_num, by omega, below_drew HBq2.out _⟩, by simp [intOf]; omega⟩
        · have hkti : ¬ ((k : Int) < (X.length : Int)) := by omega
          have he1 := ord_eq a
          cases hn : nanF a with
          | true =>
            rw [hn] at he1
            clear hn ha HBA
            generalize bitsF a = x at *
            go_wp2_with fail
            go_quiet (fail)
            go_wp2_with fail
            exact ⟨⟨i + 1, by go_num, by omega, below_drew HBk.out _⟩, by simp [intOf]; omega⟩
          | false =>
            rw [hn] at he1
            cases q1 : (FloatKind.f64.format.order a 9218868437227405311 == some .lt) with
            | false =>
              clear hn ha HBA
              generalize bitsF a = x at *
              go_wp2_with fail
              go_quiet (fail)
              go_wp2_with fail
              exact ⟨⟨i + 1, by go_num, by omega, below_drew HBk.out _⟩, by simp [intOf]; omega⟩
            | true =>
              cases q2 : (FloatKind.f64.format.order a 18442240474082181119 == some .gt) with
              | false =>
                clear hn ha HBA
                generalize bitsF a = x at *
                go_wp2_with fail
                go_quiet (fail)
                go_wp2_with fail
                exact ⟨⟨i + 1, by go_num, by omega, below_drew HBk.out _⟩, by simp [intOf]; omega⟩
              | true =>
                cases q3 : (FloatKind.f64.format.order a 0 != some .eq) with
                | false =>
                  clear hn ha HBA
                  generalize bitsF a = x at *
                  go_wp2_with fail
                  go_quiet (fail)
                  go_wp2_with fail
                  exact ⟨⟨i + 1, by go_num, by omega, below_drew HBk.out _⟩, by simp [intOf]; omega⟩
                | true =>
                  have hcs := (next_case ha q1 q2 q3).2
                  have HIN := Lib.hid (fun W => inf_plus W)
                  have HNX := Lib.hid (fun W => nextafter_any a W ha hn hcs)
                  have HBU := Lib.hid (fun W => fBits_any (nextF a) W (next_lt hcs))
                  rw [next_bits hn hcs] at HBU
                  have hb64 := bits_lt (next_lt hcs)
                  rw [next_bits hn hcs] at hb64
                  clear hn ha HBA hcs
                  generalize nextF a = u at *
                  generalize bitsF a = x at *
                  have hxb : (x : Int) + 1 < 18446744073709551616 := by omega
                  have hne : (((x + 1 : Nat) : Int) != (x : Int) + 1) = false := int_same _
                  go_wp2_with fail
                  go_quiet (fail)
                  have HBq := Lib.hid (below_drew HBk.out nq)
                  have hc2 := (HBq.out.cell (p := ⟨g, i, none⟩) hgs).trans HCI.out
                  generalize wr.drewN nq = wq at *
                  clear hc HBk
                  go_wp2_with fail
                  go_quiet (first | (go_at_call 38; exact Calls.quiet_of_same (HIN.out _)) | (go_at_call 37; exact Calls.quiet_of_same (HNX.out _)))
                  have HBq2 := Lib.hid (below_drew HBq.out nq)
                  generalize wq.drewN nq = wq2 at *
                  clear hc2 HBq
                  cases q4 : (FloatKind.f64.format.order u 0 != some .eq) with
                  | false =>
                    go_wp2_with fail
                    exact ⟨⟨i + 1, by go_num, by omega, HBq2.out⟩, by simp [intOf]; omega⟩
                  | true =>
                    go_wp2_with fail
                    refine Calls.mono (HBU.out _) ?_
                    rintro e w5 ⟨rfl, rfl⟩
                    go_wp2_with fail
                    exact ⟨⟨i + 1, by go_num, by omega, HBq2.out⟩, by simp [intOf]; omega⟩
    have hlti : ¬ ((i : Int) < (X.length : Int)) := by omega
    obtain rfl : i = X.length := by omega
    have HW := Lib.hid (wakes_any wr (HT1.out.keep HB.out))
    have HBW := Lib.hid (HB1.out.trans (HB.out.mono hsz1))
    clear HB1 HB
    go_wp2_with fail
    refine Calls.mono HW.out ?_
    rintro e w2 ⟨rfl, hb⟩
    have HB2 := Lib.hid (HBW.out.trans (hb.mono (Nat.le_trans hsz1 hszr)))
    clear hb
    go_wp2_with fail
    go_ret
    exact ⟨rfl, HB2.out⟩
end Go.Proofs.YtfbkokkpcgmapaaDoor

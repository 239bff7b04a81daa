/-
  The page's Parse, walked: it answers the float whose text it is given, or none.
  Conditions: as each theorem states them: the text is not too long.
-/
import Derived.Test.YtfbkokkpcgmapaaDoorRW
import Derived.Test.YtfbkokkpcgmapaaDoorRU
namespace Go.Proofs.YtfbkokkpcgmapaaDoor
open Go.RowKit

def namesL : List Nat := [9221120237041090561, 18442240474082181120, 9218868437227405312, 9223372036854775808, 0]
theorem fl_cell (w : World) (L : List Nat) (j : Nat) (hj : j < L.length) : (w.alloc (.cells (flsOf L).toArray 26)).cell? ⟨w.heap.size, j, none⟩ = some (.float .f64 (L.getD j 0)) := by
  rw [World.cell?_alloc_new]
  simp [flsOf, List.getD, hj]
theorem names_canon : ∀ i : Fin 5, namesL.getD i.val 0 < 18446744073709551616 ∧ (nanF (namesL.getD i.val 0) = true → namesL.getD i.val 0 = 9221120237041090561) := by decide
theorem page_name {s : List UInt8} {i : Nat} (hi : i < 5) (h : s = textF (namesL.getD i 0)) : pageL s = some (namesL.getD i 0) := by
  rw [h]
  exact page_full (names_canon ⟨i, hi⟩)
def headL (s : List UInt8) : Option Nat := if s.head? = some 45 then (partsL s.tail).map (· + 9223372036854775808) else partsL s
def lastL (s : List UInt8) (o : Option Nat) : Option Nat := o.bind fun x => if textF x = s then some x else none
theorem last_some (s : List UInt8) (y : Nat) : lastL s (some y) = if textF y = s then some y else none := rfl
theorem page_rest {s : List UInt8} (h : ∀ j, j < 5 → s ≠ textF (namesL.getD j 0)) : pageL s = lastL s (headL s) := by
  have e0 := h 0 (by omega)
  have e1 := h 1 (by omega)
  have e2 := h 2 (by omega)
  have e3 := h 3 (by omega)
  have e4 := h 4 (by omega)
  rw [show textF (namesL.getD 0 0) = [110, 97, 110] by decide] at e0
  rw [show textF (namesL.getD 1 0) = [45, 105, 110, 102] by decide] at e1
  rw [show textF (namesL.getD 2 0) = [43, 105, 110, 102] by decide] at e2
  rw [show textF (namesL.getD 3 0) = [45, 48] by decide] at e3
  rw [show textF (namesL.getD 4 0) = [48] by decide] at e4
  unfold pageL
  rw [if_neg e0, if_neg e1, if_neg e2, if_neg e3, if_neg e4]
  rfl
theorem parts_two {w p q : List UInt8} (h : splitB 112 w = [p, q]) : partsL w = if goodL p q then madeL (valN p) (expL q) else none := by unfold partsL; rw [h]
theorem parts_not {w : List UInt8} (h : (splitB 112 w).length ≠ 2) : partsL w = none := by
  unfold partsL
  split
  · rename_i p q e
    rw [e] at h
    exact absurd rfl h
  · rfl
theorem head_minus (t : List UInt8) : headL (45 :: t) = (partsL t).map (· + 9223372036854775808) := by
  unfold headL
  rw [if_pos (show (45 :: t).head? = some 45 from rfl)]
  rfl
theorem head_plain {s : List UInt8} (h : s.head? ≠ some 45) : headL s = partsL s := by unfold headL; rw [if_neg h]
theorem neg_word {x : Nat} (h : x < 9223372036854775808) : Op.negFloat .f64 x = x + 9223372036854775808 := by
  show x ^^^ 2 ^ 63 = x + 9223372036854775808
  have h1 : x ^^^ 2 ^ 63 = x ||| 2 ^ 63 := by
    apply Nat.eq_of_testBit_eq
    intro i
    rw [Nat.testBit_xor, Nat.testBit_or, Nat.testBit_two_pow]
    by_cases k : 63 = i
    · subst k
      rw [Nat.testBit_lt_two_pow (show x < 2 ^ 63 by omega)]
      simp
    · simp [k]
  have h2 := Nat.two_pow_add_eq_or_of_lt (i := 63) (b := x) (by omega) 1
  rw [Nat.mul_one] at h2
  rw [h1, Nat.or_comm, ← h2, Nat.add_comm]
theorem made_small {m : Nat} {e : Int} {x : Nat} (hm : m < 9007199254740992) (h : madeL m e = some x) : x < 9218868437227405312 := made_lt hm (Lib.bitLen_le _ 53 (by omega) (by omega)) h
theorem head_byte {s : List UInt8} (h : s.head? ≠ some 45) (hB : 0 < (⟨s.toArray⟩ : ByteArray).size) : ((((⟨s.toArray⟩ : ByteArray)[0]'hB).toNat : Int) == 45) = false := by
  refine byte_ne (d := 45) fun e => h ?_
  rw [head_eq hB, e]
theorem tail_cut (c : UInt8) (t : List UInt8) : (⟨(c :: t).toArray⟩ : ByteArray).extract 1 (c :: t).length = ⟨t.toArray⟩ := by
  rw [cut_piece]
  simp

set_option maxHeartbeats 16000000 in
set_option maxRecDepth 100000 in
theorem rParse_any (s : List UInt8) (w : World) (hs : s.length ≤ 5000) :
    Calls Tryd.prog 32 #[.string ⟨s.toArray⟩] w fun e w' => e = endR (pageL s) ∧ Below w.heap.size w w' := by
  have HNN := Lib.hid (fun W => nan_any W)
  have HI1 := Lib.hid (fun W => inf_minus W)
  have HI2 := Lib.hid (fun W => inf_plus W)
  have hff : ∀ w, (callFunc 42 #[.int .u64 9223372036854775808]).run Tryd.prog w = .ok (.value (.float .f64 9223372036854775808)) w := fun w => run_from 9223372036854775808 w
  go_enter Tryd.func32, Tryd.ntmps32
  go_upto_region 1 with (fail)
  go_cut [4] (fun nv wc => ∃ g, nv = .slice (some ⟨g, 0, none⟩) 5 5 ∧ Below w.heap.size w wc ∧ g < wc.heap.size ∧ ∀ j, j < 5 → wc.cell? ⟨g, j, none⟩ = some (.float .f64 (namesL.getD j 0)))
  case first =>
    go_wp2_with fail
    refine Calls.mono (HNN.out _) ?_
    rintro e w' ⟨rfl, rfl⟩
    go_wp2_with fail
    refine Calls.mono (HI1.out _) ?_
    rintro e w' ⟨rfl, rfl⟩
    go_wp2_with fail
    refine Calls.mono (HI2.out _) ?_
    rintro e w' ⟨rfl, rfl⟩
    go_wp2_with fail
    go_meet
    case rel => exact ⟨_, rfl, (Below.refl _ _).alloc (Nat.le_refl _) _, by simp, fun j hj => fl_cell _ namesL j hj⟩
  case rest =>
    obtain ⟨g, rfl, hb0, hg, hcn⟩ := hcut
    have HB0 := Lib.hid hb0
    have HCN := Lib.hid hcn
    have hsz0 := hb0.size
    clear hb0 hcn HNN HI1 HI2 hff
    generalize hwc : wc = wn at *
    clear hwc wc
    go_wp2_with fail
    go_loopw [5] (fun iv wr => ∃ i : Nat, iv = .int .i64 i ∧ i ≤ 5 ∧ (∀ j, j < i → s ≠ textF (namesL.getD j 0)) ∧ Below wn.heap.size wn wr) (fun iv _ => 5 - (intOf iv).toNat)
    case atStart => exact ⟨0, rfl, Nat.zero_le _, fun j hj => absurd hj (Nat.not_lt_zero j), Below.refl _ _⟩
    case round =>
      obtain ⟨i, rfl, hi, hall, hb⟩ := hrel
      have HB := Lib.hid hb
      have HALL := Lib.hid hall
      have hszr := hb.size
      clear hb hall
      by_cases hlt : i < 5
      · have hlti : (i : Int) < 5 := by omega
        have HCI := Lib.hid (HCN.out i hlt)
        have hc := (HB.out.cell (p := ⟨g, i, none⟩) hg).trans HCI.out
        have HX := Lib.hid (fun W => rText_any (namesL.getD i 0) W (names_canon ⟨i, hlt⟩).1)
        by_cases hq : s = textF (namesL.getD i 0)
        · have HP := Lib.hid (page_name hlt hq)
          rw [← hq] at HX
          have hse : (s == s) = true := by simp
          clear hq HALL
          generalize namesL.getD i 0 = a at *
          go_wp2_with fail
          refine Calls.mono (HX.out _) ?_
          rintro e w1 ⟨rfl, hb⟩
          have HB1 := Lib.hid (HB.out.trans (hb.mono hszr))
          have HB2 := Lib.hid (HB0.out.trans (HB1.out.mono hsz0))
          have hc1 := (HB1.out.cell (p := ⟨g, i, none⟩) hg).trans HCI.out
          clear hb hc
          go_wp2_with fail
          go_ret2
          exact ⟨by rw [HP.out]; rfl, HB2.out⟩
        · have hse : (s == textF (namesL.getD i 0)) = false := beq_eq_false_iff_ne.2 hq
          have HNX := Lib.hid (show ∀ j, j < i + 1 → s ≠ textF (namesL.getD j 0) from fun j hj => by
            rcases Nat.lt_or_ge j i with k | k
            · exact HALL.out j k
            · obtain rfl : j = i := by omega
              exact hq)
          clear hq HALL
          generalize textF (namesL.getD i 0) = tx at *
          generalize namesL.getD i 0 = a at *
          go_wp2_with fail
          refine Calls.mono (HX.out _) ?_
          rintro e w1 ⟨rfl, hb⟩
          have HB1 := Lib.hid (HB.out.trans (hb.mono hszr))
          clear hb hc
          go_wp2_with fail
          exact ⟨⟨i + 1, by go_num, by omega, HNX.out, HB1.out⟩, by simp [intOf]; omega⟩
      · have hlti : ¬ ((i : Int) < 5) := by omega
        have HPG := Lib.hid (page_rest (s := s) (fun j hj => HALL.out j (by omega)))
        have HBr := Lib.hid (HB0.out.trans (HB.out.mono hsz0))
        have hszw : w.heap.size ≤ wr.heap.size := Nat.le_trans hsz0 hszr
        clear HB HB0 HALL HCN hlt hi hg hsz0 hszr
        generalize wr = wp at *
        by_cases hsm : s.head? = some 45
        · obtain ⟨t, hst⟩ : ∃ t, s = 45 :: t := by
            cases s with
            | nil => cases hsm
            | cons c t => exact ⟨t, by rw [Option.some.inj hsm]⟩
          have HHD0 := Lib.hid (show headL s = (partsL t).map (· + 9223372036854775808) by rw [hst]; exact head_minus t)
          have hext : (⟨s.toArray⟩ : ByteArray).extract 1 s.length = ⟨t.toArray⟩ := by rw [hst]; exact tail_cut 45 t
          have htl : t.length ≤ 5000 := by rw [hst] at hs; simp at hs; omega
          have hlts : (t.length : Int) < (s.length : Int) := by rw [hst]; simp; omega
          have hsB : 0 < (⟨s.toArray⟩ : ByteArray).size := by rw [hst]; exact Nat.zero_lt_succ _
          have hs0 : ((((⟨s.toArray⟩ : ByteArray)[0]'hsB).toNat : Int) == 45) = true := by
            have h1 := head_eq hsB
            rw [hsm] at h1
            rw [← Option.some.inj h1]
            rfl
          have hs1 : (0 : Int) < (s.length : Int) := by omega
          have hs2 : (1 : Int) ≤ (s.length : Int) := by omega
          have HSP := Lib.hid (fun W => split_any 112 t W (by omega) 112 rfl)
          clear hst hsm
          go_wp2_with fail
          try rw [hext]
          refine Calls.mono (HSP.out _) ?_
          rintro e w2 ⟨v, rfl, hrow, hb⟩
          have HB2 := Lib.hid (HBr.out.trans (hb.mono hszw))
          have hsz2 := HB2.out.size
          have HROW := Lib.hid hrow
          obtain ⟨gA, gc, rfl⟩ := row_shape hrow
          clear hb hrow HBr HSP
          by_cases hl2 : (splitB 112 t).length = 2
          · obtain ⟨p, q, hpq⟩ : ∃ p q, splitB 112 t = [p, q] := by
              match hL : splitB 112 t, hl2 with
              | [p, q], _ => exact ⟨p, q, rfl⟩
            have HHD := Lib.hid (show lastL s (headL s) = lastL s ((if goodL p q then madeL (valN p) (expL q) else none).map (· + 9223372036854775808)) by rw [HHD0.out, parts_two hpq])
            have hpl : p.length ≤ 10000 := by have := split_short (b := 112) (s := t) (p := p) (by rw [hpq]; simp); omega
            have hql : q.length ≤ 10000 := by have := split_short (b := 112) (s := t) (p := q) (by rw [hpq]; simp); omega
            rw [hpq] at HROW
            obtain ⟨g2, cap2, hv2, hg2, hcell2⟩ := HROW.out.get (by simp)
            injection hv2 with hA1 hA2 hA3
            subst hA1 hA3
            have hcp := hcell2 0 (by simp)
            have hcq := hcell2 1 (by simp)
            simp only [List.getElem_cons_zero, List.getElem_cons_succ] at hcp hcq
            rw [hpq]
            clear hl2 hpq HHD0 HROW hcell2 hA2
            by_cases hqm : q.head? = some 45
            · obtain ⟨f, rfl⟩ : ∃ f, q = 45 :: f := by
                cases q with
                | nil => cases hqm
                | cons c f => exact ⟨f, by rw [Option.some.inj hqm]⟩
              have hpf : powL (45 :: f) = f := rfl
              have hex : expL (45 :: f) = -(valN f : Int) := rfl
              have hfl : f.length ≤ 10000 := by simp at hql; omega
              have hext2 := tail_cut 45 f
              have hflt : (f.length : Int) < ((45 :: f).length : Int) := by simp; omega
              obtain ⟨q, hq⟩ : ∃ q, 45 :: f = q := ⟨_, rfl⟩
              have hqB : 0 < (⟨q.toArray⟩ : ByteArray).size := by rw [← hq]; exact Nat.zero_lt_succ _
              have hq0 : ((((⟨q.toArray⟩ : ByteArray)[0]'hqB).toNat : Int) == 45) = true := by subst hq; rfl
              have hq1 : (0 : Int) < (q.length : Int) := by rw [← hq]; simp
              have hq2 : (1 : Int) ≤ (q.length : Int) := by omega
              rw [hq] at hpf hex hext2 hflt hcq HHD
              clear hqm hq hql
              have HV1 := Lib.hid (fun W => (value_any p W hpl).mono fun _ _ h => (⟨h.1, h.2.symm⟩ : _ ∧ _))
              have HV2 := Lib.hid (fun W => (value_any f W hfl).mono fun _ _ h => (⟨h.1, h.2.symm⟩ : _ ∧ _))
              have HVP := Lib.hid (show valV p = if okV p then (valN p : Int) else 0 from rfl)
              have HVF := Lib.hid (show valV f = if okV f then (valN f : Int) else 0 from rfl)
              cases ho1 : okV p with
              | false =>
                have HN := Lib.hid (show pageL s = none by rw [HPG.out, HHD.out, if_neg (show ¬ (goodL p q = true) by unfold goodL; rw [ho1]; simp only [Bool.false_and, Bool.false_eq_true, not_false_eq_true])]; rfl)
                rw [ho1] at HV1
                clear HHD HPG HVP HVF
                generalize valV p = vp at *
                generalize valV f = vf at *
                generalize okV f = of at *
                go_wp2_with fail
                refine Calls.mono (HV1.out _) ?_
                rintro e w3 ⟨rfl, rfl⟩
                go_wp2_with fail
                refine Calls.mono (HV2.out _) ?_
                rintro e w3 ⟨rfl, rfl⟩
                go_wp2_with fail
                go_ret2
                exact ⟨by rw [HN.out]; rfl, HB2.out⟩
              | true =>
                rw [ho1] at HV1 HVP
                cases ho2 : okV f with
                | false =>
                  have HN := Lib.hid (show pageL s = none by rw [HPG.out, HHD.out, if_neg (show ¬ (goodL p q = true) by unfold goodL; rw [hpf, ho2]; simp only [Bool.and_false, Bool.false_and, Bool.false_eq_true, not_false_eq_true])]; rfl)
                  rw [ho2] at HV2
                  clear HHD HPG HVP HVF
                  generalize valV p = vp at *
                  generalize valV f = vf at *
                  go_wp2_with fail
                  refine Calls.mono (HV1.out _) ?_
                  rintro e w3 ⟨rfl, rfl⟩
                  go_wp2_with fail
                  refine Calls.mono (HV2.out _) ?_
                  rintro e w3 ⟨rfl, rfl⟩
                  go_wp2_with fail
                  go_ret2
                  exact ⟨by rw [HN.out]; rfl, HB2.out⟩
                | true =>
                  rw [ho2] at HV2 HVF
                  rw [show valV p = (valN p : Int) from HVP.out] at HV1
                  rw [show valV f = (valN f : Int) from HVF.out] at HV2
                  clear HVP HVF
                  by_cases hg1 : 1 ≤ valN p
                  · have hg1d : decide ((valN p : Int) < 1) = false := decide_eq_false (by omega)
                    by_cases hm53 : valN p < 9007199254740992
                    · have hg2d : decide ((9007199254740992 : Int) ≤ (valN p : Int)) = false := decide_eq_false (by omega)
                      by_cases hg3 : valN p % 2 = 1
                      · have hodd : ((valN p : Int).tmod 2 == 0) = false := beq_eq_false_iff_ne.2 (by rw [Int.tmod_eq_emod_of_nonneg (by omega)]; omega)
                        have hodd2 : (valN p : Int) % 2 = 1 := by omega
                        have hodd3 : (valN p : Int).tmod 2 = 1 := by rw [Int.tmod_eq_emod_of_nonneg (by omega)]; omega
                        by_cases hg4 : valN f ≤ 2000
                        · have hg4d : decide ((2000 : Int) < (valN f : Int)) = false := decide_eq_false (by omega)
                          rw [if_pos (show goodL p q = true by unfold goodL; rw [hpf, ho1, ho2, decide_eq_true hg1, decide_eq_true hm53, decide_eq_true hg3, decide_eq_true hg4]; rfl)] at HHD
                          obtain ⟨ee, hee⟩ : ∃ ee, expL q = ee := ⟨_, rfl⟩
                          have hei : ee = -(valN f : Int) := by rw [← hee, hex]
                          rw [hee] at HHD
                          have HMK := Lib.hid (fun W => rmade_any (valN p) ee W hg1 hm53 (by omega) (by omega))
                          clear hee
                          go_wp2_with fail
                          refine Calls.mono (HV1.out _) ?_
                          rintro e w3 ⟨rfl, rfl⟩
                          go_wp2_with fail
                          refine Calls.mono (HV2.out _) ?_
                          rintro e w3 ⟨rfl, rfl⟩
                          go_wp2_with fail
                          rw [← hei]
                          cases hmd : madeL (valN p) ee with
                          | none =>
                            have hneg0 : Op.unary .neg (.float .f64 0) = pure (.float .f64 9223372036854775808) := rfl
                            rw [hmd] at HMK
                            have HN := Lib.hid (show pageL s = none by rw [HPG.out, HHD.out, hmd]; rfl)
                            clear hmd HHD HPG
                            refine Calls.mono (HMK.out _) ?_
                            rintro e w4 ⟨rfl, rfl⟩
                            unfold endR
                            go_wp2_with fail
                            go_ret2
                            exact ⟨by rw [HN.out]; rfl, HB2.out⟩
                          | some x =>
                            have hx := made_small hm53 hmd
                            have hneg : Op.unary .neg (.float .f64 x) = pure (.float .f64 (x + 9223372036854775808)) := by
                              rw [← neg_word (show x < 9223372036854775808 by omega)]
                              rfl
                            rw [hmd] at HMK
                            have HHX := Lib.hid (show pageL s = if textF (x + 9223372036854775808) = s then some (x + 9223372036854775808) else none by rw [HPG.out, HHD.out, hmd]; exact last_some s _)
                            obtain ⟨y, hy⟩ : ∃ y, x + 9223372036854775808 = y := ⟨_, rfl⟩
                            have hy64 : y < 18446744073709551616 := by omega
                            rw [hy] at HHX hneg
                            clear hmd HHD HPG hx hy
                            refine Calls.mono (HMK.out _) ?_
                            rintro e w4 ⟨rfl, rfl⟩
                            unfold endR
                            go_wp2_with fail
                            have HX := Lib.hid (fun W => rText_any y W hy64)
                            by_cases hq : textF y = s
                            · rw [if_pos hq] at HHX
                              rw [hq] at HX
                              have hse : (s != s) = false := by simp
                              clear hq
                              refine Calls.mono (HX.out _) ?_
                              rintro e w5 ⟨rfl, hb⟩
                              have HB3 := Lib.hid (HB2.out.trans (hb.mono hsz2))
                              clear hb
                              go_wp2_with fail
                              go_ret2
                              exact ⟨by rw [HHX.out]; rfl, HB3.out⟩
                            · rw [if_neg hq] at HHX
                              have hse : (textF y != s) = true := bne_iff_ne.2 hq
                              have hse2 : (textF y == s) = false := beq_eq_false_iff_ne.2 hq
                              clear hq
                              generalize textF y = tx at *
                              refine Calls.mono (HX.out _) ?_
                              rintro e w5 ⟨rfl, hb⟩
                              have HB3 := Lib.hid (HB2.out.trans (hb.mono hsz2))
                              clear hb
                              go_wp2_with fail
                              go_ret2
                              exact ⟨by rw [HHX.out]; rfl, HB3.out⟩
                        · have hg4d : (2000 : Int) < (valN f : Int) := by omega
                          have HN := Lib.hid (show pageL s = none by rw [HPG.out, HHD.out, if_neg (show ¬ (goodL p q = true) by unfold goodL; rw [hpf, decide_eq_false hg4]; simp only [Bool.and_false, Bool.false_eq_true, not_false_eq_true])]; rfl)
                          clear HHD HPG
                          go_wp2_with fail
                          refine Calls.mono (HV1.out _) ?_
                          rintro e w3 ⟨rfl, rfl⟩
                          go_wp2_with fail
                          refine Calls.mono (HV2.out _) ?_
                          rintro e w3 ⟨rfl, rfl⟩
                          go_wp2_with fail
                          go_ret2
                          exact ⟨by rw [HN.out]; rfl, HB2.out⟩
                      · have hodd : ((valN p : Int).tmod 2 == 0) = true := beq_iff_eq.2 (by rw [Int.tmod_eq_emod_of_nonneg (by omega)]; omega)
                        have hodd2 : (valN p : Int) % 2 = 0 := by omega
                        have hodd3 : (valN p : Int).tmod 2 = 0 := by rw [Int.tmod_eq_emod_of_nonneg (by omega)]; omega
                        have HN := Lib.hid (show pageL s = none by rw [HPG.out, HHD.out, if_neg (show ¬ (goodL p q = true) by unfold goodL; rw [decide_eq_false hg3]; simp only [Bool.and_false, Bool.false_and, Bool.false_eq_true, not_false_eq_true])]; rfl)
                        clear HHD HPG
                        go_wp2_with fail
                        refine Calls.mono (HV1.out _) ?_
                        rintro e w3 ⟨rfl, rfl⟩
                        go_wp2_with fail
                        refine Calls.mono (HV2.out _) ?_
                        rintro e w3 ⟨rfl, rfl⟩
                        go_wp2_with fail
                        go_ret2
                        exact ⟨by rw [HN.out]; rfl, HB2.out⟩
                    · have hg2i : (9007199254740992 : Int) ≤ (valN p : Int) := by omega
                      have HN := Lib.hid (show pageL s = none by rw [HPG.out, HHD.out, if_neg (show ¬ (goodL p q = true) by unfold goodL; rw [decide_eq_false hm53]; simp only [Bool.and_false, Bool.false_and, Bool.false_eq_true, not_false_eq_true])]; rfl)
                      clear HHD HPG
                      go_wp2_with fail
                      refine Calls.mono (HV1.out _) ?_
                      rintro e w3 ⟨rfl, rfl⟩
                      go_wp2_with fail
                      refine Calls.mono (HV2.out _) ?_
                      rintro e w3 ⟨rfl, rfl⟩
                      go_wp2_with fail
                      go_ret2
                      exact ⟨by rw [HN.out]; rfl, HB2.out⟩
                  · have hg1i : (valN p : Int) < 1 := by omega
                    have HN := Lib.hid (show pageL s = none by rw [HPG.out, HHD.out, if_neg (show ¬ (goodL p q = true) by unfold goodL; rw [decide_eq_false hg1]; simp only [Bool.and_false, Bool.false_and, Bool.false_eq_true, not_false_eq_true])]; rfl)
                    clear HHD HPG
                    go_wp2_with fail
                    refine Calls.mono (HV1.out _) ?_
                    rintro e w3 ⟨rfl, rfl⟩
                    go_wp2_with fail
                    refine Calls.mono (HV2.out _) ?_
                    rintro e w3 ⟨rfl, rfl⟩
                    go_wp2_with fail
                    go_ret2
                    exact ⟨by rw [HN.out]; rfl, HB2.out⟩
            · have hpf : powL q = q := by unfold powL; rw [if_neg hqm]
              have hex : expL q = (valN q : Int) := by unfold expL; rw [if_neg hqm, hpf]
              have hflt : ¬ ((q.length : Int) < (q.length : Int)) := by omega
              by_cases hq0 : 0 < q.length
              · have hqB : 0 < (⟨q.toArray⟩ : ByteArray).size := hq0
                have hqb := head_byte hqm hqB
                have hq1 : (0 : Int) < (q.length : Int) := by omega
                have hfl := hql
                clear hqm
                have HV1 := Lib.hid (fun W => (value_any p W hpl).mono fun _ _ h => (⟨h.1, h.2.symm⟩ : _ ∧ _))
                have HV2 := Lib.hid (fun W => (value_any q W hfl).mono fun _ _ h => (⟨h.1, h.2.symm⟩ : _ ∧ _))
                have HVP := Lib.hid (show valV p = if okV p then (valN p : Int) else 0 from rfl)
                have HVF := Lib.hid (show valV q = if okV q then (valN q : Int) else 0 from rfl)
                cases ho1 : okV p with
                | false =>
                  have HN := Lib.hid (show pageL s = none by rw [HPG.out, HHD.out, if_neg (show ¬ (goodL p q = true) by unfold goodL; rw [ho1]; simp only [Bool.false_and, Bool.false_eq_true, not_false_eq_true])]; rfl)
                  rw [ho1] at HV1
                  clear HHD HPG HVP HVF
                  generalize valV p = vp at *
                  generalize valV q = vf at *
                  generalize okV q = of at *
                  go_wp2_with fail
                  refine Calls.mono (HV1.out _) ?_
                  rintro e w3 ⟨rfl, rfl⟩
                  go_wp2_with fail
                  refine Calls.mono (HV2.out _) ?_
                  rintro e w3 ⟨rfl, rfl⟩
                  go_wp2_with fail
                  go_ret2
                  exact ⟨by rw [HN.out]; rfl, HB2.out⟩
                | true =>
                  rw [ho1] at HV1 HVP
                  cases ho2 : okV q with
                  | false =>
                    have HN := Lib.hid (show pageL s = none by rw [HPG.out, HHD.out, if_neg (show ¬ (goodL p q = true) by unfold goodL; rw [hpf, ho2]; simp only [Bool.and_false, Bool.false_and, Bool.false_eq_true, not_false_eq_true])]; rfl)
                    rw [ho2] at HV2
                    clear HHD HPG HVP HVF
                    generalize valV p = vp at *
                    generalize valV q = vf at *
                    go_wp2_with fail
                    refine Calls.mono (HV1.out _) ?_
                    rintro e w3 ⟨rfl, rfl⟩
                    go_wp2_with fail
                    refine Calls.mono (HV2.out _) ?_
                    rintro e w3 ⟨rfl, rfl⟩
                    go_wp2_with fail
                    go_ret2
                    exact ⟨by rw [HN.out]; rfl, HB2.out⟩
                  | true =>
                    rw [ho2] at HV2 HVF
                    rw [show valV p = (valN p : Int) from HVP.out] at HV1
                    rw [show valV q = (valN q : Int) from HVF.out] at HV2
                    clear HVP HVF
                    by_cases hg1 : 1 ≤ valN p
                    · have hg1d : decide ((valN p : Int) < 1) = false := decide_eq_false (by omega)
                      by_cases hm53 : valN p < 9007199254740992
                      · have hg2d : decide ((9007199254740992 : Int) ≤ (valN p : Int)) = false := decide_eq_false (by omega)
                        by_cases hg3 : valN p % 2 = 1
                        · have hodd : ((valN p : Int).tmod 2 == 0) = false := beq_eq_false_iff_ne.2 (by rw [Int.tmod_eq_emod_of_nonneg (by omega)]; omega)
                          have hodd2 : (valN p : Int) % 2 = 1 := by omega
                          have hodd3 : (valN p : Int).tmod 2 = 1 := by rw [Int.tmod_eq_emod_of_nonneg (by omega)]; omega
                          by_cases hg4 : valN q ≤ 2000
                          · have hg4d : decide ((2000 : Int) < (valN q : Int)) = false := decide_eq_false (by omega)
                            rw [if_pos (show goodL p q = true by unfold goodL; rw [hpf, ho1, ho2, decide_eq_true hg1, decide_eq_true hm53, decide_eq_true hg3, decide_eq_true hg4]; rfl)] at HHD
                            obtain ⟨ee, hee⟩ : ∃ ee, expL q = ee := ⟨_, rfl⟩
                            have hei : ee = (valN q : Int) := by rw [← hee, hex]
                            rw [hee] at HHD
                            have HMK := Lib.hid (fun W => rmade_any (valN p) ee W hg1 hm53 (by omega) (by omega))
                            clear hee
                            go_wp2_with fail
                            refine Calls.mono (HV1.out _) ?_
                            rintro e w3 ⟨rfl, rfl⟩
                            go_wp2_with fail
                            refine Calls.mono (HV2.out _) ?_
                            rintro e w3 ⟨rfl, rfl⟩
                            go_wp2_with fail
                            rw [← hei]
                            cases hmd : madeL (valN p) ee with
                            | none =>
                              have hneg0 : Op.unary .neg (.float .f64 0) = pure (.float .f64 9223372036854775808) := rfl
                              rw [hmd] at HMK
                              have HN := Lib.hid (show pageL s = none by rw [HPG.out, HHD.out, hmd]; rfl)
                              clear hmd HHD HPG
                              refine Calls.mono (HMK.out _) ?_
                              rintro e w4 ⟨rfl, rfl⟩
                              unfold endR
                              go_wp2_with fail
                              go_ret2
                              exact ⟨by rw [HN.out]; rfl, HB2.out⟩
                            | some x =>
                              have hx := made_small hm53 hmd
                              have hneg : Op.unary .neg (.float .f64 x) = pure (.float .f64 (x + 9223372036854775808)) := by
                                rw [← neg_word (show x < 9223372036854775808 by omega)]
                                rfl
                              rw [hmd] at HMK
                              have HHX := Lib.hid (show pageL s = if textF (x + 9223372036854775808) = s then some (x + 9223372036854775808) else none by rw [HPG.out, HHD.out, hmd]; exact last_some s _)
                              obtain ⟨y, hy⟩ : ∃ y, x + 9223372036854775808 = y := ⟨_, rfl⟩
                              have hy64 : y < 18446744073709551616 := by omega
                              rw [hy] at HHX hneg
                              clear hmd HHD HPG hx hy
                              refine Calls.mono (HMK.out _) ?_
                              rintro e w4 ⟨rfl, rfl⟩
                              unfold endR
                              go_wp2_with fail
                              have HX := Lib.hid (fun W => rText_any y W hy64)
                              by_cases hq : textF y = s
                              · rw [if_pos hq] at HHX
                                rw [hq] at HX
                                have hse : (s != s) = false := by simp
                                clear hq
                                refine Calls.mono (HX.out _) ?_
                                rintro e w5 ⟨rfl, hb⟩
                                have HB3 := Lib.hid (HB2.out.trans (hb.mono hsz2))
                                clear hb
                                go_wp2_with fail
                                go_ret2
                                exact ⟨by rw [HHX.out]; rfl, HB3.out⟩
                              · rw [if_neg hq] at HHX
                                have hse : (textF y != s) = true := bne_iff_ne.2 hq
                                have hse2 : (textF y == s) = false := beq_eq_false_iff_ne.2 hq
                                clear hq
                                generalize textF y = tx at *
                                refine Calls.mono (HX.out _) ?_
                                rintro e w5 ⟨rfl, hb⟩
                                have HB3 := Lib.hid (HB2.out.trans (hb.mono hsz2))
                                clear hb
                                go_wp2_with fail
                                go_ret2
                                exact ⟨by rw [HHX.out]; rfl, HB3.out⟩
                          · have hg4d : (2000 : Int) < (valN q : Int) := by omega
                            have HN := Lib.hid (show pageL s = none by rw [HPG.out, HHD.out, if_neg (show ¬ (goodL p q = true) by unfold goodL; rw [hpf, decide_eq_false hg4]; simp only [Bool.and_false, Bool.false_eq_true, not_false_eq_true])]; rfl)
                            clear HHD HPG
                            go_wp2_with fail
                            refine Calls.mono (HV1.out _) ?_
                            rintro e w3 ⟨rfl, rfl⟩
                            go_wp2_with fail
                            refine Calls.mono (HV2.out _) ?_
                            rintro e w3 ⟨rfl, rfl⟩
                            go_wp2_with fail
                            go_ret2
                            exact ⟨by rw [HN.out]; rfl, HB2.out⟩
                        · have hodd : ((valN p : Int).tmod 2 == 0) = true := beq_iff_eq.2 (by rw [Int.tmod_eq_emod_of_nonneg (by omega)]; omega)
                          have hodd2 : (valN p : Int) % 2 = 0 := by omega
                          have hodd3 : (valN p : Int).tmod 2 = 0 := by rw [Int.tmod_eq_emod_of_nonneg (by omega)]; omega
                          have HN := Lib.hid (show pageL s = none by rw [HPG.out, HHD.out, if_neg (show ¬ (goodL p q = true) by unfold goodL; rw [decide_eq_false hg3]; simp only [Bool.and_false, Bool.false_and, Bool.false_eq_true, not_false_eq_true])]; rfl)
                          clear HHD HPG
                          go_wp2_with fail
                          refine Calls.mono (HV1.out _) ?_
                          rintro e w3 ⟨rfl, rfl⟩
                          go_wp2_with fail
                          refine Calls.mono (HV2.out _) ?_
                          rintro e w3 ⟨rfl, rfl⟩
                          go_wp2_with fail
                          go_ret2
                          exact ⟨by rw [HN.out]; rfl, HB2.out⟩
                      · have hg2i : (9007199254740992 : Int) ≤ (valN p : Int) := by omega
                        have HN := Lib.hid (show pageL s = none by rw [HPG.out, HHD.out, if_neg (show ¬ (goodL p q = true) by unfold goodL; rw [decide_eq_false hm53]; simp only [Bool.and_false, Bool.false_and, Bool.false_eq_true, not_false_eq_true])]; rfl)
                        clear HHD HPG
                        go_wp2_with fail
                        refine Calls.mono (HV1.out _) ?_
                        rintro e w3 ⟨rfl, rfl⟩
                        go_wp2_with fail
                        refine Calls.mono (HV2.out _) ?_
                        rintro e w3 ⟨rfl, rfl⟩
                        go_wp2_with fail
                        go_ret2
                        exact ⟨by rw [HN.out]; rfl, HB2.out⟩
                    · have hg1i : (valN p : Int) < 1 := by omega
                      have HN := Lib.hid (show pageL s = none by rw [HPG.out, HHD.out, if_neg (show ¬ (goodL p q = true) by unfold goodL; rw [decide_eq_false hg1]; simp only [Bool.and_false, Bool.false_and, Bool.false_eq_true, not_false_eq_true])]; rfl)
                      clear HHD HPG
                      go_wp2_with fail
                      refine Calls.mono (HV1.out _) ?_
                      rintro e w3 ⟨rfl, rfl⟩
                      go_wp2_with fail
                      refine Calls.mono (HV2.out _) ?_
                      rintro e w3 ⟨rfl, rfl⟩
                      go_wp2_with fail
                      go_ret2
                      exact ⟨by rw [HN.out]; rfl, HB2.out⟩
              · have hq1 : decide ((0 : Int) < (q.length : Int)) = false := decide_eq_false (by omega)
                have hqe : q = [] := List.eq_nil_of_length_eq_zero (by omega)
                have hok2 : okV q = false := by rw [hqe]; rfl
                have HN := Lib.hid (show pageL s = none by rw [HPG.out, HHD.out, if_neg (show ¬ (goodL p q = true) by unfold goodL; rw [hpf, hok2]; simp only [Bool.and_false, Bool.false_and, Bool.false_eq_true, not_false_eq_true])]; rfl)
                have HV1 := Lib.hid (fun W => (value_any p W hpl).mono fun _ _ h => (⟨h.1, h.2.symm⟩ : _ ∧ _))
                have HV2 := Lib.hid (fun W => (value_any q W hql).mono fun _ _ h => (⟨h.1, h.2.symm⟩ : _ ∧ _))
                rw [hok2] at HV2
                have hqn : (q.length : Int) = 0 := by omega
                clear hqm hok2 HHD HPG hex hpf hqe
                generalize valV p = vp at *
                generalize valV q = vf at *
                cases ho1 : okV p with
                | false =>
                  rw [ho1] at HV1
                  go_wp2_with fail
                  refine Calls.mono (HV1.out _) ?_
                  rintro e w3 ⟨rfl, rfl⟩
                  go_wp2_with fail
                  refine Calls.mono (HV2.out _) ?_
                  rintro e w3 ⟨rfl, rfl⟩
                  go_wp2_with fail
                  go_ret2
                  exact ⟨by rw [HN.out]; rfl, HB2.out⟩
                | true =>
                  rw [ho1] at HV1
                  go_wp2_with fail
                  refine Calls.mono (HV1.out _) ?_
                  rintro e w3 ⟨rfl, rfl⟩
                  go_wp2_with fail
                  refine Calls.mono (HV2.out _) ?_
                  rintro e w3 ⟨rfl, rfl⟩
                  go_wp2_with fail
                  go_ret2
                  exact ⟨by rw [HN.out]; rfl, HB2.out⟩
          · have HN := Lib.hid (show pageL s = none by rw [HPG.out, HHD0.out, parts_not hl2]; rfl)
            have hl2i : (((splitB 112 t).length : Int) != 2) = true := bne_iff_ne.2 (by omega)
            generalize (splitB 112 t).length = nn at *
            clear HPG HHD0 HROW
            go_wp2_with fail
            go_ret2
            exact ⟨by rw [HN.out]; rfl, HB2.out⟩
        · have HHD0 := Lib.hid (head_plain hsm)
          have htl := hs
          have HSP := Lib.hid (fun W => split_any 112 s W (by omega) 112 rfl)
          have hlts : ¬ ((s.length : Int) < (s.length : Int)) := by omega
          by_cases hs0 : 0 < s.length
          · have hsB : 0 < (⟨s.toArray⟩ : ByteArray).size := hs0
            have hsb := head_byte hsm hsB
            have hs1 : (0 : Int) < (s.length : Int) := by omega
            clear hsm
            go_wp2_with fail
            refine Calls.mono (HSP.out _) ?_
            rintro e w2 ⟨v, rfl, hrow, hb⟩
            have HB2 := Lib.hid (HBr.out.trans (hb.mono hszw))
            have hsz2 := HB2.out.size
            have HROW := Lib.hid hrow
            obtain ⟨gA, gc, rfl⟩ := row_shape hrow
            clear hb hrow HBr HSP
            by_cases hl2 : (splitB 112 s).length = 2
            · obtain ⟨p, q, hpq⟩ : ∃ p q, splitB 112 s = [p, q] := by
                match hL : splitB 112 s, hl2 with
                | [p, q], _ => exact ⟨p, q, rfl⟩
              have HHD := Lib.hid (show lastL s (headL s) = lastL s (if goodL p q then madeL (valN p) (expL q) else none) by rw [HHD0.out, parts_two hpq])
              have hpl : p.length ≤ 10000 := by have := split_short (b := 112) (s := s) (p := p) (by rw [hpq]; simp); omega
              have hql : q.length ≤ 10000 := by have := split_short (b := 112) (s := s) (p := q) (by rw [hpq]; simp); omega
              rw [hpq] at HROW
              obtain ⟨g2, cap2, hv2, hg2, hcell2⟩ := HROW.out.get (by simp)
              injection hv2 with hA1 hA2 hA3
              subst hA1 hA3
              have hcp := hcell2 0 (by simp)
              have hcq := hcell2 1 (by simp)
              simp only [List.getElem_cons_zero, List.getElem_cons_succ] at hcp hcq
              rw [hpq]
              clear hl2 hpq HHD0 HROW hcell2 hA2
              by_cases hqm : q.head? = some 45
              · obtain ⟨f, rfl⟩ : ∃ f, q = 45 :: f := by
                  cases q with
                  | nil => cases hqm
                  | cons c f => exact ⟨f, by rw [Option.some.inj hqm]⟩
                have hpf : powL (45 :: f) = f := rfl
                have hex : expL (45 :: f) = -(valN f : Int) := rfl
                have hfl : f.length ≤ 10000 := by simp at hql; omega
                have hext2 := tail_cut 45 f
                have hflt : (f.length : Int) < ((45 :: f).length : Int) := by simp; omega
                obtain ⟨q, hq⟩ : ∃ q, 45 :: f = q := ⟨_, rfl⟩
                have hqB : 0 < (⟨q.toArray⟩ : ByteArray).size := by rw [← hq]; exact Nat.zero_lt_succ _
                have hq0 : ((((⟨q.toArray⟩ : ByteArray)[0]'hqB).toNat : Int) == 45) = true := by subst hq; rfl
                have hq1 : (0 : Int) < (q.length : Int) := by rw [← hq]; simp
                have hq2 : (1 : Int) ≤ (q.length : Int) := by omega
                rw [hq] at hpf hex hext2 hflt hcq HHD
                clear hqm hq hql
                have HV1 := Lib.hid (fun W => (value_any p W hpl).mono fun _ _ h => (⟨h.1, h.2.symm⟩ : _ ∧ _))
                have HV2 := Lib.hid (fun W => (value_any f W hfl).mono fun _ _ h => (⟨h.1, h.2.symm⟩ : _ ∧ _))
                have HVP := Lib.hid (show valV p = if okV p then (valN p : Int) else 0 from rfl)
                have HVF := Lib.hid (show valV f = if okV f then (valN f : Int) else 0 from rfl)
                cases ho1 : okV p with
                | false =>
                  have HN := Lib.hid (show pageL s = none by rw [HPG.out, HHD.out, if_neg (show ¬ (goodL p q = true) by unfold goodL; rw [ho1]; simp only [Bool.false_and, Bool.false_eq_true, not_false_eq_true])]; rfl)
                  rw [ho1] at HV1
                  clear HHD HPG HVP HVF
                  generalize valV p = vp at *
                  generalize valV f = vf at *
                  generalize okV f = of at *
                  go_wp2_with fail
                  refine Calls.mono (HV1.out _) ?_
                  rintro e w3 ⟨rfl, rfl⟩
                  go_wp2_with fail
                  refine Calls.mono (HV2.out _) ?_
                  rintro e w3 ⟨rfl, rfl⟩
                  go_wp2_with fail
                  go_ret2
                  exact ⟨by rw [HN.out]; rfl, HB2.out⟩
                | true =>
                  rw [ho1] at HV1 HVP
                  cases ho2 : okV f with
                  | false =>
                    have HN := Lib.hid (show pageL s = none by rw [HPG.out, HHD.out, if_neg (show ¬ (goodL p q = true) by unfold goodL; rw [hpf, ho2]; simp only [Bool.and_false, Bool.false_and, Bool.false_eq_true, not_false_eq_true])]; rfl)
                    rw [ho2] at HV2
                    clear HHD HPG HVP HVF
                    generalize valV p = vp at *
                    generalize valV f = vf at *
                    go_wp2_with fail
                    refine Calls.mono (HV1.out _) ?_
                    rintro e w3 ⟨rfl, rfl⟩
                    go_wp2_with fail
                    refine Calls.mono (HV2.out _) ?_
                    rintro e w3 ⟨rfl, rfl⟩
                    go_wp2_with fail
                    go_ret2
                    exact ⟨by rw [HN.out]; rfl, HB2.out⟩
                  | true =>
                    rw [ho2] at HV2 HVF
                    rw [show valV p = (valN p : Int) from HVP.out] at HV1
                    rw [show valV f = (valN f : Int) from HVF.out] at HV2
                    clear HVP HVF
                    by_cases hg1 : 1 ≤ valN p
                    · have hg1d : decide ((valN p : Int) < 1) = false := decide_eq_false (by omega)
                      by_cases hm53 : valN p < 9007199254740992
                      · have hg2d : decide ((9007199254740992 : Int) ≤ (valN p : Int)) = false := decide_eq_false (by omega)
                        by_cases hg3 : valN p % 2 = 1
                        · have hodd : ((valN p : Int).tmod 2 == 0) = false := beq_eq_false_iff_ne.2 (by rw [Int.tmod_eq_emod_of_nonneg (by omega)]; omega)
                          have hodd2 : (valN p : Int) % 2 = 1 := by omega
                          have hodd3 : (valN p : Int).tmod 2 = 1 := by rw [Int.tmod_eq_emod_of_nonneg (by omega)]; omega
                          by_cases hg4 : valN f ≤ 2000
                          · have hg4d : decide ((2000 : Int) < (valN f : Int)) = false := decide_eq_false (by omega)
                            rw [if_pos (show goodL p q = true by unfold goodL; rw [hpf, ho1, ho2, decide_eq_true hg1, decide_eq_true hm53, decide_eq_true hg3, decide_eq_true hg4]; rfl)] at HHD
                            obtain ⟨ee, hee⟩ : ∃ ee, expL q = ee := ⟨_, rfl⟩
                            have hei : ee = -(valN f : Int) := by rw [← hee, hex]
                            rw [hee] at HHD
                            have HMK := Lib.hid (fun W => rmade_any (valN p) ee W hg1 hm53 (by omega) (by omega))
                            clear hee
                            go_wp2_with fail
                            refine Calls.mono (HV1.out _) ?_
                            rintro e w3 ⟨rfl, rfl⟩
                            go_wp2_with fail
                            refine Calls.mono (HV2.out _) ?_
                            rintro e w3 ⟨rfl, rfl⟩
                            go_wp2_with fail
                            rw [← hei]
                            cases hmd : madeL (valN p) ee with
                            | none =>
                              rw [hmd] at HMK
                              have HN := Lib.hid (show pageL s = none by rw [HPG.out, HHD.out, hmd]; rfl)
                              clear hmd HHD HPG
                              refine Calls.mono (HMK.out _) ?_
                              rintro e w4 ⟨rfl, rfl⟩
                              unfold endR
                              go_wp2_with fail
                              go_ret2
                              exact ⟨by rw [HN.out]; rfl, HB2.out⟩
                            | some x =>
                              have hx := made_small hm53 hmd
                              have hneg : Op.unary .neg (.float .f64 x) = pure (.float .f64 (x + 9223372036854775808)) := by
                                rw [← neg_word (show x < 9223372036854775808 by omega)]
                                rfl
                              rw [hmd] at HMK
                              have HHX := Lib.hid (show pageL s = if textF (x) = s then some (x) else none by rw [HPG.out, HHD.out, hmd]; exact last_some s _)
                              obtain ⟨y, hy⟩ : ∃ y, x = y := ⟨_, rfl⟩
                              have hy64 : y < 18446744073709551616 := by omega
                              rw [hy] at HHX
                              clear hmd HHD HPG hx hneg
                              subst hy
                              refine Calls.mono (HMK.out _) ?_
                              rintro e w4 ⟨rfl, rfl⟩
                              unfold endR
                              go_wp2_with fail
                              have HX := Lib.hid (fun W => rText_any x W hy64)
                              by_cases hq : textF x = s
                              · rw [if_pos hq] at HHX
                                rw [hq] at HX
                                have hse : (s != s) = false := by simp
                                clear hq
                                refine Calls.mono (HX.out _) ?_
                                rintro e w5 ⟨rfl, hb⟩
                                have HB3 := Lib.hid (HB2.out.trans (hb.mono hsz2))
                                clear hb
                                go_wp2_with fail
                                go_ret2
                                exact ⟨by rw [HHX.out]; rfl, HB3.out⟩
                              · rw [if_neg hq] at HHX
                                have hse : (textF x != s) = true := bne_iff_ne.2 hq
                                have hse2 : (textF x == s) = false := beq_eq_false_iff_ne.2 hq
                                clear hq
                                generalize textF x = tx at *
                                refine Calls.mono (HX.out _) ?_
                                rintro e w5 ⟨rfl, hb⟩
                                have HB3 := Lib.hid (HB2.out.trans (hb.mono hsz2))
                                clear hb
                                go_wp2_with fail
                                go_ret2
                                exact ⟨by rw [HHX.out]; rfl, HB3.out⟩
                          · have hg4d : (2000 : Int) < (valN f : Int) := by omega
                            have HN := Lib.hid (show pageL s = none by rw [HPG.out, HHD.out, if_neg (show ¬ (goodL p q = true) by unfold goodL; rw [hpf, decide_eq_false hg4]; simp only [Bool.and_false, Bool.false_eq_true, not_false_eq_true])]; rfl)
                            clear HHD HPG
                            go_wp2_with fail
                            refine Calls.mono (HV1.out _) ?_
                            rintro e w3 ⟨rfl, rfl⟩
                            go_wp2_with fail
                            refine Calls.mono (HV2.out _) ?_
                            rintro e w3 ⟨rfl, rfl⟩
                            go_wp2_with fail
                            go_ret2
                            exact ⟨by rw [HN.out]; rfl, HB2.out⟩
                        · have hodd : ((valN p : Int).tmod 2 == 0) = true := beq_iff_eq.2 (by rw [Int.tmod_eq_emod_of_nonneg (by omega)]; omega)
                          have hodd2 : (valN p : Int) % 2 = 0 := by omega
                          have hodd3 : (valN p : Int).tmod 2 = 0 := by rw [Int.tmod_eq_emod_of_nonneg (by omega)]; omega
                          have HN := Lib.hid (show pageL s = none by rw [HPG.out, HHD.out, if_neg (show ¬ (goodL p q = true) by unfold goodL; rw [decide_eq_false hg3]; simp only [Bool.and_false, Bool.false_and, Bool.false_eq_true, not_false_eq_true])]; rfl)
                          clear HHD HPG
                          go_wp2_with fail
                          refine Calls.mono (HV1.out _) ?_
                          rintro e w3 ⟨rfl, rfl⟩
                          go_wp2_with fail
                          refine Calls.mono (HV2.out _) ?_
                          rintro e w3 ⟨rfl, rfl⟩
                          go_wp2_with fail
                          go_ret2
                          exact ⟨by rw [HN.out]; rfl, HB2.out⟩
                      · have hg2i : (9007199254740992 : Int) ≤ (valN p : Int) := by omega
                        have HN := Lib.hid (show pageL s = none by rw [HPG.out, HHD.out, if_neg (show ¬ (goodL p q = true) by unfold goodL; rw [decide_eq_false hm53]; simp only [Bool.and_false, Bool.false_and, Bool.false_eq_true, not_false_eq_true])]; rfl)
                        clear HHD HPG
                        go_wp2_with fail
                        refine Calls.mono (HV1.out _) ?_
                        rintro e w3 ⟨rfl, rfl⟩
                        go_wp2_with fail
                        refine Calls.mono (HV2.out _) ?_
                        rintro e w3 ⟨rfl, rfl⟩
                        go_wp2_with fail
                        go_ret2
                        exact ⟨by rw [HN.out]; rfl, HB2.out⟩
                    · have hg1i : (valN p : Int) < 1 := by omega
                      have HN := Lib.hid (show pageL s = none by rw [HPG.out, HHD.out, if_neg (show ¬ (goodL p q = true) by unfold goodL; rw [decide_eq_false hg1]; simp only [Bool.and_false, Bool.false_and, Bool.false_eq_true, not_false_eq_true])]; rfl)
                      clear HHD HPG
                      go_wp2_with fail
                      refine Calls.mono (HV1.out _) ?_
                      rintro e w3 ⟨rfl, rfl⟩
                      go_wp2_with fail
                      refine Calls.mono (HV2.out _) ?_
                      rintro e w3 ⟨rfl, rfl⟩
                      go_wp2_with fail
                      go_ret2
                      exact ⟨by rw [HN.out]; rfl, HB2.out⟩
              · have hpf : powL q = q := by unfold powL; rw [if_neg hqm]
                have hex : expL q = (valN q : Int) := by unfold expL; rw [if_neg hqm, hpf]
                have hflt : ¬ ((q.length : Int) < (q.length : Int)) := by omega
                by_cases hq0 : 0 < q.length
                · have hqB : 0 < (⟨q.toArray⟩ : ByteArray).size := hq0
                  have hqb := head_byte hqm hqB
                  have hq1 : (0 : Int) < (q.length : Int) := by omega
                  have hfl := hql
                  clear hqm
                  have HV1 := Lib.hid (fun W => (value_any p W hpl).mono fun _ _ h => (⟨h.1, h.2.symm⟩ : _ ∧ _))
                  have HV2 := Lib.hid (fun W => (value_any q W hfl).mono fun _ _ h => (⟨h.1, h.2.symm⟩ : _ ∧ _))
                  have HVP := Lib.hid (show valV p = if okV p then (valN p : Int) else 0 from rfl)
                  have HVF := Lib.hid (show valV q = if okV q then (valN q : Int) else 0 from rfl)
                  cases ho1 : okV p with
                  | false =>
                    have HN := Lib.hid (show pageL s = none by rw [HPG.out, HHD.out, if_neg (show ¬ (goodL p q = true) by unfold goodL; rw [ho1]; simp only [Bool.false_and, Bool.false_eq_true, not_false_eq_true])]; rfl)
                    rw [ho1] at HV1
                    clear HHD HPG HVP HVF
                    generalize valV p = vp at *
                    generalize valV q = vf at *
                    generalize okV q = of at *
                    go_wp2_with fail
                    refine Calls.mono (HV1.out _) ?_
                    rintro e w3 ⟨rfl, rfl⟩
                    go_wp2_with fail
                    refine Calls.mono (HV2.out _) ?_
                    rintro e w3 ⟨rfl, rfl⟩
                    go_wp2_with fail
                    go_ret2
                    exact ⟨by rw [HN.out]; rfl, HB2.out⟩
                  | true =>
                    rw [ho1] at HV1 HVP
                    cases ho2 : okV q with
                    | false =>
                      have HN := Lib.hid (show pageL s = none by rw [HPG.out, HHD.out, if_neg (show ¬ (goodL p q = true) by unfold goodL; rw [hpf, ho2]; simp only [Bool.and_false, Bool.false_and, Bool.false_eq_true, not_false_eq_true])]; rfl)
                      rw [ho2] at HV2
                      clear HHD HPG HVP HVF
                      generalize valV p = vp at *
                      generalize valV q = vf at *
                      go_wp2_with fail
                      refine Calls.mono (HV1.out _) ?_
                      rintro e w3 ⟨rfl, rfl⟩
                      go_wp2_with fail
                      refine Calls.mono (HV2.out _) ?_
                      rintro e w3 ⟨rfl, rfl⟩
                      go_wp2_with fail
                      go_ret2
                      exact ⟨by rw [HN.out]; rfl, HB2.out⟩
                    | true =>
                      rw [ho2] at HV2 HVF
                      rw [show valV p = (valN p : Int) from HVP.out] at HV1
                      rw [show valV q = (valN q : Int) from HVF.out] at HV2
                      clear HVP HVF
                      by_cases hg1 : 1 ≤ valN p
                      · have hg1d : decide ((valN p : Int) < 1) = false := decide_eq_false (by omega)
                        by_cases hm53 : valN p < 9007199254740992
                        · have hg2d : decide ((9007199254740992 : Int) ≤ (valN p : Int)) = false := decide_eq_false (by omega)
                          by_cases hg3 : valN p % 2 = 1
                          · have hodd : ((valN p : Int).tmod 2 == 0) = false := beq_eq_false_iff_ne.2 (by rw [Int.tmod_eq_emod_of_nonneg (by omega)]; omega)
                            have hodd2 : (valN p : Int) % 2 = 1 := by omega
                            have hodd3 : (valN p : Int).tmod 2 = 1 := by rw [Int.tmod_eq_emod_of_nonneg (by omega)]; omega
                            by_cases hg4 : valN q ≤ 2000
                            · have hg4d : decide ((2000 : Int) < (valN q : Int)) = false := decide_eq_false (by omega)
                              rw [if_pos (show goodL p q = true by unfold goodL; rw [hpf, ho1, ho2, decide_eq_true hg1, decide_eq_true hm53, decide_eq_true hg3, decide_eq_true hg4]; rfl)] at HHD
                              obtain ⟨ee, hee⟩ : ∃ ee, expL q = ee := ⟨_, rfl⟩
                              have hei : ee = (valN q : Int) := by rw [← hee, hex]
                              rw [hee] at HHD
                              have HMK := Lib.hid (fun W => rmade_any (valN p) ee W hg1 hm53 (by omega) (by omega))
                              clear hee
                              go_wp2_with fail
                              refine Calls.mono (HV1.out _) ?_
                              rintro e w3 ⟨rfl, rfl⟩
                              go_wp2_with fail
                              refine Calls.mono (HV2.out _) ?_
                              rintro e w3 ⟨rfl, rfl⟩
                              go_wp2_with fail
                              rw [← hei]
                              cases hmd : madeL (valN p) ee with
                              | none =>
                                rw [hmd] at HMK
                                have HN := Lib.hid (show pageL s = none by rw [HPG.out, HHD.out, hmd]; rfl)
                                clear hmd HHD HPG
                                refine Calls.mono (HMK.out _) ?_
                                rintro e w4 ⟨rfl, rfl⟩
                                unfold endR
                                go_wp2_with fail
                                go_ret2
                                exact ⟨by rw [HN.out]; rfl, HB2.out⟩
                              | some x =>
                                have hx := made_small hm53 hmd
                                have hneg : Op.unary .neg (.float .f64 x) = pure (.float .f64 (x + 9223372036854775808)) := by
                                  rw [← neg_word (show x < 9223372036854775808 by omega)]
                                  rfl
                                rw [hmd] at HMK
                                have HHX := Lib.hid (show pageL s = if textF (x) = s then some (x) else none by rw [HPG.out, HHD.out, hmd]; exact last_some s _)
                                obtain ⟨y, hy⟩ : ∃ y, x = y := ⟨_, rfl⟩
                                have hy64 : y < 18446744073709551616 := by omega
                                rw [hy] at HHX
                                clear hmd HHD HPG hx hneg
                                subst hy
                                refine Calls.mono (HMK.out _) ?_
                                rintro e w4 ⟨rfl, rfl⟩
                                unfold endR
                                go_wp2_with fail
                                have HX := Lib.hid (fun W => rText_any x W hy64)
                                by_cases hq : textF x = s
                                · rw [if_pos hq] at HHX
                                  rw [hq] at HX
                                  have hse : (s != s) = false := by simp
                                  clear hq
                                  refine Calls.mono (HX.out _) ?_
                                  rintro e w5 ⟨rfl, hb⟩
                                  have HB3 := Lib.hid (HB2.out.trans (hb.mono hsz2))
                                  clear hb
                                  go_wp2_with fail
                                  go_ret2
                                  exact ⟨by rw [HHX.out]; rfl, HB3.out⟩
                                · rw [if_neg hq] at HHX
                                  have hse : (textF x != s) = true := bne_iff_ne.2 hq
                                  have hse2 : (textF x == s) = false := beq_eq_false_iff_ne.2 hq
                                  clear hq
                                  generalize textF x = tx at *
                                  refine Calls.mono (HX.out _) ?_
                                  rintro e w5 ⟨rfl, hb⟩
                                  have HB3 := Lib.hid (HB2.out.trans (hb.mono hsz2))
                                  clear hb
                                  go_wp2_with fail
                                  go_ret2
                                  exact ⟨by rw [HHX.out]; rfl, HB3.out⟩
                            · have hg4d : (2000 : Int) < (valN q : Int) := by omega
                              have HN := Lib.hid (show pageL s = none by rw [HPG.out, HHD.out, if_neg (show ¬ (goodL p q = true) by unfold goodL; rw [hpf, decide_eq_false hg4]; simp only [Bool.and_false, Bool.false_eq_true, not_false_eq_true])]; rfl)
                              clear HHD HPG
                              go_wp2_with fail
                              refine Calls.mono (HV1.out _) ?_
                              rintro e w3 ⟨rfl, rfl⟩
                              go_wp2_with fail
                              refine Calls.mono (HV2.out _) ?_
                              rintro e w3 ⟨rfl, rfl⟩
                              go_wp2_with fail
                              go_ret2
                              exact ⟨by rw [HN.out]; rfl, HB2.out⟩
                          · have hodd : ((valN p : Int).tmod 2 == 0) = true := beq_iff_eq.2 (by rw [Int.tmod_eq_emod_of_nonneg (by omega)]; omega)
                            have hodd2 : (valN p : Int) % 2 = 0 := by omega
                            have hodd3 : (valN p : Int).tmod 2 = 0 := by rw [Int.tmod_eq_emod_of_nonneg (by omega)]; omega
                            have HN := Lib.hid (show pageL s = none by rw [HPG.out, HHD.out, if_neg (show ¬ (goodL p q = true) by unfold goodL; rw [decide_eq_false hg3]; simp only [Bool.and_false, Bool.false_and, Bool.false_eq_true, not_false_eq_true])]; rfl)
                            clear HHD HPG
                            go_wp2_with fail
                            refine Calls.mono (HV1.out _) ?_
                            rintro e w3 ⟨rfl, rfl⟩
                            go_wp2_with fail
                            refine Calls.mono (HV2.out _) ?_
                            rintro e w3 ⟨rfl, rfl⟩
                            go_wp2_with fail
                            go_ret2
                            exact ⟨by rw [HN.out]; rfl, HB2.out⟩
                        · have hg2i : (9007199254740992 : Int) ≤ (valN p : Int) := by omega
                          have HN := Lib.hid (show pageL s = none by rw [HPG.out, HHD.out, if_neg (show ¬ (goodL p q = true) by unfold goodL; rw [decide_eq_false hm53]; simp only [Bool.and_false, Bool.false_and, Bool.false_eq_true, not_false_eq_true])]; rfl)
                          clear HHD HPG
                          go_wp2_with fail
                          refine Calls.mono (HV1.out _) ?_
                          rintro e w3 ⟨rfl, rfl⟩
                          go_wp2_with fail
                          refine Calls.mono (HV2.out _) ?_
                          rintro e w3 ⟨rfl, rfl⟩
                          go_wp2_with fail
                          go_ret2
                          exact ⟨by rw [HN.out]; rfl, HB2.out⟩
                      · have hg1i : (valN p : Int) < 1 := by omega
                        have HN := Lib.hid (show pageL s = none by rw [HPG.out, HHD.out, if_neg (show ¬ (goodL p q = true) by unfold goodL; rw [decide_eq_false hg1]; simp only [Bool.and_false, Bool.false_and, Bool.false_eq_true, not_false_eq_true])]; rfl)
                        clear HHD HPG
                        go_wp2_with fail
                        refine Calls.mono (HV1.out _) ?_
                        rintro e w3 ⟨rfl, rfl⟩
                        go_wp2_with fail
                        refine Calls.mono (HV2.out _) ?_
                        rintro e w3 ⟨rfl, rfl⟩
                        go_wp2_with fail
                        go_ret2
                        exact ⟨by rw [HN.out]; rfl, HB2.out⟩
                · have hq1 : decide ((0 : Int) < (q.length : Int)) = false := decide_eq_false (by omega)
                  have hqe : q = [] := List.eq_nil_of_length_eq_zero (by omega)
                  have hok2 : okV q = false := by rw [hqe]; rfl
                  have HN := Lib.hid (show pageL s = none by rw [HPG.out, HHD.out, if_neg (show ¬ (goodL p q = true) by unfold goodL; rw [hpf, hok2]; simp only [Bool.and_false, Bool.false_and, Bool.false_eq_true, not_false_eq_true])]; rfl)
                  have HV1 := Lib.hid (fun W => (value_any p W hpl).mono fun _ _ h => (⟨h.1, h.2.symm⟩ : _ ∧ _))
                  have HV2 := Lib.hid (fun W => (value_any q W hql).mono fun _ _ h => (⟨h.1, h.2.symm⟩ : _ ∧ _))
                  rw [hok2] at HV2
                  have hqn : (q.length : Int) = 0 := by omega
                  clear hqm hok2 HHD HPG hex hpf hqe
                  generalize valV p = vp at *
                  generalize valV q = vf at *
                  cases ho1 : okV p with
                  | false =>
                    rw [ho1] at HV1
                    go_wp2_with fail
                    refine Calls.mono (HV1.out _) ?_
                    rintro e w3 ⟨rfl, rfl⟩
                    go_wp2_with fail
                    refine Calls.mono (HV2.out _) ?_
                    rintro e w3 ⟨rfl, rfl⟩
                    go_wp2_with fail
                    go_ret2
                    exact ⟨by rw [HN.out]; rfl, HB2.out⟩
                  | true =>
                    rw [ho1] at HV1
                    go_wp2_with fail
                    refine Calls.mono (HV1.out _) ?_
                    rintro e w3 ⟨rfl, rfl⟩
                    go_wp2_with fail
                    refine Calls.mono (HV2.out _) ?_
                    rintro e w3 ⟨rfl, rfl⟩
                    go_wp2_with fail
                    go_ret2
                    exact ⟨by rw [HN.out]; rfl, HB2.out⟩
            · have HN := Lib.hid (show pageL s = none by rw [HPG.out, HHD0.out, parts_not hl2]; rfl)
              have hl2i : (((splitB 112 s).length : Int) != 2) = true := bne_iff_ne.2 (by omega)
              generalize (splitB 112 s).length = nn at *
              clear HPG HHD0 HROW
              go_wp2_with fail
              go_ret2
              exact ⟨by rw [HN.out]; rfl, HB2.out⟩
          · have hs1 : decide ((0 : Int) < (s.length : Int)) = false := decide_eq_false (by omega)
            have hse : s = [] := List.eq_nil_of_length_eq_zero (by omega)
            have hl2 : (splitB 112 s).length ≠ 2 := by rw [hse]; decide
            have HN := Lib.hid (show pageL s = none by rw [HPG.out, HHD0.out, parts_not hl2]; rfl)
            have hl2i : (((splitB 112 s).length : Int) != 2) = true := bne_iff_ne.2 (by omega)
            clear hsm HPG HHD0 hse hl2
            go_wp2_with fail
            refine Calls.mono (HSP.out _) ?_
            rintro e w2 ⟨v, rfl, hrow, hb⟩
            have HB2 := Lib.hid (HBr.out.trans (hb.mono hszw))
            obtain ⟨gA, gc, rfl⟩ := row_shape hrow
            clear hb hrow HBr HSP
            generalize (splitB 112 s).length = nn at *
            go_wp2_with fail
            go_ret2
            exact ⟨by rw [HN.out]; rfl, HB2.out⟩
end Go.Proofs.YtfbkokkpcgmapaaDoor

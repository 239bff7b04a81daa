/-
  The least and the greatest one of a row of floats: package real's functions and the page's, walked.
  Conditions: as each theorem states them: a word is below 2 to the 64; the row lies in memory.
-/
import Derived.Test.YtfbkokkpcgmapaaDoorRD
namespace Go.Proofs.YtfbkokkpcgmapaaDoor
open Go.RowKit

/-- A row of floats in memory. -/
def FsAt (w : World) (v : Value) (l : List Nat) : Prop :=
  ∃ A c, v = .slice A l.length c ∧ l.length ≤ 100000 ∧ (l ≠ [] → ∃ b o, A = some ⟨b, o, none⟩ ∧ ∀ i (hi : i < l.length), w.cell? ⟨b, o + i, none⟩ = some (.float .f64 l[i]))
theorem FRow.at {w : World} {B : Nat} {v : Value} {l : List Nat} (h : FRow w B v l) (hl : l.length ≤ 100000) : FsAt w v l := by
  obtain ⟨A, c, hv⟩ := frow_shape h
  refine ⟨A, c, hv, hl, fun hne => ?_⟩
  obtain ⟨g, cap, hv2, _, _, hc⟩ := h.get hne
  rw [hv] at hv2
  injection hv2 with h1
  exact ⟨g, 0, h1, fun i hi => by rw [Nat.zero_add]; exact hc i hi⟩
theorem FsAt.drew {w : World} {v : Value} {l : List Nat} (h : FsAt w v l) (n : Nat) : FsAt (w.drewN n) v l := by
  obtain ⟨A, c, hv, hl, hc⟩ := h
  refine ⟨A, c, hv, hl, fun hne => ?_⟩
  obtain ⟨b, o, hA, hat⟩ := hc hne
  exact ⟨b, o, hA, fun i hi => by rw [World.cell?_drewN]; exact hat i hi⟩
theorem FsAt.cell {w : World} {A : Option Addr} {n c : Nat} {l : List Nat} (h : FsAt w (.slice A n c) l) {i : Nat} (hi : i < l.length) : ∃ b o, A = some ⟨b, o, none⟩ ∧ w.cell? ⟨b, o + i, none⟩ = some (.float .f64 l[i]) := by
  obtain ⟨A', c', hv, _, hc⟩ := h
  obtain ⟨b, o, hA, hat⟩ := hc (fun e => by rw [e] at hi; simp at hi)
  injection hv with h1
  subst h1
  exact ⟨b, o, hA, hat i hi⟩

theorem least_more {l : List Nat} {i : Nat} (h : i < l.length) : leastF (l.take (i + 1)) = if cmpF l[i] (leastF (l.take i)) < 0 then l[i] else leastF (l.take i) := by
  unfold leastF
  rw [List.take_add_one, List.getElem?_eq_getElem h, List.foldl_append]
  rfl
theorem most_more {l : List Nat} {i : Nat} (h : i < l.length) : mostF (l.take (i + 1)) = if nanF l[i] then mostF (l.take i) else if nanF (mostF (l.take i)) || decide (0 < cmpF l[i] (mostF (l.take i))) then l[i] else mostF (l.take i) := by
  unfold mostF
  rw [List.take_add_one, List.getElem?_eq_getElem h, List.foldl_append]
  rfl
theorem least_lt {l : List Nat} (h : ∀ x ∈ l, x < 18446744073709551616) : ∀ i, i ≤ l.length → leastF (l.take i) < 18446744073709551616 := by
  intro i
  induction i with
  | zero => intro _; rw [List.take_zero]; decide
  | succ i ih =>
    intro hi
    rw [least_more (by omega)]
    split
    · exact h _ (List.getElem_mem _)
    · exact ih (by omega)
theorem most_lt {l : List Nat} (h : ∀ x ∈ l, x < 18446744073709551616) : ∀ i, i ≤ l.length → mostF (l.take i) < 18446744073709551616 := by
  intro i
  induction i with
  | zero => intro _; rw [List.take_zero]; decide
  | succ i ih =>
    intro hi
    rw [most_more (by omega)]
    split
    · exact ih (by omega)
    · split
      · exact h _ (List.getElem_mem _)
      · exact ih (by omega)
theorem nan_over {a m : Nat} (h : nanF a = true) (hm : m < 18446744073709551616) : ¬ (cmpF a m < 0) := by
  rw [cmp_neg]
  have h1 : bitsF a = 18446744073709551615 := by unfold bitsF; rw [h]; rfl
  have h2 := bits_lt hm
  omega

set_option maxHeartbeats 1000000 in
set_option maxRecDepth 100000 in
theorem fLeast_any (l : List Nat) (v : Value) (w : World) (h : FsAt w v l) (hl : ∀ x ∈ l, x < 18446744073709551616) : Calls Tryd.prog 21 #[v] w fun e w' => e = .returned (.float .f64 (leastF l)) ∧ ∃ n, w' = w.drewN n := by
  have HNN := Lib.hid (fun W => nan_any W)
  have HL := Lib.hid hl
  have HS := Lib.hid h
  obtain ⟨A, c, rfl, hlen, _⟩ := h
  have hll : l.length < 9223372036854775808 := by omega
  clear hl
  go_enter Tryd.func21, Tryd.ntmps21
  go_wp2_with fail
  refine Calls.mono (HNN.out _) ?_
  rintro e w' ⟨rfl, rfl⟩
  go_wp2_with fail
  go_loopw [3, 9] (fun mv iv wr => ∃ i n : Nat, iv = .int .i64 i ∧ i ≤ l.length ∧ mv = .float .f64 (leastF (l.take i)) ∧ wr = w'.drewN n) (fun _ iv _ => l.length - (intOf iv).toNat)
  case atStart => exact ⟨0, 0, rfl, Nat.zero_le _, by rw [List.take_zero]; rfl, rfl⟩
  case round =>
    obtain ⟨i, n, rfl, hi, rfl, rfl⟩ := hrel
    by_cases hlt : i < l.length
    · have hlti : (i : Int) < (l.length : Int) := by omega
      have hx := HL.out _ (List.getElem_mem hlt)
      have hm := least_lt HL.out i hi
      have HM := Lib.hid (least_more hlt)
      obtain ⟨b, o, hA, hc⟩ := (HS.out.drew n).cell hlt
      subst hA
      generalize l[i] = x at *
      generalize leastF (l.take i) = m at *
      have HC := Lib.hid (fun W => fCmp_any x m W hx hm)
      clear hx hm
      generalize cmpF x m = c1 at *
      by_cases h1 : c1 < 0
      · rw [if_pos h1] at HM
        go_wp2_with fail
        refine Calls.mono (HC.out _) ?_
        rintro e w5 ⟨rfl, rfl⟩
        go_wp2_with fail
        exact ⟨⟨i + 1, n, by go_num, by omega, by rw [HM.out], rfl⟩, by simp [intOf]; omega⟩
      · rw [if_neg h1] at HM
        have h1d : decide (c1 < 0) = false := decide_eq_false h1
        go_wp2_with fail
        refine Calls.mono (HC.out _) ?_
        rintro e w5 ⟨rfl, rfl⟩
        go_wp2_with fail
        exact ⟨⟨i + 1, n, by go_num, by omega, by rw [HM.out], rfl⟩, by simp [intOf]; omega⟩
    · have hlti : ¬ ((i : Int) < (l.length : Int)) := by omega
      obtain rfl : i = l.length := by omega
      rw [List.take_length] at *
      go_wp2_with fail
      go_ret
      exact ⟨rfl, n, rfl⟩
set_option maxHeartbeats 1000000 in
set_option maxRecDepth 100000 in
theorem rLeast_any (l : List Nat) (v : Value) (w : World) (h : FsAt w v l) (hl : ∀ x ∈ l, x < 18446744073709551616) : Calls Tryd.prog 22 #[v] w fun e w' => e = .returned (.float .f64 (leastF l)) ∧ ∃ n, w' = w.drewN n := by
  have HNN := Lib.hid (fun W => nan_any W)
  have HL := Lib.hid hl
  have HS := Lib.hid h
  obtain ⟨A, c, rfl, hlen, _⟩ := h
  have hll : l.length < 9223372036854775808 := by omega
  clear hl
  go_enter Tryd.func22, Tryd.ntmps22
  go_wp2_with fail
  refine Calls.mono (HNN.out _) ?_
  rintro e w' ⟨rfl, rfl⟩
  go_wp2_with fail
  go_loopw [3, 4] (fun mv iv wr => ∃ i n : Nat, iv = .int .i64 i ∧ i ≤ l.length ∧ mv = .float .f64 (leastF (l.take i)) ∧ wr = w'.drewN n) (fun _ iv _ => l.length - (intOf iv).toNat)
  case atStart => exact ⟨0, 0, rfl, Nat.zero_le _, by rw [List.take_zero]; rfl, rfl⟩
  case round =>
    obtain ⟨i, n, rfl, hi, rfl, rfl⟩ := hrel
    by_cases hlt : i < l.length
    · have hlti : (i : Int) < (l.length : Int) := by omega
      have hx := HL.out _ (List.getElem_mem hlt)
      have hm := least_lt HL.out i hi
      have HM := Lib.hid (least_more hlt)
      obtain ⟨b, o, hA, hc⟩ := (HS.out.drew n).cell hlt
      subst hA
      generalize l[i] = x at *
      generalize leastF (l.take i) = m at *
      have HC := Lib.hid (fun W => rCmp_any x m W hx hm)
      have he := ord_eq x
      cases hn : nanF x with
      | true =>
        rw [hn] at he
        rw [if_neg (nan_over hn hm)] at HM
        clear hx hm hn
        generalize hwq : w'.drewN n = wq at *
        go_wp2_with fail
        go_quiet (fail)
        go_wp2_with fail
        exact ⟨⟨i + 1, n + nq, by go_num, by omega, by rw [HM.out], by rw [← hwq, World.drewN_drewN]⟩, by simp [intOf]; omega⟩
      | false =>
        rw [hn] at he
        clear hx hm hn
        generalize cmpF x m = c1 at *
        by_cases h1 : c1 < 0
        · rw [if_pos h1] at HM
          generalize hwq : w'.drewN n = wq at *
          go_wp2_with fail
          go_quiet (first | (go_at_call 15; exact Calls.quiet_of_same (HC.out _)))
          go_wp2_with fail
          exact ⟨⟨i + 1, n + nq, by go_num, by omega, by rw [HM.out], by rw [← hwq, World.drewN_drewN]⟩, by simp [intOf]; omega⟩
        · rw [if_neg h1] at HM
          have h1d : decide (c1 < 0) = false := decide_eq_false h1
          generalize hwq : w'.drewN n = wq at *
          go_wp2_with fail
          go_quiet (first | (go_at_call 15; exact Calls.quiet_of_same (HC.out _)))
          go_wp2_with fail
          exact ⟨⟨i + 1, n + nq, by go_num, by omega, by rw [HM.out], by rw [← hwq, World.drewN_drewN]⟩, by simp [intOf]; omega⟩
    · have hlti : ¬ ((i : Int) < (l.length : Int)) := by omega
      obtain rfl : i = l.length := by omega
      rw [List.take_length] at *
      go_wp2_with fail
      go_ret
      exact ⟨rfl, n, rfl⟩
set_option maxHeartbeats 1000000 in
set_option maxRecDepth 100000 in
theorem fMost_any (l : List Nat) (v : Value) (w : World) (h : FsAt w v l) (hl : ∀ x ∈ l, x < 18446744073709551616) : Calls Tryd.prog 23 #[v] w fun e w' => e = .returned (.float .f64 (mostF l)) ∧ ∃ n, w' = w.drewN n := by
  have HNN := Lib.hid (fun W => nan_any W)
  have HL := Lib.hid hl
  have HS := Lib.hid h
  obtain ⟨A, c, rfl, hlen, _⟩ := h
  have hll : l.length < 9223372036854775808 := by omega
  clear hl
  go_enter Tryd.func23, Tryd.ntmps23
  go_wp2_with fail
  refine Calls.mono (HNN.out _) ?_
  rintro e w' ⟨rfl, rfl⟩
  go_wp2_with fail
  go_loopw [3, 9] (fun mv iv wr => ∃ i n : Nat, iv = .int .i64 i ∧ i ≤ l.length ∧ mv = .float .f64 (mostF (l.take i)) ∧ wr = w'.drewN n) (fun _ iv _ => l.length - (intOf iv).toNat)
  case atStart => exact ⟨0, 0, rfl, Nat.zero_le _, by rw [List.take_zero]; rfl, rfl⟩
  case round =>
    obtain ⟨i, n, rfl, hi, rfl, rfl⟩ := hrel
    by_cases hlt : i < l.length
    · have hlti : (i : Int) < (l.length : Int) := by omega
      have hx := HL.out _ (List.getElem_mem hlt)
      have hm := most_lt HL.out i hi
      have HM := Lib.hid (most_more hlt)
      obtain ⟨b, o, hA, hc⟩ := (HS.out.drew n).cell hlt
      subst hA
      generalize l[i] = x at *
      generalize mostF (l.take i) = m at *
      have HC := Lib.hid (fun W => fCmp_any x m W hx hm)
      have HNX := Lib.hid (fun W => isNaN_any x W)
      have HNM := Lib.hid (fun W => isNaN_any m W)
      clear hx hm
      generalize cmpF x m = c1 at *
      cases hn : nanF x with
      | true =>
        rw [hn] at HM HNX
        go_wp2_with fail
        refine Calls.mono (HNX.out _) ?_
        rintro e w5 ⟨rfl, rfl⟩
        go_wp2_with fail
        exact ⟨⟨i + 1, n, by go_num, by omega, by rw [HM.out]; rfl, rfl⟩, by simp [intOf]; omega⟩
      | false =>
        rw [hn] at HM HNX
        cases hm : nanF m with
        | true =>
          rw [hm] at HM HNM
          go_wp2_with fail
          refine Calls.mono (HNX.out _) ?_
          rintro e w5 ⟨rfl, rfl⟩
          go_wp2_with fail
          refine Calls.mono (HNM.out _) ?_
          rintro e w5 ⟨rfl, rfl⟩
          go_wp2_with fail
          exact ⟨⟨i + 1, n, by go_num, by omega, by rw [HM.out]; rfl, rfl⟩, by simp [intOf]; omega⟩
        | false =>
          rw [hm] at HM HNM
          by_cases h1 : 0 < c1
          · rw [decide_eq_true h1] at HM
            go_wp2_with fail
            refine Calls.mono (HNX.out _) ?_
            rintro e w5 ⟨rfl, rfl⟩
            go_wp2_with fail
            refine Calls.mono (HNM.out _) ?_
            rintro e w5 ⟨rfl, rfl⟩
            go_wp2_with fail
            refine Calls.mono (HC.out _) ?_
            rintro e w5 ⟨rfl, rfl⟩
            go_wp2_with fail
            exact ⟨⟨i + 1, n, by go_num, by omega, by rw [HM.out]; rfl, rfl⟩, by simp [intOf]; omega⟩
          · have h1d : decide (0 < c1) = false := decide_eq_false h1
            rw [h1d] at HM
            go_wp2_with fail
            refine Calls.mono (HNX.out _) ?_
            rintro e w5 ⟨rfl, rfl⟩
            go_wp2_with fail
            refine Calls.mono (HNM.out _) ?_
            rintro e w5 ⟨rfl, rfl⟩
            go_wp2_with fail
            refine Calls.mono (HC.out _) ?_
            rintro e w5 ⟨rfl, rfl⟩
            go_wp2_with fail
            exact ⟨⟨i + 1, n, by go_num, by omega, by rw [HM.out]; rfl, rfl⟩, by simp [intOf]; omega⟩
    · have hlti : ¬ ((i : Int) < (l.length : Int)) := by omega
      obtain rfl : i = l.length := by omega
      rw [List.take_length] at *
      go_wp2_with fail
      go_ret
      exact ⟨rfl, n, rfl⟩
set_option maxHeartbeats 1000000 in
set_option maxRecDepth 100000 in
theorem rMost_any (l : List Nat) (v : Value) (w : World) (h : FsAt w v l) (hl : ∀ x ∈ l, x < 18446744073709551616) : Calls Tryd.prog 24 #[v] w fun e w' => e = .returned (.float .f64 (mostF l)) ∧ ∃ n, w' = w.drewN n := by
  have HNN := Lib.hid (fun W => nan_any W)
  have HL := Lib.hid hl
  have HS := Lib.hid h
  obtain ⟨A, c, rfl, hlen, _⟩ := h
  have hll : l.length < 9223372036854775808 := by omega
  clear hl
  go_enter Tryd.func24, Tryd.ntmps24
  go_wp2_with fail
  refine Calls.mono (HNN.out _) ?_
  rintro e w' ⟨rfl, rfl⟩
  go_wp2_with fail
  go_loopw [3, 4] (fun mv iv wr => ∃ i n : Nat, iv = .int .i64 i ∧ i ≤ l.length ∧ mv = .float .f64 (mostF (l.take i)) ∧ wr = w'.drewN n) (fun _ iv _ => l.length - (intOf iv).toNat)
  case atStart => exact ⟨0, 0, rfl, Nat.zero_le _, by rw [List.take_zero]; rfl, rfl⟩
  case round =>
    obtain ⟨i, n, rfl, hi, rfl, rfl⟩ := hrel
    by_cases hlt : i < l.length
    · have hlti : (i : Int) < (l.length : Int) := by omega
      have hx := HL.out _ (List.getElem_mem hlt)
      have hm := most_lt HL.out i hi
      have HM := Lib.hid (most_more hlt)
      obtain ⟨b, o, hA, hc⟩ := (HS.out.drew n).cell hlt
      subst hA
      generalize l[i] = x at *
      generalize mostF (l.take i) = m at *
      have HC := Lib.hid (fun W => rCmp_any x m W hx hm)
      have he := ord_eq x
      have hne := ord_ne m
      clear hx hm
      generalize cmpF x m = c1 at *
      cases hn : nanF x with
      | true =>
        rw [hn] at he HM
        generalize hwq : w'.drewN n = wq at *
        go_wp2_with fail
        go_quiet (fail)
        go_wp2_with fail
        exact ⟨⟨i + 1, n + nq, by go_num, by omega, by rw [HM.out]; rfl, by rw [← hwq, World.drewN_drewN]⟩, by simp [intOf]; omega⟩
      | false =>
        rw [hn] at he HM
        cases hm : nanF m with
        | true =>
          rw [hm] at hne HM
          generalize hwq : w'.drewN n = wq at *
          go_wp2_with fail
          go_quiet (fail)
          go_wp2_with fail
          exact ⟨⟨i + 1, n + nq, by go_num, by omega, by rw [HM.out]; rfl, by rw [← hwq, World.drewN_drewN]⟩, by simp [intOf]; omega⟩
        | false =>
          rw [hm] at hne HM
          by_cases h1 : 0 < c1
          · rw [decide_eq_true h1] at HM
            generalize hwq : w'.drewN n = wq at *
            go_wp2_with fail
            go_quiet (first | (go_at_call 15; exact Calls.quiet_of_same (HC.out _)))
            go_wp2_with fail
            exact ⟨⟨i + 1, n + nq, by go_num, by omega, by rw [HM.out]; rfl, by rw [← hwq, World.drewN_drewN]⟩, by simp [intOf]; omega⟩
          · have h1d : decide (0 < c1) = false := decide_eq_false h1
            rw [h1d] at HM
            generalize hwq : w'.drewN n = wq at *
            go_wp2_with fail
            go_quiet (first | (go_at_call 15; exact Calls.quiet_of_same (HC.out _)))
            go_wp2_with fail
            exact ⟨⟨i + 1, n + nq, by go_num, by omega, by rw [HM.out]; rfl, by rw [← hwq, World.drewN_drewN]⟩, by simp [intOf]; omega⟩
    · have hlti : ¬ ((i : Int) < (l.length : Int)) := by omega
      obtain rfl : i = l.length := by omega
      rw [List.take_length] at *
      go_wp2_with fail
      go_ret
      exact ⟨rfl, n, rfl⟩
end Go.Proofs.YtfbkokkpcgmapaaDoor

/-
  Package backoff's total; the page's Backoff, and its comparison of two lists, walked.
  Conditions: as each theorem states them.
-/
import Derived.Test.YtaeehblmffidmaaND
namespace Go.Proofs.Ytaeehblmffidmaa
open Go.RowKit

set_option maxHeartbeats 2000000 in
theorem total_long (l : List Int) (k : Nat) (v : Value) (w : World) (h : NAt w v l) (hq : okL l = true) (hk : k ≤ 1048576) (hlt : l.length < k) : Calls Try.prog 25 #[v, .int .i64 (k : Int)] w fun e w' => e = .returned (.int .i64 (totL l k)) ∧ w' = w := by
  have HU := Lib.hid h
  have HV := Lib.hid (demandValid_any l v w h)
  rw [hq, endD_t] at HV
  obtain ⟨A, c, rfl, hll, hlc⟩ := h.slice
  have HD := Lib.hid (fun W => demand_any true W)
  rw [endD_t] at HD
  have HW := Lib.hid (fun W => within_any (k : Int) 0 1048576 W)
  rw [inB_iff.2 ⟨by omega, by omega⟩] at HW
  have h1 := (okL_iff.1 hq).1
  have hlti : (l.length : Int) < (k : Int) := by omega
  obtain ⟨b, o, rfl, hcell⟩ := HU.out.cell (show l.length - 1 < l.length by omega)
  have HP := Lib.hid (part_in hq hk)
  have HSI := Lib.hid (sum_in hq)
  have HTT := Lib.hid (show totL l k = ((k : Int) - (min k l.length : Nat)) * lastL l + (l.take (min k l.length)).sum from rfl)
  have e0 : min k l.length = l.length := by omega
  rw [e0] at HP HTT
  have e1 : lastL l = l[l.length - 1] := getD_mem (by omega)
  rw [e1] at HP HTT
  have HLI := Lib.hid (show ∀ i, i < l.length → True from fun _ _ => trivial)
  have h1n : (1 : Int) ≤ (l.length : Int) := by omega
  have h16 : l.length ≤ 16 := h1.2
  have HEL := Lib.hid (fun i (hi : i < l.length) => (okL_iff.1 hq).2 _ (List.getElem_mem hi))
  generalize l[l.length - 1] = d at *
  obtain ⟨P, hP⟩ : ∃ P, ((k : Int) - (l.length : Int)) * d = P := ⟨_, rfl⟩
  rw [hP] at HP HTT
  obtain ⟨p1, p2⟩ := HP.out
  have hw0 : IntKind.i64.wrap ((l.length : Int) - 1) = (l.length : Int) - 1 := wrap_id (by omega) (by omega)
  have hw1 : IntKind.i64.wrap ((k : Int) - (l.length : Int)) = (k : Int) - (l.length : Int) := wrap_id (by omega) (by omega)
  have hw2 : IntKind.i64.wrap (((k : Int) - (l.length : Int)) * d) = P := by rw [hP]; exact wrap_id (by omega) (by omega)
  clear h hq h1 e0 e1 hP
  go_enter Try.func25, Try.ntmps25
  go_wp2_with fail
  refine Calls.mono HV.out ?_
  rintro e w' ⟨rfl, he⟩
  have he := he.symm
  subst he
  go_wp2_with fail
  refine Calls.mono (HW.out _) ?_
  rintro e w' ⟨rfl, he⟩
  have he := he.symm
  subst he
  go_wp2_with fail
  refine Calls.mono (HD.out _) ?_
  rintro e w' ⟨rfl, he⟩
  have he := he.symm
  subst he
  go_wp2_with fail
  go_loopw [6, 32] (fun sv iv wr => ∃ i : Nat, iv = .int .i64 i ∧ i ≤ l.length ∧ sv = .int .i64 (P + (l.take i).sum) ∧ wr = w) (fun _ iv _ => l.length - (intOf iv).toNat)
  case atStart => exact ⟨0, rfl, Nat.zero_le _, by simp, rfl⟩
  case round =>
    obtain ⟨i, rfl, hil, rfl, rfl⟩ := hrel
    by_cases hlt2 : i < l.length
    · have hlti2 : (i : Int) < (l.length : Int) := by omega
      have hll2 : i < l.length := by omega
      obtain ⟨b', o', hA, hcell2⟩ := HU.out.cell hll2
      injection hA with hA
      injection hA with hA1 hA2
      subst hA1 hA2
      have HS := Lib.hid (sum_take_succ hll2)
      obtain ⟨x1, x2⟩ := HEL.out i hll2
      obtain ⟨s1, s2⟩ := HSI.out i (by omega)
      generalize l[i] = x at *
      obtain ⟨s, hs⟩ : ∃ s, (l.take i).sum = s := ⟨_, rfl⟩
      rw [hs] at HS s1 s2 ⊢
      have hw3 : IntKind.i64.wrap (P + s + x) = P + s + x := wrap_id (by omega) (by omega)
      clear hs hcell x1 x2 s1 s2 hw0 hw1 hw2
      go_wp2_with fail
      exact ⟨⟨i + 1, by go_num, by omega, by rw [HS.out]; congr 1; omega, by first | rfl | trivial⟩, by simp [intOf]; omega⟩
    · have hlti2 : ¬ ((i : Int) < (l.length : Int)) := by omega
      obtain rfl : i = l.length := by omega
      rw [← HTT.out]
      go_wp2_with fail
      go_ret
      exact ⟨rfl, rfl⟩
set_option maxHeartbeats 2000000 in
theorem total_short (l : List Int) (k : Nat) (v : Value) (w : World) (h : NAt w v l) (hq : okL l = true) (hk : k ≤ 1048576) (hlt : k ≤ l.length) : Calls Try.prog 25 #[v, .int .i64 (k : Int)] w fun e w' => e = .returned (.int .i64 (totL l k)) ∧ w' = w := by
  have HU := Lib.hid h
  have HV := Lib.hid (demandValid_any l v w h)
  rw [hq, endD_t] at HV
  obtain ⟨A, c, rfl, hll, hlc⟩ := h.slice
  have HD := Lib.hid (fun W => demand_any true W)
  rw [endD_t] at HD
  have HW := Lib.hid (fun W => within_any (k : Int) 0 1048576 W)
  rw [inB_iff.2 ⟨by omega, by omega⟩] at HW
  have h1 := (okL_iff.1 hq).1
  have hlti : ¬ ((l.length : Int) < (k : Int)) := by omega
  have hkc : k ≤ c := by omega
  obtain ⟨b, o, rfl, hcell⟩ := HU.out.cell (show l.length - 1 < l.length by omega)
  have HP := Lib.hid (part_in hq hk)
  have HSI := Lib.hid (sum_in hq)
  have HTT := Lib.hid (show totL l k = ((k : Int) - (min k l.length : Nat)) * lastL l + (l.take (min k l.length)).sum from rfl)
  have e0 : min k l.length = k := by omega
  rw [e0] at HP HTT
  have e1 : lastL l = l[l.length - 1] := getD_mem (by omega)
  rw [e1] at HP HTT
  have HLI := Lib.hid (show ∀ i, i < l.length → True from fun _ _ => trivial)
  have h1n : (1 : Int) ≤ (l.length : Int) := by omega
  have h16 : l.length ≤ 16 := h1.2
  have HEL := Lib.hid (fun i (hi : i < l.length) => (okL_iff.1 hq).2 _ (List.getElem_mem hi))
  generalize l[l.length - 1] = d at *
  rw [show (k : Int) - (k : Int) = 0 by omega, Int.zero_mul] at HTT
  have hw0 : IntKind.i64.wrap ((l.length : Int) - 1) = (l.length : Int) - 1 := wrap_id (by omega) (by omega)
  clear h hq h1 e0 e1 HP
  go_enter Try.func25, Try.ntmps25
  go_wp2_with fail
  refine Calls.mono HV.out ?_
  rintro e w' ⟨rfl, he⟩
  have he := he.symm
  subst he
  go_wp2_with fail
  refine Calls.mono (HW.out _) ?_
  rintro e w' ⟨rfl, he⟩
  have he := he.symm
  subst he
  go_wp2_with fail
  refine Calls.mono (HD.out _) ?_
  rintro e w' ⟨rfl, he⟩
  have he := he.symm
  subst he
  go_wp2_with fail
  go_loopw [6, 32] (fun sv iv wr => ∃ i : Nat, iv = .int .i64 i ∧ i ≤ k ∧ sv = .int .i64 (0 + (l.take i).sum) ∧ wr = w) (fun _ iv _ => k - (intOf iv).toNat)
  case atStart => exact ⟨0, rfl, Nat.zero_le _, by simp, rfl⟩
  case round =>
    obtain ⟨i, rfl, hil, rfl, rfl⟩ := hrel
    by_cases hlt2 : i < k
    · have hlti2 : (i : Int) < (k : Int) := by omega
      have hll2 : i < l.length := by omega
      obtain ⟨b', o', hA, hcell2⟩ := HU.out.cell hll2
      injection hA with hA
      injection hA with hA1 hA2
      subst hA1 hA2
      have HS := Lib.hid (sum_take_succ hll2)
      obtain ⟨x1, x2⟩ := HEL.out i hll2
      obtain ⟨s1, s2⟩ := HSI.out i (by omega)
      generalize l[i] = x at *
      obtain ⟨s, hs⟩ : ∃ s, (l.take i).sum = s := ⟨_, rfl⟩
      rw [hs] at HS s1 s2 ⊢
      have hw3 : IntKind.i64.wrap (s + x) = s + x := wrap_id (by omega) (by omega)
      clear hs hcell x1 x2 s1 s2 hw0
      go_wp2_with fail
      exact ⟨⟨i + 1, by go_num, by omega, by rw [HS.out]; congr 1; omega, by first | rfl | trivial⟩, by simp [intOf]; omega⟩
    · have hlti2 : ¬ ((i : Int) < (k : Int)) := by omega
      obtain rfl : i = k := by omega
      rw [← HTT.out]
      go_wp2_with fail
      go_ret
      exact ⟨rfl, rfl⟩
theorem total_any (l : List Int) (n : Int) (v : Value) (w : World) (h : NAt w v l) : Calls Try.prog 25 #[v, .int .i64 n] w fun e w' => e = endI (totR l n) ∧ w' = w := by
  cases hq : okL l with
  | false =>
    have HV := Lib.hid (demandValid_any l v w h)
    obtain ⟨A, c, rfl, hll, hlc⟩ := h.slice
    rw [hq] at HV
    have HF := Lib.hid (show endI (totR l n) = wrongK 1 by unfold totR; rw [hq]; rfl)
    clear h hq
    go_enter Try.func25, Try.ntmps25
    go_wp2_with fail
    refine Calls.mono HV.out ?_
    rintro e w' ⟨rfl, he⟩
    have he := he.symm
    subst he
    refine ⟨rfl, ?_, rfl⟩
    rw [HF.out]
    rfl
  | true =>
    cases hp : inB n 0 1048576 with
    | false =>
      have HV := Lib.hid (demandValid_any l v w h)
      obtain ⟨A, c, rfl, hll, hlc⟩ := h.slice
      rw [hq, endD_t] at HV
      have HD := Lib.hid (fun W => demand_any false W)
      have HW := Lib.hid (fun W => within_any n 0 1048576 W)
      have HF := Lib.hid (show endI (totR l n) = wrongK 1 by unfold totR; rw [hp, Bool.and_false]; rfl)
      rw [hp] at HW
      clear h hq hp
      go_enter Try.func25, Try.ntmps25
      go_wp2_with fail
      refine Calls.mono HV.out ?_
      rintro e w' ⟨rfl, he⟩
      have he := he.symm
      subst he
      go_wp2_with fail
      refine Calls.mono (HW.out _) ?_
      rintro e w' ⟨rfl, he⟩
      have he := he.symm
      subst he
      go_wp2_with fail
      refine Calls.mono (HD.out _) ?_
      rintro e w' ⟨rfl, he⟩
      have he := he.symm
      subst he
      refine ⟨rfl, ?_, rfl⟩
      rw [HF.out]
      rfl
    | true =>
      obtain ⟨h1, h2⟩ := inB_iff.1 hp
      obtain ⟨k, rfl⟩ : ∃ k : Nat, n = k := ⟨n.toNat, by omega⟩
      have e : endI (totR l (k : Int)) = .returned (.int .i64 (totL l k)) := by unfold totR; rw [hq, hp, Int.toNat_natCast]; rfl
      rw [e]
      by_cases hlt : l.length < k
      · exact total_long l k v w h hq (by omega) hlt
      · exact total_short l k v w h hq (by omega) (by omega)

set_option maxHeartbeats 2000000 in
theorem rBackoff_any (l : List Int) (v : Value) (w : World) (h : NAt w v l) : Calls Try.prog 5 #[v] w fun e w' => e = .returned (.bool (okL l)) ∧ w' = w := by
  have HU := Lib.hid h
  obtain ⟨A, c, rfl, hll, hlc⟩ := h.slice
  clear h
  by_cases h0 : (l.length : Int) < 1
  · have HF := Lib.hid (okL_len (l := l) (inB_not.2 (by omega)))
    go_enter Try.func5, Try.ntmps5
    go_wp2_with fail
    go_ret
    exact ⟨by rw [HF.out]; rfl, rfl⟩
  · by_cases h16 : (16 : Int) < (l.length : Int)
    · have HF := Lib.hid (okL_len (l := l) (inB_not.2 (by omega)))
      go_enter Try.func5, Try.ntmps5
      go_wp2_with fail
      go_ret
      exact ⟨by rw [HF.out]; rfl, rfl⟩
    · have HT := Lib.hid (fun ha => okL_good (l := l) (inB_iff.2 ⟨by omega, by omega⟩) ha)
      go_enter Try.func5, Try.ntmps5
      go_wp2_with fail
      go_loopw [3] (fun iv wr => ∃ i : Nat, iv = .int .i64 i ∧ i ≤ l.length ∧ (l.take i).all tick = true ∧ wr = w) (fun iv _ => l.length - (intOf iv).toNat)
      case atStart => exact ⟨0, rfl, Nat.zero_le _, rfl, rfl⟩
      case round =>
        obtain ⟨i, rfl, hil, hai, rfl⟩ := hrel
        by_cases hlt : i < l.length
        · have hlti : (i : Int) < (l.length : Int) := by omega
          obtain ⟨b, o, rfl, hcell⟩ := HU.out.cell hlt
          have HS := Lib.hid (fun h : tick l[i] = true => show (l.take (i + 1)).all tick = true by rw [all_take hlt, hai, h]; rfl)
          have HF := Lib.hid (fun h : tick l[i] = false => okL_bad hlt h)
          have HN := Lib.hid (fun h : ¬ (1 ≤ l[i] ∧ l[i] ≤ 1099511627776) => (inB_not.2 h : tick l[i] = false))
          have HY := Lib.hid (fun h : 1 ≤ l[i] ∧ l[i] ≤ 1099511627776 => (inB_iff.2 h : tick l[i] = true))
          generalize l[i] = x at *
          clear hai
          by_cases x1 : x < 1
          · have HO := Lib.hid (HF.out (HN.out (by omega)))
            go_wp2_with fail
            go_ret
            exact ⟨by rw [HO.out]; rfl, rfl⟩
          · by_cases x2 : (1099511627776 : Int) < x
            · have HO := Lib.hid (HF.out (HN.out (by omega)))
              go_wp2_with fail
              go_ret
              exact ⟨by rw [HO.out]; rfl, rfl⟩
            · have HO := Lib.hid (HS.out (HY.out ⟨by omega, by omega⟩))
              go_wp2_with fail
              exact ⟨⟨i + 1, by go_num, by omega, HO.out, by first | rfl | trivial⟩, by simp [intOf]; omega⟩
        · have hlti : ¬ ((i : Int) < (l.length : Int)) := by omega
          obtain rfl : i = l.length := by omega
          have HO := Lib.hid (HT.out hai)
          clear HT hai
          go_wp2_with fail
          go_ret
          exact ⟨by rw [HO.out]; rfl, rfl⟩

set_option maxHeartbeats 2000000 in
theorem eqNumbers_any (l : List Int) (u v : Value) (w : World) (hu : NAt w u l) (hv : NAt w v l) : Calls Try.prog 12 #[u, v] w fun e w' => e = .returned (.bool true) ∧ Below w.heap.size w w' := by
  have HU := Lib.hid hu
  have HV := Lib.hid hv
  obtain ⟨A, c, rfl, hll, _⟩ := hu.slice
  obtain ⟨A2, c2, rfl, _, _⟩ := hv.slice
  clear hu hv
  go_enter Try.func12, Try.ntmps12
  go_wp2_with fail
  go_loopw [5] (fun iv wr => ∃ i : Nat, iv = .int .i64 i ∧ i ≤ l.length ∧ Below w.heap.size w wr) (fun iv _ => l.length - (intOf iv).toNat)
  case atStart => exact ⟨0, rfl, Nat.zero_le _, Below.refl _ _⟩
  case round =>
    obtain ⟨i, rfl, hil, hb⟩ := hrel
    have HB := Lib.hid hb
    by_cases hlt : i < l.length
    · have hlti : (i : Int) < (l.length : Int) := by omega
      have hi0 : (0 : Int) ≤ (i : Int) := by omega
      obtain ⟨b, o, rfl, hcell⟩ := (HU.out.later hb).cell hlt
      obtain ⟨b2, o2, rfl, hcell2⟩ := (HV.out.later hb).cell hlt
      generalize l[i] = x at *
      clear hb
      go_wp2_with fail
      go_quiet (fail)
      go_wp2_with fail
      exact ⟨⟨i + 1, by go_num, by omega, below_drewN HB.out _⟩, by simp [intOf]; omega⟩
    · have hlti : ¬ ((i : Int) < (l.length : Int)) := by omega
      obtain rfl : i = l.length := by omega
      clear hb
      go_wp2_with fail
      go_ret
      exact ⟨rfl, HB.out⟩
end Go.Proofs.Ytaeehblmffidmaa

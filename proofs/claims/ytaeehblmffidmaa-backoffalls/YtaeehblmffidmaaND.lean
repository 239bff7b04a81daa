/-
  Package backoff's after, greatest and total, slices.Max, the page's Backoff and Next, and its comparison of two lists, walked.
  Conditions: as each theorem states them.
-/
import Derived.Test.YtaeehblmffidmaaNC
namespace Go.Proofs.Ytaeehblmffidmaa
open Go.RowKit

/-- How a function that reckons one number ends. -/
def endI (r : Option Int) : Ending := match r with | some x => .returned (.int .i64 x) | none => wrongK 1
def afterR (l : List Int) (n : Int) : Option Int := if okL l && inB n 1 1048576 then some (nxL l n.toNat) else none
def mostR (l : List Int) : Option Int := if okL l then some (maxL l) else none
def totR (l : List Int) (n : Int) : Option Int := if okL l && inB n 0 1048576 then some (totL l n.toNat) else none

theorem nx_long {l : List Int} {n : Int} (h : 0 < l.length) (hn : (l.length : Int) < n) : nxL l n.toNat = l[l.length - 1] := by
  have e : min n.toNat l.length - 1 = l.length - 1 := by omega
  unfold nxL
  rw [e, getD_mem (by omega)]
theorem nx_short {l : List Int} {n : Int} (h1 : 1 ≤ n) (hn : n ≤ (l.length : Int)) : ∃ hj : n.toNat - 1 < l.length, nxL l n.toNat = l[n.toNat - 1] := by
  have e : min n.toNat l.length - 1 = n.toNat - 1 := by omega
  refine ⟨by omega, ?_⟩
  unfold nxL
  rw [e, getD_mem (by omega)]
theorem rNext_any (l : List Int) (n : Int) (v : Value) (w : World) (h : NAt w v l) (hk : okL l = true) (hn : 1 ≤ n ∧ n ≤ 1048576) : Calls Try.prog 10 #[v, .int .i64 n] w fun e w' => e = .returned (.int .i64 (nxL l n.toNat)) ∧ w' = w := by
  have HU := Lib.hid h
  obtain ⟨A, c, rfl, hll, hlc⟩ := h.slice
  have h1 := (okL_iff.1 hk).1
  obtain ⟨hn1, hn2⟩ := hn
  have hli : (1 : Int) ≤ (l.length : Int) := by omega
  by_cases hlt : (l.length : Int) < n
  · rw [nx_long (by omega) hlt]
    obtain ⟨b, o, rfl, hcell⟩ := HU.out.cell (show l.length - 1 < l.length by omega)
    generalize l[l.length - 1] = x at *
    clear h hk h1
    have hw : IntKind.i64.wrap ((l.length : Int) - 1) = (l.length : Int) - 1 := wrap_id (by omega) (by omega)
    go_enter Try.func10, Try.ntmps10
    go_wp2_with fail
    go_ret
    exact ⟨rfl, rfl⟩
  · obtain ⟨hj, e⟩ := nx_short hn1 (show n ≤ (l.length : Int) by omega)
    rw [e]
    obtain ⟨b, o, rfl, hcell⟩ := HU.out.cell hj
    generalize l[n.toNat - 1] = x at *
    have hjl : n - 1 < (l.length : Int) := by omega
    clear h hk h1 e hj
    have hw : IntKind.i64.wrap (n - 1) = n - 1 := wrap_id (by omega) (by omega)
    go_enter Try.func10, Try.ntmps10
    go_wp2_with fail
    go_ret
    exact ⟨rfl, rfl⟩
theorem after_any (l : List Int) (n : Int) (v : Value) (w : World) (h : NAt w v l) : Calls Try.prog 23 #[v, .int .i64 n] w fun e w' => e = endI (afterR l n) ∧ w' = w := by
  have HU := Lib.hid h
  have HV := Lib.hid (demandValid_any l v w h)
  obtain ⟨A, c, rfl, hll, hlc⟩ := h.slice
  have HD := Lib.hid (fun q W => demand_any q W)
  have HW := Lib.hid (fun W => within_any n 1 1048576 W)
  have HE := Lib.hid (show afterR l n = if okL l && inB n 1 1048576 then some (nxL l n.toNat) else none from rfl)
  cases hq : okL l with
  | false =>
    rw [hq] at HV
    have HF := Lib.hid (show endI (afterR l n) = wrongK 1 by rw [HE.out, hq]; rfl)
    clear h hq
    go_enter Try.func23, Try.ntmps23
    go_wp2_with fail
    refine Calls.mono HV.out ?_
    rintro e w' ⟨rfl, he⟩
    have he := he.symm
    subst he
    refine ⟨rfl, ?_, rfl⟩
    rw [HF.out]
    rfl
  | true =>
    rw [hq, endD_t] at HV
    cases hp : inB n 1 1048576 with
    | false =>
      have HF := Lib.hid (show endI (afterR l n) = wrongK 1 by rw [HE.out, hp, Bool.and_false]; rfl)
      rw [hp] at HW
      clear h hq hp
      go_enter Try.func23, Try.ntmps23
      go_wp2_with fail
      refine Calls.mono HV.out ?_
      rintro e w' ⟨rfl, he⟩
      have he := he.symm
      subst he
      go_wp2_with fail
      refine Calls.mono (HW.out _) ?_
      rintro e w' ⟨rfl, he⟩
      have he := he.symm
      subst he
      go_wp2_with fail
      refine Calls.mono (HD.out _ _) ?_
      rintro e w' ⟨rfl, he⟩
      have he := he.symm
      subst he
      refine ⟨rfl, ?_, rfl⟩
      rw [HF.out]
      rfl
    | true =>
      obtain ⟨hn1, hn2⟩ := inB_iff.1 hp
      have h1 := (okL_iff.1 hq).1
      have hli : (1 : Int) ≤ (l.length : Int) := by omega
      have HF := Lib.hid (show endI (afterR l n) = .returned (.int .i64 (nxL l n.toNat)) by rw [HE.out, hp, hq]; rfl)
      rw [hp] at HW
      by_cases hlt : (l.length : Int) < n
      · rw [nx_long (by omega) hlt] at HF
        obtain ⟨b, o, rfl, hcell⟩ := HU.out.cell (show l.length - 1 < l.length by omega)
        generalize l[l.length - 1] = x at *
        clear h hq hp h1
        have hw : IntKind.i64.wrap ((l.length : Int) - 1) = (l.length : Int) - 1 := wrap_id (by omega) (by omega)
        go_enter Try.func23, Try.ntmps23
        go_wp2_with fail
        refine Calls.mono HV.out ?_
        rintro e w' ⟨rfl, he⟩
        have he := he.symm
        subst he
        go_wp2_with fail
        refine Calls.mono (HW.out _) ?_
        rintro e w' ⟨rfl, he⟩
        have he := he.symm
        subst he
        go_wp2_with fail
        refine Calls.mono (HD.out _ _) ?_
        rintro e w' ⟨he1, he⟩
        have he := he.symm
        subst he
        rw [endD_t] at he1
        subst he1
        go_wp2_with fail
        go_ret
        exact ⟨by rw [HF.out]; rfl, rfl⟩
      · obtain ⟨hj, e⟩ := nx_short hn1 (show n ≤ (l.length : Int) by omega)
        rw [e] at HF
        obtain ⟨b, o, rfl, hcell⟩ := HU.out.cell hj
        generalize l[n.toNat - 1] = x at *
        have hjl : n - 1 < (l.length : Int) := by omega
        clear h hq hp h1 e hj
        have hw : IntKind.i64.wrap (n - 1) = n - 1 := wrap_id (by omega) (by omega)
        go_enter Try.func23, Try.ntmps23
        go_wp2_with fail
        refine Calls.mono HV.out ?_
        rintro e w' ⟨rfl, he⟩
        have he := he.symm
        subst he
        go_wp2_with fail
        refine Calls.mono (HW.out _) ?_
        rintro e w' ⟨rfl, he⟩
        have he := he.symm
        subst he
        go_wp2_with fail
        refine Calls.mono (HD.out _ _) ?_
        rintro e w' ⟨he1, he⟩
        have he := he.symm
        subst he
        rw [endD_t] at he1
        subst he1
        go_wp2_with fail
        go_ret
        exact ⟨by rw [HF.out]; rfl, rfl⟩

theorem max_take1 {l : List Int} (h : okL l = true) (h0 : 0 < l.length) : maxL (l.take 1) = l[0] := by
  have := take_max (l := l) (i := 0) h0
  rw [this]
  have h1 := ((okL_iff.1 h).2 _ (List.getElem_mem h0)).1
  show max (0 : Int) l[0] = l[0]
  omega
set_option maxHeartbeats 2000000 in
theorem max_any (l : List Int) (v : Value) (w : World) (h : NAt w v l) (hk : okL l = true) : Calls Try.prog 30 #[v] w fun e w' => e = .returned (.int .i64 (maxL l)) ∧ w' = w := by
  have HU := Lib.hid h
  obtain ⟨A, c, rfl, hll, hlc⟩ := h.slice
  have h1 := (okL_iff.1 hk).1
  have hn1 : ¬ ((l.length : Int) < 1) := by omega
  have h0 : 0 < l.length := by omega
  have h0i : (0 : Int) < (l.length : Int) := by omega
  have HM1 := Lib.hid (max_take1 hk h0)
  have HT := Lib.hid (show l.take l.length = l from List.take_length)
  obtain ⟨b, o, rfl, hcell0⟩ := HU.out.cell h0
  rw [Nat.add_zero] at hcell0
  generalize l[0] = x0 at *
  clear h hk h1
  go_enter Try.func30, Try.ntmps30
  go_wp2_with fail
  go_loopw [3, 4] (fun mv iv wr => ∃ i : Nat, iv = .int .i64 i ∧ 1 ≤ i ∧ i ≤ l.length ∧ mv = .int .i64 (maxL (l.take i)) ∧ wr = w) (fun _ iv _ => l.length - (intOf iv).toNat)
  case atStart => exact ⟨1, rfl, Nat.le_refl _, by omega, by rw [HM1.out], rfl⟩
  case round =>
    obtain ⟨i, rfl, hi1, hil, rfl, rfl⟩ := hrel
    by_cases hlt : i < l.length
    · have hlti : (i : Int) < (l.length : Int) := by omega
      obtain ⟨b', o', hA, hcell⟩ := HU.out.cell hlt
      injection hA with hA
      injection hA with hA1 hA2
      subst hA1 hA2
      have HS := Lib.hid (take_max hlt)
      generalize l[i] = x at *
      obtain ⟨m, hm⟩ : ∃ m, maxL (l.take i) = m := ⟨_, rfl⟩
      rw [hm] at HS ⊢
      clear hm hcell0 HM1 HT
      go_wp2_with fail
      exact ⟨⟨i + 1, by go_num, by omega, by omega, by rw [HS.out]; congr 1; split <;> omega, by first | rfl | trivial⟩, by simp [intOf]; omega⟩
    · have hlti : ¬ ((i : Int) < (l.length : Int)) := by omega
      obtain rfl : i = l.length := by omega
      rw [HT.out]
      go_wp2_with fail
      go_ret
      exact ⟨rfl, rfl⟩
theorem greatest_any (l : List Int) (v : Value) (w : World) (h : NAt w v l) : Calls Try.prog 21 #[v] w fun e w' => e = endI (mostR l) ∧ w' = w := by
  have HV := Lib.hid (demandValid_any l v w h)
  have HE := Lib.hid (show mostR l = if okL l then some (maxL l) else none from rfl)
  cases hq : okL l with
  | false =>
    obtain ⟨A, c, rfl, hll, hlc⟩ := h.slice
    rw [hq] at HV
    have HF := Lib.hid (show endI (mostR l) = wrongK 1 by rw [HE.out, hq]; rfl)
    clear h hq
    go_enter Try.func21, Try.ntmps21
    go_wp2_with fail
    refine Calls.mono HV.out ?_
    rintro e w' ⟨rfl, he⟩
    have he := he.symm
    subst he
    refine ⟨rfl, ?_, rfl⟩
    rw [HF.out]
    rfl
  | true =>
    have HM := Lib.hid (max_any l v w h hq)
    obtain ⟨A, c, rfl, hll, hlc⟩ := h.slice
    rw [hq, endD_t] at HV
    have HF := Lib.hid (show endI (mostR l) = .returned (.int .i64 (maxL l)) by rw [HE.out, hq]; rfl)
    clear h hq
    go_enter Try.func21, Try.ntmps21
    go_wp2_with fail
    refine Calls.mono HV.out ?_
    rintro e w' ⟨rfl, he⟩
    have he := he.symm
    subst he
    go_wp2_with fail
    refine Calls.mono HM.out ?_
    rintro e w' ⟨rfl, he⟩
    have he := he.symm
    subst he
    go_wp2_with fail
    go_ret
    exact ⟨by rw [HF.out]; rfl, rfl⟩
end Go.Proofs.Ytaeehblmffidmaa

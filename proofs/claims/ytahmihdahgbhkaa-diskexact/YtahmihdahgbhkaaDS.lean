/-
  Lists of bytes that can be read; package disk's holding and New, walked.
  Conditions: as each theorem states them.
-/
import Derived.Test.YtahmihdahgbhkaaDR
namespace Go.Proofs.Ytahmihdahgbhkaa
open Go.RowKit

/-- A list of bytes that can be read. -/
def RC (w : World) (v : Value) (ls : List (List UInt8)) : Prop :=
  ∃ A c, v = .slice A ls.length c ∧ ls.length ≤ c ∧ c ≤ maxLen ∧ (ls ≠ [] → ∃ b o, A = some ⟨b, o, none⟩ ∧ b < w.heap.size ∧ ∀ i (hi : i < ls.length), ∃ u, w.cell? ⟨b, o + i, none⟩ = some u ∧ RB w u ls[i])
theorem RC.slice {w : World} {v : Value} {l : List (List UInt8)} (h : RC w v l) : ∃ A c, v = .slice A l.length c ∧ l.length ≤ c ∧ c < 9223372036854775808 := by
  obtain ⟨A, c, hv, h1, h2, _⟩ := h
  exact ⟨A, c, hv, h1, by unfold maxLen at h2; omega⟩
theorem RC.nil (w : World) : RC w (.slice none 0 0) [] := ⟨none, 0, rfl, Nat.le_refl _, Nat.zero_le _, fun h => absurd rfl h⟩
theorem RC.later {w w' : World} {v : Value} {l : List (List UInt8)} (h : RC w v l) (hb : Below w.heap.size w w') : RC w' v l := by
  obtain ⟨A, c, hv, h1, h2, h3⟩ := h
  refine ⟨A, c, hv, h1, h2, fun hne => ?_⟩
  obtain ⟨b, o, hA, hlt, hc⟩ := h3 hne
  refine ⟨b, o, hA, Nat.lt_of_lt_of_le hlt hb.size, fun i hi => ?_⟩
  obtain ⟨u, hu, hr⟩ := hc i hi
  exact ⟨u, (hb.cell (p := ⟨b, o + i, none⟩) hlt).trans hu, hr.later hb⟩
theorem RC.at {w : World} {A : Option Addr} {n c : Nat} {l : List (List UInt8)} (h : RC w (.slice A n c) l) {i : Nat} (hi : i < l.length) : ∃ b o u, A = some ⟨b, o, none⟩ ∧ b < w.heap.size ∧ w.cell? ⟨b, o + i, none⟩ = some u ∧ RB w u l[i] := by
  obtain ⟨A', c', hv, _, _, hc⟩ := h
  obtain ⟨b, o, hA, hlt, hat⟩ := hc (fun e => by rw [e] at hi; simp at hi)
  injection hv with h1
  subst h1
  obtain ⟨u, h1, h2⟩ := hat i hi
  exact ⟨b, o, u, hA, hlt, h1, h2⟩
/-- May files be? -/
def newB (ls : List (List UInt8)) : Bool := (decide (ls.length = 0) || decide (ls.length = 3)) && ls.all fun l => decide (l.length ≤ 4194304)
/-- A disk that holds files. -/
def newDk (ls : List (List UInt8)) : Dk := ⟨fun n => ⟨ls.getD n [], []⟩, some none⟩
theorem newDk_put {ls : List (List UInt8)} {i : Nat} (h : i < ls.length) : (newDk (ls.take i)).put i ⟨ls[i], []⟩ = newDk (ls.take (i + 1)) := by
  unfold newDk Dk.put
  congr 1
  funext m
  split
  · next e => subst e; simp [List.getD, h]
  · next e =>
    simp only [List.getD, List.getElem?_take]
    by_cases h1 : m < i
    · rw [if_pos h1, if_pos (by omega)]
    · rw [if_neg h1, if_neg (by omega)]

/-- A new disk, all of it from B on. -/
def NewK (B p : Nat) (d : Dk) (w' : World) : Prop := ∃ ρ x, RoOk ρ B w' ∧ KAt w' ρ B p x d
def x0 : DkV := ⟨fun _ => .slice none 0 0, fun _ => .slice none 0 0, fun _ => .slice none 0 0, fun _ => [], false, 0⟩
theorem KAt.new (w : World) : ∃ ρ, RoOk ρ w.heap.size (w.alloc (.cells (cellsK x0) 85)) ∧ KAt (w.alloc (.cells (cellsK x0) 85)) ρ w.heap.size w.heap.size x0 (newDk []) := by
  refine ⟨tagR (fun _ => 0) w.heap.size 2, RoOk.tag (fun k hk => absurd rfl hk) (Nat.le_refl _) (by simp), ?_⟩
  exact ⟨Blk.new w _ _, tagR_at _ _ _, fun n _ => Rw.nil _ _ _ _, fun n _ => Rw.nil _ _ _ _, fun n _ => Lw.nil _ _ _ _ _, fun n _ => rfl, fun n _ => by simp [newDk], fun n _ => trivial, rfl, Int.le_refl _, by decide⟩

set_option maxHeartbeats 4000000 in
set_option maxRecDepth 100000 in
theorem holding_ok (ls : List (List UInt8)) (v : Value) (w : World) (h : RC w v ls) (hq : newB ls = true) :
    Calls Try.prog 39 #[v] w fun e w' => ∃ p, e = .returned (.pointer (some ⟨p, 0, none⟩)) ∧ w.heap.size ≤ p ∧ Below w.heap.size w w' ∧ NewK w.heap.size p (newDk ls) w' := by
  have HU := Lib.hid h
  obtain ⟨A, c, rfl, hll, hcm⟩ := h.slice
  have HO := Lib.hid (fun n W => demand_ok n W)
  unfold newB at hq
  rw [Bool.and_eq_true, Bool.or_eq_true, decide_eq_true_eq, decide_eq_true_eq, List.all_eq_true] at hq
  have hlen : ls.length = 0 ∨ ls.length = 3 := hq.1
  have HL := Lib.hid (fun i (hi : i < ls.length) => of_decide_eq_true (hq.2 _ (List.getElem_mem hi)))
  obtain ⟨ρ0, hr0, hk0⟩ := KAt.new w
  have HK0 := Lib.hid hk0
  have HR0 := Lib.hid hr0
  have HB0 := Lib.hid (show Below w.heap.size w (w.alloc (.cells (cellsK x0) 85)) from (Below.refl _ w).alloc (Nat.le_refl _) _)
  obtain ⟨m, hm⟩ : ∃ m, ls.length = m := ⟨_, rfl⟩
  have HM := Lib.hid hm
  rw [hm] at hlen hll ⊢ HU
  clear h hq hk0 hr0
  rcases hlen with rfl | rfl
  · obtain rfl : ls = [] := List.eq_nil_of_length_eq_zero hm
    clear hm
    go_enter Try.func39, Try.ntmps39
    go_wp2_with fail
    refine Calls.mono (HO.out _ _) ?_
    rintro e w' ⟨rfl, he⟩
    have he := he.symm
    subst he
    go_wp2_with fail
    go_loopw [19] (fun iv wr => iv = .int .i64 0 ∧ wr = w) (fun _ _ => 0)
    case atStart => exact ⟨rfl, rfl⟩
    case round =>
      obtain ⟨rfl, he⟩ := hrel
      have he := he.symm
      subst he
      go_wp2_with fail
      have HK0' : Hid (KAt (w.alloc (.cells #[.slice none 0 0, .slice none 0 0, .slice none 0 0, .slice none 0 0, .slice none 0 0, .slice none 0 0, .slice none 0 0, .slice none 0 0, .slice none 0 0, .bool false, .int .i64 0] 85)) ρ0 w.heap.size w.heap.size x0 (newDk [])) := HK0
      have HR0' : Hid (RoOk ρ0 w.heap.size (w.alloc (.cells #[.slice none 0 0, .slice none 0 0, .slice none 0 0, .slice none 0 0, .slice none 0 0, .slice none 0 0, .slice none 0 0, .slice none 0 0, .slice none 0 0, .bool false, .int .i64 0] 85))) := HR0
      have HB0' : Hid (Below w.heap.size w (w.alloc (.cells #[.slice none 0 0, .slice none 0 0, .slice none 0 0, .slice none 0 0, .slice none 0 0, .slice none 0 0, .slice none 0 0, .slice none 0 0, .slice none 0 0, .bool false, .int .i64 0] 85))) := HB0
      generalize w.alloc (.cells #[.slice none 0 0, .slice none 0 0, .slice none 0 0, .slice none 0 0, .slice none 0 0, .slice none 0 0, .slice none 0 0, .slice none 0 0, .slice none 0 0, .bool false, .int .i64 0] 85) = w1 at *
      go_loopw [31] (fun iv wr2 => iv = .int .i64 0 ∧ wr2 = w1) (fun _ _ => 0)
      case atStart => exact ⟨rfl, rfl⟩
      case round =>
        obtain ⟨rfl, rfl⟩ := hrel
        go_wp2_with fail
        go_ret
        exact ⟨_, rfl, Nat.le_refl _, HB0'.out, ρ0, x0, HR0'.out, HK0'.out⟩
  · clear hm
    go_enter Try.func39, Try.ntmps39
    go_wp2_with fail
    refine Calls.mono (HO.out _ _) ?_
    rintro e w' ⟨rfl, he⟩
    have he := he.symm
    subst he
    go_wp2_with fail
    go_loopw [19] (fun iv wr => ∃ i : Nat, iv = .int .i64 i ∧ i ≤ 3 ∧ wr = w) (fun iv _ => 3 - (intOf iv).toNat)
    case atStart => exact ⟨0, rfl, Nat.zero_le _, rfl⟩
    case round =>
      obtain ⟨i, rfl, hil, he⟩ := hrel
      have he := he.symm
      subst he
      by_cases hlt : i < 3
      · have hlti : (i : Int) < 3 := by omega
        obtain ⟨b, o, u, rfl, _, hcell, hrb⟩ := HU.out.at (i := i) (by rw [HM.out]; exact hlt)
        have hli := HL.out i (by rw [HM.out]; exact hlt)
        obtain ⟨uA, uc, rfl, _, _⟩ := hrb.slice
        have hlii : ((ls[i]'(by rw [HM.out]; exact hlt)).length : Int) ≤ 4194304 := by omega
        generalize ls[i]'(by rw [HM.out]; exact hlt) = l at *
        clear hrb
        go_wp2_with fail
        refine Calls.mono (HO.out _ _) ?_
        rintro e w' ⟨rfl, he⟩
        have he := he.symm
        subst he
        go_wp2_with fail
        exact ⟨⟨i + 1, by go_num, by omega, by first | rfl | trivial⟩, by simp [intOf]; omega⟩
      · have hlti : ¬ ((i : Int) < 3) := by omega
        obtain rfl : i = 3 := by omega
        go_wp2_with fail
        have HK0' : Hid (KAt (w.alloc (.cells #[.slice none 0 0, .slice none 0 0, .slice none 0 0, .slice none 0 0, .slice none 0 0, .slice none 0 0, .slice none 0 0, .slice none 0 0, .slice none 0 0, .bool false, .int .i64 0] 85)) ρ0 w.heap.size w.heap.size x0 (newDk [])) := HK0
        have HR0' : Hid (RoOk ρ0 w.heap.size (w.alloc (.cells #[.slice none 0 0, .slice none 0 0, .slice none 0 0, .slice none 0 0, .slice none 0 0, .slice none 0 0, .slice none 0 0, .slice none 0 0, .slice none 0 0, .bool false, .int .i64 0] 85))) := HR0
        have HB0' : Hid (Below w.heap.size w (w.alloc (.cells #[.slice none 0 0, .slice none 0 0, .slice none 0 0, .slice none 0 0, .slice none 0 0, .slice none 0 0, .slice none 0 0, .slice none 0 0, .slice none 0 0, .bool false, .int .i64 0] 85))) := HB0
        generalize w.alloc (.cells #[.slice none 0 0, .slice none 0 0, .slice none 0 0, .slice none 0 0, .slice none 0 0, .slice none 0 0, .slice none 0 0, .slice none 0 0, .slice none 0 0, .bool false, .int .i64 0] 85) = w1 at *
        clear HK0 HR0 HB0
        go_loopw [31] (fun iv wr2 => ∃ i : Nat, iv = .int .i64 i ∧ i ≤ 3 ∧ Below w.heap.size w wr2 ∧ NewK w.heap.size w.heap.size (newDk (ls.take i)) wr2) (fun iv _ => 3 - (intOf iv).toNat)
        case atStart => exact ⟨0, rfl, Nat.zero_le _, HB0'.out, ρ0, x0, HR0'.out, HK0'.out⟩
        case round =>
          obtain ⟨i, rfl, hil, hb, ρ, x, hro, hk⟩ := hrel
          have HB := Lib.hid hb
          have HR := Lib.hid hro
          have HK := Lib.hid hk
          clear HK0' HR0' HB0'
          by_cases hlt : i < 3
          · have hlti : (i : Int) < 3 := by omega
            have hi2 : i ≤ 2 := by omega
            obtain ⟨b, o, u, rfl, _, hcell, hrb⟩ := (HU.out.later hb).at (i := i) (by rw [HM.out]; exact hlt)
            have HPT := Lib.hid (newDk_put (ls := ls) (i := i) (by rw [HM.out]; exact hlt))
            have hli := HL.out i (by rw [HM.out]; exact hlt)
            obtain ⟨uA, uc, rfl, _, _⟩ := hrb.slice
            generalize ls[i]'(by rw [HM.out]; exact hlt) = l at *
            have HRB := Lib.hid (show RB wr.drew (.slice uA l.length uc) l from hrb.heap (Nat.le_refl _) fun _ _ _ => rfl)
            have HC0 := Lib.hid (clone_any l _ wr.drew HRB.out (by omega))
            have hplt := hk.lt
            clear hrb hb hro hk
            go_wp2_with fail
            go_region_law (go_simp; go_at_call 56; first
              | (refine (HC1.out).mono ?_; rintro e w3 ⟨v2, rfl, hv2, hb3⟩; have HV2 := Lib.hid hv2; have HB3 := Lib.hid hb3; have k0 := (HK.out.step (Step.refl (S := [])).drew (by simp)).blk.later (HB2.out.trans (hb3.mono HB2.out.size)); obtain ⟨vA2, vc2, rfl, _, _⟩ := hv2.slice; have k1 := k0.set (i * 3) (.slice vA1 l.length vc1); rw [cellsK_setN x hi2] at k1; have k2 := k1.set (i * 3 + 1) (.slice vA2 l.length vc2); rw [cellsK_setK _ hi2] at k2; have K2 := Lib.hid k2; have s0 := k0.c _ (cellsK_N x hi2); have y0 := k0.fz (i * 3); have s1 := k1.c _ (cellsK_K _ hi2); have y1 := k1.fz (i * 3 + 1); have s2 := k2.c _ (cellsK_L _ hi2); have y2 := k2.fz (i * 3 + 2); clear hv2 hb3 k0 k1 k2)
              | (refine (HC0.out).mono ?_; rintro e w2 ⟨v1, rfl, hv1, hb2⟩; have HV1 := Lib.hid hv1; have HB2 := Lib.hid hb2; have HC1 := Lib.hid (clone_any l _ w2 (HRB.out.later hb2) (by omega)); obtain ⟨vA1, vc1, rfl, _, _⟩ := hv1.slice; clear hv1 hb2))
            all_goals
              have hbase : w.heap.size ≤ wr.drew.heap.size := HB.out.size
              obtain ⟨ρ1, hst1, hro1, ht1⟩ := fresh_tag (r := 3 + i) (w := wr.drew) (HR.out.later (Nat.le_refl _)) hbase HB2.out HV1.out
              obtain ⟨ρ2, hst2, hro2, ht2⟩ := fresh_tag (r := 6 + i) hro1 (Nat.le_trans hbase HB2.out.size) HB3.out HV2.out
              have h12 : Step [] ρ ρ2 wr w3 := ((Step.refl (S := [])).drew.trans hst1).trans hst2
              have hp2 : ρ2 w.heap.size = 2 := (h12.same _ hplt).trans HK.out.ro
              have k3 := K2.out.set (i * 3 + 2) (.slice none 0 0)
              rw [cellsK_setL _ hi2] at k3
              have hst5 : Step [2] ρ2 ρ2 w3 (((w3.setCell ⟨w.heap.size, i * 3, none⟩ (.slice vA1 l.length vc1)).setCell ⟨w.heap.size, i * 3 + 1, none⟩ (.slice vA2 l.length vc2)).setCell ⟨w.heap.size, i * 3 + 2, none⟩ (.slice none 0 0)) :=
                ((Step.refl.setCell ⟨w.heap.size, i * 3, none⟩ (.inr (by rw [show ρ2 w.heap.size = 2 from hp2]; simp)) _).setCell ⟨w.heap.size, i * 3 + 1, none⟩ (.inr (by rw [show ρ2 w.heap.size = 2 from hp2]; simp)) _).setCell ⟨w.heap.size, i * 3 + 2, none⟩ (.inr (by rw [show ρ2 w.heap.size = 2 from hp2]; simp)) _
              have hfull : Step [2, 3 + i, 6 + i, 9 + i] ρ ρ2 wr _ := (h12.mono (by simp)).grow hst5 (by simp)
              have hv1 : Rw w3 ρ2 w.heap.size (3 + i) (.slice vA1 l.length vc1) l := ⟨(HV1.out.later HB3.out).mono hbase, fun k hk => (hst2.same k (HV1.out.lt k hk).2).trans (ht1 k hk)⟩
              have hv2 : Rw w3 ρ2 w.heap.size (6 + i) (.slice vA2 l.length vc2) l := ⟨HV2.out.mono (Nat.le_trans hbase HB2.out.size), ht2⟩
              have hfin := HK.out.putF hfull hi2 _ _ _ [] ⟨l, []⟩ k3 (hv1.step hst5 (by simp <;> omega)) (hv2.step hst5 (by simp <;> omega)) (Lw.nil _ _ _ _ _) rfl hli trivial
              rw [HPT.out] at hfin
              have HFIN := Lib.hid hfin
              have HRF := Lib.hid (hro2.later hst5.kept.size)
              have HBF := Lib.hid (HB.out.trans ((hfull.kept.mono (F := fun k => w.heap.size ≤ k) (fun k hk hm => Classical.byContradiction fun hlt' => by
                have e0 : ρ k = 0 := Classical.byContradiction fun e => by have := (HR.out k e).1; omega
                rw [e0] at hm
                simp only [List.mem_cons, List.not_mem_nil, or_false] at hm
                omega)).below HB.out.size (fun k hk hm => by omega)))
              clear s0 y0 s1 y1 s2 y2 hst1 hst2 h12 k3 hst5 hfull hv1 hv2 hfin hro1 hro2 ht1 ht2
              go_wp2_with fail
              exact ⟨⟨i + 1, by go_num, by omega, HBF.out, ρ2, _, HRF.out, HFIN.out⟩, by simp [intOf]; omega⟩
          · have hlti : ¬ ((i : Int) < 3) := by omega
            obtain rfl : i = 3 := by omega
            have HT := Lib.hid (show ls.take 3 = ls from List.take_of_length_le (by rw [HM.out]; exact Nat.le_refl _))
            clear hb hro hk
            go_wp2_with fail
            go_ret
            rw [HT.out] at HK
            exact ⟨_, rfl, Nat.le_refl _, HB.out, ρ, x, HR.out, HK.out⟩
end Go.Proofs.Ytahmihdahgbhkaa

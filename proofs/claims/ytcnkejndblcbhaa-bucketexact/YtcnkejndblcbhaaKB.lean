/-
  A bucket in memory; package bucket's valid, demandValid, demandTokens, full, the page's Bucket, walked.
  Conditions: as each theorem states them.
-/
import Derived.Test.YtcnkejndblcbhaaKA
namespace Go.Proofs.Ytcnkejndblcbhaa
open Go.RowKit

/-- A bucket in a block. -/
def BAt (w : World) (k : Nat) (b : BI) : Prop := w.heap[k]? = some (.cells #[.int .i64 b.l, .int .i64 b.c, .int .i64 b.f, .int .i64 b.e, .int .i64 b.d] 23 (0, 0))
section
variable {w w' : World} {k : Nat} {b : BI}
theorem BAt.lt (h : BAt w k b) : k < w.heap.size := (Array.getElem?_eq_some_iff.1 h).1
theorem BAt.c0 (h : BAt w k b) : w.cell? ⟨k, 0, none⟩ = some (.int .i64 b.l) := by
  have h' : w.heap[k]? = some (.cells #[.int .i64 b.l, .int .i64 b.c, .int .i64 b.f, .int .i64 b.e, .int .i64 b.d] 23 (0, 0)) := h
  simp [World.cell?, h']
theorem BAt.c1 (h : BAt w k b) : w.cell? ⟨k, 1, none⟩ = some (.int .i64 b.c) := by
  have h' : w.heap[k]? = some (.cells #[.int .i64 b.l, .int .i64 b.c, .int .i64 b.f, .int .i64 b.e, .int .i64 b.d] 23 (0, 0)) := h
  simp [World.cell?, h']
theorem BAt.c2 (h : BAt w k b) : w.cell? ⟨k, 2, none⟩ = some (.int .i64 b.f) := by
  have h' : w.heap[k]? = some (.cells #[.int .i64 b.l, .int .i64 b.c, .int .i64 b.f, .int .i64 b.e, .int .i64 b.d] 23 (0, 0)) := h
  simp [World.cell?, h']
theorem BAt.c3 (h : BAt w k b) : w.cell? ⟨k, 3, none⟩ = some (.int .i64 b.e) := by
  have h' : w.heap[k]? = some (.cells #[.int .i64 b.l, .int .i64 b.c, .int .i64 b.f, .int .i64 b.e, .int .i64 b.d] 23 (0, 0)) := h
  simp [World.cell?, h']
theorem BAt.c4 (h : BAt w k b) : w.cell? ⟨k, 4, none⟩ = some (.int .i64 b.d) := by
  have h' : w.heap[k]? = some (.cells #[.int .i64 b.l, .int .i64 b.c, .int .i64 b.f, .int .i64 b.e, .int .i64 b.d] 23 (0, 0)) := h
  simp [World.cell?, h']
theorem BAt.fz (h : BAt w k b) (j : Nat) : w.frozen? ⟨k, j, none⟩ = false := by
  have h' : w.heap[k]? = some (.cells #[.int .i64 b.l, .int .i64 b.c, .int .i64 b.f, .int .i64 b.e, .int .i64 b.d] 23 (0, 0)) := h
  simp [World.frozen?, h']
theorem BAt.later (h : BAt w k b) (hb : Below w.heap.size w w') : BAt w' k b := (hb.block k h.lt).trans h
theorem BAt.alloc (h : BAt w k b) (o : Obj) : BAt (w.alloc o) k b := (Below.heap_alloc w o k h.lt).trans h
theorem BAt.other (h : BAt w k b) {p : Addr} (hp : k ≠ p.block) (v : Value) : BAt (w.setCell p v) k b := (Below.heap_setCell w p v k hp).trans h
theorem BAt.set5 (h : BAt w k b) (l c f e d : Int) : BAt (((((w.setCell ⟨k, 0, none⟩ (.int .i64 l)).setCell ⟨k, 1, none⟩ (.int .i64 c)).setCell ⟨k, 2, none⟩ (.int .i64 f)).setCell ⟨k, 3, none⟩ (.int .i64 e)).setCell ⟨k, 4, none⟩ (.int .i64 d)) k ⟨l, c, f, e, d⟩ := by
  have h' : w.heap[k]? = some (.cells #[.int .i64 b.l, .int .i64 b.c, .int .i64 b.f, .int .i64 b.e, .int .i64 b.d] 23 (0, 0)) := h
  show (((((w.setCell ⟨k, 0, none⟩ _).setCell ⟨k, 1, none⟩ _).setCell ⟨k, 2, none⟩ _).setCell ⟨k, 3, none⟩ _).setCell ⟨k, 4, none⟩ _).heap[k]? = _
  simp only [World.setCell, Array.getElem?_modify, if_true, h']
  rfl
theorem BAt.set0 (h : BAt w k b) (l : Int) : BAt (w.setCell ⟨k, 0, none⟩ (.int .i64 l)) k ⟨l, b.c, b.f, b.e, b.d⟩ := by
  have h' : w.heap[k]? = some (.cells #[.int .i64 b.l, .int .i64 b.c, .int .i64 b.f, .int .i64 b.e, .int .i64 b.d] 23 (0, 0)) := h
  show (w.setCell ⟨k, 0, none⟩ _).heap[k]? = _
  simp only [World.setCell, Array.getElem?_modify, if_true, h']
  rfl
theorem BAt.set4 (h : BAt w k b) (d : Int) : BAt (w.setCell ⟨k, 4, none⟩ (.int .i64 d)) k ⟨b.l, b.c, b.f, b.e, d⟩ := by
  have h' : w.heap[k]? = some (.cells #[.int .i64 b.l, .int .i64 b.c, .int .i64 b.f, .int .i64 b.e, .int .i64 b.d] 23 (0, 0)) := h
  show (w.setCell ⟨k, 4, none⟩ _).heap[k]? = _
  simp only [World.setCell, Array.getElem?_modify, if_true, h']
  rfl
theorem below_set5 {B : Nat} (h : Below B w w') (hk : B ≤ k) (l c f e d : Int) : Below B w (((((w'.setCell ⟨k, 0, none⟩ (.int .i64 l)).setCell ⟨k, 1, none⟩ (.int .i64 c)).setCell ⟨k, 2, none⟩ (.int .i64 f)).setCell ⟨k, 3, none⟩ (.int .i64 e)).setCell ⟨k, 4, none⟩ (.int .i64 d)) :=
  ((((h.setCell (p := ⟨k, 0, none⟩) hk _).setCell (p := ⟨k, 1, none⟩) hk _).setCell (p := ⟨k, 2, none⟩) hk _).setCell (p := ⟨k, 3, none⟩) hk _).setCell (p := ⟨k, 4, none⟩) hk _
end
theorem BAt.new (w : World) (b : BI) : BAt (w.alloc (.cells #[.int .i64 b.l, .int .i64 b.c, .int .i64 b.f, .int .i64 b.e, .int .i64 b.d] 23)) w.heap.size b := heap_alloc_new w _
theorem BAt.new1 (w : World) (o : Obj) (b : BI) : BAt ((w.alloc o).alloc (.cells #[.int .i64 b.l, .int .i64 b.c, .int .i64 b.f, .int .i64 b.e, .int .i64 b.d] 23)) (w.heap.size + 1) b := by
  have := BAt.new (w.alloc o) b
  rwa [show (w.alloc o).heap.size = w.heap.size + 1 by simp] at this
theorem BAt.new2 (w : World) (o o2 : Obj) (b : BI) : BAt (((w.alloc o).alloc o2).alloc (.cells #[.int .i64 b.l, .int .i64 b.c, .int .i64 b.f, .int .i64 b.e, .int .i64 b.d] 23)) (w.heap.size + 1 + 1) b := by
  have := BAt.new1 (w.alloc o) o2 b
  rwa [show (w.alloc o).heap.size = w.heap.size + 1 by simp] at this
def zI : BI := ⟨0, 0, 0, 0, 0⟩

theorem valid_any (b : BI) (w : World) : Calls Try.prog 34 #[bV b] w fun e w' => e = .returned (.bool (okB b)) ∧ Below w.heap.size w w' := by
  have HA := Lib.hid ((Below.refl _ w).alloc (Nat.le_refl _) (.cells #[.int .i64 b.l, .int .i64 b.c, .int .i64 b.f, .int .i64 b.e, .int .i64 b.d] 23))
  have H1 := Lib.hid (fun W => within_any b.c 0 1048576 W)
  have H2 := Lib.hid (fun W => within_any b.f 0 1048576 W)
  have H3 := Lib.hid (fun W => within_any b.l 0 b.c W)
  have H4 := Lib.hid (fun W => within_any b.e 1 1048576 W)
  have H5 := Lib.hid (fun W => within_any b.d 0 (b.e - 1) W)
  have HE := Lib.hid (show okB b = (inB b.c 0 1048576 && inB b.f 0 1048576 && inB b.l 0 b.c && inB b.e 1 1048576 && inB b.d 0 (b.e - 1)) from rfl)
  have HK := Lib.hid (fun h : inB b.e 1 1048576 = true => inB_iff.1 h)
  unfold bV
  generalize inB b.c 0 1048576 = q1 at *
  generalize inB b.f 0 1048576 = q2 at *
  generalize inB b.l 0 b.c = q3 at *
  generalize inB b.e 1 1048576 = q4 at *
  generalize inB b.d 0 (b.e - 1) = q5 at *
  cases q1 with
  | false =>
    go_enter Try.func34, Try.ntmps34
    go_wp2_with fail
    refine Calls.mono (H1.out _) ?_
    rintro e w' ⟨rfl, he⟩
    have he := he.symm
    subst he
    go_wp2_with fail
    go_ret
    exact ⟨by rw [HE.out]; rfl, HA.out⟩
  | true =>
    cases q2 with
    | false =>
      go_enter Try.func34, Try.ntmps34
      go_wp2_with fail
      refine Calls.mono (H1.out _) ?_
      rintro e w' ⟨rfl, he⟩
      have he := he.symm
      subst he
      go_wp2_with fail
      refine Calls.mono (H2.out _) ?_
      rintro e w' ⟨rfl, he⟩
      have he := he.symm
      subst he
      go_wp2_with fail
      go_ret
      exact ⟨by rw [HE.out]; rfl, HA.out⟩
    | true =>
      cases q3 with
      | false =>
        go_enter Try.func34, Try.ntmps34
        go_wp2_with fail
        refine Calls.mono (H1.out _) ?_
        rintro e w' ⟨rfl, he⟩
        have he := he.symm
        subst he
        go_wp2_with fail
        refine Calls.mono (H2.out _) ?_
        rintro e w' ⟨rfl, he⟩
        have he := he.symm
        subst he
        go_wp2_with fail
        refine Calls.mono (H3.out _) ?_
        rintro e w' ⟨rfl, he⟩
        have he := he.symm
        subst he
        go_wp2_with fail
        go_ret
        exact ⟨by rw [HE.out]; rfl, HA.out⟩
      | true =>
        cases q4 with
        | false =>
          go_enter Try.func34, Try.ntmps34
          go_wp2_with fail
          refine Calls.mono (H1.out _) ?_
          rintro e w' ⟨rfl, he⟩
          have he := he.symm
          subst he
          go_wp2_with fail
          refine Calls.mono (H2.out _) ?_
          rintro e w' ⟨rfl, he⟩
          have he := he.symm
          subst he
          go_wp2_with fail
          refine Calls.mono (H3.out _) ?_
          rintro e w' ⟨rfl, he⟩
          have he := he.symm
          subst he
          go_wp2_with fail
          refine Calls.mono (H4.out _) ?_
          rintro e w' ⟨rfl, he⟩
          have he := he.symm
          subst he
          go_wp2_with fail
          go_ret
          exact ⟨by rw [HE.out]; rfl, HA.out⟩
        | true =>
          obtain ⟨e1, e2⟩ := HK.out rfl
          go_enter Try.func34, Try.ntmps34
          go_wp2_with fail
          refine Calls.mono (H1.out _) ?_
          rintro e w' ⟨rfl, he⟩
          have he := he.symm
          subst he
          go_wp2_with fail
          refine Calls.mono (H2.out _) ?_
          rintro e w' ⟨rfl, he⟩
          have he := he.symm
          subst he
          go_wp2_with fail
          refine Calls.mono (H3.out _) ?_
          rintro e w' ⟨rfl, he⟩
          have he := he.symm
          subst he
          go_wp2_with fail
          refine Calls.mono (H4.out _) ?_
          rintro e w' ⟨rfl, he⟩
          have he := he.symm
          subst he
          go_wp2_with fail
          refine Calls.mono (H5.out _) ?_
          rintro e w' ⟨rfl, he⟩
          have he := he.symm
          subst he
          go_wp2_with fail
          go_ret
          exact ⟨by rw [HE.out]; rfl, HA.out⟩
theorem rBucket_any (b : BI) (w : World) : Calls Try.prog 7 #[bV b] w fun e w' => e = .returned (.bool (okB b)) ∧ Below w.heap.size w w' := by
  have HA := Lib.hid ((Below.refl _ w).alloc (Nat.le_refl _) (.cells #[.int .i64 b.l, .int .i64 b.c, .int .i64 b.f, .int .i64 b.e, .int .i64 b.d] 23))
  have H1 := Lib.hid (fun W => rNum_any b.c 1048576 W)
  have H2 := Lib.hid (fun W => rNum_any b.f 1048576 W)
  have H3 := Lib.hid (fun W => rNum_any b.l b.c W)
  have H5 := Lib.hid (fun W => rNum_any b.d (b.e - 1) W)
  have HE := Lib.hid (show okB b = (inB b.c 0 1048576 && inB b.f 0 1048576 && inB b.l 0 b.c && inB b.e 1 1048576 && inB b.d 0 (b.e - 1)) from rfl)
  unfold bV
  generalize inB b.c 0 1048576 = q1 at *
  generalize inB b.f 0 1048576 = q2 at *
  generalize inB b.l 0 b.c = q3 at *
  generalize inB b.d 0 (b.e - 1) = q5 at *
  cases q1 with
  | false =>
    go_enter Try.func7, Try.ntmps7
    go_wp2_with fail
    refine Calls.mono (H1.out _) ?_
    rintro e w' ⟨rfl, he⟩
    have he := he.symm
    subst he
    go_wp2_with fail
    go_ret
    exact ⟨by rw [HE.out]; rfl, HA.out⟩
  | true =>
    cases q2 with
    | false =>
      go_enter Try.func7, Try.ntmps7
      go_wp2_with fail
      refine Calls.mono (H1.out _) ?_
      rintro e w' ⟨rfl, he⟩
      have he := he.symm
      subst he
      go_wp2_with fail
      refine Calls.mono (H2.out _) ?_
      rintro e w' ⟨rfl, he⟩
      have he := he.symm
      subst he
      go_wp2_with fail
      go_ret
      exact ⟨by rw [HE.out]; rfl, HA.out⟩
    | true =>
      cases q3 with
      | false =>
        go_enter Try.func7, Try.ntmps7
        go_wp2_with fail
        refine Calls.mono (H1.out _) ?_
        rintro e w' ⟨rfl, he⟩
        have he := he.symm
        subst he
        go_wp2_with fail
        refine Calls.mono (H2.out _) ?_
        rintro e w' ⟨rfl, he⟩
        have he := he.symm
        subst he
        go_wp2_with fail
        refine Calls.mono (H3.out _) ?_
        rintro e w' ⟨rfl, he⟩
        have he := he.symm
        subst he
        go_wp2_with fail
        go_ret
        exact ⟨by rw [HE.out]; rfl, HA.out⟩
      | true =>
        by_cases e1 : 1 ≤ b.e
        · by_cases e2 : b.e ≤ 1048576
          · have HF := Lib.hid (inB_iff.2 ⟨e1, e2⟩)
            go_enter Try.func7, Try.ntmps7
            go_wp2_with fail
            refine Calls.mono (H1.out _) ?_
            rintro e w' ⟨rfl, he⟩
            have he := he.symm
            subst he
            go_wp2_with fail
            refine Calls.mono (H2.out _) ?_
            rintro e w' ⟨rfl, he⟩
            have he := he.symm
            subst he
            go_wp2_with fail
            refine Calls.mono (H3.out _) ?_
            rintro e w' ⟨rfl, he⟩
            have he := he.symm
            subst he
            go_wp2_with fail
            refine Calls.mono (H5.out _) ?_
            rintro e w' ⟨rfl, he⟩
            have he := he.symm
            subst he
            go_wp2_with fail
            go_ret
            exact ⟨by rw [HE.out, HF.out]; rfl, HA.out⟩
          · have e2d : decide (b.e ≤ 1048576) = false := decide_eq_false e2
            have HF := Lib.hid (inB_not.2 (fun h => e2 h.2 : ¬ (1 ≤ b.e ∧ b.e ≤ 1048576)))
            go_enter Try.func7, Try.ntmps7
            go_wp2_with fail
            refine Calls.mono (H1.out _) ?_
            rintro e w' ⟨rfl, he⟩
            have he := he.symm
            subst he
            go_wp2_with fail
            refine Calls.mono (H2.out _) ?_
            rintro e w' ⟨rfl, he⟩
            have he := he.symm
            subst he
            go_wp2_with fail
            refine Calls.mono (H3.out _) ?_
            rintro e w' ⟨rfl, he⟩
            have he := he.symm
            subst he
            go_wp2_with fail
            go_ret
            exact ⟨by rw [HE.out, HF.out]; rfl, HA.out⟩
        · have e1d : decide (1 ≤ b.e) = false := decide_eq_false e1
          have HF := Lib.hid (inB_not.2 (fun h => e1 h.1 : ¬ (1 ≤ b.e ∧ b.e ≤ 1048576)))
          go_enter Try.func7, Try.ntmps7
          go_wp2_with fail
          refine Calls.mono (H1.out _) ?_
          rintro e w' ⟨rfl, he⟩
          have he := he.symm
          subst he
          go_wp2_with fail
          refine Calls.mono (H2.out _) ?_
          rintro e w' ⟨rfl, he⟩
          have he := he.symm
          subst he
          go_wp2_with fail
          refine Calls.mono (H3.out _) ?_
          rintro e w' ⟨rfl, he⟩
          have he := he.symm
          subst he
          go_wp2_with fail
          go_ret
          exact ⟨by rw [HE.out, HF.out]; rfl, HA.out⟩
theorem demandValid_any (b : BI) (w : World) : Calls Try.prog 22 #[bV b] w fun e w' => e = endD (okB b) 1 ∧ Below w.heap.size w w' := by
  have HA := Lib.hid ((Below.refl _ w).alloc (Nat.le_refl _) (.cells #[.int .i64 b.l, .int .i64 b.c, .int .i64 b.f, .int .i64 b.e, .int .i64 b.d] 23))
  have HV := Lib.hid (fun W => valid_any b W)
  have HD := Lib.hid (fun W => demand_any (okB b) 1 W)
  generalize okB b = q at *
  unfold bV at *
  cases q with
  | true =>
    simp only [endD_t] at HD
    go_enter Try.func22, Try.ntmps22
    go_wp2_with fail
    refine Calls.mono (HV.out _) ?_
    rintro e w1 ⟨rfl, hb⟩
    have HB := Lib.hid (HA.out.trans (hb.mono (by simp)))
    clear hb
    go_wp2_with fail
    refine Calls.mono (HD.out _) ?_
    rintro e w' ⟨rfl, he⟩
    have he := he.symm
    subst he
    go_wp2_with fail
    go_end0
    exact ⟨rfl, HB.out⟩
  | false =>
    go_enter Try.func22, Try.ntmps22
    go_wp2_with fail
    refine Calls.mono (HV.out _) ?_
    rintro e w1 ⟨rfl, hb⟩
    have HB := Lib.hid (HA.out.trans (hb.mono (by simp)))
    clear hb
    go_wp2_with fail
    refine Calls.mono (HD.out _) ?_
    rintro e w' ⟨rfl, he⟩
    have he := he.symm
    subst he
    exact ⟨rfl, rfl, HB.out⟩
theorem demandTokens_any (b : BI) (n : Int) (w : World) : Calls Try.prog 36 #[bV b, .int .i64 n] w fun e w' => e = endD (okB b && inB n 0 1048576) 1 ∧ Below w.heap.size w w' := by
  have HA := Lib.hid ((Below.refl _ w).alloc (Nat.le_refl _) (.cells #[.int .i64 b.l, .int .i64 b.c, .int .i64 b.f, .int .i64 b.e, .int .i64 b.d] 23))
  have HV := Lib.hid (fun W => demandValid_any b W)
  have HW := Lib.hid (fun W => within_any n 0 1048576 W)
  have HD := Lib.hid (fun W => demand_any (inB n 0 1048576) 1 W)
  generalize okB b = q at *
  generalize inB n 0 1048576 = q2 at *
  unfold bV at *
  cases q with
  | true =>
    simp only [endD_t] at HV
    cases q2 with
    | true =>
      simp only [endD_t] at HD
      go_enter Try.func36, Try.ntmps36
      go_wp2_with fail
      refine Calls.mono (HV.out _) ?_
      rintro e w1 ⟨rfl, hb⟩
      have HB := Lib.hid (HA.out.trans (hb.mono (by simp)))
      clear hb
      go_wp2_with fail
      refine Calls.mono (HW.out _) ?_
      rintro e w' ⟨rfl, he⟩
      have he := he.symm
      subst he
      go_wp2_with fail
      refine Calls.mono (HD.out _) ?_
      rintro e w' ⟨rfl, he⟩
      have he := he.symm
      subst he
      go_wp2_with fail
      go_end0
      exact ⟨rfl, HB.out⟩
    | false =>
      go_enter Try.func36, Try.ntmps36
      go_wp2_with fail
      refine Calls.mono (HV.out _) ?_
      rintro e w1 ⟨rfl, hb⟩
      have HB := Lib.hid (HA.out.trans (hb.mono (by simp)))
      clear hb
      go_wp2_with fail
      refine Calls.mono (HW.out _) ?_
      rintro e w' ⟨rfl, he⟩
      have he := he.symm
      subst he
      go_wp2_with fail
      refine Calls.mono (HD.out _) ?_
      rintro e w' ⟨rfl, he⟩
      have he := he.symm
      subst he
      exact ⟨rfl, rfl, HB.out⟩
  | false =>
    go_enter Try.func36, Try.ntmps36
    go_wp2_with fail
    refine Calls.mono (HV.out _) ?_
    rintro e w1 ⟨rfl, hb⟩
    have HB := Lib.hid (HA.out.trans (hb.mono (by simp)))
    clear hb
    exact ⟨rfl, rfl, HB.out⟩
end Go.Proofs.Ytcnkejndblcbhaa

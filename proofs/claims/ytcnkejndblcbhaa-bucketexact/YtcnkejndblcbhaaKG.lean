/-
  Package bucket's Check, New, Pass, Take and Wait, at whatever numbers, walked.
  Conditions: as each theorem states them.
-/
import Derived.Test.YtcnkejndblcbhaaKF
namespace Go.Proofs.Ytcnkejndblcbhaa
open Go.RowKit

theorem enters_Check_1 (args : Array Value) (w : World) : (callFunc 21 args).run Try.prog w = .ok (.enter 21 args) w := enters_of Try.func21 (by kernel_rfl) rfl args w
theorem enters_New_1 (args : Array Value) (w : World) : (callFunc 24 args).run Try.prog w = .ok (.enter 24 args) w := enters_of Try.func24 (by kernel_rfl) rfl args w
theorem enters_Pass_1 (args : Array Value) (w : World) : (callFunc 30 args).run Try.prog w = .ok (.enter 30 args) w := enters_of Try.func30 (by kernel_rfl) rfl args w
theorem enters_Take_1 (args : Array Value) (w : World) : (callFunc 26 args).run Try.prog w = .ok (.enter 26 args) w := enters_of Try.func26 (by kernel_rfl) rfl args w
theorem enters_Wait_1 (args : Array Value) (w : World) : (callFunc 28 args).run Try.prog w = .ok (.enter 28 args) w := enters_of Try.func28 (by kernel_rfl) rfl args w

theorem check1_any (b : BI) (n : Nat) (w : World) (hn : BAt w n b) : Calls Try.prog 21 #[.pointer (some ⟨n, 0, none⟩)] w fun e w' => e = endD (okB b) 1 ∧ Below w.heap.size w w' := by
  have HV := Lib.hid (fun W => demandValid_any b W)
  have HN := Lib.hid hn
  have c0 := HN.out.c0
  have c1 := HN.out.c1
  have c2 := HN.out.c2
  have c3 := HN.out.c3
  have c4 := HN.out.c4
  clear hn
  generalize okB b = q at *
  unfold bV at *
  cases q with
  | true =>
    simp only [endD_t] at HV ⊢
    go_enter Try.func21, Try.ntmps21
    go_wp2_with fail
    refine Calls.mono (HV.out _) ?_
    rintro e w1 ⟨rfl, hb⟩
    have HB := Lib.hid hb
    clear hb
    go_wp2_with fail
    go_end0
    exact ⟨rfl, HB.out⟩
  | false =>
    go_enter Try.func21, Try.ntmps21
    go_wp2_with fail
    refine Calls.mono (HV.out _) ?_
    rintro e w1 ⟨rfl, hb⟩
    exact ⟨rfl, rfl, hb⟩
/-- An error's number. -/
def errN (b : Bool) : Int := if b then 0 else 1
theorem check_any (b : BI) (w : World) : Calls Try.prog 9 #[bV b] w fun e w' => e = .returned (.int .i64 (errN (okB b))) ∧ Below w.heap.size w w' := by
  obtain ⟨W, hW⟩ : ∃ W, w.alloc (.cells #[.int .i64 b.l, .int .i64 b.c, .int .i64 b.f, .int .i64 b.e, .int .i64 b.d] 23) = W := ⟨_, rfl⟩
  have hsz : W.heap.size = w.heap.size + 1 := by rw [← hW]; simp
  have HN := Lib.hid (show BAt W w.heap.size b by rw [← hW]; exact BAt.new w b)
  have HA := Lib.hid (show Below w.heap.size w W by rw [← hW]; exact (Below.refl _ w).alloc (Nat.le_refl _) _)
  have hmf : ∀ (fn : Fn) (first cap : Array Value) (w : World), (Instr.makeFunc fn first cap).run Try.prog w = .ok (.func fn first cap) w := fun _ _ _ _ => rfl
  have h1 := check1_any b w.heap.size (W.alloc (.cells #[.int .i64 0] 29)) (HN.out.alloc _)
  have HC : Hid (Calls Try.prog 20 #[.func (.func 21) #[] #[.pointer (some ⟨w.heap.size, 0, none⟩)]] W fun e w' => e = .returned (.int .i64 (errN (okB b))) ∧ Below W.heap.size W w') := by
    cases hq : okB b with
    | true =>
      rw [hq] at h1
      refine (catch_ok 21 _ [] W (fun _ => True) (enters_Check_1 _) (by simp) ?_).mono ?_
      · exact h1.mono fun e w' ⟨k1, k2⟩ => ⟨k1, But.of (by simpa using k2), trivial⟩
      · rintro e w' ⟨rfl, hb, _⟩
        exact ⟨rfl, hb.below (Nat.le_refl _) (by simp)⟩
    | false =>
      rw [hq] at h1
      refine catch_no 21 _ 1 W (enters_Check_1 _) ?_
      exact h1.mono fun e w' ⟨k1, k2⟩ => ⟨k1, by simpa using k2⟩
  generalize errN (okB b) = q at *
  clear h1 hsz HN
  unfold bV at *
  go_enter Try.func9, Try.ntmps9
  go_wp2_with fail
  refine Calls.mono HC.out ?_
  rintro e w1 ⟨rfl, hb⟩
  have HB := Lib.hid (HA.out.trans (hb.mono HA.out.size))
  clear hb hW
  go_wp2_with fail
  go_ret
  exact ⟨rfl, HB.out⟩

theorem new1_any (m f e : Int) (k1 k2 k3 : Nat) (w : World) (h1 : CAt w k1 (.int .i64 m) 3) (h2 : CAt w k2 (.int .i64 f) 3) (h3 : CAt w k3 (.int .i64 e) 3) :
    Calls Try.prog 24 #[.pointer (some ⟨k1, 0, none⟩), .pointer (some ⟨k2, 0, none⟩), .pointer (some ⟨k3, 0, none⟩)] w fun r w' => r = endB (newR m f e) ∧ Below w.heap.size w w' := by
  have HF := Lib.hid (fun W => full_any m f e W)
  have HA := Lib.hid ((Below.refl _ w).alloc (Nat.le_refl _) (.cells #[.int .i64 zI.l, .int .i64 zI.c, .int .i64 zI.f, .int .i64 zI.e, .int .i64 zI.d] 23))
  have HR := Lib.hid (BAt.new w zI)
  have c1 := h1.c
  have c2 := h2.c
  have c3 := h3.c
  have hl1 := h1.lt
  have hl2 := h2.lt
  have hl3 := h3.lt
  clear h1 h2 h3
  cases hr : newR m f e with
  | ok x =>
    rw [hr] at HF
    simp only [endB] at HF ⊢
    obtain ⟨z, hz⟩ : ∃ z, Ending.returned (bV x) = z := ⟨_, rfl⟩
    rw [hz]
    have HE := Lib.hid (show Ending.returned (bV ⟨x.l, x.c, x.f, x.e, x.d⟩) = z from hz)
    clear hz
    unfold bV zI at *
    go_enter Try.func24, Try.ntmps24
    go_wp2_with fail
    refine Calls.mono (HF.out _) ?_
    rintro e w1 ⟨rfl, hb⟩
    have HB := Lib.hid (HA.out.trans (hb.mono (by simp)))
    have HR1 := Lib.hid (HR.out.later hb)
    have r0 := HR1.out.c0
    have rz0 := HR1.out.fz 0
    have r1 := HR1.out.c1
    have rz1 := HR1.out.fz 1
    have r2 := HR1.out.c2
    have rz2 := HR1.out.fz 2
    have r3 := HR1.out.c3
    have rz3 := HR1.out.fz 3
    have r4 := HR1.out.c4
    have rz4 := HR1.out.fz 4
    have rlt := HR1.out.lt
    clear hb
    go_wp2_with fail
    have HS := HR1.out.set5 (x.l) (x.c) (x.f) (x.e) (x.d)
    have f0 := HS.c0
    have f1 := HS.c1
    have f2 := HS.c2
    have f3 := HS.c3
    have f4 := HS.c4
    exact bodyPost_ret (v := bV ⟨x.l, x.c, x.f, x.e, x.d⟩) (by simp [results, Try.results24, go_sem, f0, f1, f2, f3, f4, bV]) rfl ⟨HE.out, below_set5 HB.out (by exact Nat.le_refl _) (x.l) (x.c) (x.f) (x.e) (x.d)⟩
  | error k =>
    rw [hr] at HF
    simp only [endB] at HF ⊢
    unfold zI at *
    go_enter Try.func24, Try.ntmps24
    go_wp2_with fail
    refine Calls.mono (HF.out _) ?_
    rintro e w1 ⟨rfl, hb⟩
    have HB := Lib.hid (HA.out.trans (hb.mono (by simp)))
    exact ⟨rfl, rfl, HB.out⟩
theorem new_any (m f e : Int) (w : World) : Calls Try.prog 12 #[.int .i64 m, .int .i64 f, .int .i64 e] w fun r w' => r = .returned (outB (newR m f e)) ∧ Below w.heap.size w w' := by
  obtain ⟨W, hW⟩ : ∃ W, (((w.alloc (.cells #[.int .i64 m] 3)).alloc (.cells #[.int .i64 f] 3)).alloc (.cells #[.int .i64 e] 3)).alloc (.cells #[.int .i64 zI.l, .int .i64 zI.c, .int .i64 zI.f, .int .i64 zI.e, .int .i64 zI.d] 23) = W := ⟨_, rfl⟩
  have h1 : CAt W w.heap.size (.int .i64 m) 3 := by rw [← hW]; exact (((CAt.new w _ _).alloc _).alloc _).alloc _
  have h2 : CAt W (w.heap.size + 1) (.int .i64 f) 3 := by rw [← hW]; exact ((CAt.new1 w _ _ _).alloc _).alloc _
  have h3 : CAt W (w.heap.size + 1 + 1) (.int .i64 e) 3 := by rw [← hW]; exact (CAt.new2 w _ _ _ _).alloc _
  have HR := Lib.hid (show BAt W (w.heap.size + 1 + 1 + 1) zI by
    rw [← hW]
    have := BAt.new2 (w.alloc (.cells #[.int .i64 m] 3)) (.cells #[.int .i64 f] 3) (.cells #[.int .i64 e] 3) zI
    rwa [show (w.alloc (.cells #[.int .i64 m] 3)).heap.size = w.heap.size + 1 by simp] at this)
  have HA := Lib.hid (show Below w.heap.size w W by rw [← hW]; exact ((((Below.refl _ w).alloc (Nat.le_refl _) _).alloc (by simp) _).alloc (by simp; omega) _).alloc (by simp; omega) _)
  have hmf : ∀ (fn : Fn) (first cap : Array Value) (w : World), (Instr.makeFunc fn first cap).run Try.prog w = .ok (.func fn first cap) w := fun _ _ _ _ => rfl
  have HC := Lib.hid (made_any 24 #[.pointer (some ⟨w.heap.size, 0, none⟩), .pointer (some ⟨w.heap.size + 1, 0, none⟩), .pointer (some ⟨w.heap.size + 1 + 1, 0, none⟩)] (newR m f e) W (enters_New_1 _)
    (fun V hV => new1_any m f e _ _ _ V (h1.later hV) (h2.later hV) (h3.later hV)))
  clear h1 h2 h3
  generalize newR m f e = r at *
  obtain ⟨x, k, hx⟩ : ∃ (x : BI) (k : Int), outB r = .tuple #[bV x, .int .i64 k] := by
    cases r with
    | ok x => exact ⟨x, 0, rfl⟩
    | error k => exact ⟨zI, k, rfl⟩
  rw [hx] at HC ⊢
  clear hx
  obtain ⟨z, hz⟩ : ∃ z, Ending.returned (.tuple #[bV x, .int .i64 k]) = z := ⟨_, rfl⟩
  rw [hz]
  have HE := Lib.hid hz
  clear hz
  unfold bV zI at *
  go_enter Try.func12, Try.ntmps12
  go_wp2_with fail
  refine Calls.mono HC.out ?_
  rintro e w1 ⟨rfl, hb⟩
  have HB := Lib.hid (HA.out.trans (hb.mono HA.out.size))
  have HR1 := Lib.hid (HR.out.later hb)
  have r0 := HR1.out.c0
  have rz0 := HR1.out.fz 0
  have r1 := HR1.out.c1
  have rz1 := HR1.out.fz 1
  have r2 := HR1.out.c2
  have rz2 := HR1.out.fz 2
  have r3 := HR1.out.c3
  have rz3 := HR1.out.fz 3
  have r4 := HR1.out.c4
  have rz4 := HR1.out.fz 4
  have rlt := HR1.out.lt
  clear hb hW
  go_wp2_with fail
  have HS := HR1.out.set5 x.l x.c x.f x.e x.d
  have f0 := HS.c0
  have f1 := HS.c1
  have f2 := HS.c2
  have f3 := HS.c3
  have f4 := HS.c4
  exact bodyPost_ret (v := .tuple #[bV x, .int .i64 k]) (by simp [results, Try.results12, go_sem, f0, f1, f2, f3, f4, bV]) rfl ⟨HE.out, below_set5 HB.out (by omega) _ _ _ _ _⟩
theorem pass1_any (b : BI) (n : Int) (k1 k2 : Nat) (w : World) (h1 : BAt w k1 b) (h2 : CAt w k2 (.int .i64 n) 3) :
    Calls Try.prog 30 #[.pointer (some ⟨k1, 0, none⟩), .pointer (some ⟨k2, 0, none⟩)] w fun r w' => r = endB (passR b n) ∧ Below w.heap.size w w' := by
  have HF := Lib.hid (fun W => after_any b n W)
  have HA := Lib.hid ((Below.refl _ w).alloc (Nat.le_refl _) (.cells #[.int .i64 zI.l, .int .i64 zI.c, .int .i64 zI.f, .int .i64 zI.e, .int .i64 zI.d] 23))
  have HR := Lib.hid (BAt.new w zI)
  have HN := Lib.hid h1
  have c0 := HN.out.c0
  have c1 := HN.out.c1
  have c2 := HN.out.c2
  have c3 := HN.out.c3
  have c4 := HN.out.c4
  have cn := h2.c
  have hl1 := h1.lt
  have hl2 := h2.lt
  clear h1 h2
  cases hr : passR b n with
  | ok x =>
    rw [hr] at HF
    simp only [endB] at HF ⊢
    obtain ⟨z, hz⟩ : ∃ z, Ending.returned (bV x) = z := ⟨_, rfl⟩
    rw [hz]
    have HE := Lib.hid (show Ending.returned (bV ⟨x.l, x.c, x.f, x.e, x.d⟩) = z from hz)
    clear hz
    unfold bV zI at *
    go_enter Try.func30, Try.ntmps30
    go_wp2_with fail
    refine Calls.mono (HF.out _) ?_
    rintro e w1 ⟨rfl, hb⟩
    have HB := Lib.hid (HA.out.trans (hb.mono (by simp)))
    have HR1 := Lib.hid (HR.out.later hb)
    have r0 := HR1.out.c0
    have rz0 := HR1.out.fz 0
    have r1 := HR1.out.c1
    have rz1 := HR1.out.fz 1
    have r2 := HR1.out.c2
    have rz2 := HR1.out.fz 2
    have r3 := HR1.out.c3
    have rz3 := HR1.out.fz 3
    have r4 := HR1.out.c4
    have rz4 := HR1.out.fz 4
    have rlt := HR1.out.lt
    clear hb
    go_wp2_with fail
    have HS := HR1.out.set5 (x.l) (x.c) (x.f) (x.e) (x.d)
    have f0 := HS.c0
    have f1 := HS.c1
    have f2 := HS.c2
    have f3 := HS.c3
    have f4 := HS.c4
    exact bodyPost_ret (v := bV ⟨x.l, x.c, x.f, x.e, x.d⟩) (by simp [results, Try.results30, go_sem, f0, f1, f2, f3, f4, bV]) rfl ⟨HE.out, below_set5 HB.out (by exact Nat.le_refl _) (x.l) (x.c) (x.f) (x.e) (x.d)⟩
  | error k =>
    rw [hr] at HF
    simp only [endB] at HF ⊢
    unfold bV zI at *
    go_enter Try.func30, Try.ntmps30
    go_wp2_with fail
    refine Calls.mono (HF.out _) ?_
    rintro e w1 ⟨rfl, hb⟩
    have HB := Lib.hid (HA.out.trans (hb.mono (by simp)))
    exact ⟨rfl, rfl, HB.out⟩
theorem pass_any (b : BI) (n : Int) (w : World) : Calls Try.prog 18 #[bV b, .int .i64 n] w fun r w' => r = .returned (outB (passR b n)) ∧ Below w.heap.size w w' := by
  obtain ⟨W, hW⟩ : ∃ W, ((w.alloc (.cells #[.int .i64 b.l, .int .i64 b.c, .int .i64 b.f, .int .i64 b.e, .int .i64 b.d] 23)).alloc (.cells #[.int .i64 n] 3)).alloc (.cells #[.int .i64 zI.l, .int .i64 zI.c, .int .i64 zI.f, .int .i64 zI.e, .int .i64 zI.d] 23) = W := ⟨_, rfl⟩
  have h1 : BAt W w.heap.size b := by rw [← hW]; exact ((BAt.new w _).alloc _).alloc _
  have h2 : CAt W (w.heap.size + 1) (.int .i64 n) 3 := by rw [← hW]; exact (CAt.new1 w _ _ _).alloc _
  have HR := Lib.hid (show BAt W (w.heap.size + 1 + 1) zI by rw [← hW]; exact BAt.new2 w _ _ _)
  have HA := Lib.hid (show Below w.heap.size w W by rw [← hW]; exact (((Below.refl _ w).alloc (Nat.le_refl _) _).alloc (by simp) _).alloc (by simp; omega) _)
  have hmf : ∀ (fn : Fn) (first cap : Array Value) (w : World), (Instr.makeFunc fn first cap).run Try.prog w = .ok (.func fn first cap) w := fun _ _ _ _ => rfl
  have HC := Lib.hid (made_any 30 #[.pointer (some ⟨w.heap.size, 0, none⟩), .pointer (some ⟨w.heap.size + 1, 0, none⟩)] (passR b n) W (enters_Pass_1 _)
    (fun V hV => pass1_any b n _ _ V (h1.later hV) (h2.later hV)))
  clear h1 h2
  generalize passR b n = r at *
  obtain ⟨x, k, hx⟩ : ∃ (x : BI) (k : Int), outB r = .tuple #[bV x, .int .i64 k] := by
    cases r with
    | ok x => exact ⟨x, 0, rfl⟩
    | error k => exact ⟨zI, k, rfl⟩
  rw [hx] at HC ⊢
  clear hx
  obtain ⟨z, hz⟩ : ∃ z, Ending.returned (.tuple #[bV x, .int .i64 k]) = z := ⟨_, rfl⟩
  rw [hz]
  have HE := Lib.hid hz
  clear hz
  unfold bV zI at *
  go_enter Try.func18, Try.ntmps18
  go_wp2_with fail
  refine Calls.mono HC.out ?_
  rintro e w1 ⟨rfl, hb⟩
  have HB := Lib.hid (HA.out.trans (hb.mono HA.out.size))
  have HR1 := Lib.hid (HR.out.later hb)
  have r0 := HR1.out.c0
  have rz0 := HR1.out.fz 0
  have r1 := HR1.out.c1
  have rz1 := HR1.out.fz 1
  have r2 := HR1.out.c2
  have rz2 := HR1.out.fz 2
  have r3 := HR1.out.c3
  have rz3 := HR1.out.fz 3
  have r4 := HR1.out.c4
  have rz4 := HR1.out.fz 4
  have rlt := HR1.out.lt
  clear hb hW
  go_wp2_with fail
  have HS := HR1.out.set5 x.l x.c x.f x.e x.d
  have f0 := HS.c0
  have f1 := HS.c1
  have f2 := HS.c2
  have f3 := HS.c3
  have f4 := HS.c4
  exact bodyPost_ret (v := .tuple #[bV x, .int .i64 k]) (by simp [results, Try.results18, go_sem, f0, f1, f2, f3, f4, bV]) rfl ⟨HE.out, below_set5 HB.out (by omega) _ _ _ _ _⟩
theorem take1_any (b : BI) (n : Int) (k1 k2 : Nat) (w : World) (h1 : BAt w k1 b) (h2 : CAt w k2 (.int .i64 n) 3) :
    Calls Try.prog 26 #[.pointer (some ⟨k1, 0, none⟩), .pointer (some ⟨k2, 0, none⟩)] w fun r w' => r = endB (takeR b n) ∧ Below w.heap.size w w' := by
  have HF := Lib.hid (fun W => without_any b n W)
  have HA := Lib.hid ((Below.refl _ w).alloc (Nat.le_refl _) (.cells #[.int .i64 zI.l, .int .i64 zI.c, .int .i64 zI.f, .int .i64 zI.e, .int .i64 zI.d] 23))
  have HR := Lib.hid (BAt.new w zI)
  have HN := Lib.hid h1
  have c0 := HN.out.c0
  have c1 := HN.out.c1
  have c2 := HN.out.c2
  have c3 := HN.out.c3
  have c4 := HN.out.c4
  have cn := h2.c
  have hl1 := h1.lt
  have hl2 := h2.lt
  clear h1 h2
  cases hr : takeR b n with
  | ok x =>
    rw [hr] at HF
    simp only [endB] at HF ⊢
    obtain ⟨z, hz⟩ : ∃ z, Ending.returned (bV x) = z := ⟨_, rfl⟩
    rw [hz]
    have HE := Lib.hid (show Ending.returned (bV ⟨x.l, x.c, x.f, x.e, x.d⟩) = z from hz)
    clear hz
    unfold bV zI at *
    go_enter Try.func26, Try.ntmps26
    go_wp2_with fail
    refine Calls.mono (HF.out _) ?_
    rintro e w1 ⟨rfl, hb⟩
    have HB := Lib.hid (HA.out.trans (hb.mono (by simp)))
    have HR1 := Lib.hid (HR.out.later hb)
    have r0 := HR1.out.c0
    have rz0 := HR1.out.fz 0
    have r1 := HR1.out.c1
    have rz1 := HR1.out.fz 1
    have r2 := HR1.out.c2
    have rz2 := HR1.out.fz 2
    have r3 := HR1.out.c3
    have rz3 := HR1.out.fz 3
    have r4 := HR1.out.c4
    have rz4 := HR1.out.fz 4
    have rlt := HR1.out.lt
    clear hb
    go_wp2_with fail
    have HS := HR1.out.set5 (x.l) (x.c) (x.f) (x.e) (x.d)
    have f0 := HS.c0
    have f1 := HS.c1
    have f2 := HS.c2
    have f3 := HS.c3
    have f4 := HS.c4
    exact bodyPost_ret (v := bV ⟨x.l, x.c, x.f, x.e, x.d⟩) (by simp [results, Try.results26, go_sem, f0, f1, f2, f3, f4, bV]) rfl ⟨HE.out, below_set5 HB.out (by exact Nat.le_refl _) (x.l) (x.c) (x.f) (x.e) (x.d)⟩
  | error k =>
    rw [hr] at HF
    simp only [endB] at HF ⊢
    unfold bV zI at *
    go_enter Try.func26, Try.ntmps26
    go_wp2_with fail
    refine Calls.mono (HF.out _) ?_
    rintro e w1 ⟨rfl, hb⟩
    have HB := Lib.hid (HA.out.trans (hb.mono (by simp)))
    exact ⟨rfl, rfl, HB.out⟩
theorem take_any (b : BI) (n : Int) (w : World) : Calls Try.prog 14 #[bV b, .int .i64 n] w fun r w' => r = .returned (outB (takeR b n)) ∧ Below w.heap.size w w' := by
  obtain ⟨W, hW⟩ : ∃ W, ((w.alloc (.cells #[.int .i64 b.l, .int .i64 b.c, .int .i64 b.f, .int .i64 b.e, .int .i64 b.d] 23)).alloc (.cells #[.int .i64 n] 3)).alloc (.cells #[.int .i64 zI.l, .int .i64 zI.c, .int .i64 zI.f, .int .i64 zI.e, .int .i64 zI.d] 23) = W := ⟨_, rfl⟩
  have h1 : BAt W w.heap.size b := by rw [← hW]; exact ((BAt.new w _).alloc _).alloc _
  have h2 : CAt W (w.heap.size + 1) (.int .i64 n) 3 := by rw [← hW]; exact (CAt.new1 w _ _ _).alloc _
  have HR := Lib.hid (show BAt W (w.heap.size + 1 + 1) zI by rw [← hW]; exact BAt.new2 w _ _ _)
  have HA := Lib.hid (show Below w.heap.size w W by rw [← hW]; exact (((Below.refl _ w).alloc (Nat.le_refl _) _).alloc (by simp) _).alloc (by simp; omega) _)
  have hmf : ∀ (fn : Fn) (first cap : Array Value) (w : World), (Instr.makeFunc fn first cap).run Try.prog w = .ok (.func fn first cap) w := fun _ _ _ _ => rfl
  have HC := Lib.hid (made_any 26 #[.pointer (some ⟨w.heap.size, 0, none⟩), .pointer (some ⟨w.heap.size + 1, 0, none⟩)] (takeR b n) W (enters_Take_1 _)
    (fun V hV => take1_any b n _ _ V (h1.later hV) (h2.later hV)))
  clear h1 h2
  generalize takeR b n = r at *
  obtain ⟨x, k, hx⟩ : ∃ (x : BI) (k : Int), outB r = .tuple #[bV x, .int .i64 k] := by
    cases r with
    | ok x => exact ⟨x, 0, rfl⟩
    | error k => exact ⟨zI, k, rfl⟩
  rw [hx] at HC ⊢
  clear hx
  obtain ⟨z, hz⟩ : ∃ z, Ending.returned (.tuple #[bV x, .int .i64 k]) = z := ⟨_, rfl⟩
  rw [hz]
  have HE := Lib.hid hz
  clear hz
  unfold bV zI at *
  go_enter Try.func14, Try.ntmps14
  go_wp2_with fail
  refine Calls.mono HC.out ?_
  rintro e w1 ⟨rfl, hb⟩
  have HB := Lib.hid (HA.out.trans (hb.mono HA.out.size))
  have HR1 := Lib.hid (HR.out.later hb)
  have r0 := HR1.out.c0
  have rz0 := HR1.out.fz 0
  have r1 := HR1.out.c1
  have rz1 := HR1.out.fz 1
  have r2 := HR1.out.c2
  have rz2 := HR1.out.fz 2
  have r3 := HR1.out.c3
  have rz3 := HR1.out.fz 3
  have r4 := HR1.out.c4
  have rz4 := HR1.out.fz 4
  have rlt := HR1.out.lt
  clear hb hW
  go_wp2_with fail
  have HS := HR1.out.set5 x.l x.c x.f x.e x.d
  have f0 := HS.c0
  have f1 := HS.c1
  have f2 := HS.c2
  have f3 := HS.c3
  have f4 := HS.c4
  exact bodyPost_ret (v := .tuple #[bV x, .int .i64 k]) (by simp [results, Try.results14, go_sem, f0, f1, f2, f3, f4, bV]) rfl ⟨HE.out, below_set5 HB.out (by omega) _ _ _ _ _⟩
theorem wait1_good (b : BI) (n x y : Int) (k1 k2 m : Nat) (w : World) (h1 : BAt w k1 b) (h2 : CAt w k2 (.int .i64 n) 3) (h3 : CAt w m (.int .i64 y) 3) (hr : waitR b n = .ok x) :
    Calls Try.prog 28 #[.pointer (some ⟨k1, 0, none⟩), .pointer (some ⟨k2, 0, none⟩), .pointer (some ⟨m, 0, none⟩)] w fun r w' => r = .returned (.tuple #[]) ∧ But [m] w.heap.size w w' ∧ CAt w' m (.int .i64 x) 3 := by
  have HF := Lib.hid (fun W => ticksUntil_any b n W)
  have HN := Lib.hid h1
  have HM := Lib.hid h3
  have c0 := HN.out.c0
  have c1 := HN.out.c1
  have c2 := HN.out.c2
  have c3 := HN.out.c3
  have c4 := HN.out.c4
  have cn := h2.c
  rw [hr] at HF
  simp only [endI] at HF
  clear h1 h2 h3 hr
  unfold bV at *
  go_enter Try.func28, Try.ntmps28
  go_wp2_with fail
  refine Calls.mono (HF.out _) ?_
  rintro e w1 ⟨rfl, hb⟩
  have HB := Lib.hid hb
  have HM1 := Lib.hid (HM.out.later hb)
  have cm := HM1.out.c
  have cmz := HM1.out.fz
  clear hb
  go_wp2_with fail
  go_end0
  exact ⟨rfl, (But.of HB.out).setCell (p := ⟨m, 0, none⟩) (.inl (by simp)) _, HM1.out.set _⟩
theorem wait1_bad (b : BI) (n k : Int) (k1 k2 m : Nat) (w : World) (h1 : BAt w k1 b) (h2 : CAt w k2 (.int .i64 n) 3) (hr : waitR b n = .error k) :
    Calls Try.prog 28 #[.pointer (some ⟨k1, 0, none⟩), .pointer (some ⟨k2, 0, none⟩), .pointer (some ⟨m, 0, none⟩)] w fun r w' => r = wrongK k ∧ Below w.heap.size w w' := by
  have HF := Lib.hid (fun W => ticksUntil_any b n W)
  have HN := Lib.hid h1
  have c0 := HN.out.c0
  have c1 := HN.out.c1
  have c2 := HN.out.c2
  have c3 := HN.out.c3
  have c4 := HN.out.c4
  have cn := h2.c
  rw [hr] at HF
  simp only [endI] at HF
  clear h1 h2 hr
  unfold bV at *
  go_enter Try.func28, Try.ntmps28
  go_wp2_with fail
  refine Calls.mono (HF.out _) ?_
  rintro e w1 ⟨rfl, hb⟩
  exact ⟨rfl, rfl, hb⟩
def outI (r : Except Int Int) : Value := match r with | .ok x => .tuple #[.int .i64 x, .int .i64 0] | .error n => .tuple #[.int .i64 0, .int .i64 n]
theorem wait_any (b : BI) (n : Int) (w : World) : Calls Try.prog 16 #[bV b, .int .i64 n] w fun r w' => r = .returned (outI (waitR b n)) ∧ Below w.heap.size w w' := by
  obtain ⟨W, hW⟩ : ∃ W, ((w.alloc (.cells #[.int .i64 b.l, .int .i64 b.c, .int .i64 b.f, .int .i64 b.e, .int .i64 b.d] 23)).alloc (.cells #[.int .i64 n] 3)).alloc (.cells #[.int .i64 0] 3) = W := ⟨_, rfl⟩
  have hsz : W.heap.size = w.heap.size + 1 + 1 + 1 := by rw [← hW]; simp
  have h1 : BAt W w.heap.size b := by rw [← hW]; exact ((BAt.new w _).alloc _).alloc _
  have h2 : CAt W (w.heap.size + 1) (.int .i64 n) 3 := by rw [← hW]; exact (CAt.new1 w _ _ _).alloc _
  have h3 : CAt W (w.heap.size + 1 + 1) (.int .i64 0) 3 := by rw [← hW]; exact CAt.new2 w _ _ _ _
  have HA := Lib.hid (show Below w.heap.size w W by rw [← hW]; exact (((Below.refl _ w).alloc (Nat.le_refl _) _).alloc (by simp) _).alloc (by simp; omega) _)
  have hmf : ∀ (fn : Fn) (first cap : Array Value) (w : World), (Instr.makeFunc fn first cap).run Try.prog w = .ok (.func fn first cap) w := fun _ _ _ _ => rfl
  obtain ⟨x, k, hx, HC⟩ : ∃ (x k : Int), outI (waitR b n) = .tuple #[.int .i64 x, .int .i64 k] ∧ Hid (Calls Try.prog 20 #[.func (.func 28) #[] #[.pointer (some ⟨w.heap.size, 0, none⟩), .pointer (some ⟨w.heap.size + 1, 0, none⟩), .pointer (some ⟨w.heap.size + 1 + 1, 0, none⟩)]] W fun e w' => e = .returned (.int .i64 k) ∧ Below w.heap.size w w' ∧ CAt w' (w.heap.size + 1 + 1) (.int .i64 x) 3) := by
    cases hr : waitR b n with
    | ok x =>
      refine ⟨x, 0, rfl, (catch_ok 28 _ [w.heap.size + 1 + 1] W (fun w' => CAt w' (w.heap.size + 1 + 1) (.int .i64 x) 3) (enters_Wait_1 _) (by simp [hsz]) ?_).mono ?_⟩
      · exact (wait1_good b n x 0 _ _ _ (W.alloc (.cells #[.int .i64 0] 29)) (h1.alloc _) (h2.alloc _) (h3.alloc _) hr).mono fun e w' ⟨k1, k2, k3⟩ => ⟨k1, by simpa using k2, k3⟩
      · rintro e w' ⟨rfl, hb, w1, k1, k2⟩
        exact ⟨rfl, HA.out.trans (hb.below (by rw [hsz]; omega) (by simp; omega)), (k2 _ (by rw [hsz]; omega)).trans k1⟩
    | error k =>
      refine ⟨0, k, rfl, (catch_no 28 _ k W (enters_Wait_1 _) ?_).mono ?_⟩
      · exact (wait1_bad b n k _ _ _ (W.alloc (.cells #[.int .i64 0] 29)) (h1.alloc _) (h2.alloc _) hr).mono fun e w' ⟨k1, k2⟩ => ⟨k1, by simpa using k2⟩
      · rintro e w' ⟨rfl, hb⟩
        exact ⟨rfl, HA.out.trans (hb.mono HA.out.size), h3.later hb⟩
  rw [hx]
  have HW := Lib.hid hW
  clear hx h1 h2 h3 hsz hW
  unfold bV at *
  go_enter Try.func16, Try.ntmps16
  go_wp2_with fail
  rw [HW.out]
  refine Calls.mono HC.out ?_
  rintro e w1 ⟨rfl, hb, hm⟩
  have HB := Lib.hid hb
  have cm := hm.c
  clear hb hm
  go_wp2_with fail
  go_ret2
  exact ⟨rfl, HB.out⟩
end Go.Proofs.Ytcnkejndblcbhaa

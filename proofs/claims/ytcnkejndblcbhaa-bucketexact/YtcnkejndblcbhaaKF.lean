/-
  Package bucket's made, over whatever function it is handed, walked.
  Conditions: as each theorem states them.
-/
import Derived.Test.YtcnkejndblcbhaaKE
import Derived.Shelf.Abstract
namespace Go.Proofs.Ytcnkejndblcbhaa
open Go.RowKit

/-- One cell in a block of its own. -/
def CAt (w : World) (k : Nat) (v : Value) (t : TypeId) : Prop := w.heap[k]? = some (.cells #[v] t (0, 0))
section
variable {w w' : World} {k : Nat} {v : Value} {t : TypeId}
theorem CAt.lt (h : CAt w k v t) : k < w.heap.size := (Array.getElem?_eq_some_iff.1 h).1
theorem CAt.c (h : CAt w k v t) : w.cell? ⟨k, 0, none⟩ = some v := by
  have h' : w.heap[k]? = some (.cells #[v] t (0, 0)) := h
  simp [World.cell?, h']
theorem CAt.fz (h : CAt w k v t) : w.frozen? ⟨k, 0, none⟩ = false := by
  have h' : w.heap[k]? = some (.cells #[v] t (0, 0)) := h
  simp [World.frozen?, h']
theorem CAt.later (h : CAt w k v t) (hb : Below w.heap.size w w') : CAt w' k v t := (hb.block k h.lt).trans h
theorem CAt.alloc (h : CAt w k v t) (o : Obj) : CAt (w.alloc o) k v t := (Below.heap_alloc w o k h.lt).trans h
theorem CAt.set (h : CAt w k v t) (u : Value) : CAt (w.setCell ⟨k, 0, none⟩ u) k u t := by
  have h' : w.heap[k]? = some (.cells #[v] t (0, 0)) := h
  show (w.setCell ⟨k, 0, none⟩ _).heap[k]? = _
  simp only [World.setCell, Array.getElem?_modify, if_true, h']
  rfl
end
theorem CAt.new (w : World) (v : Value) (t : TypeId) : CAt (w.alloc (.cells #[v] t)) w.heap.size v t := heap_alloc_new w _
theorem CAt.new1 (w : World) (o : Obj) (v : Value) (t : TypeId) : CAt ((w.alloc o).alloc (.cells #[v] t)) (w.heap.size + 1) v t := by
  have := CAt.new (w.alloc o) v t
  rwa [show (w.alloc o).heap.size = w.heap.size + 1 by simp] at this
theorem CAt.new2 (w : World) (o o2 : Obj) (v : Value) (t : TypeId) : CAt (((w.alloc o).alloc o2).alloc (.cells #[v] t)) (w.heap.size + 1 + 1) v t := by
  have := CAt.new1 (w.alloc o) o2 v t
  rwa [show (w.alloc o).heap.size = w.heap.size + 1 by simp] at this
theorem but_set5 {ms : List Nat} {B : Nat} {w w' : World} {k : Nat} (h : But ms B w w') (hk : k ∈ ms) (l c f e d : Int) : But ms B w (((((w'.setCell ⟨k, 0, none⟩ (.int .i64 l)).setCell ⟨k, 1, none⟩ (.int .i64 c)).setCell ⟨k, 2, none⟩ (.int .i64 f)).setCell ⟨k, 3, none⟩ (.int .i64 e)).setCell ⟨k, 4, none⟩ (.int .i64 d)) :=
  ((((h.setCell (p := ⟨k, 0, none⟩) (.inl hk) _).setCell (p := ⟨k, 1, none⟩) (.inl hk) _).setCell (p := ⟨k, 2, none⟩) (.inl hk) _).setCell (p := ⟨k, 3, none⟩) (.inl hk) _).setCell (p := ⟨k, 4, none⟩) (.inl hk) _

theorem made1_good (f : FuncId) (cap : Array Value) (x : BI) (n m : Nat) (w : World) (hent : ∀ w, (callFunc f cap).run Try.prog w = .ok (.enter f cap) w) (hn : CAt w n (.func (.func f) #[] cap) 50) (hm : BAt w m zI)
    (h : Calls Try.prog f cap w fun e w' => e = .returned (bV x) ∧ Below w.heap.size w w') :
    Calls Try.prog 35 #[.pointer (some ⟨n, 0, none⟩), .pointer (some ⟨m, 0, none⟩)] w fun e w' => e = .returned (.tuple #[]) ∧ But [m] w.heap.size w w' ∧ BAt w' m x := by
  have H := Lib.hid h
  have HM := Lib.hid hm
  have hc := hn.c
  clear hn hm h
  unfold bV at H
  go_enter Try.func35, Try.ntmps35
  go_wp2_with fail
  refine Calls.mono H.out ?_
  rintro e w1 ⟨rfl, hb⟩
  have HB := Lib.hid hb
  have HM1 := Lib.hid (HM.out.later hb)
  have c0 := HM1.out.c0
  have cz0 := HM1.out.fz 0
  have c1 := HM1.out.c1
  have cz1 := HM1.out.fz 1
  have c2 := HM1.out.c2
  have cz2 := HM1.out.fz 2
  have c3 := HM1.out.c3
  have cz3 := HM1.out.fz 3
  have c4 := HM1.out.c4
  have cz4 := HM1.out.fz 4
  have clt := HM1.out.lt
  clear hb
  go_wp2_with fail
  go_end0
  exact ⟨rfl, but_set5 (But.of HB.out) (by simp) _ _ _ _ _, HM1.out.set5 x.l x.c x.f x.e x.d⟩

theorem made1_bad (f : FuncId) (cap : Array Value) (k : Int) (n m : Nat) (w : World) (hent : ∀ w, (callFunc f cap).run Try.prog w = .ok (.enter f cap) w) (hn : CAt w n (.func (.func f) #[] cap) 50)
    (h : Calls Try.prog f cap w fun e w' => e = wrongK k ∧ Below w.heap.size w w') :
    Calls Try.prog 35 #[.pointer (some ⟨n, 0, none⟩), .pointer (some ⟨m, 0, none⟩)] w fun e w' => e = wrongK k ∧ Below w.heap.size w w' := by
  have H := Lib.hid h
  have hc := hn.c
  clear hn h
  go_enter Try.func35, Try.ntmps35
  go_wp2_with fail
  refine Calls.mono H.out ?_
  rintro e w1 ⟨rfl, hb⟩
  exact ⟨rfl, rfl, hb⟩

theorem enters_made_1 (args : Array Value) (w : World) : (callFunc 35 args).run Try.prog w = .ok (.enter 35 args) w := enters_of Try.func35 (by kernel_rfl) rfl args w

/-- What is told of it. -/
def outB (r : Except Int BI) : Value := match r with | .ok x => .tuple #[bV x, .int .i64 0] | .error n => .tuple #[bV zI, .int .i64 n]

theorem made_any (f : FuncId) (cap : Array Value) (r : Except Int BI) (w : World) (hent : ∀ w, (callFunc f cap).run Try.prog w = .ok (.enter f cap) w)
    (h : ∀ W, Below w.heap.size w W → Calls Try.prog f cap W fun e w' => e = endB r ∧ Below W.heap.size W w') :
    Calls Try.prog 23 #[.func (.func f) #[] cap] w fun e w' => e = .returned (outB r) ∧ Below w.heap.size w w' := by
  obtain ⟨W, hW⟩ : ∃ W, ((w.alloc (.cells #[.func (.func f) #[] cap] 50)).alloc (.cells #[.int .i64 zI.l, .int .i64 zI.c, .int .i64 zI.f, .int .i64 zI.e, .int .i64 zI.d] 23)).alloc (.cells #[.int .i64 zI.l, .int .i64 zI.c, .int .i64 zI.f, .int .i64 zI.e, .int .i64 zI.d] 23) = W := ⟨_, rfl⟩
  have hsz : W.heap.size = w.heap.size + 1 + 1 + 1 := by rw [← hW]; simp
  have HN := Lib.hid (show CAt W w.heap.size (.func (.func f) #[] cap) 50 by rw [← hW]; exact ((CAt.new w _ _).alloc _).alloc _)
  have HR := Lib.hid (show BAt W (w.heap.size + 1) zI by rw [← hW]; exact (BAt.new1 w _ zI).alloc _)
  have HM := Lib.hid (show BAt W (w.heap.size + 1 + 1) zI by rw [← hW]; exact BAt.new2 w _ _ zI)
  have HA := Lib.hid (show Below w.heap.size w W by rw [← hW]; exact (((Below.refl _ w).alloc (Nat.le_refl _) _).alloc (by simp) _).alloc (by simp; omega) _)
  have hmf : ∀ (fn : Fn) (first cap : Array Value) (w : World), (Instr.makeFunc fn first cap).run Try.prog w = .ok (.func fn first cap) w := fun _ _ _ _ => rfl
  have hAE : Below w.heap.size w (W.alloc (.cells #[.int .i64 0] 29)) := HA.out.alloc HA.out.size _
  cases r with
  | ok x =>
    have HC : Hid (Calls Try.prog 20 #[.func (.func 35) #[] #[.pointer (some ⟨w.heap.size, 0, none⟩), .pointer (some ⟨w.heap.size + 1 + 1, 0, none⟩)]] W fun e w' => e = .returned (.int .i64 0) ∧ Below w.heap.size w w' ∧ BAt w' (w.heap.size + 1) zI ∧ BAt w' (w.heap.size + 1 + 1) x) := by
      refine (catch_ok 35 _ [w.heap.size + 1 + 1] W (fun w' => BAt w' (w.heap.size + 1 + 1) x) (enters_made_1 _) (by simp [hsz]) ?_).mono ?_
      · have := made1_good f cap x w.heap.size (w.heap.size + 1 + 1) (W.alloc (.cells #[.int .i64 0] 29)) hent (HN.out.alloc _) (HM.out.alloc _) (h _ hAE)
        exact this.mono fun e w' ⟨h1, h2, h3⟩ => ⟨h1, by simpa using h2, h3⟩
      · rintro e w' ⟨rfl, hb, w1, h1, h2⟩
        refine ⟨rfl, HA.out.trans (hb.below (by rw [hsz]; omega) (by simp; omega)), ?_, ?_⟩
        · exact (hb.block _ (by rw [hsz]; omega) (by simp)).trans HR.out
        · exact (h2 _ (by rw [hsz]; omega)).trans h1
    have HE := Lib.hid (show Ending.returned (.tuple #[bV ⟨x.l, x.c, x.f, x.e, x.d⟩, .int .i64 0]) = .returned (outB (.ok x)) from rfl)
    generalize Ending.returned (outB (.ok x)) = z at *
    clear h hAE
    unfold zI at *
    go_enter Try.func23, Try.ntmps23
    go_wp2_with fail
    refine Calls.mono HC.out ?_
    rintro e w1 ⟨rfl, hb, hr, hm⟩
    have HB := Lib.hid hb
    have HR1 := Lib.hid hr
    have HM1 := Lib.hid hm
    have r0 := HR1.out.c0
    have rz0 := HR1.out.fz 0
    have r1 := HR1.out.c1
    have rz1 := HR1.out.fz 1
    have r2 := HR1.out.c2
    have rz2 := HR1.out.fz 2
    have r3 := HR1.out.c3
    have rz3 := HR1.out.fz 3
    have r4 := HR1.out.c4
    have rz4 := HR1.out.fz 4
    have rlt := HR1.out.lt
    have c0 := HM1.out.c0
    have c1 := HM1.out.c1
    have c2 := HM1.out.c2
    have c3 := HM1.out.c3
    have c4 := HM1.out.c4
    clear hb hr hm hW hsz
    go_wp2_with fail
    have HS := HR1.out.set5 x.l x.c x.f x.e x.d
    have f0 := HS.c0
    have f1 := HS.c1
    have f2 := HS.c2
    have f3 := HS.c3
    have f4 := HS.c4
    exact bodyPost_ret (v := .tuple #[bV ⟨x.l, x.c, x.f, x.e, x.d⟩, .int .i64 0]) (by simp [results, Try.results23, go_sem, f0, f1, f2, f3, f4, bV]) rfl ⟨HE.out, below_set5 HB.out (Nat.le_succ _) _ _ _ _ _⟩
  | error k =>
    have HC : Hid (Calls Try.prog 20 #[.func (.func 35) #[] #[.pointer (some ⟨w.heap.size, 0, none⟩), .pointer (some ⟨w.heap.size + 1 + 1, 0, none⟩)]] W fun e w' => e = .returned (.int .i64 k) ∧ Below W.heap.size W w') := by
      refine catch_no 35 _ k W (enters_made_1 _) ?_
      have := made1_bad f cap k w.heap.size (w.heap.size + 1 + 1) (W.alloc (.cells #[.int .i64 0] 29)) hent (HN.out.alloc _) (h _ hAE)
      exact this.mono fun e w' ⟨h1, h2⟩ => ⟨h1, by simpa using h2⟩
    have HE := Lib.hid (show Ending.returned (.tuple #[bV ⟨0, 0, 0, 0, 0⟩, .int .i64 k]) = .returned (outB (.error k)) from rfl)
    generalize Ending.returned (outB (.error k)) = z at *
    clear h hAE
    unfold zI at *
    go_enter Try.func23, Try.ntmps23
    go_wp2_with fail
    refine Calls.mono HC.out ?_
    rintro e w1 ⟨rfl, hb⟩
    have HB := Lib.hid (HA.out.trans (hb.mono HA.out.size))
    have HR1 := Lib.hid (HR.out.later hb)
    have HM1 := Lib.hid (HM.out.later hb)
    have r0 := HR1.out.c0
    have rz0 := HR1.out.fz 0
    have r1 := HR1.out.c1
    have rz1 := HR1.out.fz 1
    have r2 := HR1.out.c2
    have rz2 := HR1.out.fz 2
    have r3 := HR1.out.c3
    have rz3 := HR1.out.fz 3
    have r4 := HR1.out.c4
    have rz4 := HR1.out.fz 4
    have rlt := HR1.out.lt
    have c0 := HM1.out.c0
    have c1 := HM1.out.c1
    have c2 := HM1.out.c2
    have c3 := HM1.out.c3
    have c4 := HM1.out.c4
    clear hb hW hsz
    go_wp2_with fail
    have HS := HR1.out.set5 0 0 0 0 0
    have f0 := HS.c0
    have f1 := HS.c1
    have f2 := HS.c2
    have f3 := HS.c3
    have f4 := HS.c4
    exact bodyPost_ret (v := .tuple #[bV ⟨0, 0, 0, 0, 0⟩, .int .i64 k]) (by simp [results, Try.results23, go_sem, f0, f1, f2, f3, f4, bV]) rfl ⟨HE.out, below_set5 HB.out (Nat.le_succ _) _ _ _ _ _⟩
end Go.Proofs.Ytcnkejndblcbhaa

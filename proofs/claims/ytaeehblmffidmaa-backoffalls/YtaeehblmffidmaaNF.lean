/-
  Package backoff's reckoned, over whatever function it is handed; its Check, Most, Next and All, at whatever list and number, walked.
  Conditions: as each theorem states them.
-/
import Derived.Test.YtaeehblmffidmaaNE
import Derived.Shelf.Abstract
namespace Go.Proofs.Ytaeehblmffidmaa
open Go.RowKit

/-- One cell in a block of its own. -/
def CAt (w : World) (k : Nat) (v : Value) (t : TypeId) : Prop := w.heap[k]? = some (.cells #[v] t (0, 0))
section
variable {w w' : World} {k : Nat} {v : Value} {t : TypeId}
theorem CAt.lt (h : CAt w k v t) : k < w.heap.size := (Array.getElem?_eq_some_iff.1 h).1
theorem CAt.c (h : CAt w k v t) : w.cell? ⟨k, 0, none⟩ = some v := by
  have h' : w.heap[k]? = some (.cells #[v] t (0, 0)) := h
  simp [World.cell?, h']
theorem CAt.fz (h : CAt w k v t) : w.frozen? ⟨k, 0, none⟩ = false := by
  have h' : w.heap[k]? = some (.cells #[v] t (0, 0)) := h
  simp [World.frozen?, h']
theorem CAt.later (h : CAt w k v t) (hb : Below w.heap.size w w') : CAt w' k v t := (hb.block k h.lt).trans h
theorem CAt.alloc (h : CAt w k v t) (o : Obj) : CAt (w.alloc o) k v t := (Below.heap_alloc w o k h.lt).trans h
theorem CAt.set (h : CAt w k v t) (u : Value) : CAt (w.setCell ⟨k, 0, none⟩ u) k u t := by
  have h' : w.heap[k]? = some (.cells #[v] t (0, 0)) := h
  show (w.setCell ⟨k, 0, none⟩ _).heap[k]? = _
  simp only [World.setCell, Array.getElem?_modify, if_true, h']
  rfl
end
theorem CAt.new (w : World) (v : Value) (t : TypeId) : CAt (w.alloc (.cells #[v] t)) w.heap.size v t := heap_alloc_new w _
theorem CAt.new1 (w : World) (o : Obj) (v : Value) (t : TypeId) : CAt ((w.alloc o).alloc (.cells #[v] t)) (w.heap.size + 1) v t := by
  have := CAt.new (w.alloc o) v t
  rwa [show (w.alloc o).heap.size = w.heap.size + 1 by simp] at this
theorem CAt.new2 (w : World) (o o2 : Obj) (v : Value) (t : TypeId) : CAt (((w.alloc o).alloc o2).alloc (.cells #[v] t)) (w.heap.size + 1 + 1) v t := by
  have := CAt.new1 (w.alloc o) o2 v t
  rwa [show (w.alloc o).heap.size = w.heap.size + 1 by simp] at this
theorem CAt.newAt (w : World) (v : Value) (t : TypeId) (N : Nat) (h : w.heap.size = N) : CAt (w.alloc (.cells #[v] t)) N v t := by rw [← h]; exact CAt.new w v t
theorem CAt.other {w : World} {k : Nat} {v : Value} {t : TypeId} (h : CAt w k v t) {p : Addr} (hp : k ≠ p.block) (u : Value) : CAt (w.setCell p u) k v t := (Below.heap_setCell w p u k hp).trans h

theorem reck1_good (f : FuncId) (cap : Array Value) (x y : Int) (n m : Nat) (w : World) (hent : ∀ w, (callFunc f cap).run Try.prog w = .ok (.enter f cap) w) (hn : CAt w n (.func (.func f) #[] cap) 42) (hm : CAt w m (.int .i64 y) 3)
    (h : Calls Try.prog f cap w fun e w' => e = .returned (.int .i64 x) ∧ w' = w) :
    Calls Try.prog 29 #[.pointer (some ⟨n, 0, none⟩), .pointer (some ⟨m, 0, none⟩)] w fun e w' => e = .returned (.tuple #[]) ∧ But [m] w.heap.size w w' ∧ CAt w' m (.int .i64 x) 3 := by
  have H := Lib.hid h
  have HM := Lib.hid hm
  have hc := hn.c
  have cm := hm.c
  have zm := hm.fz
  clear hn hm h
  go_enter Try.func29, Try.ntmps29
  go_wp2_with fail
  refine Calls.mono H.out ?_
  rintro e w1 ⟨rfl, he⟩
  have he := he.symm
  subst he
  go_wp2_with fail
  go_end0
  exact ⟨rfl, (But.of (Below.refl _ _)).setCell (p := ⟨m, 0, none⟩) (.inl (by simp)) _, HM.out.set _⟩
theorem reck1_bad (f : FuncId) (cap : Array Value) (k : Int) (n m : Nat) (w : World) (hent : ∀ w, (callFunc f cap).run Try.prog w = .ok (.enter f cap) w) (hn : CAt w n (.func (.func f) #[] cap) 42)
    (h : Calls Try.prog f cap w fun e w' => e = wrongK k ∧ w' = w) :
    Calls Try.prog 29 #[.pointer (some ⟨n, 0, none⟩), .pointer (some ⟨m, 0, none⟩)] w fun e w' => e = wrongK k ∧ Below w.heap.size w w' := by
  have H := Lib.hid h
  have hc := hn.c
  clear hn h
  go_enter Try.func29, Try.ntmps29
  go_wp2_with fail
  refine Calls.mono H.out ?_
  rintro e w1 ⟨rfl, rfl⟩
  exact ⟨rfl, rfl, Below.refl _ _⟩
theorem enters_reckoned_1 (args : Array Value) (w : World) : (callFunc 29 args).run Try.prog w = .ok (.enter 29 args) w := enters_of Try.func29 (by kernel_rfl) rfl args w

/-- What is told of it. -/
def outI (r : Option Int) : Value := match r with | some x => .tuple #[.int .i64 x, .int .i64 0] | none => .tuple #[.int .i64 0, .int .i64 1]

theorem reckoned_any (f : FuncId) (cap : Array Value) (r : Option Int) (w : World) (hent : ∀ w, (callFunc f cap).run Try.prog w = .ok (.enter f cap) w)
    (h : ∀ W, Below w.heap.size w W → Calls Try.prog f cap W fun e w' => e = endI r ∧ w' = W) :
    Calls Try.prog 19 #[.func (.func f) #[] cap] w fun e w' => e = .returned (outI r) ∧ Below w.heap.size w w' := by
  obtain ⟨W, hW⟩ : ∃ W, (w.alloc (.cells #[.func (.func f) #[] cap] 42)).alloc (.cells #[.int .i64 0] 3) = W := ⟨_, rfl⟩
  have hsz : W.heap.size = w.heap.size + 1 + 1 := by rw [← hW]; simp
  have HN := Lib.hid (show CAt W w.heap.size (.func (.func f) #[] cap) 42 by rw [← hW]; exact (CAt.new w _ _).alloc _)
  have HM := Lib.hid (show CAt W (w.heap.size + 1) (.int .i64 0) 3 by rw [← hW]; exact CAt.new1 w _ _ _)
  have HA := Lib.hid (show Below w.heap.size w W by rw [← hW]; exact ((Below.refl _ w).alloc (Nat.le_refl _) _).alloc (by simp) _)
  have hmf : ∀ (fn : Fn) (first cap : Array Value) (w : World), (Instr.makeFunc fn first cap).run Try.prog w = .ok (.func fn first cap) w := fun _ _ _ _ => rfl
  have hAE : Below w.heap.size w (W.alloc (.cells #[.int .i64 0] 28)) := HA.out.alloc HA.out.size _
  cases r with
  | some x =>
    have HC : Hid (Calls Try.prog 16 #[.func (.func 29) #[] #[.pointer (some ⟨w.heap.size, 0, none⟩), .pointer (some ⟨w.heap.size + 1, 0, none⟩)]] W fun e w' => e = .returned (.int .i64 0) ∧ Below w.heap.size w w' ∧ CAt w' (w.heap.size + 1) (.int .i64 x) 3) := by
      refine (catch_ok 29 _ [w.heap.size + 1] W (fun w' => CAt w' (w.heap.size + 1) (.int .i64 x) 3) (enters_reckoned_1 _) (by simp [hsz]) ?_).mono ?_
      · have := reck1_good f cap x 0 w.heap.size (w.heap.size + 1) (W.alloc (.cells #[.int .i64 0] 28)) hent (HN.out.alloc _) (HM.out.alloc _) (h _ hAE)
        exact this.mono fun e w' ⟨h1, h2, h3⟩ => ⟨h1, by simpa using h2, h3⟩
      · rintro e w' ⟨rfl, hb, w1, h1, h2⟩
        refine ⟨rfl, HA.out.trans (hb.below (by rw [hsz]; omega) (by simp)), ?_⟩
        exact (h2 _ (by rw [hsz]; omega)).trans h1
    have HE := Lib.hid (show Ending.returned (.tuple #[.int .i64 x, .int .i64 0]) = .returned (outI (some x)) from rfl)
    generalize Ending.returned (outI (some x)) = z at *
    have HW := Lib.hid hW
    clear h hAE hW
    go_enter Try.func19, Try.ntmps19
    go_wp2_with fail
    rw [HW.out]
    refine Calls.mono HC.out ?_
    rintro e w1 ⟨rfl, hb, hm⟩
    have HB := Lib.hid hb
    have c0 := hm.c
    clear hb hm hsz
    go_wp2_with fail
    go_ret2
    exact ⟨HE.out, HB.out⟩
  | none =>
    have HC : Hid (Calls Try.prog 16 #[.func (.func 29) #[] #[.pointer (some ⟨w.heap.size, 0, none⟩), .pointer (some ⟨w.heap.size + 1, 0, none⟩)]] W fun e w' => e = .returned (.int .i64 1) ∧ Below W.heap.size W w') := by
      refine catch_no 29 _ 1 W (enters_reckoned_1 _) ?_
      have := reck1_bad f cap 1 w.heap.size (w.heap.size + 1) (W.alloc (.cells #[.int .i64 0] 28)) hent (HN.out.alloc _) (h _ hAE)
      exact this.mono fun e w' ⟨h1, h2⟩ => ⟨h1, by simpa using h2⟩
    have HE := Lib.hid (show Ending.returned (.tuple #[.int .i64 0, .int .i64 1]) = .returned (outI none) from rfl)
    generalize Ending.returned (outI none) = z at *
    have HW := Lib.hid hW
    clear h hAE hW
    go_enter Try.func19, Try.ntmps19
    go_wp2_with fail
    rw [HW.out]
    refine Calls.mono HC.out ?_
    rintro e w1 ⟨rfl, hb⟩
    have HB := Lib.hid (HA.out.trans (hb.mono HA.out.size))
    have c0 := (HM.out.later hb).c
    clear hb hsz
    go_wp2_with fail
    go_ret2
    exact ⟨HE.out, HB.out⟩

theorem enters_Check_1 (args : Array Value) (w : World) : (callFunc 17 args).run Try.prog w = .ok (.enter 17 args) w := enters_of Try.func17 (by kernel_rfl) rfl args w
theorem enters_Most_1 (args : Array Value) (w : World) : (callFunc 20 args).run Try.prog w = .ok (.enter 20 args) w := enters_of Try.func20 (by kernel_rfl) rfl args w
theorem enters_Next_1 (args : Array Value) (w : World) : (callFunc 22 args).run Try.prog w = .ok (.enter 22 args) w := enters_of Try.func22 (by kernel_rfl) rfl args w
theorem enters_All_1 (args : Array Value) (w : World) : (callFunc 24 args).run Try.prog w = .ok (.enter 24 args) w := enters_of Try.func24 (by kernel_rfl) rfl args w
/-- An error's number. -/
def errN (b : Bool) : Int := if b then 0 else 1
theorem check1_any (l : List Int) (v : Value) (n : Nat) (w : World) (h : NAt w v l) (hn : CAt w n v 22) : Calls Try.prog 17 #[.pointer (some ⟨n, 0, none⟩)] w fun e w' => e = endD (okL l) 1 ∧ Below w.heap.size w w' := by
  have HV := Lib.hid (demandValid_any l v w h)
  obtain ⟨A, c, rfl, _, _⟩ := h.slice
  have c0 := hn.c
  clear hn h
  generalize okL l = q at *
  cases q with
  | true =>
    simp only [endD_t] at HV ⊢
    go_enter Try.func17, Try.ntmps17
    go_wp2_with fail
    refine Calls.mono HV.out ?_
    rintro e w1 ⟨rfl, rfl⟩
    go_wp2_with fail
    go_end0
    exact ⟨rfl, Below.refl _ _⟩
  | false =>
    go_enter Try.func17, Try.ntmps17
    go_wp2_with fail
    refine Calls.mono HV.out ?_
    rintro e w1 ⟨rfl, rfl⟩
    exact ⟨rfl, rfl, Below.refl _ _⟩
theorem check_any (l : List Int) (v : Value) (w : World) (h : NAt w v l) : Calls Try.prog 8 #[v] w fun e w' => e = .returned (.int .i64 (errN (okL l))) ∧ Below w.heap.size w w' := by
  obtain ⟨W, hW⟩ : ∃ W, w.alloc (.cells #[v] 22) = W := ⟨_, rfl⟩
  have hsz : W.heap.size = w.heap.size + 1 := by rw [← hW]; simp
  have HN := Lib.hid (show CAt W w.heap.size v 22 by rw [← hW]; exact CAt.new w v _)
  have HA := Lib.hid (show Below w.heap.size w W by rw [← hW]; exact (Below.refl _ w).alloc (Nat.le_refl _) _)
  have hmf : ∀ (fn : Fn) (first cap : Array Value) (w : World), (Instr.makeFunc fn first cap).run Try.prog w = .ok (.func fn first cap) w := fun _ _ _ _ => rfl
  have h1 := check1_any l v w.heap.size (W.alloc (.cells #[.int .i64 0] 28)) (h.later (HA.out.alloc HA.out.size _)) (HN.out.alloc _)
  have HC : Hid (Calls Try.prog 16 #[.func (.func 17) #[] #[.pointer (some ⟨w.heap.size, 0, none⟩)]] W fun e w' => e = .returned (.int .i64 (errN (okL l))) ∧ Below W.heap.size W w') := by
    cases hq : okL l with
    | true =>
      rw [hq] at h1
      refine (catch_ok 17 _ [] W (fun _ => True) (enters_Check_1 _) (by simp) ?_).mono ?_
      · exact h1.mono fun e w' ⟨k1, k2⟩ => ⟨k1, But.of (by simpa using k2), trivial⟩
      · rintro e w' ⟨rfl, hb, _⟩
        exact ⟨rfl, hb.below (Nat.le_refl _) (by simp)⟩
    | false =>
      rw [hq] at h1
      refine catch_no 17 _ 1 W (enters_Check_1 _) ?_
      exact h1.mono fun e w' ⟨k1, k2⟩ => ⟨k1, by simpa using k2⟩
  generalize errN (okL l) = q at *
  obtain ⟨A, c, rfl, _, _⟩ := h.slice
  clear h1 hsz HN h
  go_enter Try.func8, Try.ntmps8
  go_wp2_with fail
  refine Calls.mono HC.out ?_
  rintro e w1 ⟨rfl, hb⟩
  have HB := Lib.hid (HA.out.trans (hb.mono HA.out.size))
  clear hb hW
  go_wp2_with fail
  go_ret
  exact ⟨rfl, HB.out⟩
theorem outI_pair (r : Option Int) : ∃ a b : Int, outI r = .tuple #[.int .i64 a, .int .i64 b] := by
  cases r with
  | some x => exact ⟨x, 0, rfl⟩
  | none => exact ⟨0, 1, rfl⟩
theorem most1_any (l : List Int) (v : Value) (n : Nat) (w : World) (h : NAt w v l) (hn : CAt w n v 22) : Calls Try.prog 20 #[.pointer (some ⟨n, 0, none⟩)] w fun e w' => e = endI (mostR l) ∧ w' = w := by
  have HV := Lib.hid (greatest_any l v w h)
  obtain ⟨A, c, rfl, _, _⟩ := h.slice
  have c0 := hn.c
  clear hn h
  generalize mostR l = r at *
  cases r with
  | some x =>
    simp only [endI] at HV ⊢
    go_enter Try.func20, Try.ntmps20
    go_wp2_with fail
    refine Calls.mono HV.out ?_
    rintro e w1 ⟨rfl, rfl⟩
    go_wp2_with fail
    go_ret
    exact ⟨rfl, rfl⟩
  | none =>
    go_enter Try.func20, Try.ntmps20
    go_wp2_with fail
    refine Calls.mono HV.out ?_
    rintro e w1 ⟨rfl, rfl⟩
    exact ⟨rfl, rfl, rfl⟩
theorem most_any (l : List Int) (v : Value) (w : World) (h : NAt w v l) : Calls Try.prog 9 #[v] w fun e w' => e = .returned (outI (mostR l)) ∧ Below w.heap.size w w' := by
  obtain ⟨W, hW⟩ : ∃ W, w.alloc (.cells #[v] 22) = W := ⟨_, rfl⟩
  have HN := Lib.hid (show CAt W w.heap.size v 22 by rw [← hW]; exact CAt.new w v _)
  have HA := Lib.hid (show Below w.heap.size w W by rw [← hW]; exact (Below.refl _ w).alloc (Nat.le_refl _) _)
  have hmf : ∀ (fn : Fn) (first cap : Array Value) (w : World), (Instr.makeFunc fn first cap).run Try.prog w = .ok (.func fn first cap) w := fun _ _ _ _ => rfl
  have HC := Lib.hid (reckoned_any 20 #[.pointer (some ⟨w.heap.size, 0, none⟩)] (mostR l) W (enters_Most_1 _) (fun X hX => most1_any l v w.heap.size X ((h.later HA.out).later hX) (HN.out.later hX)))
  obtain ⟨q1, q2, hq⟩ := outI_pair (mostR l)
  rw [hq] at HC ⊢
  obtain ⟨A, c, rfl, _, _⟩ := h.slice
  clear HN h
  go_enter Try.func9, Try.ntmps9
  go_wp2_with fail
  refine Calls.mono HC.out ?_
  rintro e w1 ⟨rfl, hb⟩
  have HB := Lib.hid (HA.out.trans (hb.mono HA.out.size))
  clear hb hW
  go_wp2_with fail
  go_ret2
  exact ⟨rfl, HB.out⟩
theorem next1_any (l : List Int) (v : Value) (k : Int) (n m : Nat) (w : World) (h : NAt w v l) (hn : CAt w n v 22) (hm : CAt w m (.int .i64 k) 3) : Calls Try.prog 22 #[.pointer (some ⟨n, 0, none⟩), .pointer (some ⟨m, 0, none⟩)] w fun e w' => e = endI (afterR l k) ∧ w' = w := by
  have HV := Lib.hid (after_any l k v w h)
  obtain ⟨A, c, rfl, _, _⟩ := h.slice
  have c0 := hn.c
  have c1 := hm.c
  clear hn hm h
  generalize afterR l k = r at *
  cases r with
  | some x =>
    simp only [endI] at HV ⊢
    go_enter Try.func22, Try.ntmps22
    go_wp2_with fail
    refine Calls.mono HV.out ?_
    rintro e w1 ⟨rfl, rfl⟩
    go_wp2_with fail
    go_ret
    exact ⟨rfl, rfl⟩
  | none =>
    go_enter Try.func22, Try.ntmps22
    go_wp2_with fail
    refine Calls.mono HV.out ?_
    rintro e w1 ⟨rfl, rfl⟩
    exact ⟨rfl, rfl, rfl⟩
theorem next_any (l : List Int) (k : Int) (v : Value) (w : World) (h : NAt w v l) : Calls Try.prog 11 #[v, .int .i64 k] w fun e w' => e = .returned (outI (afterR l k)) ∧ Below w.heap.size w w' := by
  obtain ⟨W, hW⟩ : ∃ W, (w.alloc (.cells #[v] 22)).alloc (.cells #[.int .i64 k] 3) = W := ⟨_, rfl⟩
  have HN := Lib.hid (show CAt W w.heap.size v 22 by rw [← hW]; exact (CAt.new w v _).alloc _)
  have HM := Lib.hid (show CAt W (w.heap.size + 1) (.int .i64 k) 3 by rw [← hW]; exact CAt.new1 w _ _ _)
  have HA := Lib.hid (show Below w.heap.size w W by rw [← hW]; exact ((Below.refl _ w).alloc (Nat.le_refl _) _).alloc (by simp) _)
  have hmf : ∀ (fn : Fn) (first cap : Array Value) (w : World), (Instr.makeFunc fn first cap).run Try.prog w = .ok (.func fn first cap) w := fun _ _ _ _ => rfl
  have HC := Lib.hid (reckoned_any 22 #[.pointer (some ⟨w.heap.size, 0, none⟩), .pointer (some ⟨w.heap.size + 1, 0, none⟩)] (afterR l k) W (enters_Next_1 _) (fun X hX => next1_any l v k w.heap.size (w.heap.size + 1) X ((h.later HA.out).later hX) (HN.out.later hX) (HM.out.later hX)))
  obtain ⟨q1, q2, hq⟩ := outI_pair (afterR l k)
  rw [hq] at HC ⊢
  obtain ⟨A, c, rfl, _, _⟩ := h.slice
  clear HN HM h
  go_enter Try.func11, Try.ntmps11
  go_wp2_with fail
  refine Calls.mono HC.out ?_
  rintro e w1 ⟨rfl, hb⟩
  have HB := Lib.hid (HA.out.trans (hb.mono HA.out.size))
  clear hb hW
  go_wp2_with fail
  go_ret2
  exact ⟨rfl, HB.out⟩
theorem all1_any (l : List Int) (v : Value) (k : Int) (n m : Nat) (w : World) (h : NAt w v l) (hn : CAt w n v 22) (hm : CAt w m (.int .i64 k) 3) : Calls Try.prog 24 #[.pointer (some ⟨n, 0, none⟩), .pointer (some ⟨m, 0, none⟩)] w fun e w' => e = endI (totR l k) ∧ w' = w := by
  have HV := Lib.hid (total_any l k v w h)
  obtain ⟨A, c, rfl, _, _⟩ := h.slice
  have c0 := hn.c
  have c1 := hm.c
  clear hn hm h
  generalize totR l k = r at *
  cases r with
  | some x =>
    simp only [endI] at HV ⊢
    go_enter Try.func24, Try.ntmps24
    go_wp2_with fail
    refine Calls.mono HV.out ?_
    rintro e w1 ⟨rfl, rfl⟩
    go_wp2_with fail
    go_ret
    exact ⟨rfl, rfl⟩
  | none =>
    go_enter Try.func24, Try.ntmps24
    go_wp2_with fail
    refine Calls.mono HV.out ?_
    rintro e w1 ⟨rfl, rfl⟩
    exact ⟨rfl, rfl, rfl⟩
theorem all_any (l : List Int) (k : Int) (v : Value) (w : World) (h : NAt w v l) : Calls Try.prog 14 #[v, .int .i64 k] w fun e w' => e = .returned (outI (totR l k)) ∧ Below w.heap.size w w' := by
  obtain ⟨W, hW⟩ : ∃ W, (w.alloc (.cells #[v] 22)).alloc (.cells #[.int .i64 k] 3) = W := ⟨_, rfl⟩
  have HN := Lib.hid (show CAt W w.heap.size v 22 by rw [← hW]; exact (CAt.new w v _).alloc _)
  have HM := Lib.hid (show CAt W (w.heap.size + 1) (.int .i64 k) 3 by rw [← hW]; exact CAt.new1 w _ _ _)
  have HA := Lib.hid (show Below w.heap.size w W by rw [← hW]; exact ((Below.refl _ w).alloc (Nat.le_refl _) _).alloc (by simp) _)
  have hmf : ∀ (fn : Fn) (first cap : Array Value) (w : World), (Instr.makeFunc fn first cap).run Try.prog w = .ok (.func fn first cap) w := fun _ _ _ _ => rfl
  have HC := Lib.hid (reckoned_any 24 #[.pointer (some ⟨w.heap.size, 0, none⟩), .pointer (some ⟨w.heap.size + 1, 0, none⟩)] (totR l k) W (enters_All_1 _) (fun X hX => all1_any l v k w.heap.size (w.heap.size + 1) X ((h.later HA.out).later hX) (HN.out.later hX) (HM.out.later hX)))
  obtain ⟨q1, q2, hq⟩ := outI_pair (totR l k)
  rw [hq] at HC ⊢
  obtain ⟨A, c, rfl, _, _⟩ := h.slice
  clear HN HM h
  go_enter Try.func14, Try.ntmps14
  go_wp2_with fail
  refine Calls.mono HC.out ?_
  rintro e w1 ⟨rfl, hb⟩
  have HB := Lib.hid (HA.out.trans (hb.mono HA.out.size))
  clear hb hW
  go_wp2_with fail
  go_ret2
  exact ⟨rfl, HB.out⟩
end Go.Proofs.Ytaeehblmffidmaa

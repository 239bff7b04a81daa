/-
  Parse of package reply, walked: it answers what the plain mathematics says, in memory of the call's own.
  Conditions: as the theorem states them: the lines lie in memory.
-/
import Derived.Test.YtlefeebhilfkjaaDoorF
import Derived.Shelf.Abstract
namespace Go.Proofs.YtlefeebhilfkjaaDoor
open Go.RowKit

theorem enterParse1 (args : Array Value) (w : World) : (callFunc 23 args).run Tryd.prog w = .ok (.enter 23 args) w := enters_of Tryd.func23 (by kernel_rfl) rfl args w

theorem parse1_good (l : List (List UInt8)) (v : Value) (n m : Nat) (w : World) (hl : TextsAt w v l) (hc : w.cell? ⟨n, 0, none⟩ = some v) (hr : RAt w m 0 (.slice none 0 0)) (he : (parseL l).err = 0) :
    Calls Tryd.prog 23 #[.pointer (some ⟨n, 0, none⟩), .pointer (some ⟨m, 0, none⟩)] w fun e w' =>
      e = .returned (.tuple #[]) ∧ ∃ w1 lv, Below w.heap.size w w1 ∧ StrRow w1 w.heap.size lv (parseL l).rows ∧ w' = (w1.setCell ⟨m, 0, none⟩ (.int .i64 (parseL l).code)).setCell ⟨m, 1, none⟩ lv := by
  have HR := Lib.hid hr
  have HL := Lib.hid (readLines_any l v w hl)
  have HE := Lib.hid he
  have hshape : ∃ A n c, v = .slice A n c := by obtain ⟨A, c, hv, _⟩ := hl; exact ⟨_, _, _, hv⟩
  obtain ⟨vA, vn, vc, rfl⟩ := hshape
  clear hr hl he
  go_enter Tryd.func23, Tryd.ntmps23
  go_wp2_with fail
  refine HL.out.mono ?_
  rintro e w1 ⟨hend, hb⟩
  rcases hend with ⟨_, lv, rfl, hrow⟩ | ⟨h, _⟩
  · have hr1 := HR.out.later hb
    have hc0 := hr1.c0
    have hc1 := hr1.c1
    have hz0 := hr1.fz 0
    have hz1 := hr1.fz 1
    obtain ⟨gA, gn, gc, rfl⟩ := row_shape hrow
    have HB := Lib.hid hb
    have HW := Lib.hid hrow
    clear hb hrow hr1
    go_wp2_with fail
    go_end0
    exact ⟨rfl, w1, _, HB.out, HW.out, rfl⟩
  · exact absurd HE.out h

theorem parse1_bad (l : List (List UInt8)) (v : Value) (n m : Nat) (w : World) (hl : TextsAt w v l) (hc : w.cell? ⟨n, 0, none⟩ = some v) (he : (parseL l).err ≠ 0) :
    Calls Tryd.prog 23 #[.pointer (some ⟨n, 0, none⟩), .pointer (some ⟨m, 0, none⟩)] w fun e w' =>
      e = .panicked [{ v := .iface 63 (.agg #[.int .i64 (parseL l).err]), recovered := false }] ∧ Below w.heap.size w w' := by
  have HL := Lib.hid (readLines_any l v w hl)
  have HE := Lib.hid he
  have hshape : ∃ A n c, v = .slice A n c := by obtain ⟨A, c, hv, _⟩ := hl; exact ⟨_, _, _, hv⟩
  obtain ⟨vA, vn, vc, rfl⟩ := hshape
  clear hl he
  go_enter Tryd.func23, Tryd.ntmps23
  go_wp2_with fail
  refine HL.out.mono ?_
  rintro e w1 ⟨hend, hb⟩
  rcases hend with ⟨h, _⟩ | ⟨_, rfl⟩
  · exact absurd h HE.out
  · exact ⟨rfl, rfl, hb⟩

theorem go_bad (l : List (List UInt8)) : ∀ (more : Bool) (code : Nat) (acc : List (List UInt8)), (goL more code acc l).err ≠ 0 → (goL more code acc l).code = 0 ∧ (goL more code acc l).rows = [] := by
  induction l with
  | nil =>
    intro more code acc
    rw [goL]
    split
    · intro _; exact ⟨rfl, rfl⟩
    · intro h; exact absurd rfl h
  | cons s t ih =>
    intro more code acc
    rw [goL]
    split
    · intro _; exact ⟨rfl, rfl⟩
    · split
      · intro _; exact ⟨rfl, rfl⟩
      · exact ih _ _ _

theorem parse_bad {l : List (List UInt8)} (h : (parseL l).err ≠ 0) : (parseL l).code = 0 ∧ (parseL l).rows = [] := by
  unfold parseL at h ⊢
  split
  · rename_i h16
    rw [if_pos h16] at h
    exact go_bad l _ _ _ h
  · exact ⟨rfl, rfl⟩

/-- A world in which Parse's own variables have been made. -/
def made (v : Value) (w : World) : World := ((w.alloc (.cells #[v] 24)).alloc (.cells #[.int .i64 0, .slice none 0 0] 26)).alloc (.cells #[.int .i64 0, .slice none 0 0] 26)

theorem made_size (v : Value) (w : World) : (made v w).heap.size = w.heap.size + 3 := by simp [made]
theorem made_below (v : Value) (w : World) : Below w.heap.size w (made v w) := (((Below.refl _ w).alloc (Nat.le_refl _) _).alloc (by simp) _).alloc (by simp; omega) _
theorem made_c (v : Value) (w : World) : (made v w).cell? ⟨w.heap.size, 0, none⟩ = some v := by
  have h1 := heap_alloc_new w (.cells #[v] 24)
  have h2 : (made v w).heap[w.heap.size]? = some (.cells #[v] 24) := by
    unfold made
    rw [Below.heap_alloc _ _ _ (by simp; omega), Below.heap_alloc _ _ _ (by simp), h1]
  simp [World.cell?, h2]
theorem made_r1 (v : Value) (w : World) : RAt (made v w) (w.heap.size + 1) 0 (.slice none 0 0) := by
  have h1 := heap_alloc_new (w.alloc (.cells #[v] 24)) (.cells #[.int .i64 0, .slice none 0 0] 26)
  rw [World.size_alloc] at h1
  exact RAt.alloc h1 _
theorem made_r2 (v : Value) (w : World) : RAt (made v w) (w.heap.size + 2) 0 (.slice none 0 0) := by
  have h1 := heap_alloc_new ((w.alloc (.cells #[v] 24)).alloc (.cells #[.int .i64 0, .slice none 0 0] 26)) (.cells #[.int .i64 0, .slice none 0 0] 26)
  rw [World.size_alloc, World.size_alloc] at h1
  exact h1

theorem catch_good (l : List (List UInt8)) (v : Value) (w : World) (hl : TextsAt w v l) (he : (parseL l).err = 0) :
    Calls Tryd.prog 22 #[.func (.func 23) #[] #[.pointer (some ⟨w.heap.size, 0, none⟩), .pointer (some ⟨w.heap.size + 2, 0, none⟩)]] (made v w) fun e w' =>
      e = .returned (.int .i64 0) ∧ ∃ lv, RAt w' (w.heap.size + 1) 0 (.slice none 0 0) ∧ RAt w' (w.heap.size + 2) (parseL l).code lv ∧ StrRow w' (w.heap.size + 3) lv (parseL l).rows ∧ Below w.heap.size w w' := by
  have hsz := made_size v w
  have hbel : Below (made v w).heap.size (made v w) ((made v w).alloc (.cells #[.int .i64 0] 30)) := (Below.refl _ _).alloc (Nat.le_refl _) _
  have h := parse1_good l v w.heap.size (w.heap.size + 2) ((made v w).alloc (.cells #[.int .i64 0] 30)) ((hl.later (made_below v w)).later hbel)
    ((hbel.cell (p := ⟨w.heap.size, 0, none⟩) (by rw [hsz]; exact Nat.lt_add_of_pos_right (by decide))).trans (made_c v w)) ((made_r2 v w).alloc _) he
  refine (catch_ret 23 _ (made v w) (fun w' => ∃ w1 lv, Below ((made v w).heap.size + 1) ((made v w).alloc (.cells #[.int .i64 0] 30)) w1 ∧ StrRow w1 ((made v w).heap.size + 1) lv (parseL l).rows ∧ w' = (w1.setCell ⟨w.heap.size + 2, 0, none⟩ (.int .i64 (parseL l).code)).setCell ⟨w.heap.size + 2, 1, none⟩ lv) (enterParse1 _) ?_).mono ?_
  · refine h.mono ?_
    rintro e w' ⟨rfl, w1, lv, hb, hrow, rfl⟩
    rw [World.size_alloc] at hb hrow
    refine ⟨rfl, ⟨w1, lv, hb, hrow, rfl⟩, ?_⟩
    rw [Below.heap_setCell _ _ _ _ (by rw [hsz]; simp), Below.heap_setCell _ _ _ _ (by rw [hsz]; simp), hb.block _ (Nat.lt_succ_self _)]
    exact heap_alloc_new _ _
  · rintro e w' ⟨rfl, w2, ⟨w1, lv, hb, hrow, rfl⟩, rfl⟩
    have hA1 : RAt w1 (w.heap.size + 1) 0 (.slice none 0 0) := (hb.block _ (by rw [hsz]; omega)).trans ((made_r1 v w).alloc _)
    have hA2 : RAt w1 (w.heap.size + 2) 0 (.slice none 0 0) := (hb.block _ (by rw [hsz]; omega)).trans ((made_r2 v w).alloc _)
    refine ⟨rfl, lv, ?_, ?_, ?_, ?_⟩
    · exact ((hA1.other (p := ⟨w.heap.size + 2, 0, none⟩) (by simp) _).other (p := ⟨w.heap.size + 2, 1, none⟩) (by simp) _).other (p := ⟨(made v w).heap.size, 0, none⟩) (by rw [hsz]; simp) _
    · exact ((hA2.set0 _).set1 _).other (p := ⟨(made v w).heap.size, 0, none⟩) (by rw [hsz]; simp) _
    · rw [hsz] at hrow ⊢
      exact StrRow.mono (ownsRow_setCell_below (ownsRow_setCell_below (ownsRow_setCell_below hrow (a := ⟨w.heap.size + 2, 0, none⟩) (by show w.heap.size + 2 < _; omega) _) (a := ⟨w.heap.size + 2, 1, none⟩) (by show w.heap.size + 2 < _; omega) _) (a := ⟨w.heap.size + 3, 0, none⟩) (by show w.heap.size + 3 < _; omega) _) (Nat.le_succ _)
    · have hb0 : Below w.heap.size w w1 := ((made_below v w).trans (hbel.mono (by rw [hsz]; omega))).trans (hb.mono (by rw [hsz]; omega))
      exact ((hb0.setCell (p := ⟨w.heap.size + 2, 0, none⟩) (Nat.le_add_right _ _) _).setCell (p := ⟨w.heap.size + 2, 1, none⟩) (Nat.le_add_right _ _) _).setCell (p := ⟨(made v w).heap.size, 0, none⟩) (by rw [hsz]; exact Nat.le_add_right _ _) _

theorem catch_bad (l : List (List UInt8)) (v : Value) (w : World) (hl : TextsAt w v l) (he : (parseL l).err ≠ 0) :
    Calls Tryd.prog 22 #[.func (.func 23) #[] #[.pointer (some ⟨w.heap.size, 0, none⟩), .pointer (some ⟨w.heap.size + 2, 0, none⟩)]] (made v w) fun e w' =>
      e = .returned (.int .i64 (parseL l).err) ∧ RAt w' (w.heap.size + 1) 0 (.slice none 0 0) ∧ Below w.heap.size w w' := by
  have hsz := made_size v w
  have hbel : Below (made v w).heap.size (made v w) ((made v w).alloc (.cells #[.int .i64 0] 30)) := (Below.refl _ _).alloc (Nat.le_refl _) _
  have h := parse1_bad l v w.heap.size (w.heap.size + 2) ((made v w).alloc (.cells #[.int .i64 0] 30)) ((hl.later (made_below v w)).later hbel)
    ((hbel.cell (p := ⟨w.heap.size, 0, none⟩) (by rw [hsz]; exact Nat.lt_add_of_pos_right (by decide))).trans (made_c v w)) he
  refine (catch_fault 23 _ (parseL l).err (made v w) (fun w' => Below ((made v w).heap.size + 1) ((made v w).alloc (.cells #[.int .i64 0] 30)) w') (enterParse1 _) ?_).mono ?_
  · refine h.mono ?_
    rintro e w' ⟨rfl, hb⟩
    rw [World.size_alloc] at hb
    refine ⟨rfl, hb, ?_⟩
    rw [hb.block _ (Nat.lt_succ_self _)]
    exact heap_alloc_new _ _
  · rintro e w' ⟨rfl, w1, hb, rfl⟩
    have hA1 : RAt w1 (w.heap.size + 1) 0 (.slice none 0 0) := (hb.block _ (by rw [hsz]; omega)).trans ((made_r1 v w).alloc _)
    have hb0 : Below w.heap.size w w1 := ((made_below v w).trans (hbel.mono (by rw [hsz]; omega))).trans (hb.mono (by rw [hsz]; omega))
    refine ⟨rfl, ?_, ?_⟩
    · exact (hA1.alloc _).other (p := ⟨(made v w).heap.size, 0, none⟩) (by rw [hsz]; simp) _
    · exact (hb0.alloc (by have := hb0.size; exact this) _).setCell (p := ⟨(made v w).heap.size, 0, none⟩) (by rw [hsz]; exact Nat.le_add_right _ _) _

theorem parse_any (l : List (List UInt8)) (v : Value) (w : World) (hl : TextsAt w v l) :
    Calls Tryd.prog 14 #[v] w fun e w' => ∃ lv, e = .returned (.tuple #[.agg #[.int .i64 (parseL l).code, lv], .int .i64 (parseL l).err]) ∧ StrRow w' w.heap.size lv (parseL l).rows ∧ Below w.heap.size w w' := by
  have hmf : ∀ (fn : Fn) (first cap : Array Value) (w : World), (Instr.makeFunc fn first cap).run Tryd.prog w = .ok (.func fn first cap) w := fun _ _ _ _ => rfl
  have hshape : ∃ A n c, v = .slice A n c := by obtain ⟨A, c, hv, _⟩ := hl; exact ⟨_, _, _, hv⟩
  obtain ⟨vA, vn, vc, rfl⟩ := hshape
  by_cases he : (parseL l).err = 0
  · have HC := Lib.hid (catch_good l _ w hl he)
    have HE := Lib.hid he
    clear hl he
    go_enter Tryd.func14, Tryd.ntmps14
    go_wp2_with fail
    refine Calls.mono (show _ from HC.out) ?_
    rintro e w1 ⟨rfl, lv, hr1, hr2, hrow, hb⟩
    obtain ⟨gA, gn, gc, rfl⟩ := row_shape hrow
    have hc0 := hr1.c0
    have hc1 := hr1.c1
    have hz0 := hr1.fz 0
    have hz1 := hr1.fz 1
    have hd0 := hr2.c0
    have hd1 := hr2.c1
    have HB := Lib.hid hb
    have HW := Lib.hid hrow
    have H1 := Lib.hid hr1
    clear hb hrow hr1 hr2
    go_wp2_with fail
    have hf := (H1.out.set0 (parseL l).code).set1 (.slice gA gn gc)
    have hf0 := hf.c0
    have hf1 := hf.c1
    refine bodyPost_ret (v := .tuple #[.agg #[.int .i64 (parseL l).code, .slice gA gn gc], .int .i64 0]) (by simp [results, Tryd.results14, go_sem, hf0, hf1]) rfl ?_
    refine ⟨_, by rw [HE.out], ?_, (HB.out.setCell (p := ⟨w.heap.size + 1, 0, none⟩) (Nat.le_succ _) _).setCell (p := ⟨w.heap.size + 1, 1, none⟩) (Nat.le_succ _) _⟩
    exact StrRow.mono (ownsRow_setCell_below (ownsRow_setCell_below HW.out (a := ⟨w.heap.size + 1, 0, none⟩) (by show w.heap.size + 1 < _; omega) _) (a := ⟨w.heap.size + 1, 1, none⟩) (by show w.heap.size + 1 < _; omega) _) (Nat.le_add_right _ 3)
  · have HC := Lib.hid (catch_bad l _ w hl he)
    have HE := Lib.hid (parse_bad he)
    have hne : ((parseL l).err != 0) = true := bne_iff_ne.2 he
    clear hl he
    go_enter Tryd.func14, Tryd.ntmps14
    go_wp2_with fail
    refine Calls.mono (show _ from HC.out) ?_
    rintro e w1 ⟨rfl, hr1, hb⟩
    have hc0 := hr1.c0
    have hc1 := hr1.c1
    have hz0 := hr1.fz 0
    have hz1 := hr1.fz 1
    have HB := Lib.hid hb
    have H1 := Lib.hid hr1
    clear hb hr1
    go_wp2_with fail
    have hf := (H1.out.set0 0).set1 (.slice none 0 0)
    have hf0 := hf.c0
    have hf1 := hf.c1
    refine bodyPost_ret (v := .tuple #[.agg #[.int .i64 0, .slice none 0 0], .int .i64 (parseL l).err]) (by simp [results, Tryd.results14, go_sem, hf0, hf1]) rfl ?_
    refine ⟨.slice none 0 0, by rw [HE.out.1]; rfl, ?_, (HB.out.setCell (p := ⟨w.heap.size + 1, 0, none⟩) (Nat.le_succ _) _).setCell (p := ⟨w.heap.size + 1, 1, none⟩) (Nat.le_succ _) _⟩
    rw [HE.out.2]
    exact StrRow.zero _ _
end Go.Proofs.YtlefeebhilfkjaaDoor

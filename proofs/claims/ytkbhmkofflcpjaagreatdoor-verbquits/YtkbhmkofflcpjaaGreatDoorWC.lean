/-
  The page's Verb, walked: which commands may be.
  Conditions: as each theorem states them.
-/
import Derived.Test.YtkbhmkofflcpjaaGreatDoorWA
namespace Go.Proofs.YtkbhmkofflcpjaaGreatDoor
open Go.RowKit

theorem below_step {a b c : World} (h : Below a.heap.size a b) (k : Below b.heap.size b c) : Below a.heap.size a c := h.trans (k.mono h.size)

set_option maxHeartbeats 2000000 in
theorem rverb_helo1 (v : Vb) (w : World) (hv : Short 10000 v) (h : v.kind = 1) :
    Calls Tryz.prog 16 #[.agg #[.int .i64 v.kind, .string ⟨v.word.toArray⟩, .bool v.null, .string ⟨v.l.toArray⟩, .string ⟨v.d.toArray⟩, .int .i64 v.size]] w fun e w' => e = .returned (.bool (validV v)) ∧ Below w.heap.size w w' := by
  have HA := Lib.hid ((Below.refl _ w).alloc (Nat.le_refl _) (.cells #[.int .i64 v.kind, .string ⟨v.word.toArray⟩, .bool v.null, .string ⟨v.l.toArray⟩, .string ⟨v.d.toArray⟩, .int .i64 v.size] 27))
  have HM := Lib.hid (VAt.new w v)
  obtain ⟨k, wd, x, l, d, z⟩ := v
  obtain ⟨hwl, hl, hd⟩ := hv
  simp only at hwl hl hd HA HM h ⊢
  subst h
  have heq : ∀ w, (binOp .eql 27 (.agg #[.int .i64 1, .string ⟨wd.toArray⟩, .bool x, .string ⟨l.toArray⟩, .string ⟨d.toArray⟩, .int .i64 z]) (.agg #[.int .i64 1, .string ⟨wd.toArray⟩, .bool false, .string ⟨#[]⟩, .string ⟨#[]⟩, .int .i64 0])).run Tryz.prog w = .ok (.bool (bareV ⟨1, wd, x, l, d, z⟩)) w := fun w => by
    rw [← bare_self]
    exact eq_verb ⟨1, wd, x, l, d, z⟩ ⟨1, wd, false, [], [], 0⟩ w
  have HE := Lib.hid (show validV ⟨1, wd, x, l, d, z⟩ = (bareV ⟨1, wd, x, l, d, z⟩ && domL wd) by simp [validV])
  generalize validV ⟨1, wd, x, l, d, z⟩ = r at *
  generalize bareV ⟨1, wd, x, l, d, z⟩ = q at *
  cases q with
  | false =>
    go_enter Tryz.func16, Tryz.ntmps16
    go_wp2_with fail
    go_ret
    exact ⟨ret_bool HE.out.symm, (by first | exact (HA.out.alloc HA.out.size _) | exact ((HA.out.alloc HA.out.size _).setCell (p := ⟨w.heap.size + 1, 1, none⟩) (Nat.le_succ _) _) | exact (((HA.out.alloc HA.out.size _).setCell (p := ⟨w.heap.size + 1, 3, none⟩) (Nat.le_succ _) _).setCell (p := ⟨w.heap.size + 1, 4, none⟩) (Nat.le_succ _) _))⟩
  | true =>
    have HW := Lib.hid (fun W => rdomain_any wd W hwl)
    generalize domL wd = y at *
    go_enter Tryz.func16, Tryz.ntmps16
    go_wp2_with fail
    refine Calls.mono (HW.out _) ?_
    rintro e w1 ⟨rfl, hb⟩
    have HB := Lib.hid (below_step (by first | exact (HA.out.alloc HA.out.size _) | exact ((HA.out.alloc HA.out.size _).setCell (p := ⟨w.heap.size + 1, 1, none⟩) (Nat.le_succ _) _) | exact (((HA.out.alloc HA.out.size _).setCell (p := ⟨w.heap.size + 1, 3, none⟩) (Nat.le_succ _) _).setCell (p := ⟨w.heap.size + 1, 4, none⟩) (Nat.le_succ _) _)) hb)
    clear hb
    go_wp2_with fail
    go_ret
    exact ⟨ret_bool (by rw [HE.out]; rfl), HB.out⟩

set_option maxHeartbeats 2000000 in
theorem rverb_helo2 (v : Vb) (w : World) (hv : Short 10000 v) (h : v.kind = 2) :
    Calls Tryz.prog 16 #[.agg #[.int .i64 v.kind, .string ⟨v.word.toArray⟩, .bool v.null, .string ⟨v.l.toArray⟩, .string ⟨v.d.toArray⟩, .int .i64 v.size]] w fun e w' => e = .returned (.bool (validV v)) ∧ Below w.heap.size w w' := by
  have HA := Lib.hid ((Below.refl _ w).alloc (Nat.le_refl _) (.cells #[.int .i64 v.kind, .string ⟨v.word.toArray⟩, .bool v.null, .string ⟨v.l.toArray⟩, .string ⟨v.d.toArray⟩, .int .i64 v.size] 27))
  have HM := Lib.hid (VAt.new w v)
  obtain ⟨k, wd, x, l, d, z⟩ := v
  obtain ⟨hwl, hl, hd⟩ := hv
  simp only at hwl hl hd HA HM h ⊢
  subst h
  have heq : ∀ w, (binOp .eql 27 (.agg #[.int .i64 2, .string ⟨wd.toArray⟩, .bool x, .string ⟨l.toArray⟩, .string ⟨d.toArray⟩, .int .i64 z]) (.agg #[.int .i64 2, .string ⟨wd.toArray⟩, .bool false, .string ⟨#[]⟩, .string ⟨#[]⟩, .int .i64 0])).run Tryz.prog w = .ok (.bool (bareV ⟨2, wd, x, l, d, z⟩)) w := fun w => by
    rw [← bare_self]
    exact eq_verb ⟨2, wd, x, l, d, z⟩ ⟨2, wd, false, [], [], 0⟩ w
  have HE := Lib.hid (show validV ⟨2, wd, x, l, d, z⟩ = (bareV ⟨2, wd, x, l, d, z⟩ && domL wd) by simp [validV])
  generalize validV ⟨2, wd, x, l, d, z⟩ = r at *
  generalize bareV ⟨2, wd, x, l, d, z⟩ = q at *
  cases q with
  | false =>
    go_enter Tryz.func16, Tryz.ntmps16
    go_wp2_with fail
    go_ret
    exact ⟨ret_bool HE.out.symm, (by first | exact (HA.out.alloc HA.out.size _) | exact ((HA.out.alloc HA.out.size _).setCell (p := ⟨w.heap.size + 1, 1, none⟩) (Nat.le_succ _) _) | exact (((HA.out.alloc HA.out.size _).setCell (p := ⟨w.heap.size + 1, 3, none⟩) (Nat.le_succ _) _).setCell (p := ⟨w.heap.size + 1, 4, none⟩) (Nat.le_succ _) _))⟩
  | true =>
    have HW := Lib.hid (fun W => rdomain_any wd W hwl)
    generalize domL wd = y at *
    go_enter Tryz.func16, Tryz.ntmps16
    go_wp2_with fail
    refine Calls.mono (HW.out _) ?_
    rintro e w1 ⟨rfl, hb⟩
    have HB := Lib.hid (below_step (by first | exact (HA.out.alloc HA.out.size _) | exact ((HA.out.alloc HA.out.size _).setCell (p := ⟨w.heap.size + 1, 1, none⟩) (Nat.le_succ _) _) | exact (((HA.out.alloc HA.out.size _).setCell (p := ⟨w.heap.size + 1, 3, none⟩) (Nat.le_succ _) _).setCell (p := ⟨w.heap.size + 1, 4, none⟩) (Nat.le_succ _) _)) hb)
    clear hb
    go_wp2_with fail
    go_ret
    exact ⟨ret_bool (by rw [HE.out]; rfl), HB.out⟩

set_option maxHeartbeats 2000000 in
theorem rverb_vrfy (v : Vb) (w : World) (hv : Short 10000 v) (h : v.kind = 9) :
    Calls Tryz.prog 16 #[.agg #[.int .i64 v.kind, .string ⟨v.word.toArray⟩, .bool v.null, .string ⟨v.l.toArray⟩, .string ⟨v.d.toArray⟩, .int .i64 v.size]] w fun e w' => e = .returned (.bool (validV v)) ∧ Below w.heap.size w w' := by
  have HA := Lib.hid ((Below.refl _ w).alloc (Nat.le_refl _) (.cells #[.int .i64 v.kind, .string ⟨v.word.toArray⟩, .bool v.null, .string ⟨v.l.toArray⟩, .string ⟨v.d.toArray⟩, .int .i64 v.size] 27))
  have HM := Lib.hid (VAt.new w v)
  obtain ⟨k, wd, x, l, d, z⟩ := v
  obtain ⟨hwl, hl, hd⟩ := hv
  simp only at hwl hl hd HA HM h ⊢
  subst h
  have heq : ∀ w, (binOp .eql 27 (.agg #[.int .i64 9, .string ⟨wd.toArray⟩, .bool x, .string ⟨l.toArray⟩, .string ⟨d.toArray⟩, .int .i64 z]) (.agg #[.int .i64 9, .string ⟨wd.toArray⟩, .bool false, .string ⟨#[]⟩, .string ⟨#[]⟩, .int .i64 0])).run Tryz.prog w = .ok (.bool (bareV ⟨9, wd, x, l, d, z⟩)) w := fun w => by
    rw [← bare_self]
    exact eq_verb ⟨9, wd, x, l, d, z⟩ ⟨9, wd, false, [], [], 0⟩ w
  have HE := Lib.hid (show validV ⟨9, wd, x, l, d, z⟩ = (bareV ⟨9, wd, x, l, d, z⟩ && wordsL wd) by simp [validV])
  generalize validV ⟨9, wd, x, l, d, z⟩ = r at *
  generalize bareV ⟨9, wd, x, l, d, z⟩ = q at *
  cases q with
  | false =>
    go_enter Tryz.func16, Tryz.ntmps16
    go_wp2_with fail
    go_ret
    exact ⟨ret_bool HE.out.symm, (by first | exact (HA.out.alloc HA.out.size _) | exact ((HA.out.alloc HA.out.size _).setCell (p := ⟨w.heap.size + 1, 1, none⟩) (Nat.le_succ _) _) | exact (((HA.out.alloc HA.out.size _).setCell (p := ⟨w.heap.size + 1, 3, none⟩) (Nat.le_succ _) _).setCell (p := ⟨w.heap.size + 1, 4, none⟩) (Nat.le_succ _) _))⟩
  | true =>
    have HW := Lib.hid (fun W => rwords_any wd W hwl)
    generalize wordsL wd = y at *
    go_enter Tryz.func16, Tryz.ntmps16
    go_wp2_with fail
    refine Calls.mono (HW.out _) ?_
    rintro e w1 ⟨rfl, hb⟩
    have HB := Lib.hid (below_step (by first | exact (HA.out.alloc HA.out.size _) | exact ((HA.out.alloc HA.out.size _).setCell (p := ⟨w.heap.size + 1, 1, none⟩) (Nat.le_succ _) _) | exact (((HA.out.alloc HA.out.size _).setCell (p := ⟨w.heap.size + 1, 3, none⟩) (Nat.le_succ _) _).setCell (p := ⟨w.heap.size + 1, 4, none⟩) (Nat.le_succ _) _)) hb)
    clear hb
    go_wp2_with fail
    go_ret
    exact ⟨ret_bool (by rw [HE.out]; rfl), HB.out⟩

set_option maxHeartbeats 2000000 in
theorem rverb_noop (v : Vb) (w : World) (hv : Short 10000 v) (h : v.kind = 7) :
    Calls Tryz.prog 16 #[.agg #[.int .i64 v.kind, .string ⟨v.word.toArray⟩, .bool v.null, .string ⟨v.l.toArray⟩, .string ⟨v.d.toArray⟩, .int .i64 v.size]] w fun e w' => e = .returned (.bool (validV v)) ∧ Below w.heap.size w w' := by
  have HA := Lib.hid ((Below.refl _ w).alloc (Nat.le_refl _) (.cells #[.int .i64 v.kind, .string ⟨v.word.toArray⟩, .bool v.null, .string ⟨v.l.toArray⟩, .string ⟨v.d.toArray⟩, .int .i64 v.size] 27))
  have HM := Lib.hid (VAt.new w v)
  obtain ⟨k, wd, x, l, d, z⟩ := v
  obtain ⟨hwl, hl, hd⟩ := hv
  simp only at hwl hl hd HA HM h ⊢
  subst h
  have heq : ∀ w, (binOp .eql 27 (.agg #[.int .i64 7, .string ⟨wd.toArray⟩, .bool x, .string ⟨l.toArray⟩, .string ⟨d.toArray⟩, .int .i64 z]) (.agg #[.int .i64 7, .string ⟨wd.toArray⟩, .bool false, .string ⟨#[]⟩, .string ⟨#[]⟩, .int .i64 0])).run Tryz.prog w = .ok (.bool (bareV ⟨7, wd, x, l, d, z⟩)) w := fun w => by
    rw [← bare_self]
    exact eq_verb ⟨7, wd, x, l, d, z⟩ ⟨7, wd, false, [], [], 0⟩ w
  have HE := Lib.hid (show validV ⟨7, wd, x, l, d, z⟩ = (bareV ⟨7, wd, x, l, d, z⟩ && (wd.isEmpty || wordsL wd)) by simp [validV])
  generalize validV ⟨7, wd, x, l, d, z⟩ = r at *
  generalize bareV ⟨7, wd, x, l, d, z⟩ = q at *
  cases q with
  | false =>
    go_enter Tryz.func16, Tryz.ntmps16
    go_wp2_with fail
    go_ret
    exact ⟨ret_bool HE.out.symm, (by first | exact (HA.out.alloc HA.out.size _) | exact ((HA.out.alloc HA.out.size _).setCell (p := ⟨w.heap.size + 1, 1, none⟩) (Nat.le_succ _) _) | exact (((HA.out.alloc HA.out.size _).setCell (p := ⟨w.heap.size + 1, 3, none⟩) (Nat.le_succ _) _).setCell (p := ⟨w.heap.size + 1, 4, none⟩) (Nat.le_succ _) _))⟩
  | true =>
    have HW := Lib.hid (fun W => rwords_any wd W hwl)
    cases hw0 : wd with
    | nil =>
      subst hw0
      go_enter Tryz.func16, Tryz.ntmps16
      go_wp2_with fail
      go_ret
      exact ⟨ret_bool (by rw [HE.out]; rfl), (by first | exact (HA.out.alloc HA.out.size _) | exact ((HA.out.alloc HA.out.size _).setCell (p := ⟨w.heap.size + 1, 1, none⟩) (Nat.le_succ _) _) | exact (((HA.out.alloc HA.out.size _).setCell (p := ⟨w.heap.size + 1, 3, none⟩) (Nat.le_succ _) _).setCell (p := ⟨w.heap.size + 1, 4, none⟩) (Nat.le_succ _) _))⟩
    | cons a b =>
      have h0 : wd ≠ [] := by rw [hw0]; exact List.cons_ne_nil _ _
      rw [← hw0]
      clear hw0
      have hne := ne_empty h0
      have hn2 : (wd == []) = false := by
        rw [beq_eq_false_iff_ne]
        exact h0
      rw [hne, Bool.false_or] at HE
      clear h0
      generalize wordsL wd = y at *
      go_enter Tryz.func16, Tryz.ntmps16
      go_wp2_with fail
      refine Calls.mono (HW.out _) ?_
      rintro e w1 ⟨rfl, hb⟩
      have HB := Lib.hid (below_step (by first | exact (HA.out.alloc HA.out.size _) | exact ((HA.out.alloc HA.out.size _).setCell (p := ⟨w.heap.size + 1, 1, none⟩) (Nat.le_succ _) _) | exact (((HA.out.alloc HA.out.size _).setCell (p := ⟨w.heap.size + 1, 3, none⟩) (Nat.le_succ _) _).setCell (p := ⟨w.heap.size + 1, 4, none⟩) (Nat.le_succ _) _)) hb)
      clear hb
      go_wp2_with fail
      go_ret
      exact ⟨ret_bool (by rw [HE.out]; rfl), HB.out⟩

set_option maxHeartbeats 2000000 in
theorem rverb_bare5 (v : Vb) (w : World) (hv : Short 10000 v) (h : v.kind = 5) :
    Calls Tryz.prog 16 #[.agg #[.int .i64 v.kind, .string ⟨v.word.toArray⟩, .bool v.null, .string ⟨v.l.toArray⟩, .string ⟨v.d.toArray⟩, .int .i64 v.size]] w fun e w' => e = .returned (.bool (validV v)) ∧ Below w.heap.size w w' := by
  have HA := Lib.hid ((Below.refl _ w).alloc (Nat.le_refl _) (.cells #[.int .i64 v.kind, .string ⟨v.word.toArray⟩, .bool v.null, .string ⟨v.l.toArray⟩, .string ⟨v.d.toArray⟩, .int .i64 v.size] 27))
  have HM := Lib.hid (VAt.new w v)
  obtain ⟨k, wd, x, l, d, z⟩ := v
  obtain ⟨hwl, hl, hd⟩ := hv
  simp only at hwl hl hd HA HM h ⊢
  subst h
  have heq : ∀ w, (binOp .eql 27 (.agg #[.int .i64 5, .string ⟨wd.toArray⟩, .bool x, .string ⟨l.toArray⟩, .string ⟨d.toArray⟩, .int .i64 z]) (.agg #[.int .i64 5, .string ⟨#[]⟩, .bool false, .string ⟨#[]⟩, .string ⟨#[]⟩, .int .i64 0])).run Tryz.prog w = .ok (.bool (validV ⟨5, wd, x, l, d, z⟩)) w := fun w => by
    rw [show validV ⟨5, wd, x, l, d, z⟩ = (bareV ⟨5, wd, x, l, d, z⟩ && wd.isEmpty) by simp [validV], ← bare_word]
    exact eq_verb ⟨5, wd, x, l, d, z⟩ ⟨5, [], false, [], [], 0⟩ w
  generalize validV ⟨5, wd, x, l, d, z⟩ = r at *
  go_enter Tryz.func16, Tryz.ntmps16
  go_wp2_with fail
  go_ret
  exact ⟨rfl, (by first | exact (HA.out.alloc HA.out.size _) | exact ((HA.out.alloc HA.out.size _).setCell (p := ⟨w.heap.size + 1, 1, none⟩) (Nat.le_succ _) _) | exact (((HA.out.alloc HA.out.size _).setCell (p := ⟨w.heap.size + 1, 3, none⟩) (Nat.le_succ _) _).setCell (p := ⟨w.heap.size + 1, 4, none⟩) (Nat.le_succ _) _))⟩

set_option maxHeartbeats 2000000 in
theorem rverb_bare6 (v : Vb) (w : World) (hv : Short 10000 v) (h : v.kind = 6) :
    Calls Tryz.prog 16 #[.agg #[.int .i64 v.kind, .string ⟨v.word.toArray⟩, .bool v.null, .string ⟨v.l.toArray⟩, .string ⟨v.d.toArray⟩, .int .i64 v.size]] w fun e w' => e = .returned (.bool (validV v)) ∧ Below w.heap.size w w' := by
  have HA := Lib.hid ((Below.refl _ w).alloc (Nat.le_refl _) (.cells #[.int .i64 v.kind, .string ⟨v.word.toArray⟩, .bool v.null, .string ⟨v.l.toArray⟩, .string ⟨v.d.toArray⟩, .int .i64 v.size] 27))
  have HM := Lib.hid (VAt.new w v)
  obtain ⟨k, wd, x, l, d, z⟩ := v
  obtain ⟨hwl, hl, hd⟩ := hv
  simp only at hwl hl hd HA HM h ⊢
  subst h
  have heq : ∀ w, (binOp .eql 27 (.agg #[.int .i64 6, .string ⟨wd.toArray⟩, .bool x, .string ⟨l.toArray⟩, .string ⟨d.toArray⟩, .int .i64 z]) (.agg #[.int .i64 6, .string ⟨#[]⟩, .bool false, .string ⟨#[]⟩, .string ⟨#[]⟩, .int .i64 0])).run Tryz.prog w = .ok (.bool (validV ⟨6, wd, x, l, d, z⟩)) w := fun w => by
    rw [show validV ⟨6, wd, x, l, d, z⟩ = (bareV ⟨6, wd, x, l, d, z⟩ && wd.isEmpty) by simp [validV], ← bare_word]
    exact eq_verb ⟨6, wd, x, l, d, z⟩ ⟨6, [], false, [], [], 0⟩ w
  generalize validV ⟨6, wd, x, l, d, z⟩ = r at *
  go_enter Tryz.func16, Tryz.ntmps16
  go_wp2_with fail
  go_ret
  exact ⟨rfl, (by first | exact (HA.out.alloc HA.out.size _) | exact ((HA.out.alloc HA.out.size _).setCell (p := ⟨w.heap.size + 1, 1, none⟩) (Nat.le_succ _) _) | exact (((HA.out.alloc HA.out.size _).setCell (p := ⟨w.heap.size + 1, 3, none⟩) (Nat.le_succ _) _).setCell (p := ⟨w.heap.size + 1, 4, none⟩) (Nat.le_succ _) _))⟩

set_option maxHeartbeats 2000000 in
theorem rverb_bare8 (v : Vb) (w : World) (hv : Short 10000 v) (h : v.kind = 8) :
    Calls Tryz.prog 16 #[.agg #[.int .i64 v.kind, .string ⟨v.word.toArray⟩, .bool v.null, .string ⟨v.l.toArray⟩, .string ⟨v.d.toArray⟩, .int .i64 v.size]] w fun e w' => e = .returned (.bool (validV v)) ∧ Below w.heap.size w w' := by
  have HA := Lib.hid ((Below.refl _ w).alloc (Nat.le_refl _) (.cells #[.int .i64 v.kind, .string ⟨v.word.toArray⟩, .bool v.null, .string ⟨v.l.toArray⟩, .string ⟨v.d.toArray⟩, .int .i64 v.size] 27))
  have HM := Lib.hid (VAt.new w v)
  obtain ⟨k, wd, x, l, d, z⟩ := v
  obtain ⟨hwl, hl, hd⟩ := hv
  simp only at hwl hl hd HA HM h ⊢
  subst h
  have heq : ∀ w, (binOp .eql 27 (.agg #[.int .i64 8, .string ⟨wd.toArray⟩, .bool x, .string ⟨l.toArray⟩, .string ⟨d.toArray⟩, .int .i64 z]) (.agg #[.int .i64 8, .string ⟨#[]⟩, .bool false, .string ⟨#[]⟩, .string ⟨#[]⟩, .int .i64 0])).run Tryz.prog w = .ok (.bool (validV ⟨8, wd, x, l, d, z⟩)) w := fun w => by
    rw [show validV ⟨8, wd, x, l, d, z⟩ = (bareV ⟨8, wd, x, l, d, z⟩ && wd.isEmpty) by simp [validV], ← bare_word]
    exact eq_verb ⟨8, wd, x, l, d, z⟩ ⟨8, [], false, [], [], 0⟩ w
  generalize validV ⟨8, wd, x, l, d, z⟩ = r at *
  go_enter Tryz.func16, Tryz.ntmps16
  go_wp2_with fail
  go_ret
  exact ⟨rfl, (by first | exact (HA.out.alloc HA.out.size _) | exact ((HA.out.alloc HA.out.size _).setCell (p := ⟨w.heap.size + 1, 1, none⟩) (Nat.le_succ _) _) | exact (((HA.out.alloc HA.out.size _).setCell (p := ⟨w.heap.size + 1, 3, none⟩) (Nat.le_succ _) _).setCell (p := ⟨w.heap.size + 1, 4, none⟩) (Nat.le_succ _) _))⟩

set_option maxHeartbeats 2000000 in
theorem rverb_rcpt (v : Vb) (w : World) (hv : Short 10000 v) (h : v.kind = 4) :
    Calls Tryz.prog 16 #[.agg #[.int .i64 v.kind, .string ⟨v.word.toArray⟩, .bool v.null, .string ⟨v.l.toArray⟩, .string ⟨v.d.toArray⟩, .int .i64 v.size]] w fun e w' => e = .returned (.bool (validV v)) ∧ Below w.heap.size w w' := by
  have HA := Lib.hid ((Below.refl _ w).alloc (Nat.le_refl _) (.cells #[.int .i64 v.kind, .string ⟨v.word.toArray⟩, .bool v.null, .string ⟨v.l.toArray⟩, .string ⟨v.d.toArray⟩, .int .i64 v.size] 27))
  have HM := Lib.hid (VAt.new w v)
  obtain ⟨k, wd, x, l, d, z⟩ := v
  obtain ⟨hwl, hl, hd⟩ := hv
  simp only at hwl hl hd HA HM h ⊢
  subst h
  have heq : ∀ w, (binOp .eql 27 (.agg #[.int .i64 4, .string ⟨wd.toArray⟩, .bool x, .string ⟨l.toArray⟩, .string ⟨d.toArray⟩, .int .i64 z]) (.agg #[.int .i64 4, .string ⟨#[]⟩, .bool false, .string ⟨l.toArray⟩, .string ⟨d.toArray⟩, .int .i64 0])).run Tryz.prog w = .ok (.bool (wd.isEmpty && !x && decide (z = 0))) w := fun w => by
    rw [← rcpt_self ⟨4, wd, x, l, d, z⟩]
    exact eq_verb ⟨4, wd, x, l, d, z⟩ ⟨4, [], false, l, d, 0⟩ w
  have HE := Lib.hid (show validV ⟨4, wd, x, l, d, z⟩ = ((wd.isEmpty && !x && decide (z = 0)) && boxL l d) by simp [validV])
  have HW := Lib.hid (fun W => may_any l d W hl hd)
  generalize validV ⟨4, wd, x, l, d, z⟩ = r at *
  generalize boxL l d = c at *
  generalize (wd.isEmpty && !x && decide (z = 0)) = q at *
  cases q with
  | false =>
    go_enter Tryz.func16, Tryz.ntmps16
    go_wp2_with fail
    go_ret
    exact ⟨ret_bool HE.out.symm, (by first | exact (HA.out.alloc HA.out.size _) | exact ((HA.out.alloc HA.out.size _).setCell (p := ⟨w.heap.size + 1, 1, none⟩) (Nat.le_succ _) _) | exact (((HA.out.alloc HA.out.size _).setCell (p := ⟨w.heap.size + 1, 3, none⟩) (Nat.le_succ _) _).setCell (p := ⟨w.heap.size + 1, 4, none⟩) (Nat.le_succ _) _))⟩
  | true =>
    go_enter Tryz.func16, Tryz.ntmps16
    go_wp2_with fail
    refine Calls.mono (HW.out _) ?_
    rintro e w1 ⟨rfl, hb⟩
    have HB := Lib.hid (below_step (by first | exact (HA.out.alloc HA.out.size _) | exact ((HA.out.alloc HA.out.size _).setCell (p := ⟨w.heap.size + 1, 1, none⟩) (Nat.le_succ _) _) | exact (((HA.out.alloc HA.out.size _).setCell (p := ⟨w.heap.size + 1, 3, none⟩) (Nat.le_succ _) _).setCell (p := ⟨w.heap.size + 1, 4, none⟩) (Nat.le_succ _) _)) hb)
    clear hb
    go_wp2_with fail
    go_ret
    exact ⟨ret_bool (by rw [HE.out]; rfl), HB.out⟩

set_option maxHeartbeats 2000000 in
theorem rverb_none (v : Vb) (w : World) (hv : Short 10000 v) (h : ¬ (1 ≤ v.kind ∧ v.kind ≤ 9)) :
    Calls Tryz.prog 16 #[.agg #[.int .i64 v.kind, .string ⟨v.word.toArray⟩, .bool v.null, .string ⟨v.l.toArray⟩, .string ⟨v.d.toArray⟩, .int .i64 v.size]] w fun e w' => e = .returned (.bool (validV v)) ∧ Below w.heap.size w w' := by
  have HA := Lib.hid ((Below.refl _ w).alloc (Nat.le_refl _) (.cells #[.int .i64 v.kind, .string ⟨v.word.toArray⟩, .bool v.null, .string ⟨v.l.toArray⟩, .string ⟨v.d.toArray⟩, .int .i64 v.size] 27))
  have HM := Lib.hid (VAt.new w v)
  obtain ⟨k, wd, x, l, d, z⟩ := v
  simp only at HA HM h ⊢
  have HE := Lib.hid (show validV ⟨k, wd, x, l, d, z⟩ = false by
    unfold validV
    simp only
    rw [if_neg (by omega), if_neg (by omega), if_neg (by omega), if_neg (by omega), if_neg (by omega), if_neg (by omega)])
  have e1 : (k == 1) = false := beq_eq_false_iff_ne.2 (by omega)
  have e2 : (k == 2) = false := beq_eq_false_iff_ne.2 (by omega)
  have e3 : (k == 3) = false := beq_eq_false_iff_ne.2 (by omega)
  have e4 : (k == 4) = false := beq_eq_false_iff_ne.2 (by omega)
  have e5 : (k == 5) = false := beq_eq_false_iff_ne.2 (by omega)
  have e6 : (k == 6) = false := beq_eq_false_iff_ne.2 (by omega)
  have e7 : (k == 7) = false := beq_eq_false_iff_ne.2 (by omega)
  have e8 : (k == 8) = false := beq_eq_false_iff_ne.2 (by omega)
  have e9 : (k == 9) = false := beq_eq_false_iff_ne.2 (by omega)
  clear h
  go_enter Tryz.func16, Tryz.ntmps16
  go_wp2_with fail
  go_ret
  exact ⟨ret_bool HE.out.symm, (by first | exact (HA.out.alloc HA.out.size _) | exact ((HA.out.alloc HA.out.size _).setCell (p := ⟨w.heap.size + 1, 1, none⟩) (Nat.le_succ _) _) | exact (((HA.out.alloc HA.out.size _).setCell (p := ⟨w.heap.size + 1, 3, none⟩) (Nat.le_succ _) _).setCell (p := ⟨w.heap.size + 1, 4, none⟩) (Nat.le_succ _) _))⟩
end Go.Proofs.YtkbhmkofflcpjaaGreatDoor

/-
  valid and Check of package verb, walked: which commands may be.
  Conditions: as each theorem states them.
-/
import Derived.Test.YtkbhmkofflcpjaaGreatDoorVS
import Derived.Test.YtkbhmkofflcpjaaGreatDoorVI
namespace Go.Proofs.YtkbhmkofflcpjaaGreatDoor
open Go.RowKit

theorem bare_self (v : Vb) : eqVb v ⟨v.kind, v.word, false, [], [], 0⟩ = bareV v := by
  obtain ⟨k, wd, x, l, d, z⟩ := v
  rw [Bool.eq_iff_iff]
  simp only [eqVb, bareV, Bool.and_eq_true, beq_iff_eq, Bool.not_eq_true', List.isEmpty_iff, decide_eq_true_eq, true_and, and_assoc]
theorem bare_word (v : Vb) : eqVb v ⟨v.kind, [], false, [], [], 0⟩ = (bareV v && v.word.isEmpty) := by
  obtain ⟨k, wd, x, l, d, z⟩ := v
  rw [Bool.eq_iff_iff]
  simp only [eqVb, bareV, Bool.and_eq_true, beq_iff_eq, Bool.not_eq_true', List.isEmpty_iff, decide_eq_true_eq, true_and, and_assoc]
  constructor
  · rintro ⟨h1, h2, h3, h4, h5⟩
    exact ⟨h2, h3, h4, h5, h1⟩
  · rintro ⟨h2, h3, h4, h5, h1⟩
    exact ⟨h1, h2, h3, h4, h5⟩
theorem rcpt_self (v : Vb) : eqVb v ⟨v.kind, [], false, v.l, v.d, 0⟩ = (v.word.isEmpty && !v.null && decide (v.size = 0)) := by
  obtain ⟨k, wd, x, l, d, z⟩ := v
  rw [Bool.eq_iff_iff]
  simp only [eqVb, Bool.and_eq_true, beq_iff_eq, Bool.not_eq_true', List.isEmpty_iff, decide_eq_true_eq, true_and, and_assoc]

set_option maxHeartbeats 1000000 in
theorem valid_helo1 (v : Vb) (w : World) (hv : Short 100000 v) (hg : Gl w) (h : v.kind = 1) :
    Calls Tryz.prog 32 #[.agg #[.int .i64 v.kind, .string ⟨v.word.toArray⟩, .bool v.null, .string ⟨v.l.toArray⟩, .string ⟨v.d.toArray⟩, .int .i64 v.size]] w fun e w' => e = .returned (.bool (validV v)) ∧ Below w.heap.size w w' := by
  have hA := (Below.refl _ w).alloc (Nat.le_refl _) (.cells #[.int .i64 v.kind, .string ⟨v.word.toArray⟩, .bool v.null, .string ⟨v.l.toArray⟩, .string ⟨v.d.toArray⟩, .int .i64 v.size] 27)
  have HA := Lib.hid hA
  have HG := Lib.hid (hg.keep hA)
  have HM := Lib.hid (VAt.new w v)
  clear hA hg
  obtain ⟨k, wd, x, l, d, z⟩ := v
  obtain ⟨hwl, hl, hd⟩ := hv
  simp only at hwl hl hd HA HG HM h ⊢
  subst h
  have heq : ∀ w, (binOp .eql 27 (.agg #[.int .i64 1, .string ⟨wd.toArray⟩, .bool x, .string ⟨l.toArray⟩, .string ⟨d.toArray⟩, .int .i64 z]) (.agg #[.int .i64 1, .string ⟨wd.toArray⟩, .bool false, .string ⟨#[]⟩, .string ⟨#[]⟩, .int .i64 0])).run Tryz.prog w = .ok (.bool (bareV ⟨1, wd, x, l, d, z⟩)) w := fun w => by
    rw [← bare_self]
    exact eq_verb ⟨1, wd, x, l, d, z⟩ ⟨1, wd, false, [], [], 0⟩ w
  have HE := Lib.hid (show validV ⟨1, wd, x, l, d, z⟩ = (bareV ⟨1, wd, x, l, d, z⟩ && domL wd) by simp [validV])
  generalize validV ⟨1, wd, x, l, d, z⟩ = r at *
  generalize bareV ⟨1, wd, x, l, d, z⟩ = q at *
  cases q with
  | false =>
    go_enter Tryz.func32, Tryz.ntmps32
    go_wp2_with fail
    go_ret
    exact ⟨ret_bool HE.out.symm, HA.out⟩
  | true =>
    have HW := Lib.hid (fun W => visDomain_any wd W hwl)
    generalize domL wd = y at *
    go_enter Tryz.func32, Tryz.ntmps32
    go_wp2_with fail
    refine Calls.mono (HW.out _) ?_
    rintro e w1 ⟨rfl, hb⟩
    have HB := Lib.hid (HA.out.trans (hb.mono HA.out.size))
    clear hb
    go_wp2_with fail
    go_ret
    exact ⟨ret_bool (by rw [HE.out]; rfl), HB.out⟩

set_option maxHeartbeats 1000000 in
theorem valid_helo2 (v : Vb) (w : World) (hv : Short 100000 v) (hg : Gl w) (h : v.kind = 2) :
    Calls Tryz.prog 32 #[.agg #[.int .i64 v.kind, .string ⟨v.word.toArray⟩, .bool v.null, .string ⟨v.l.toArray⟩, .string ⟨v.d.toArray⟩, .int .i64 v.size]] w fun e w' => e = .returned (.bool (validV v)) ∧ Below w.heap.size w w' := by
  have hA := (Below.refl _ w).alloc (Nat.le_refl _) (.cells #[.int .i64 v.kind, .string ⟨v.word.toArray⟩, .bool v.null, .string ⟨v.l.toArray⟩, .string ⟨v.d.toArray⟩, .int .i64 v.size] 27)
  have HA := Lib.hid hA
  have HG := Lib.hid (hg.keep hA)
  have HM := Lib.hid (VAt.new w v)
  clear hA hg
  obtain ⟨k, wd, x, l, d, z⟩ := v
  obtain ⟨hwl, hl, hd⟩ := hv
  simp only at hwl hl hd HA HG HM h ⊢
  subst h
  have heq : ∀ w, (binOp .eql 27 (.agg #[.int .i64 2, .string ⟨wd.toArray⟩, .bool x, .string ⟨l.toArray⟩, .string ⟨d.toArray⟩, .int .i64 z]) (.agg #[.int .i64 2, .string ⟨wd.toArray⟩, .bool false, .string ⟨#[]⟩, .string ⟨#[]⟩, .int .i64 0])).run Tryz.prog w = .ok (.bool (bareV ⟨2, wd, x, l, d, z⟩)) w := fun w => by
    rw [← bare_self]
    exact eq_verb ⟨2, wd, x, l, d, z⟩ ⟨2, wd, false, [], [], 0⟩ w
  have HE := Lib.hid (show validV ⟨2, wd, x, l, d, z⟩ = (bareV ⟨2, wd, x, l, d, z⟩ && domL wd) by simp [validV])
  generalize validV ⟨2, wd, x, l, d, z⟩ = r at *
  generalize bareV ⟨2, wd, x, l, d, z⟩ = q at *
  cases q with
  | false =>
    go_enter Tryz.func32, Tryz.ntmps32
    go_wp2_with fail
    go_ret
    exact ⟨ret_bool HE.out.symm, HA.out⟩
  | true =>
    have HW := Lib.hid (fun W => visDomain_any wd W hwl)
    generalize domL wd = y at *
    go_enter Tryz.func32, Tryz.ntmps32
    go_wp2_with fail
    refine Calls.mono (HW.out _) ?_
    rintro e w1 ⟨rfl, hb⟩
    have HB := Lib.hid (HA.out.trans (hb.mono HA.out.size))
    clear hb
    go_wp2_with fail
    go_ret
    exact ⟨ret_bool (by rw [HE.out]; rfl), HB.out⟩

set_option maxHeartbeats 1000000 in
theorem valid_vrfy (v : Vb) (w : World) (hv : Short 100000 v) (hg : Gl w) (h : v.kind = 9) :
    Calls Tryz.prog 32 #[.agg #[.int .i64 v.kind, .string ⟨v.word.toArray⟩, .bool v.null, .string ⟨v.l.toArray⟩, .string ⟨v.d.toArray⟩, .int .i64 v.size]] w fun e w' => e = .returned (.bool (validV v)) ∧ Below w.heap.size w w' := by
  have hA := (Below.refl _ w).alloc (Nat.le_refl _) (.cells #[.int .i64 v.kind, .string ⟨v.word.toArray⟩, .bool v.null, .string ⟨v.l.toArray⟩, .string ⟨v.d.toArray⟩, .int .i64 v.size] 27)
  have HA := Lib.hid hA
  have HG := Lib.hid (hg.keep hA)
  have HM := Lib.hid (VAt.new w v)
  clear hA hg
  obtain ⟨k, wd, x, l, d, z⟩ := v
  obtain ⟨hwl, hl, hd⟩ := hv
  simp only at hwl hl hd HA HG HM h ⊢
  subst h
  have heq : ∀ w, (binOp .eql 27 (.agg #[.int .i64 9, .string ⟨wd.toArray⟩, .bool x, .string ⟨l.toArray⟩, .string ⟨d.toArray⟩, .int .i64 z]) (.agg #[.int .i64 9, .string ⟨wd.toArray⟩, .bool false, .string ⟨#[]⟩, .string ⟨#[]⟩, .int .i64 0])).run Tryz.prog w = .ok (.bool (bareV ⟨9, wd, x, l, d, z⟩)) w := fun w => by
    rw [← bare_self]
    exact eq_verb ⟨9, wd, x, l, d, z⟩ ⟨9, wd, false, [], [], 0⟩ w
  have HE := Lib.hid (show validV ⟨9, wd, x, l, d, z⟩ = (bareV ⟨9, wd, x, l, d, z⟩ && wordsL wd) by simp [validV])
  generalize validV ⟨9, wd, x, l, d, z⟩ = r at *
  generalize bareV ⟨9, wd, x, l, d, z⟩ = q at *
  cases q with
  | false =>
    go_enter Tryz.func32, Tryz.ntmps32
    go_wp2_with fail
    go_ret
    exact ⟨ret_bool HE.out.symm, HA.out⟩
  | true =>
    have HW := Lib.hid (fun W (hW : Gl W) => visWords_any wd W hwl hW)
    generalize wordsL wd = y at *
    go_enter Tryz.func32, Tryz.ntmps32
    go_wp2_with fail
    refine Calls.mono (HW.out _ HG.out) ?_
    rintro e w1 ⟨rfl, hb⟩
    have HB := Lib.hid (HA.out.trans (hb.mono HA.out.size))
    clear hb
    go_wp2_with fail
    go_ret
    exact ⟨ret_bool (by rw [HE.out]; rfl), HB.out⟩

set_option maxHeartbeats 1000000 in
theorem valid_noop7 (v : Vb) (w : World) (hv : Short 100000 v) (hg : Gl w) (h : v.kind = 7) :
    Calls Tryz.prog 32 #[.agg #[.int .i64 v.kind, .string ⟨v.word.toArray⟩, .bool v.null, .string ⟨v.l.toArray⟩, .string ⟨v.d.toArray⟩, .int .i64 v.size]] w fun e w' => e = .returned (.bool (validV v)) ∧ Below w.heap.size w w' := by
  have hA := (Below.refl _ w).alloc (Nat.le_refl _) (.cells #[.int .i64 v.kind, .string ⟨v.word.toArray⟩, .bool v.null, .string ⟨v.l.toArray⟩, .string ⟨v.d.toArray⟩, .int .i64 v.size] 27)
  have HA := Lib.hid hA
  have HG := Lib.hid (hg.keep hA)
  have HM := Lib.hid (VAt.new w v)
  clear hA hg
  obtain ⟨k, wd, x, l, d, z⟩ := v
  obtain ⟨hwl, hl, hd⟩ := hv
  simp only at hwl hl hd HA HG HM h ⊢
  subst h
  have heq : ∀ w, (binOp .eql 27 (.agg #[.int .i64 7, .string ⟨wd.toArray⟩, .bool x, .string ⟨l.toArray⟩, .string ⟨d.toArray⟩, .int .i64 z]) (.agg #[.int .i64 7, .string ⟨wd.toArray⟩, .bool false, .string ⟨#[]⟩, .string ⟨#[]⟩, .int .i64 0])).run Tryz.prog w = .ok (.bool (bareV ⟨7, wd, x, l, d, z⟩)) w := fun w => by
    rw [← bare_self]
    exact eq_verb ⟨7, wd, x, l, d, z⟩ ⟨7, wd, false, [], [], 0⟩ w
  have HE := Lib.hid (show validV ⟨7, wd, x, l, d, z⟩ = (bareV ⟨7, wd, x, l, d, z⟩ && (wd.isEmpty || wordsL wd)) by simp [validV])
  generalize validV ⟨7, wd, x, l, d, z⟩ = r at *
  generalize bareV ⟨7, wd, x, l, d, z⟩ = q at *
  cases q with
  | false =>
    go_enter Tryz.func32, Tryz.ntmps32
    go_wp2_with fail
    go_ret
    exact ⟨ret_bool HE.out.symm, HA.out⟩
  | true =>
    have HW := Lib.hid (fun W (hW : Gl W) => visWords_any wd W hwl hW)
    cases hw0 : wd with
    | nil =>
      subst hw0
      go_enter Tryz.func32, Tryz.ntmps32
      go_wp2_with fail
      go_ret
      exact ⟨ret_bool (by rw [HE.out]; rfl), HA.out⟩
    | cons a b =>
      have h0 : wd ≠ [] := by rw [hw0]; exact List.cons_ne_nil _ _
      rw [← hw0]
      clear hw0
      have hne := ne_empty h0
      have hn2 : (wd == []) = false := by
        rw [beq_eq_false_iff_ne]
        exact h0
      rw [hne, Bool.false_or] at HE
      clear h0
      generalize wordsL wd = y at *
      go_enter Tryz.func32, Tryz.ntmps32
      go_wp2_with fail
      refine Calls.mono (HW.out _ HG.out) ?_
      rintro e w1 ⟨rfl, hb⟩
      have HB := Lib.hid (HA.out.trans (hb.mono HA.out.size))
      clear hb
      go_wp2_with fail
      go_ret
      exact ⟨ret_bool (by rw [HE.out]; rfl), HB.out⟩

set_option maxHeartbeats 1000000 in
theorem valid_bare5 (v : Vb) (w : World) (hv : Short 100000 v) (hg : Gl w) (h : v.kind = 5) :
    Calls Tryz.prog 32 #[.agg #[.int .i64 v.kind, .string ⟨v.word.toArray⟩, .bool v.null, .string ⟨v.l.toArray⟩, .string ⟨v.d.toArray⟩, .int .i64 v.size]] w fun e w' => e = .returned (.bool (validV v)) ∧ Below w.heap.size w w' := by
  have hA := (Below.refl _ w).alloc (Nat.le_refl _) (.cells #[.int .i64 v.kind, .string ⟨v.word.toArray⟩, .bool v.null, .string ⟨v.l.toArray⟩, .string ⟨v.d.toArray⟩, .int .i64 v.size] 27)
  have HA := Lib.hid hA
  have HG := Lib.hid (hg.keep hA)
  have HM := Lib.hid (VAt.new w v)
  clear hA hg
  obtain ⟨k, wd, x, l, d, z⟩ := v
  obtain ⟨hwl, hl, hd⟩ := hv
  simp only at hwl hl hd HA HG HM h ⊢
  subst h
  have heq : ∀ w, (binOp .eql 27 (.agg #[.int .i64 5, .string ⟨wd.toArray⟩, .bool x, .string ⟨l.toArray⟩, .string ⟨d.toArray⟩, .int .i64 z]) (.agg #[.int .i64 5, .string ⟨#[]⟩, .bool false, .string ⟨#[]⟩, .string ⟨#[]⟩, .int .i64 0])).run Tryz.prog w = .ok (.bool (validV ⟨5, wd, x, l, d, z⟩)) w := fun w => by
    rw [show validV ⟨5, wd, x, l, d, z⟩ = (bareV ⟨5, wd, x, l, d, z⟩ && wd.isEmpty) by simp [validV], ← bare_word]
    exact eq_verb ⟨5, wd, x, l, d, z⟩ ⟨5, [], false, [], [], 0⟩ w
  generalize validV ⟨5, wd, x, l, d, z⟩ = r at *
  go_enter Tryz.func32, Tryz.ntmps32
  go_wp2_with fail
  go_ret
  exact ⟨rfl, HA.out⟩

set_option maxHeartbeats 1000000 in
theorem valid_bare6 (v : Vb) (w : World) (hv : Short 100000 v) (hg : Gl w) (h : v.kind = 6) :
    Calls Tryz.prog 32 #[.agg #[.int .i64 v.kind, .string ⟨v.word.toArray⟩, .bool v.null, .string ⟨v.l.toArray⟩, .string ⟨v.d.toArray⟩, .int .i64 v.size]] w fun e w' => e = .returned (.bool (validV v)) ∧ Below w.heap.size w w' := by
  have hA := (Below.refl _ w).alloc (Nat.le_refl _) (.cells #[.int .i64 v.kind, .string ⟨v.word.toArray⟩, .bool v.null, .string ⟨v.l.toArray⟩, .string ⟨v.d.toArray⟩, .int .i64 v.size] 27)
  have HA := Lib.hid hA
  have HG := Lib.hid (hg.keep hA)
  have HM := Lib.hid (VAt.new w v)
  clear hA hg
  obtain ⟨k, wd, x, l, d, z⟩ := v
  obtain ⟨hwl, hl, hd⟩ := hv
  simp only at hwl hl hd HA HG HM h ⊢
  subst h
  have heq : ∀ w, (binOp .eql 27 (.agg #[.int .i64 6, .string ⟨wd.toArray⟩, .bool x, .string ⟨l.toArray⟩, .string ⟨d.toArray⟩, .int .i64 z]) (.agg #[.int .i64 6, .string ⟨#[]⟩, .bool false, .string ⟨#[]⟩, .string ⟨#[]⟩, .int .i64 0])).run Tryz.prog w = .ok (.bool (validV ⟨6, wd, x, l, d, z⟩)) w := fun w => by
    rw [show validV ⟨6, wd, x, l, d, z⟩ = (bareV ⟨6, wd, x, l, d, z⟩ && wd.isEmpty) by simp [validV], ← bare_word]
    exact eq_verb ⟨6, wd, x, l, d, z⟩ ⟨6, [], false, [], [], 0⟩ w
  generalize validV ⟨6, wd, x, l, d, z⟩ = r at *
  go_enter Tryz.func32, Tryz.ntmps32
  go_wp2_with fail
  go_ret
  exact ⟨rfl, HA.out⟩

set_option maxHeartbeats 1000000 in
theorem valid_bare8 (v : Vb) (w : World) (hv : Short 100000 v) (hg : Gl w) (h : v.kind = 8) :
    Calls Tryz.prog 32 #[.agg #[.int .i64 v.kind, .string ⟨v.word.toArray⟩, .bool v.null, .string ⟨v.l.toArray⟩, .string ⟨v.d.toArray⟩, .int .i64 v.size]] w fun e w' => e = .returned (.bool (validV v)) ∧ Below w.heap.size w w' := by
  have hA := (Below.refl _ w).alloc (Nat.le_refl _) (.cells #[.int .i64 v.kind, .string ⟨v.word.toArray⟩, .bool v.null, .string ⟨v.l.toArray⟩, .string ⟨v.d.toArray⟩, .int .i64 v.size] 27)
  have HA := Lib.hid hA
  have HG := Lib.hid (hg.keep hA)
  have HM := Lib.hid (VAt.new w v)
  clear hA hg
  obtain ⟨k, wd, x, l, d, z⟩ := v
  obtain ⟨hwl, hl, hd⟩ := hv
  simp only at hwl hl hd HA HG HM h ⊢
  subst h
  have heq : ∀ w, (binOp .eql 27 (.agg #[.int .i64 8, .string ⟨wd.toArray⟩, .bool x, .string ⟨l.toArray⟩, .string ⟨d.toArray⟩, .int .i64 z]) (.agg #[.int .i64 8, .string ⟨#[]⟩, .bool false, .string ⟨#[]⟩, .string ⟨#[]⟩, .int .i64 0])).run Tryz.prog w = .ok (.bool (validV ⟨8, wd, x, l, d, z⟩)) w := fun w => by
    rw [show validV ⟨8, wd, x, l, d, z⟩ = (bareV ⟨8, wd, x, l, d, z⟩ && wd.isEmpty) by simp [validV], ← bare_word]
    exact eq_verb ⟨8, wd, x, l, d, z⟩ ⟨8, [], false, [], [], 0⟩ w
  generalize validV ⟨8, wd, x, l, d, z⟩ = r at *
  go_enter Tryz.func32, Tryz.ntmps32
  go_wp2_with fail
  go_ret
  exact ⟨rfl, HA.out⟩

set_option maxHeartbeats 1000000 in
theorem valid_rcpt (v : Vb) (w : World) (hv : Short 100000 v) (hg : Gl w) (h : v.kind = 4) :
    Calls Tryz.prog 32 #[.agg #[.int .i64 v.kind, .string ⟨v.word.toArray⟩, .bool v.null, .string ⟨v.l.toArray⟩, .string ⟨v.d.toArray⟩, .int .i64 v.size]] w fun e w' => e = .returned (.bool (validV v)) ∧ Below w.heap.size w w' := by
  have hA := (Below.refl _ w).alloc (Nat.le_refl _) (.cells #[.int .i64 v.kind, .string ⟨v.word.toArray⟩, .bool v.null, .string ⟨v.l.toArray⟩, .string ⟨v.d.toArray⟩, .int .i64 v.size] 27)
  have HA := Lib.hid hA
  have HG := Lib.hid (hg.keep hA)
  have HM := Lib.hid (VAt.new w v)
  clear hA hg
  obtain ⟨k, wd, x, l, d, z⟩ := v
  obtain ⟨hwl, hl, hd⟩ := hv
  simp only at hwl hl hd HA HG HM h ⊢
  subst h
  have heq : ∀ w, (binOp .eql 27 (.agg #[.int .i64 4, .string ⟨wd.toArray⟩, .bool x, .string ⟨l.toArray⟩, .string ⟨d.toArray⟩, .int .i64 z]) (.agg #[.int .i64 4, .string ⟨#[]⟩, .bool false, .string ⟨l.toArray⟩, .string ⟨d.toArray⟩, .int .i64 0])).run Tryz.prog w = .ok (.bool (wd.isEmpty && !x && decide (z = 0))) w := fun w => by
    rw [← rcpt_self ⟨4, wd, x, l, d, z⟩]
    exact eq_verb ⟨4, wd, x, l, d, z⟩ ⟨4, [], false, l, d, 0⟩ w
  have HE := Lib.hid (show validV ⟨4, wd, x, l, d, z⟩ = ((wd.isEmpty && !x && decide (z = 0)) && (chk (boxL l d) == 0)) by simp [validV, chk_eq])
  have HC := Lib.hid (fun W => check_any l d W hl hd)
  generalize validV ⟨4, wd, x, l, d, z⟩ = r at *
  generalize chk (boxL l d) = c at *
  generalize (wd.isEmpty && !x && decide (z = 0)) = q at *
  cases q with
  | false =>
    go_enter Tryz.func32, Tryz.ntmps32
    go_wp2_with fail
    go_ret
    exact ⟨ret_bool HE.out.symm, HA.out⟩
  | true =>
    go_enter Tryz.func32, Tryz.ntmps32
    go_wp2_with fail
    refine Calls.mono (HC.out _) ?_
    rintro e w1 ⟨rfl, hb⟩
    have HB := Lib.hid (HA.out.trans (hb.mono HA.out.size))
    clear hb
    go_wp2_with fail
    go_ret
    exact ⟨ret_bool (by rw [HE.out]; rfl), HB.out⟩

set_option maxHeartbeats 1000000 in
theorem valid_mail (v : Vb) (w : World) (hv : Short 100000 v) (hg : Gl w) (h : v.kind = 3) :
    Calls Tryz.prog 32 #[.agg #[.int .i64 v.kind, .string ⟨v.word.toArray⟩, .bool v.null, .string ⟨v.l.toArray⟩, .string ⟨v.d.toArray⟩, .int .i64 v.size]] w fun e w' => e = .returned (.bool (validV v)) ∧ Below w.heap.size w w' := by
  have hA := (Below.refl _ w).alloc (Nat.le_refl _) (.cells #[.int .i64 v.kind, .string ⟨v.word.toArray⟩, .bool v.null, .string ⟨v.l.toArray⟩, .string ⟨v.d.toArray⟩, .int .i64 v.size] 27)
  have HA := Lib.hid hA
  have HG := Lib.hid (hg.keep hA)
  have HM := Lib.hid (VAt.new w v)
  clear hA hg
  have HF := Lib.hid (fun W => vvalidFrom_any v W hv)
  obtain ⟨k, wd, x, l, d, z⟩ := v
  obtain ⟨hwl, hl, hd⟩ := hv
  simp only at hwl hl hd HA HG HM HF h ⊢
  subst h
  have HE := Lib.hid (show validV ⟨3, wd, x, l, d, z⟩ = (wd.isEmpty && (fromB ⟨3, wd, x, l, d, z⟩ && fitsZ z)) by simp [validV, fromB, fitsZ, Bool.and_assoc])
  have HZ := Lib.hid (fun W => vvalidSize_any z W)
  generalize validV ⟨3, wd, x, l, d, z⟩ = r at *
  generalize fromB ⟨3, wd, x, l, d, z⟩ = q at *
  generalize fitsZ z = y at *
  cases hw0 : wd with
  | nil =>
    subst hw0
    go_enter Tryz.func32, Tryz.ntmps32
    go_wp2_with fail
    refine Calls.mono (HF.out _) ?_
    rintro e w1 ⟨rfl, hb⟩
    have HB := Lib.hid (HA.out.trans (hb.mono HA.out.size))
    have c5 := (HM.out.later hb).c5
    clear hb
    cases q with
    | false =>
      go_wp2_with fail
      go_ret
      exact ⟨ret_bool (by rw [HE.out]; rfl), HB.out⟩
    | true =>
      go_wp2_with fail
      refine Calls.mono (HZ.out _) ?_
      rintro e w2 ⟨rfl, rfl⟩
      go_wp2_with fail
      go_ret
      exact ⟨ret_bool (by rw [HE.out]; rfl), HB.out⟩
  | cons a b =>
    have h0 : wd ≠ [] := by rw [hw0]; exact List.cons_ne_nil _ _
    rw [← hw0]
    clear hw0
    have hne := ne_empty h0
    have hn2 : (wd == []) = false := by
      rw [beq_eq_false_iff_ne]
      exact h0
    rw [hne] at HE
    clear h0
    go_enter Tryz.func32, Tryz.ntmps32
    go_wp2_with fail
    go_ret
    exact ⟨ret_bool (by rw [HE.out]; rfl), HA.out⟩

set_option maxHeartbeats 1000000 in
theorem valid_none (v : Vb) (w : World) (hv : Short 100000 v) (hg : Gl w) (h : ¬ (1 ≤ v.kind ∧ v.kind ≤ 9)) :
    Calls Tryz.prog 32 #[.agg #[.int .i64 v.kind, .string ⟨v.word.toArray⟩, .bool v.null, .string ⟨v.l.toArray⟩, .string ⟨v.d.toArray⟩, .int .i64 v.size]] w fun e w' => e = .returned (.bool (validV v)) ∧ Below w.heap.size w w' := by
  have hA := (Below.refl _ w).alloc (Nat.le_refl _) (.cells #[.int .i64 v.kind, .string ⟨v.word.toArray⟩, .bool v.null, .string ⟨v.l.toArray⟩, .string ⟨v.d.toArray⟩, .int .i64 v.size] 27)
  have HA := Lib.hid hA
  have HG := Lib.hid (hg.keep hA)
  have HM := Lib.hid (VAt.new w v)
  clear hA hg
  obtain ⟨k, wd, x, l, d, z⟩ := v
  simp only at HA HG HM h ⊢
  have HE := Lib.hid (show validV ⟨k, wd, x, l, d, z⟩ = false by
    unfold validV
    simp only
    rw [if_neg (by omega), if_neg (by omega), if_neg (by omega), if_neg (by omega), if_neg (by omega), if_neg (by omega)])
  have e1 : (k == 1) = false := beq_eq_false_iff_ne.2 (by omega)
  have e2 : (k == 2) = false := beq_eq_false_iff_ne.2 (by omega)
  have e3 : (k == 3) = false := beq_eq_false_iff_ne.2 (by omega)
  have e4 : (k == 4) = false := beq_eq_false_iff_ne.2 (by omega)
  have e5 : (k == 5) = false := beq_eq_false_iff_ne.2 (by omega)
  have e6 : (k == 6) = false := beq_eq_false_iff_ne.2 (by omega)
  have e7 : (k == 7) = false := beq_eq_false_iff_ne.2 (by omega)
  have e8 : (k == 8) = false := beq_eq_false_iff_ne.2 (by omega)
  have e9 : (k == 9) = false := beq_eq_false_iff_ne.2 (by omega)
  clear h
  go_enter Tryz.func32, Tryz.ntmps32
  go_wp2_with fail
  go_ret
  exact ⟨ret_bool HE.out.symm, HA.out⟩

theorem vvalid_any (v : Vb) (w : World) (hv : Short 100000 v) (hg : Gl w) :
    Calls Tryz.prog 32 #[.agg #[.int .i64 v.kind, .string ⟨v.word.toArray⟩, .bool v.null, .string ⟨v.l.toArray⟩, .string ⟨v.d.toArray⟩, .int .i64 v.size]] w fun e w' => e = .returned (.bool (validV v)) ∧ Below w.heap.size w w' := by
  by_cases h : 1 ≤ v.kind ∧ v.kind ≤ 9
  · have : v.kind = 1 ∨ v.kind = 2 ∨ v.kind = 3 ∨ v.kind = 4 ∨ v.kind = 5 ∨ v.kind = 6 ∨ v.kind = 7 ∨ v.kind = 8 ∨ v.kind = 9 := by omega
    rcases this with h | h | h | h | h | h | h | h | h
    · exact valid_helo1 v w hv hg h
    · exact valid_helo2 v w hv hg h
    · exact valid_mail v w hv hg h
    · exact valid_rcpt v w hv hg h
    · exact valid_bare5 v w hv hg h
    · exact valid_bare6 v w hv hg h
    · exact valid_noop7 v w hv hg h
    · exact valid_bare8 v w hv hg h
    · exact valid_vrfy v w hv hg h
  · exact valid_none v w hv hg h

theorem vCheck_any (v : Vb) (w : World) (hv : Short 100000 v) (hg : Gl w) :
    Calls Tryz.prog 20 #[.agg #[.int .i64 v.kind, .string ⟨v.word.toArray⟩, .bool v.null, .string ⟨v.l.toArray⟩, .string ⟨v.d.toArray⟩, .int .i64 v.size]] w fun e w' => e = .returned (.int .i64 (chk (validV v))) ∧ Below w.heap.size w w' := by
  have hA := (Below.refl _ w).alloc (Nat.le_refl _) (.cells #[.int .i64 v.kind, .string ⟨v.word.toArray⟩, .bool v.null, .string ⟨v.l.toArray⟩, .string ⟨v.d.toArray⟩, .int .i64 v.size] 27)
  have HA := Lib.hid hA
  have HV := Lib.hid (vvalid_any v _ hv (hg.keep hA))
  clear hA hg
  cases h : validV v with
  | true =>
    rw [h] at HV
    clear h
    go_enter Tryz.func20, Tryz.ntmps20
    go_wp2_with fail
    refine Calls.mono HV.out ?_
    rintro e w1 ⟨rfl, hb⟩
    have HB := Lib.hid (HA.out.trans (hb.mono HA.out.size))
    clear hb
    go_wp2_with fail
    go_ret
    exact ⟨rfl, HB.out⟩
  | false =>
    rw [h] at HV
    clear h
    go_enter Tryz.func20, Tryz.ntmps20
    go_wp2_with fail
    refine Calls.mono HV.out ?_
    rintro e w1 ⟨rfl, hb⟩
    have HB := Lib.hid (HA.out.trans (hb.mono HA.out.size))
    clear hb
    go_wp2_with fail
    go_ret
    exact ⟨rfl, HB.out⟩
end Go.Proofs.YtkbhmkofflcpjaaGreatDoor

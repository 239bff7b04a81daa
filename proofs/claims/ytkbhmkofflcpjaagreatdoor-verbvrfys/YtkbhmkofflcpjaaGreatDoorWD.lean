/-
  The page's Verb at the command MAIL, and for every command; the page's VerbText, walked.
  Conditions: as each theorem states them.
-/
import Derived.Test.YtkbhmkofflcpjaaGreatDoorWC
import Derived.Test.YtkbhmkofflcpjaaGreatDoorWA
namespace Go.Proofs.YtkbhmkofflcpjaaGreatDoor
open Go.RowKit

theorem mail_self (wd : List UInt8) (x : Bool) (l d : List UInt8) (z : Int) : eqVb ⟨3, wd, x, l, d, z⟩ ⟨3, [], x, l, d, z⟩ = wd.isEmpty := by
  rw [Bool.eq_iff_iff]
  simp only [eqVb, Bool.and_eq_true, beq_iff_eq, List.isEmpty_iff, and_self, and_true, true_and]

set_option maxHeartbeats 2000000 in
theorem rverb_mail (v : Vb) (w : World) (hv : Short 10000 v) (h : v.kind = 3) :
    Calls Tryz.prog 16 #[.agg #[.int .i64 v.kind, .string ⟨v.word.toArray⟩, .bool v.null, .string ⟨v.l.toArray⟩, .string ⟨v.d.toArray⟩, .int .i64 v.size]] w fun e w' => e = .returned (.bool (validV v)) ∧ Below w.heap.size w w' := by
  have HA := Lib.hid ((Below.refl _ w).alloc (Nat.le_refl _) (.cells #[.int .i64 v.kind, .string ⟨v.word.toArray⟩, .bool v.null, .string ⟨v.l.toArray⟩, .string ⟨v.d.toArray⟩, .int .i64 v.size] 27))
  have HM := Lib.hid (VAt.new w v)
  obtain ⟨k, wd, x, l, d, z⟩ := v
  obtain ⟨hwl, hl, hd⟩ := hv
  simp only at hwl hl hd HA HM h ⊢
  subst h
  have heq : ∀ w, (binOp .eql 27 (.agg #[.int .i64 3, .string ⟨wd.toArray⟩, .bool x, .string ⟨l.toArray⟩, .string ⟨d.toArray⟩, .int .i64 z]) (.agg #[.int .i64 3, .string ⟨#[]⟩, .bool x, .string ⟨l.toArray⟩, .string ⟨d.toArray⟩, .int .i64 z])).run Tryz.prog w = .ok (.bool wd.isEmpty) w := fun w => by
    rw [← mail_self wd x l d z]
    exact eq_verb ⟨3, wd, x, l, d, z⟩ ⟨3, [], x, l, d, z⟩ w
  have heb : ∀ w, (binOp .eql 25 (.agg #[.string ⟨l.toArray⟩, .string ⟨d.toArray⟩]) (.agg #[.string ⟨#[]⟩, .string ⟨#[]⟩])).run Tryz.prog w = .ok (.bool (l == [] && d == [])) w := fun w => by
    rw [run_eql_struct, show (10000 : Nat) = 9998 + 2 from rfl, eq_box_in 9998 l d [] [] w]
    rfl
  have HMY := Lib.hid (fun W => may_any l d W hl hd)
  have HE := Lib.hid (show validV ⟨3, wd, x, l, d, z⟩ = (wd.isEmpty && (((x && (l == [] && d == [])) || (!x && boxL l d)) && (decide (-1 ≤ z) && decide (z ≤ 1073741824)))) by simp [validV, Bool.and_assoc])
  generalize validV ⟨3, wd, x, l, d, z⟩ = r at *
  generalize boxL l d = c at *
  generalize (l == [] && d == []) = y at *
  generalize wd.isEmpty = q at *
  go_enter Tryz.func16, Tryz.ntmps16
  go_upto_region 8 with (fail)
  have hv := (VAt.new w ⟨3, wd, x, l, d, z⟩).alloc (.cells #[.int .i64 3, .string ⟨#[]⟩, .bool false, .string ⟨#[]⟩, .string ⟨#[]⟩, .int .i64 0] 27)
  have hx := VAt.new (w.alloc (.cells #[.int .i64 3, .string ⟨wd.toArray⟩, .bool x, .string ⟨l.toArray⟩, .string ⟨d.toArray⟩, .int .i64 z] 27)) ⟨3, [], false, [], [], 0⟩
  rw [World.size_alloc] at hx
  have hb := HA.out.alloc HA.out.size (.cells #[.int .i64 3, .string ⟨#[]⟩, .bool false, .string ⟨#[]⟩, .string ⟨#[]⟩, .int .i64 0] 27)
  have HVV := Lib.hid hv
  have HXX := Lib.hid hx
  have HBB := Lib.hid hb
  clear hv hx hb HA HM
  simp only at HVV HXX HBB
  generalize (w.alloc (.cells #[.int .i64 3, .string ⟨wd.toArray⟩, .bool x, .string ⟨l.toArray⟩, .string ⟨d.toArray⟩, .int .i64 z] 27)).alloc (.cells #[.int .i64 3, .string ⟨#[]⟩, .bool false, .string ⟨#[]⟩, .string ⟨#[]⟩, .int .i64 0] 27) = W0 at *
  have a2 := HVV.out.c2
  have a3 := HVV.out.c3
  have a4 := HVV.out.c4
  have a5 := HVV.out.c5
  have b2 := HXX.out.c2
  have b3 := HXX.out.c3
  have b4 := HXX.out.c4
  have b5 := HXX.out.c5
  have f2 := HXX.out.fz 2
  have f3 := HXX.out.fz 3
  have f4 := HXX.out.fz 4
  have f5 := HXX.out.fz 5
  go_region
  have hne : w.heap.size ≠ w.heap.size + 1 := by omega
  have HV1 : Hid (VAt (((((W0.setCell ⟨w.heap.size + 1, 2, none⟩ (.bool x)).setCell ⟨w.heap.size + 1, 3, none⟩ (.string ⟨l.toArray⟩)).setCell ⟨w.heap.size + 1, 4, none⟩ (.string ⟨d.toArray⟩)).setCell ⟨w.heap.size + 1, 5, none⟩ (.int .i64 z)).drew) w.heap.size ⟨3, wd, x, l, d, z⟩) := Lib.hid ((((HVV.out.other (p := ⟨w.heap.size + 1, 2, none⟩) hne (.bool x)).other (p := ⟨w.heap.size + 1, 3, none⟩) hne (.string ⟨l.toArray⟩)).other (p := ⟨w.heap.size + 1, 4, none⟩) hne (.string ⟨d.toArray⟩)).other (p := ⟨w.heap.size + 1, 5, none⟩) hne (.int .i64 z))
  have HX1 : Hid (VAt (((((W0.setCell ⟨w.heap.size + 1, 2, none⟩ (.bool x)).setCell ⟨w.heap.size + 1, 3, none⟩ (.string ⟨l.toArray⟩)).setCell ⟨w.heap.size + 1, 4, none⟩ (.string ⟨d.toArray⟩)).setCell ⟨w.heap.size + 1, 5, none⟩ (.int .i64 z)).drew) (w.heap.size + 1) ⟨3, [], x, l, d, z⟩) := Lib.hid ((((HXX.out.set2 x).set3 l).set4 d).set5 z)
  have HB1 := Lib.hid ((((HBB.out.setCell (p := ⟨w.heap.size + 1, 2, none⟩) (Nat.le_succ _) (.bool x)).setCell (p := ⟨w.heap.size + 1, 3, none⟩) (Nat.le_succ _) (.string ⟨l.toArray⟩)).setCell (p := ⟨w.heap.size + 1, 4, none⟩) (Nat.le_succ _) (.string ⟨d.toArray⟩)).setCell (p := ⟨w.heap.size + 1, 5, none⟩) (Nat.le_succ _) (.int .i64 z)).drew
  clear HVV HXX HBB a2 a3 a4 a5 b2 b3 b4 b5 f2 f3 f4 f5 hne
  generalize ((((W0.setCell ⟨w.heap.size + 1, 2, none⟩ (.bool x)).setCell ⟨w.heap.size + 1, 3, none⟩ (.string ⟨l.toArray⟩)).setCell ⟨w.heap.size + 1, 4, none⟩ (.string ⟨d.toArray⟩)).setCell ⟨w.heap.size + 1, 5, none⟩ (.int .i64 z)).drew = W1 at *
  cases x with
  | true =>
    have a0 := HV1.out.c0
    have b0 := HX1.out.c0
    have a1 := HV1.out.c1
    have b1 := HX1.out.c1
    have a2 := HV1.out.c2
    have b2 := HX1.out.c2
    have a3 := HV1.out.c3
    have b3 := HX1.out.c3
    have a4 := HV1.out.c4
    have b4 := HX1.out.c4
    have a5 := HV1.out.c5
    have b5 := HX1.out.c5
    cases q with
    | false =>
      go_wp2_with fail
      all_goals
        go_ret
        exact ⟨ret_bool (by rw [HE.out]; rfl), HB1.out⟩
    | true =>
      cases y with
      | false =>
        go_wp2_with fail
        go_ret
        exact ⟨ret_bool (by rw [HE.out]; rfl), HB1.out⟩
      | true =>
        by_cases hz1 : (-1 : Int) ≤ z
        · by_cases hz2 : z ≤ 1073741824
          · go_wp2_with fail
            go_ret
            exact ⟨ret_bool (by rw [HE.out]; simp [hz1, hz2]), HB1.out⟩
          · go_wp2_with fail
            go_ret
            exact ⟨ret_bool (by rw [HE.out]; simp [hz1, hz2]), HB1.out⟩
        · go_wp2_with fail
          go_ret
          exact ⟨ret_bool (by rw [HE.out]; simp; omega), HB1.out⟩
  | false =>
    have a0 := HV1.out.c0
    have b0 := HX1.out.c0
    have a1 := HV1.out.c1
    have b1 := HX1.out.c1
    have a2 := HV1.out.c2
    have b2 := HX1.out.c2
    have a3 := HV1.out.c3
    have b3 := HX1.out.c3
    have a4 := HV1.out.c4
    have b4 := HX1.out.c4
    have a5 := HV1.out.c5
    have b5 := HX1.out.c5
    go_wp2_with fail
    refine Calls.mono (HMY.out _) ?_
    rintro e w2 ⟨rfl, hb⟩
    have HV2 := Lib.hid (HV1.out.later hb)
    have HX2 := Lib.hid (HX1.out.later hb)
    have HB2 := Lib.hid (HB1.out.trans (hb.mono HB1.out.size))
    clear hb a0 a1 a2 a3 a4 a5 b0 b1 b2 b3 b4 b5
    have a0 := HV2.out.c0
    have b0 := HX2.out.c0
    have a1 := HV2.out.c1
    have b1 := HX2.out.c1
    have a2 := HV2.out.c2
    have b2 := HX2.out.c2
    have a3 := HV2.out.c3
    have b3 := HX2.out.c3
    have a4 := HV2.out.c4
    have b4 := HX2.out.c4
    have a5 := HV2.out.c5
    have b5 := HX2.out.c5
    cases q with
    | false =>
      go_wp2_with fail
      go_ret
      exact ⟨ret_bool (by rw [HE.out]; rfl), HB2.out⟩
    | true =>
      cases c with
      | false =>
        go_wp2_with fail
        go_ret
        exact ⟨ret_bool (by rw [HE.out]; rfl), HB2.out⟩
      | true =>
        by_cases hz1 : (-1 : Int) ≤ z
        · by_cases hz2 : z ≤ 1073741824
          · go_wp2_with fail
            go_ret
            exact ⟨ret_bool (by rw [HE.out]; simp [hz1, hz2]), HB2.out⟩
          · go_wp2_with fail
            go_ret
            exact ⟨ret_bool (by rw [HE.out]; simp [hz1]), HB2.out⟩
        · go_wp2_with fail
          go_ret
          exact ⟨ret_bool (by rw [HE.out]; simp; omega), HB2.out⟩

theorem rverb_any (v : Vb) (w : World) (hv : Short 10000 v) :
    Calls Tryz.prog 16 #[.agg #[.int .i64 v.kind, .string ⟨v.word.toArray⟩, .bool v.null, .string ⟨v.l.toArray⟩, .string ⟨v.d.toArray⟩, .int .i64 v.size]] w fun e w' => e = .returned (.bool (validV v)) ∧ Below w.heap.size w w' := by
  by_cases h : 1 ≤ v.kind ∧ v.kind ≤ 9
  · have : v.kind = 1 ∨ v.kind = 2 ∨ v.kind = 3 ∨ v.kind = 4 ∨ v.kind = 5 ∨ v.kind = 6 ∨ v.kind = 7 ∨ v.kind = 8 ∨ v.kind = 9 := by omega
    rcases this with h | h | h | h | h | h | h | h | h
    · exact rverb_helo1 v w hv h
    · exact rverb_helo2 v w hv h
    · exact rverb_mail v w hv h
    · exact rverb_rcpt v w hv h
    · exact rverb_bare5 v w hv h
    · exact rverb_bare6 v w hv h
    · exact rverb_noop v w hv h
    · exact rverb_bare8 v w hv h
    · exact rverb_vrfy v w hv h
  · exact rverb_none v w hv h
end Go.Proofs.YtkbhmkofflcpjaaGreatDoor

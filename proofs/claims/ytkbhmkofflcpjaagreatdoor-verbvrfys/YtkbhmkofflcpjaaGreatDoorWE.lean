/-
  The page's VerbText, walked: the line of a command that may be.
  Conditions: as each theorem states them.
-/
import Derived.Test.YtkbhmkofflcpjaaGreatDoorWD
namespace Go.Proofs.YtkbhmkofflcpjaaGreatDoor
open Go.RowKit

set_option maxHeartbeats 2000000 in
theorem vtext_mail (v : Vb) (w : World) (hv : Short 9000 v) (h : v.kind = 3) (hz : v.size ≤ 1073741824) :
    Calls Tryz.prog 17 #[.agg #[.int .i64 v.kind, .string ⟨v.word.toArray⟩, .bool v.null, .string ⟨v.l.toArray⟩, .string ⟨v.d.toArray⟩, .int .i64 v.size]] w fun e w' => e = .returned (.string ⟨(textV v).toArray⟩) ∧ Below w.heap.size w w' := by
  have hA := (Below.refl _ w).alloc (Nat.le_refl _) (.cells #[.int .i64 v.kind, .string ⟨v.word.toArray⟩, .bool v.null, .string ⟨v.l.toArray⟩, .string ⟨v.d.toArray⟩, .int .i64 v.size] 27)
  have HA := Lib.hid hA
  have HM := Lib.hid (VAt.new w v)
  have HN := Lib.hid (show ∀ W, Calls Tryz.prog 29 #[.int .i64 3] W fun e w' => e = .returned (.string ⟨#[77, 65, 73, 76]⟩) ∧ W = w' from fun W => rname_lit 3 W (by omega) (by omega))
  obtain ⟨k, wd, x, l, d, z⟩ := v
  obtain ⟨hwl, hl, hd⟩ := hv
  simp only at hwl hl hd HA HM h hz ⊢
  subst h
  have HT := Lib.hid (fun W => rtext_any l d W (by omega) (by omega))
  have hadd1 : ∀ w, (Op.stringOp .add ⟨#[77, 65, 73, 76]⟩ ⟨#[32, 70, 82, 79, 77, 58, 60]⟩).run Tryz.prog w = .ok (.string ⟨#[77, 65, 73, 76, 32, 70, 82, 79, 77, 58, 60]⟩) w := fun w => add_str [77, 65, 73, 76] [32, 70, 82, 79, 77, 58, 60] w (by decide)
  obtain ⟨p, hp⟩ : ∃ p, pathT ⟨3, wd, x, l, d, z⟩ = p := ⟨_, rfl⟩
  have hpl : p.length ≤ 18001 := by rw [← hp]; exact path_len2 _ ⟨hwl, hl, hd⟩
  have hadd2 : ∀ w, (Op.stringOp .add ⟨#[77, 65, 73, 76, 32, 70, 82, 79, 77, 58, 60]⟩ ⟨(l ++ 64 :: d).toArray⟩).run Tryz.prog w = .ok (.string ⟨([77, 65, 73, 76, 32, 70, 82, 79, 77, 58, 60] ++ (l ++ 64 :: d)).toArray⟩) w := fun w => add_str [77, 65, 73, 76, 32, 70, 82, 79, 77, 58, 60] (l ++ 64 :: d) w (by simp; omega)
  have hsl := size_len2 z hz
  by_cases hz0 : 0 ≤ z
  · obtain ⟨n, rfl⟩ : ∃ n : Nat, z = (n : Int) := ⟨z.toNat, by omega⟩
    have hdl := dec_len 9 n (by omega)
    have HD := Lib.hid (fun W => rdecimal_any n W (by omega))
    have HE := Lib.hid (show textV ⟨3, wd, x, l, d, (n : Int)⟩ = ([77, 65, 73, 76, 32, 70, 82, 79, 77, 58, 60] ++ p) ++ [62] ++ [32, 83, 73, 90, 69, 61] ++ Lib.decDigits n by
      rw [textV, if_pos rfl, hp, sizeT, if_pos hz0, Int.toNat_natCast]
      simp [nameL])
    cases x with
    | true =>
      obtain rfl : p = [] := hp.symm
      have hadd3 : ∀ w, (Op.stringOp .add ⟨#[77, 65, 73, 76, 32, 70, 82, 79, 77, 58, 60]⟩ ⟨#[62]⟩).run Tryz.prog w = .ok (.string ⟨#[77, 65, 73, 76, 32, 70, 82, 79, 77, 58, 60, 62]⟩) w := fun w => add_str [77, 65, 73, 76, 32, 70, 82, 79, 77, 58, 60] [62] w (by decide)
      have hadd4 : ∀ w, (Op.stringOp .add ⟨#[77, 65, 73, 76, 32, 70, 82, 79, 77, 58, 60, 62]⟩ ⟨#[32, 83, 73, 90, 69, 61]⟩).run Tryz.prog w = .ok (.string ⟨#[77, 65, 73, 76, 32, 70, 82, 79, 77, 58, 60, 62, 32, 83, 73, 90, 69, 61]⟩) w := fun w => add_str [77, 65, 73, 76, 32, 70, 82, 79, 77, 58, 60, 62] [32, 83, 73, 90, 69, 61] w (by decide)
      have hadd5 : ∀ w, (Op.stringOp .add ⟨#[77, 65, 73, 76, 32, 70, 82, 79, 77, 58, 60, 62, 32, 83, 73, 90, 69, 61]⟩ ⟨(Lib.decDigits n).toArray⟩).run Tryz.prog w = .ok (.string ⟨([77, 65, 73, 76, 32, 70, 82, 79, 77, 58, 60, 62, 32, 83, 73, 90, 69, 61] ++ Lib.decDigits n).toArray⟩) w := fun w => add_str [77, 65, 73, 76, 32, 70, 82, 79, 77, 58, 60, 62, 32, 83, 73, 90, 69, 61] (Lib.decDigits n) w (by simp; omega)
      clear hp hA
      generalize Lib.decDigits n = ds at *
      generalize textV ⟨3, wd, true, l, d, (n : Int)⟩ = r at *
      go_enter Tryz.func17, Tryz.ntmps17
      go_wp2_with fail
      refine Calls.mono (HN.out _) ?_
      rintro e w1 ⟨rfl, rfl⟩
      go_wp2_with fail
      refine Calls.mono (HD.out _) ?_
      rintro e w2 ⟨rfl, hb⟩
      have HB := Lib.hid (below_step HA.out hb)
      clear hb
      go_wp2_with fail
      go_ret
      exact ⟨by rw [HE.out]; rfl, HB.out⟩
    | false =>
      obtain rfl : p = l ++ 64 :: d := hp.symm
      generalize l ++ 64 :: d = p at *
      have hadd3 : ∀ w, (Op.stringOp .add ⟨([77, 65, 73, 76, 32, 70, 82, 79, 77, 58, 60] ++ p).toArray⟩ ⟨#[62]⟩).run Tryz.prog w = .ok (.string ⟨(([77, 65, 73, 76, 32, 70, 82, 79, 77, 58, 60] ++ p) ++ [62]).toArray⟩) w := fun w => add_str ([77, 65, 73, 76, 32, 70, 82, 79, 77, 58, 60] ++ p) [62] w (by simp; omega)
      have hadd4 : ∀ w, (Op.stringOp .add ⟨(([77, 65, 73, 76, 32, 70, 82, 79, 77, 58, 60] ++ p) ++ [62]).toArray⟩ ⟨#[32, 83, 73, 90, 69, 61]⟩).run Tryz.prog w = .ok (.string ⟨((([77, 65, 73, 76, 32, 70, 82, 79, 77, 58, 60] ++ p) ++ [62]) ++ [32, 83, 73, 90, 69, 61]).toArray⟩) w := fun w => add_str (([77, 65, 73, 76, 32, 70, 82, 79, 77, 58, 60] ++ p) ++ [62]) [32, 83, 73, 90, 69, 61] w (by simp; omega)
      have hadd5 : ∀ w, (Op.stringOp .add ⟨((([77, 65, 73, 76, 32, 70, 82, 79, 77, 58, 60] ++ p) ++ [62]) ++ [32, 83, 73, 90, 69, 61]).toArray⟩ ⟨(Lib.decDigits n).toArray⟩).run Tryz.prog w = .ok (.string ⟨(((([77, 65, 73, 76, 32, 70, 82, 79, 77, 58, 60] ++ p) ++ [62]) ++ [32, 83, 73, 90, 69, 61]) ++ Lib.decDigits n).toArray⟩) w := fun w => add_str ((([77, 65, 73, 76, 32, 70, 82, 79, 77, 58, 60] ++ p) ++ [62]) ++ [32, 83, 73, 90, 69, 61]) (Lib.decDigits n) w (by simp; omega)
      obtain ⟨a2, ha2⟩ : ∃ a2, [77, 65, 73, 76, 32, 70, 82, 79, 77, 58, 60] ++ p = a2 := ⟨_, rfl⟩
      rw [ha2] at hadd2 hadd3 hadd4 hadd5 HE
      obtain ⟨a3, ha3⟩ : ∃ a3, a2 ++ [62] = a3 := ⟨_, rfl⟩
      rw [ha3] at hadd3 hadd4 hadd5 HE
      obtain ⟨a4, ha4⟩ : ∃ a4, a3 ++ [32, 83, 73, 90, 69, 61] = a4 := ⟨_, rfl⟩
      rw [ha4] at hadd4 hadd5 HE
      clear hp hA ha2 ha3 ha4
      generalize Lib.decDigits n = ds at *
      generalize textV ⟨3, wd, false, l, d, (n : Int)⟩ = r at *
      go_enter Tryz.func17, Tryz.ntmps17
      go_wp2_with fail
      refine Calls.mono (HN.out _) ?_
      rintro e w1 ⟨rfl, rfl⟩
      go_wp2_with fail
      refine Calls.mono (HT.out _) ?_
      rintro e w2 ⟨rfl, hb⟩
      have HB := Lib.hid (below_step HA.out hb)
      have c5 := (HM.out.later hb).c5
      clear hb
      go_wp2_with fail
      refine Calls.mono (HD.out _) ?_
      rintro e w3 ⟨rfl, hb⟩
      have HB2 := Lib.hid (below_step HB.out hb)
      clear hb
      go_wp2_with fail
      go_ret
      exact ⟨by rw [HE.out]; rfl, HB2.out⟩
  · have HE := Lib.hid (show textV ⟨3, wd, x, l, d, z⟩ = ([77, 65, 73, 76, 32, 70, 82, 79, 77, 58, 60] ++ p) ++ [62] by
      rw [textV, if_pos rfl, hp, sizeT, if_neg hz0]
      simp [nameL])
    have hzi : ¬ ((0 : Int) ≤ z) := hz0
    cases x with
    | true =>
      obtain rfl : p = [] := hp.symm
      have hadd3 : ∀ w, (Op.stringOp .add ⟨#[77, 65, 73, 76, 32, 70, 82, 79, 77, 58, 60]⟩ ⟨#[62]⟩).run Tryz.prog w = .ok (.string ⟨#[77, 65, 73, 76, 32, 70, 82, 79, 77, 58, 60, 62]⟩) w := fun w => add_str [77, 65, 73, 76, 32, 70, 82, 79, 77, 58, 60] [62] w (by decide)
      clear hp hA
      generalize textV ⟨3, wd, true, l, d, z⟩ = r at *
      go_enter Tryz.func17, Tryz.ntmps17
      go_wp2_with fail
      refine Calls.mono (HN.out _) ?_
      rintro e w1 ⟨rfl, rfl⟩
      go_wp2_with fail
      go_ret
      exact ⟨by rw [HE.out]; rfl, HA.out⟩
    | false =>
      obtain rfl : p = l ++ 64 :: d := hp.symm
      generalize l ++ 64 :: d = p at *
      have hadd3 : ∀ w, (Op.stringOp .add ⟨([77, 65, 73, 76, 32, 70, 82, 79, 77, 58, 60] ++ p).toArray⟩ ⟨#[62]⟩).run Tryz.prog w = .ok (.string ⟨(([77, 65, 73, 76, 32, 70, 82, 79, 77, 58, 60] ++ p) ++ [62]).toArray⟩) w := fun w => add_str ([77, 65, 73, 76, 32, 70, 82, 79, 77, 58, 60] ++ p) [62] w (by simp; omega)
      obtain ⟨a2, ha2⟩ : ∃ a2, [77, 65, 73, 76, 32, 70, 82, 79, 77, 58, 60] ++ p = a2 := ⟨_, rfl⟩
      rw [ha2] at hadd2 hadd3 HE
      clear hp hA ha2
      generalize textV ⟨3, wd, false, l, d, z⟩ = r at *
      go_enter Tryz.func17, Tryz.ntmps17
      go_wp2_with fail
      refine Calls.mono (HN.out _) ?_
      rintro e w1 ⟨rfl, rfl⟩
      go_wp2_with fail
      refine Calls.mono (HT.out _) ?_
      rintro e w2 ⟨rfl, hb⟩
      have HB := Lib.hid (below_step HA.out hb)
      have c5 := (HM.out.later hb).c5
      clear hb
      go_wp2_with fail
      go_ret
      exact ⟨by rw [HE.out]; rfl, HB.out⟩

set_option maxHeartbeats 2000000 in
theorem vtext_rcpt (v : Vb) (w : World) (hv : Short 9000 v) (h : v.kind = 4) :
    Calls Tryz.prog 17 #[.agg #[.int .i64 v.kind, .string ⟨v.word.toArray⟩, .bool v.null, .string ⟨v.l.toArray⟩, .string ⟨v.d.toArray⟩, .int .i64 v.size]] w fun e w' => e = .returned (.string ⟨(textV v).toArray⟩) ∧ Below w.heap.size w w' := by
  have HA := Lib.hid ((Below.refl _ w).alloc (Nat.le_refl _) (.cells #[.int .i64 v.kind, .string ⟨v.word.toArray⟩, .bool v.null, .string ⟨v.l.toArray⟩, .string ⟨v.d.toArray⟩, .int .i64 v.size] 27))
  have HN := Lib.hid (show ∀ W, Calls Tryz.prog 29 #[.int .i64 4] W fun e w' => e = .returned (.string ⟨#[82, 67, 80, 84]⟩) ∧ W = w' from fun W => rname_lit 4 W (by omega) (by omega))
  obtain ⟨k, wd, x, l, d, z⟩ := v
  obtain ⟨hwl, hl, hd⟩ := hv
  simp only at hwl hl hd HA h ⊢
  subst h
  have HT := Lib.hid (fun W => rtext_any l d W (by omega) (by omega))
  have hadd1 : ∀ w, (Op.stringOp .add ⟨#[82, 67, 80, 84]⟩ ⟨#[32, 84, 79, 58, 60]⟩).run Tryz.prog w = .ok (.string ⟨#[82, 67, 80, 84, 32, 84, 79, 58, 60]⟩) w := fun w => add_str [82, 67, 80, 84] [32, 84, 79, 58, 60] w (by decide)
  have hpl : (l ++ 64 :: d).length ≤ 18001 := by simp; omega
  have HE := Lib.hid (show textV ⟨4, wd, x, l, d, z⟩ = ([82, 67, 80, 84, 32, 84, 79, 58, 60] ++ (l ++ 64 :: d)) ++ [62] by
    rw [textV, if_neg (show ¬ ((4 : Int) = 3) by decide), if_pos rfl]
    simp [nameL])
  generalize l ++ 64 :: d = p at *
  have hadd2 : ∀ w, (Op.stringOp .add ⟨#[82, 67, 80, 84, 32, 84, 79, 58, 60]⟩ ⟨p.toArray⟩).run Tryz.prog w = .ok (.string ⟨([82, 67, 80, 84, 32, 84, 79, 58, 60] ++ p).toArray⟩) w := fun w => add_str [82, 67, 80, 84, 32, 84, 79, 58, 60] p w (by simp; omega)
  have hadd3 : ∀ w, (Op.stringOp .add ⟨([82, 67, 80, 84, 32, 84, 79, 58, 60] ++ p).toArray⟩ ⟨#[62]⟩).run Tryz.prog w = .ok (.string ⟨(([82, 67, 80, 84, 32, 84, 79, 58, 60] ++ p) ++ [62]).toArray⟩) w := fun w => add_str ([82, 67, 80, 84, 32, 84, 79, 58, 60] ++ p) [62] w (by simp; omega)
  obtain ⟨a2, ha2⟩ : ∃ a2, [82, 67, 80, 84, 32, 84, 79, 58, 60] ++ p = a2 := ⟨_, rfl⟩
  rw [ha2] at hadd2 hadd3 HE
  clear ha2
  generalize textV ⟨4, wd, x, l, d, z⟩ = r at *
  go_enter Tryz.func17, Tryz.ntmps17
  go_wp2_with fail
  refine Calls.mono (HN.out _) ?_
  rintro e w1 ⟨rfl, rfl⟩
  go_wp2_with fail
  refine Calls.mono (HT.out _) ?_
  rintro e w2 ⟨rfl, hb⟩
  have HB := Lib.hid (below_step HA.out hb)
  clear hb
  go_wp2_with fail
  go_ret
  exact ⟨by rw [HE.out]; rfl, HB.out⟩

set_option maxHeartbeats 2000000 in
theorem vtext_word (v : Vb) (w : World) (hv : Short 9000 v) (h1 : 1 ≤ v.kind) (h9 : v.kind ≤ 9) (h3 : v.kind ≠ 3) (h4 : v.kind ≠ 4) :
    Calls Tryz.prog 17 #[.agg #[.int .i64 v.kind, .string ⟨v.word.toArray⟩, .bool v.null, .string ⟨v.l.toArray⟩, .string ⟨v.d.toArray⟩, .int .i64 v.size]] w fun e w' => e = .returned (.string ⟨(textV v).toArray⟩) ∧ Below w.heap.size w w' := by
  have HA := Lib.hid ((Below.refl _ w).alloc (Nat.le_refl _) (.cells #[.int .i64 v.kind, .string ⟨v.word.toArray⟩, .bool v.null, .string ⟨v.l.toArray⟩, .string ⟨v.d.toArray⟩, .int .i64 v.size] 27))
  obtain ⟨k, wd, x, l, d, z⟩ := v
  obtain ⟨hwl, hl, hd⟩ := hv
  simp only at hwl hl hd HA h1 h9 h3 h4 ⊢
  obtain ⟨kn, rfl⟩ : ∃ kn : Nat, k = (kn : Int) := ⟨k.toNat, by omega⟩
  have HN := Lib.hid (fun W => rname_lit kn W (by omega) (by omega))
  have e3 : ((kn : Int) == 3) = false := beq_eq_false_iff_ne.2 h3
  have e4 : ((kn : Int) == 4) = false := beq_eq_false_iff_ne.2 h4
  have hnl := name_len (kn : Int)
  have HE := Lib.hid (show textV ⟨(kn : Int), wd, x, l, d, z⟩ = if wd.isEmpty then nameL (kn : Int) else nameL (kn : Int) ++ 32 :: wd by
    rw [textV, if_neg h3, if_neg h4])
  have hadd1 := fun w => add_str (nameL (kn : Int)) [32] w (by simp; omega)
  have hadd2 := fun w => add_str (nameL (kn : Int) ++ [32]) wd w (by simp; omega)
  clear h3 h4 h1 h9
  generalize textV ⟨(kn : Int), wd, x, l, d, z⟩ = r at *
  generalize nameL (kn : Int) = nm at *
  cases hw0 : wd with
  | nil =>
    subst hw0
    go_enter Tryz.func17, Tryz.ntmps17
    go_wp2_with fail
    refine Calls.mono (HN.out _) ?_
    rintro e w1 ⟨rfl, rfl⟩
    go_wp2_with fail
    go_ret
    exact ⟨by rw [HE.out]; rfl, HA.out⟩
  | cons a b =>
    have h0 : wd ≠ [] := by rw [hw0]; exact List.cons_ne_nil _ _
    rw [← hw0]
    clear hw0
    have hne := ne_empty h0
    have hn2 : (wd == []) = false := by
      rw [beq_eq_false_iff_ne]
      exact h0
    have HE2 := Lib.hid (show r = (nm ++ [32]) ++ wd by rw [HE.out, hne]; simp)
    obtain ⟨a2, ha2⟩ : ∃ a2, nm ++ [32] = a2 := ⟨_, rfl⟩
    rw [ha2] at hadd1 hadd2 HE2
    clear h0 HE ha2
    go_enter Tryz.func17, Tryz.ntmps17
    go_wp2_with fail
    refine Calls.mono (HN.out _) ?_
    rintro e w1 ⟨rfl, rfl⟩
    go_wp2_with fail
    go_ret
    exact ⟨by rw [HE2.out]; rfl, HA.out⟩

theorem rverbText_any (v : Vb) (w : World) (hv : Short 9000 v) (h : validV v = true) :
    Calls Tryz.prog 17 #[.agg #[.int .i64 v.kind, .string ⟨v.word.toArray⟩, .bool v.null, .string ⟨v.l.toArray⟩, .string ⟨v.d.toArray⟩, .int .i64 v.size]] w fun e w' => e = .returned (.string ⟨(textV v).toArray⟩) ∧ Below w.heap.size w w' := by
  by_cases h3 : v.kind = 3
  · exact vtext_mail v w hv h3 (valid_box h (.inl h3)).2.2
  · by_cases h4 : v.kind = 4
    · exact vtext_rcpt v w hv h4
    · exact vtext_word v w hv (valid_kind h).1 (valid_kind h).2 h3 h4
end Go.Proofs.YtkbhmkofflcpjaaGreatDoor

namespace Go.Proofs.YtkbhmkofflcpjaaGreatDoor
open Go.RowKit

/-- What ParseVerb has made: the result still empty, a command beside it. -/
structure Bg (w : World) (n1 : Nat) (v : Vb) (W : World) : Prop where
  z : VAt W w.heap.size zeroV
  v : VAt W n1 v
  b : Below w.heap.size w W
  lt : w.heap.size < n1
theorem Bg.later {w W W' : World} {v : Vb} {n1 : Nat} (h : Bg w n1 v W) (hb : Below W.heap.size W W') : Bg w n1 v W' :=
  ⟨h.z.later hb, h.v.later hb, h.b.trans (hb.mono h.b.size), h.lt⟩
theorem Bg.set1 {w W : World} {v : Vb} {n1 : Nat} (h : Bg w n1 v W) (x : List UInt8) : Bg w n1 { v with word := x } (W.setCell ⟨n1, 1, none⟩ (.string ⟨x.toArray⟩)) :=
  ⟨h.z.other (p := ⟨n1, 1, none⟩) (Nat.ne_of_lt h.lt) _, h.v.set1 x, h.b.setCell (p := ⟨n1, 1, none⟩) (Nat.le_of_lt h.lt) _, h.lt⟩
theorem Bg.set2 {w W : World} {v : Vb} {n1 : Nat} (h : Bg w n1 v W) (x : Bool) : Bg w n1 { v with null := x } (W.setCell ⟨n1, 2, none⟩ (.bool x)) :=
  ⟨h.z.other (p := ⟨n1, 2, none⟩) (Nat.ne_of_lt h.lt) _, h.v.set2 x, h.b.setCell (p := ⟨n1, 2, none⟩) (Nat.le_of_lt h.lt) _, h.lt⟩
theorem Bg.set3 {w W : World} {v : Vb} {n1 : Nat} (h : Bg w n1 v W) (x : List UInt8) : Bg w n1 { v with l := x } (W.setCell ⟨n1, 3, none⟩ (.string ⟨x.toArray⟩)) :=
  ⟨h.z.other (p := ⟨n1, 3, none⟩) (Nat.ne_of_lt h.lt) _, h.v.set3 x, h.b.setCell (p := ⟨n1, 3, none⟩) (Nat.le_of_lt h.lt) _, h.lt⟩
theorem Bg.set4 {w W : World} {v : Vb} {n1 : Nat} (h : Bg w n1 v W) (x : List UInt8) : Bg w n1 { v with d := x } (W.setCell ⟨n1, 4, none⟩ (.string ⟨x.toArray⟩)) :=
  ⟨h.z.other (p := ⟨n1, 4, none⟩) (Nat.ne_of_lt h.lt) _, h.v.set4 x, h.b.setCell (p := ⟨n1, 4, none⟩) (Nat.le_of_lt h.lt) _, h.lt⟩
theorem Bg.set5 {w W : World} {v : Vb} {n1 : Nat} (h : Bg w n1 v W) (x : Int) : Bg w n1 { v with size := x } (W.setCell ⟨n1, 5, none⟩ (.int .i64 x)) :=
  ⟨h.z.other (p := ⟨n1, 5, none⟩) (Nat.ne_of_lt h.lt) _, h.v.set5 x, h.b.setCell (p := ⟨n1, 5, none⟩) (Nat.le_of_lt h.lt) _, h.lt⟩
theorem bg_new (w W1 : World) (k : Int) (hz : VAt W1 w.heap.size zeroV) (hb : Below w.heap.size w W1) :
    Bg w W1.heap.size ⟨k, [], false, [], [], 0⟩ (W1.alloc (.cells #[.int .i64 k, .string ⟨#[]⟩, .bool false, .string ⟨#[]⟩, .string ⟨#[]⟩, .int .i64 0] 27)) :=
  ⟨hz.alloc _, VAt.new W1 ⟨k, [], false, [], [], 0⟩, hb.alloc hb.size _, hz.lt⟩

/-- What ParseVerb answers. -/
def pvE (p : Vb × Int) : Ending := .returned (.tuple #[vbV p.1, .int .i64 p.2])
theorem pv_good {s : List UInt8} {v : Vb} (h : readV s = outV v) (hv : validV v = true) : Ending.returned (.tuple #[vbV v, .int .i64 0]) = pvE (readV s) := by
  rw [h, outV, if_pos hv]
  rfl
theorem pv_bad {s : List UInt8} {v : Vb} (h : readV s = outV v) (hv : validV v = false) : Ending.returned (.tuple #[vbV zeroV, .int .i64 8]) = pvE (readV s) := by
  rw [h, outV, if_neg (by rw [hv]; exact Bool.false_ne_true)]
  rfl
theorem pv_no {s : List UInt8} {n : Int} (h : readV s = (zeroV, n)) : Ending.returned (.tuple #[vbV zeroV, .int .i64 n]) = pvE (readV s) := by
  rw [h]
  rfl
theorem kind_zero {s : List UInt8} (h : ∀ j : Nat, 1 ≤ j → j < 10 → beginsL s (nameL (j : Int)) = false) : kindL s = 0 := by
  by_cases hk : kindL s = 0
  · exact hk
  · have hr := kind_range s
    obtain ⟨j, hj⟩ : ∃ j : Nat, kindL s = (j : Int) := ⟨(kindL s).toNat, by omega⟩
    have := begins_kind hk
    rw [hj, h j (by omega) (by omega)] at this
    cases this

set_option maxHeartbeats 4000000 in
theorem pv_none (s : List UInt8) (w : World) (hs : s.length ≤ 3000) (h : kindL s = 0 ∨ restOk s = false) :
    Calls Tryz.prog 23 #[.string ⟨s.toArray⟩] w fun e w' => e = pvE (readV s) ∧ Below w.heap.size w w' := by
  have HA := Lib.hid ((Below.refl _ w).alloc (Nat.le_refl _) (.cells #[.int .i64 0, .string ⟨#[]⟩, .bool false, .string ⟨#[]⟩, .string ⟨#[]⟩, .int .i64 0] 27))
  have HZ0 := Lib.hid (VAt.new w zeroV)
  have HE := Lib.hid (show readV s = (zeroV, 3) by
    have h' := h
    rw [rest_iff] at h'
    unfold readV
    rw [if_pos h'])
  go_enter Tryz.func23, Tryz.ntmps23
  go_wp2_with fail
  go_loopg [4, 5] 9 (fun g s4 s5 wx => Below w.heap.size w wx ∧ VAt wx w.heap.size zeroV ∧ ∃ (k : Nat) (K : Int), s4 = .int .i64 K ∧ s5 = .int .i64 k ∧ k + g = 10 ∧ 1 ≤ k ∧ ((K = 0 ∧ ∀ j : Nat, 1 ≤ j → j < k → beginsL s (nameL (j : Int)) = false) ∨ K = kindL s))
  case atStart => exact ⟨HA.out, HZ0.out, 1, 0, rfl, rfl, by omega, by omega, .inl ⟨rfl, fun j h1 h2 => by omega⟩⟩
  case round =>
    obtain ⟨hb, hz, k, K, rfl, rfl, hkg, h1, hK⟩ := hrel
    have HB := Lib.hid hb
    have HZ := Lib.hid hz
    have HKK := Lib.hid hK
    clear hb hz hK HA HZ0
    cases gk with
    | succ g =>
      have hk9 : (k : Int) ≤ 9 := by omega
      have HNM := Lib.hid (rname_lit k wr h1 (by omega))
      have hnl := name_len (k : Int)
      have HBG := Lib.hid (rbegins_any s (nameL (k : Int)) wr (by omega) (by omega))
      cases hbg : beginsL s (nameL (k : Int)) with
      | false =>
        have HN2 : Hid ((K = 0 ∧ ∀ j : Nat, 1 ≤ j → j < k + 1 → beginsL s (nameL (j : Int)) = false) ∨ K = kindL s) := Lib.hid (HKK.out.imp (fun h => ⟨h.1, fun j hj1 hj2 => by
          by_cases hjk : j = k
          · subst hjk
            exact hbg
          · exact h.2 j hj1 (by omega)⟩) id)
        rw [hbg] at HBG
        clear hbg
        generalize nameL (k : Int) = nm at *
        go_wp2_with fail
        refine Calls.mono HNM.out ?_
        rintro e w1 ⟨rfl, rfl⟩
        go_wp2_with fail
        refine Calls.mono HBG.out ?_
        rintro e w1 ⟨rfl, hb1⟩
        have HB1 := Lib.hid (HB.out.trans (hb1.mono HB.out.size))
        have HZ1 := Lib.hid (HZ.out.later hb1)
        clear hb1
        go_wp2_with fail
        go_roundg g
        case measure => omega
        case rel => exact ⟨HB1.out, HZ1.out, k + 1, K, rfl, by simp, by omega, by omega, HN2.out⟩
      | true =>
        have HK2 := Lib.hid (kind_begins h1 (by omega) hbg)
        rw [hbg] at HBG
        clear hbg
        generalize nameL (k : Int) = nm at *
        go_wp2_with fail
        refine Calls.mono HNM.out ?_
        rintro e w1 ⟨rfl, rfl⟩
        go_wp2_with fail
        refine Calls.mono HBG.out ?_
        rintro e w1 ⟨rfl, hb1⟩
        have HB1 := Lib.hid (HB.out.trans (hb1.mono HB.out.size))
        have HZ1 := Lib.hid (HZ.out.later hb1)
        clear hb1
        go_wp2_with fail
        go_roundg g
        case measure => omega
        case rel => exact ⟨HB1.out, HZ1.out, k + 1, (k : Int), rfl, by simp, by omega, by omega, .inr HK2.out.symm⟩
    | zero =>
      obtain rfl : k = 10 := by omega
      have HK : K = kindL s := by
        rcases HKK.out with ⟨h0, hn⟩ | h
        · rw [h0, kind_zero hn]
        · exact h
      rw [show ((10 : Nat) : Int) = 10 from rfl]
      generalize wr = W1 at *
      clear HKK hkg h1
      have HZX := HZ
      have HBX := HB
      by_cases h0 : kindL s = 0
      · rw [h0] at HK
        subst HK
        have z0 := HZX.out.c0
        have y0 := HZX.out.fz 0
        have z1 := HZX.out.c1
        have y1 := HZX.out.fz 1
        have z2 := HZX.out.c2
        have y2 := HZX.out.fz 2
        have z3 := HZX.out.c3
        have y3 := HZX.out.fz 3
        have z4 := HZX.out.c4
        have y4 := HZX.out.fz 4
        have z5 := HZX.out.c5
        have y5 := HZX.out.fz 5
        go_wp2_with fail
        have hk := HZX.out.set6 zeroV
        have k0 := hk.c0
        have k1 := hk.c1
        have k2 := hk.c2
        have k3 := hk.c3
        have k4 := hk.c4
        have k5 := hk.c5
        simp only [Go.Proofs.YtkbhmkofflcpjaaGreatDoor.set6, zeroV] at k0 k1 k2 k3 k4 k5
        refine bodyPost_ret (v := .tuple #[vbV zeroV, .int .i64 3]) (by simp [results, Tryz.results23, go_sem, k0, k1, k2, k3, k4, k5, vbV, vbCells, zeroV]) rfl ⟨pv_no HE.out, below_set6 HBX.out (Nat.le_refl _) zeroV⟩
      · have hr : restOk s = false := h.resolve_left h0
        rw [rest_iff] at hr
        have h4i : (4 : Int) < (s.length : Int) := by omega
        have hB : 4 < (⟨s.toArray⟩ : ByteArray).size := hr.1
        have hK0 : (K == 0) = false := beq_eq_false_iff_ne.2 (by rw [HK]; exact h0)
        have hc4 : ((((⟨s.toArray⟩ : ByteArray)[4]'hB).toNat : Int) != 32) = true := byte_bne (n := 32) (by decide) (by
          have h2 := hr.2
          have : s.getD 4 0 = (⟨s.toArray⟩ : ByteArray)[4]'hB := by
            show s.getD 4 0 = s[4]
            simp [List.getD, hr.1]
          rw [this] at h2
          exact h2)
        have h4l := hr.1
        clear HK h0 hr h
        go_upto_region 8 with (fail)
        have z0 := HZX.out.c0
        have y0 := HZX.out.fz 0
        have z1 := HZX.out.c1
        have y1 := HZX.out.fz 1
        have z2 := HZX.out.c2
        have y2 := HZX.out.fz 2
        have z3 := HZX.out.c3
        have y3 := HZX.out.fz 3
        have z4 := HZX.out.c4
        have y4 := HZX.out.fz 4
        have z5 := HZX.out.c5
        have y5 := HZX.out.fz 5
        go_wp2_with fail
        have hk := HZX.out.set6 zeroV
        have k0 := hk.c0
        have k1 := hk.c1
        have k2 := hk.c2
        have k3 := hk.c3
        have k4 := hk.c4
        have k5 := hk.c5
        simp only [Go.Proofs.YtkbhmkofflcpjaaGreatDoor.set6, zeroV] at k0 k1 k2 k3 k4 k5
        refine bodyPost_ret (v := .tuple #[vbV zeroV, .int .i64 3]) (by simp [results, Tryz.results23, go_sem, k0, k1, k2, k3, k4, k5, vbV, vbCells, zeroV]) rfl ⟨pv_no HE.out, below_set6 HBX.out (Nat.le_refl _) zeroV⟩
end Go.Proofs.YtkbhmkofflcpjaaGreatDoor

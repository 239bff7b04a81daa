/-
  Text of package verb and what it calls, walked: the line of a command.
  Conditions: as each theorem states them: the library's table of powers of ten is as its initialiser lays it.
-/
import Derived.Test.YtkbhmkofflcpjaaGreatDoorVU
import Derived.Test.YtkbhmkofflcpjaaGreatDoorShelfS
import Derived.Deep.RegionHeld3
import Derived.Lib.AppendIntMem
namespace Go.Proofs.YtkbhmkofflcpjaaGreatDoor
open Go.RowKit

/-- The library's table of powers of ten is as it is laid. -/
def Tab (w : World) : Prop := Lib.TabIs Tryz.prog w "internal/strconv.uint64pow10" .u64 Lib.pow10Tab
theorem gTab : Tryz.prog.globalNamed "internal/strconv.uint64pow10" = some 5 := by kernel_rfl
theorem Tab.keep {w w' : World} {B : Nat} (h : Tab w) (hb : Below B w w') (h0 : 5 < B) : Tab w' := by
  unfold Tab Lib.TabIs World.var? at h ⊢
  rw [gTab] at h ⊢
  simp only [Option.bind_some] at h ⊢
  rw [hb.block 5 h0]
  exact h

theorem itoa_dec (n : Nat) : Lib.itoa (n : Int) = Lib.decDigits n := by
  unfold Lib.itoa
  simp

theorem itoa_any (n : Nat) (w : World) (ht : Tab w) (h2 : n ≤ 1073741824) :
    Calls Tryz.prog 76 #[.int .i64 (n : Int)] w fun e w' => e = .returned (.string ⟨(Lib.decDigits n).toArray⟩) ∧ Below w.heap.size w w' := by
  refine (Tryz.strconv_Itoa (n : Int) (by omega) (by omega) w ht).mono ?_
  rintro e w' ⟨rfl, k, os, rfl⟩
  rw [itoa_dec]
  exact ⟨rfl, Lib.below_grow _ w (Nat.le_refl _) k os⟩

set_option maxHeartbeats 1000000 in
theorem vsizeText_any (z : Int) (w : World) (ht : Tab w) (h1 : -1 ≤ z) (h2 : z ≤ 1073741824) :
    Calls Tryz.prog 53 #[.int .i64 z] w fun e w' => e = .returned (.string ⟨(sizeT z).toArray⟩) ∧ Below w.heap.size w w' := by
  by_cases h : z = -1
  · subst h
    go_enter Tryz.func53, Tryz.ntmps53
    go_wp2_with fail
    go_ret
    exact ⟨rfl, Below.refl _ _⟩
  · obtain ⟨n, rfl⟩ : ∃ n : Nat, z = (n : Int) := ⟨z.toNat, by omega⟩
    have hne : ((n : Int) == -1) = false := beq_eq_false_iff_ne.2 h
    have HI := Lib.hid (itoa_any n w ht (by omega))
    have HE := Lib.hid (show [32, 83, 73, 90, 69, 61] ++ Lib.decDigits n = sizeT (n : Int) by
      rw [sizeT, if_pos (by omega)]
      rfl)
    have hdl := dec_len 9 n (by omega)
    have hadd := fun w => add_str [32, 83, 73, 90, 69, 61] (Lib.decDigits n) w (by simp; omega)
    clear h h1 h2 ht
    generalize Lib.decDigits n = ds at *
    generalize sizeT (n : Int) = r at *
    go_enter Tryz.func53, Tryz.ntmps53
    go_wp2_with fail
    refine Calls.mono HI.out ?_
    rintro e w1 ⟨rfl, hb⟩
    have HB := Lib.hid hb
    clear hb
    go_wp2_with fail
    go_ret
    exact ⟨by rw [← HE.out]; rfl, HB.out⟩

set_option maxHeartbeats 1000000 in
theorem vpathText_any (v : Vb) (w : World) (hv : Short 9000 v) (hb : v.null = false → boxL v.l v.d = true) :
    Calls Tryz.prog 52 #[.agg #[.int .i64 v.kind, .string ⟨v.word.toArray⟩, .bool v.null, .string ⟨v.l.toArray⟩, .string ⟨v.d.toArray⟩, .int .i64 v.size]] w fun e w' => e = .returned (.string ⟨(60 :: (pathT v ++ [62])).toArray⟩) ∧ Below w.heap.size w w' := by
  have HA := Lib.hid ((Below.refl _ w).alloc (Nat.le_refl _) (.cells #[.int .i64 v.kind, .string ⟨v.word.toArray⟩, .bool v.null, .string ⟨v.l.toArray⟩, .string ⟨v.d.toArray⟩, .int .i64 v.size] 27))
  obtain ⟨k, wd, x, l, d, z⟩ := v
  obtain ⟨hwl, hl, hd⟩ := hv
  simp only at hwl hl hd HA hb ⊢
  cases x with
  | true =>
    go_enter Tryz.func52, Tryz.ntmps52
    go_wp2_with fail
    go_ret
    exact ⟨rfl, HA.out⟩
  | false =>
    have HT := Lib.hid (fun W => text_any l d W (by omega) (by omega))
    rw [show textL l d = l ++ 64 :: d by simp [textL, hb rfl]] at HT
    have HE := Lib.hid (show ([60] ++ (l ++ 64 :: d)) ++ [62] = 60 :: (pathT ⟨k, wd, false, l, d, z⟩ ++ [62]) by simp [pathT])
    have hadd1 := fun w => add_str [60] (l ++ 64 :: d) w (by simp; omega)
    have hadd2 : ∀ w, (Op.stringOp .add ⟨(60 :: (l ++ 64 :: d)).toArray⟩ ⟨#[62]⟩).run Tryz.prog w = .ok (.string ⟨((60 :: (l ++ 64 :: d)) ++ [62]).toArray⟩) w := fun w => add_str (60 :: (l ++ 64 :: d)) [62] w (by simp; omega)
    clear hb
    generalize 60 :: (pathT ⟨k, wd, false, l, d, z⟩ ++ [62]) = r at *
    generalize l ++ 64 :: d = t at *
    generalize chk (boxL l d) = c at *
    go_enter Tryz.func52, Tryz.ntmps52
    go_wp2_with fail
    refine Calls.mono (HT.out _) ?_
    rintro e w1 ⟨rfl, hb⟩
    have HB := Lib.hid (HA.out.trans (hb.mono HA.out.size))
    clear hb
    go_wp2_with fail
    go_ret
    exact ⟨by rw [← HE.out]; rfl, HB.out⟩

/-- What follows the name. -/
def fieldsL (v : Vb) : List UInt8 :=
  if v.kind = 3 then [32, 70, 82, 79, 77, 58] ++ (60 :: (pathT v ++ [62])) ++ sizeT v.size
  else if v.kind = 4 then [32, 84, 79, 58] ++ (60 :: (pathT v ++ [62]))
  else if v.word.isEmpty then [] else 32 :: v.word

theorem path_len2 (v : Vb) (hv : Short 9000 v) : (pathT v).length ≤ 18001 := by
  obtain ⟨_, hl, hd⟩ := hv
  unfold pathT
  split
  · simp
  · simp
    omega
theorem size_len2 (z : Int) (h : z ≤ 1073741824) : (sizeT z).length ≤ 16 := by
  unfold sizeT
  split
  · have := dec_len 9 z.toNat (by omega)
    simp
    omega
  · simp
theorem fields_len (v : Vb) (hv : Short 9000 v) (hz : v.size ≤ 1073741824) : (fieldsL v).length ≤ 30000 := by
  have h1 := path_len2 v hv
  have h2 := size_len2 v.size hz
  obtain ⟨hw, hl, hd⟩ := hv
  unfold fieldsL
  split
  · simp
    omega
  · split
    · simp
      omega
    · split
      · simp
      · simp
        omega

set_option maxHeartbeats 2000000 in
theorem fields_mail (v : Vb) (w : World) (hv : Short 9000 v) (ht : Tab w) (hg : Gl w) (h : v.kind = 3) (hb : v.null = false → boxL v.l v.d = true) (h1 : -1 ≤ v.size) (h2 : v.size ≤ 1073741824) :
    Calls Tryz.prog 33 #[.agg #[.int .i64 v.kind, .string ⟨v.word.toArray⟩, .bool v.null, .string ⟨v.l.toArray⟩, .string ⟨v.d.toArray⟩, .int .i64 v.size]] w fun e w' => e = .returned (.string ⟨(fieldsL v).toArray⟩) ∧ Below w.heap.size w w' := by
  have hA := (Below.refl _ w).alloc (Nat.le_refl _) (.cells #[.int .i64 v.kind, .string ⟨v.word.toArray⟩, .bool v.null, .string ⟨v.l.toArray⟩, .string ⟨v.d.toArray⟩, .int .i64 v.size] 27)
  have HA := Lib.hid hA
  have hM := VAt.new w v
  have hsz := hg.sz
  have HP := Lib.hid (fun W => vpathText_any v W hv hb)
  have HZ := Lib.hid (fun W (hW : Below (w.alloc (.cells #[.int .i64 v.kind, .string ⟨v.word.toArray⟩, .bool v.null, .string ⟨v.l.toArray⟩, .string ⟨v.d.toArray⟩, .int .i64 v.size] 27)).heap.size (w.alloc (.cells #[.int .i64 v.kind, .string ⟨v.word.toArray⟩, .bool v.null, .string ⟨v.l.toArray⟩, .string ⟨v.d.toArray⟩, .int .i64 v.size] 27)) W) => vsizeText_any v.size W ((ht.keep hA (by omega)).keep hW (by simp; omega)) h1 h2)
  have hpl := path_len2 v hv
  have hzl := size_len2 v.size h2
  have HE := Lib.hid (show ([32, 70, 82, 79, 77, 58] ++ (60 :: (pathT v ++ [62]))) ++ sizeT v.size = fieldsL v by rw [fieldsL, if_pos h])
  have hadd1 := fun w => add_str [32, 70, 82, 79, 77, 58] (60 :: (pathT v ++ [62])) w (by simp; omega)
  have hadd2 : ∀ w, (Op.stringOp .add ⟨(32 :: 70 :: 82 :: 79 :: 77 :: 58 :: (60 :: (pathT v ++ [62]))).toArray⟩ ⟨(sizeT v.size).toArray⟩).run Tryz.prog w = .ok (.string ⟨((32 :: 70 :: 82 :: 79 :: 77 :: 58 :: (60 :: (pathT v ++ [62]))) ++ sizeT v.size).toArray⟩) w := fun w => add_str _ (sizeT v.size) w (by simp; omega)
  clear hA hg ht hb h1 h2 hpl hzl hsz
  generalize fieldsL v = r at *
  generalize sizeT v.size = t at *
  generalize 60 :: (pathT v ++ [62]) = u at *
  obtain ⟨k, wd, x, l, d, z⟩ := v
  simp only at HA hM HP HZ HE h ⊢
  subst h
  go_enter Tryz.func33, Tryz.ntmps33
  go_wp2_with fail
  generalize hn0 : w.heap.size = n0 at *
  generalize w.alloc (.cells #[.int .i64 3, .string ⟨wd.toArray⟩, .bool x, .string ⟨l.toArray⟩, .string ⟨d.toArray⟩, .int .i64 z] 27) = W0 at *
  have HS : Hid (∀ W : World, Below W0.heap.size W0 W → W.cell? ⟨n0, 0, none⟩ = some (.int .i64 3) ∧ W.cell? ⟨n0, 1, none⟩ = some (.string ⟨wd.toArray⟩) ∧ W.cell? ⟨n0, 2, none⟩ = some (.bool x) ∧ W.cell? ⟨n0, 3, none⟩ = some (.string ⟨l.toArray⟩) ∧ W.cell? ⟨n0, 4, none⟩ = some (.string ⟨d.toArray⟩) ∧ W.cell? ⟨n0, 5, none⟩ = some (.int .i64 z)) := Lib.hid fun W hW => by
    have := hM.later hW
    exact ⟨this.c0, this.c1, this.c2, this.c3, this.c4, this.c5⟩
  have m0 := hM.c0
  have m1 := hM.c1
  have m2 := hM.c2
  have m3 := hM.c3
  have m4 := hM.c4
  have m5 := hM.c5
  clear hM
  go_region_held3 (fun W => W.cell? ⟨n0, 0, none⟩ = some (.int .i64 3) ∧ W.cell? ⟨n0, 1, none⟩ = some (.string ⟨wd.toArray⟩) ∧ W.cell? ⟨n0, 2, none⟩ = some (.bool x) ∧ W.cell? ⟨n0, 3, none⟩ = some (.string ⟨l.toArray⟩) ∧ W.cell? ⟨n0, 4, none⟩ = some (.string ⟨d.toArray⟩) ∧ W.cell? ⟨n0, 5, none⟩ = some (.int .i64 z))
    (first | exact HS.out _ (Below.refl _ _).drew | exact HS.out _ hk5 | exact HS.out _ hk6)
    (first | (go_at_call 52; refine Calls.mono (HP.out _) ?_; rintro e w5 ⟨rfl, hb5⟩; (have hk5 : Below W0.heap.size W0 w5 := (Below.refl _ _).drew.trans hb5)) | (go_at_call 53; refine Calls.mono (HZ.out _ hk5) ?_; rintro e w6 ⟨rfl, hb6⟩; (have hk6 : Below W0.heap.size W0 w6 := hk5.trans (hb6.mono hk5.size))))
  all_goals
    go_wp2_with fail
    go_ret
    exact ⟨by rw [← HE.out]; rfl, by rw [hn0]; exact HA.out.trans (hk6.mono (by rw [← hn0]; exact HA.out.size))⟩

set_option maxHeartbeats 2000000 in
theorem fields_rcpt (v : Vb) (w : World) (hv : Short 9000 v) (h : v.kind = 4) (hb : v.null = false → boxL v.l v.d = true) :
    Calls Tryz.prog 33 #[.agg #[.int .i64 v.kind, .string ⟨v.word.toArray⟩, .bool v.null, .string ⟨v.l.toArray⟩, .string ⟨v.d.toArray⟩, .int .i64 v.size]] w fun e w' => e = .returned (.string ⟨(fieldsL v).toArray⟩) ∧ Below w.heap.size w w' := by
  have HA := Lib.hid ((Below.refl _ w).alloc (Nat.le_refl _) (.cells #[.int .i64 v.kind, .string ⟨v.word.toArray⟩, .bool v.null, .string ⟨v.l.toArray⟩, .string ⟨v.d.toArray⟩, .int .i64 v.size] 27))
  have HP := Lib.hid (fun W => vpathText_any v W hv hb)
  have hpl := path_len2 v hv
  have HE := Lib.hid (show [32, 84, 79, 58] ++ (60 :: (pathT v ++ [62])) = fieldsL v by rw [fieldsL, if_neg (by omega), if_pos h])
  have hadd1 := fun w => add_str [32, 84, 79, 58] (60 :: (pathT v ++ [62])) w (by simp; omega)
  clear hb hpl
  generalize fieldsL v = r at *
  generalize 60 :: (pathT v ++ [62]) = u at *
  obtain ⟨k, wd, x, l, d, z⟩ := v
  simp only at HA HP HE h ⊢
  subst h
  go_enter Tryz.func33, Tryz.ntmps33
  go_wp2_with fail
  refine Calls.mono (HP.out _) ?_
  rintro e w1 ⟨rfl, hb⟩
  have HB := Lib.hid (HA.out.trans (hb.mono HA.out.size))
  clear hb
  go_wp2_with fail
  go_ret
  exact ⟨by rw [← HE.out]; rfl, HB.out⟩

set_option maxHeartbeats 2000000 in
theorem fields_word (v : Vb) (w : World) (hv : Short 9000 v) (h3 : v.kind ≠ 3) (h4 : v.kind ≠ 4) :
    Calls Tryz.prog 33 #[.agg #[.int .i64 v.kind, .string ⟨v.word.toArray⟩, .bool v.null, .string ⟨v.l.toArray⟩, .string ⟨v.d.toArray⟩, .int .i64 v.size]] w fun e w' => e = .returned (.string ⟨(fieldsL v).toArray⟩) ∧ Below w.heap.size w w' := by
  have HA := Lib.hid ((Below.refl _ w).alloc (Nat.le_refl _) (.cells #[.int .i64 v.kind, .string ⟨v.word.toArray⟩, .bool v.null, .string ⟨v.l.toArray⟩, .string ⟨v.d.toArray⟩, .int .i64 v.size] 27))
  have HE := Lib.hid (show (if v.word.isEmpty then [] else 32 :: v.word) = fieldsL v by rw [fieldsL, if_neg h3, if_neg h4])
  have e3 : (v.kind == 3) = false := beq_eq_false_iff_ne.2 h3
  have e4 : (v.kind == 4) = false := beq_eq_false_iff_ne.2 h4
  obtain ⟨hwl, _, _⟩ := hv
  clear h3 h4
  generalize fieldsL v = r at *
  obtain ⟨k, wd, x, l, d, z⟩ := v
  simp only at HA HE hwl e3 e4 ⊢
  have hadd1 := fun w => add_str [32] wd w (by simp; omega)
  cases hw0 : wd with
  | nil =>
    subst hw0
    go_enter Tryz.func33, Tryz.ntmps33
    go_wp2_with fail
    go_ret
    exact ⟨by rw [← HE.out]; rfl, HA.out⟩
  | cons a b =>
    have h0 : wd ≠ [] := by rw [hw0]; exact List.cons_ne_nil _ _
    rw [← hw0]
    clear hw0
    have hne := ne_empty h0
    have hn2 : (wd == []) = false := by
      rw [beq_eq_false_iff_ne]
      exact h0
    have HE2 := Lib.hid (show 32 :: wd = r by rw [← HE.out, hne]; rfl)
    clear h0 HE
    go_enter Tryz.func33, Tryz.ntmps33
    go_wp2_with fail
    go_ret
    exact ⟨by rw [← HE2.out]; rfl, HA.out⟩

theorem valid_box {v : Vb} (h : validV v = true) (hk : v.kind = 3 ∨ v.kind = 4) : (v.null = false → boxL v.l v.d = true) ∧ -1 ≤ v.size ∧ v.size ≤ 1073741824 := by
  obtain ⟨k, wd, x, l, d, z⟩ := v
  simp only at hk
  rcases hk with rfl | rfl
  · simp [validV] at h
    obtain ⟨⟨⟨_, h1⟩, h2⟩, h3⟩ := h
    refine ⟨fun hx => ?_, h2, h3⟩
    simp only at hx
    subst hx
    simpa using h1
  · simp [validV] at h
    obtain ⟨⟨⟨_, h1⟩, h2⟩, h3⟩ := h
    refine ⟨fun _ => h3, ?_, ?_⟩
    · simp only [h2]; omega
    · simp only [h2]; omega
theorem valid_size {v : Vb} (h : validV v = true) : v.size ≤ 1073741824 := by
  by_cases hk : v.kind = 3 ∨ v.kind = 4
  · exact (valid_box h hk).2.2
  · simp only [not_or] at hk
    have hb : bareV v = true := by
      unfold validV at h
      rw [if_neg hk.1, if_neg hk.2] at h
      repeat' split at h
      all_goals first | (simp only [Bool.and_eq_true] at h; exact h.1) | cases h
    have := bare_eq hb
    rw [this]
    show (0 : Int) ≤ 1073741824
    decide

theorem fields_any (v : Vb) (w : World) (hv : Short 9000 v) (ht : Tab w) (hg : Gl w) (h : validV v = true) :
    Calls Tryz.prog 33 #[.agg #[.int .i64 v.kind, .string ⟨v.word.toArray⟩, .bool v.null, .string ⟨v.l.toArray⟩, .string ⟨v.d.toArray⟩, .int .i64 v.size]] w fun e w' => e = .returned (.string ⟨(fieldsL v).toArray⟩) ∧ Below w.heap.size w w' := by
  by_cases h3 : v.kind = 3
  · obtain ⟨h1, h2, h4⟩ := valid_box h (.inl h3)
    exact fields_mail v w hv ht hg h3 h1 h2 h4
  · by_cases h4 : v.kind = 4
    · exact fields_rcpt v w hv h4 (valid_box h (.inr h4)).1
    · exact fields_word v w hv h3 h4

theorem text_fields {v : Vb} (h : validV v = true) : nameL v.kind ++ fieldsL v = textV v := by
  unfold fieldsL textV
  by_cases h3 : v.kind = 3
  · rw [if_pos h3, if_pos h3, h3]
    simp
  · by_cases h4 : v.kind = 4
    · rw [if_neg h3, if_neg h3, if_pos h4, if_pos h4, h4]
      have hn : v.null = false := by
        simp only [validV, h4] at h
        simp at h
        exact h.1.1.2
      simp [pathT, hn]
    · rw [if_neg h3, if_neg h3, if_neg h4, if_neg h4]
      split <;> simp

/-- What Text answers. -/
def textW (v : Vb) : List UInt8 := if validV v then textV v else []

set_option maxHeartbeats 2000000 in
theorem vText_any (v : Vb) (w : World) (hv : Short 9000 v) (ht : Tab w) (hg : Gl w) :
    Calls Tryz.prog 18 #[.agg #[.int .i64 v.kind, .string ⟨v.word.toArray⟩, .bool v.null, .string ⟨v.l.toArray⟩, .string ⟨v.d.toArray⟩, .int .i64 v.size]] w fun e w' => e = .returned (.tuple #[.string ⟨(textW v).toArray⟩, .int .i64 (chk (validV v))]) ∧ Below w.heap.size w w' := by
  have hA := (Below.refl _ w).alloc (Nat.le_refl _) (.cells #[.int .i64 v.kind, .string ⟨v.word.toArray⟩, .bool v.null, .string ⟨v.l.toArray⟩, .string ⟨v.d.toArray⟩, .int .i64 v.size] 27)
  have HA := Lib.hid hA
  have HV := Lib.hid (vvalid_any v _ ⟨by have := hv.1; omega, by have := hv.2.1; omega, by have := hv.2.2; omega⟩ (hg.keep hA))
  have hM := VAt.new w v
  cases h : validV v with
  | false =>
    rw [h] at HV
    have HE := Lib.hid (show textW v = [] by simp [textW, h])
    clear h hA hM
    generalize textW v = r at *
    go_enter Tryz.func18, Tryz.ntmps18
    go_wp2_with fail
    refine Calls.mono HV.out ?_
    rintro e w1 ⟨rfl, hb⟩
    have HB := Lib.hid (HA.out.trans (hb.mono HA.out.size))
    clear hb
    go_wp2_with fail
    go_ret2
    exact ⟨ret_si HE.out.symm rfl, HB.out⟩
  | true =>
    rw [h] at HV
    have HE := Lib.hid (show nameL v.kind ++ fieldsL v = textW v by rw [text_fields h]; simp [textW, h])
    have hfl := fields_len v hv (valid_size h)
    have hkr := valid_kind h
    obtain ⟨kn, hkn⟩ : ∃ kn : Nat, v.kind = (kn : Int) := ⟨v.kind.toNat, by omega⟩
    have hnl := name_len v.kind
    have HF := Lib.hid (fun W (hW : Below (w.alloc (.cells #[.int .i64 v.kind, .string ⟨v.word.toArray⟩, .bool v.null, .string ⟨v.l.toArray⟩, .string ⟨v.d.toArray⟩, .int .i64 v.size] 27)).heap.size (w.alloc (.cells #[.int .i64 v.kind, .string ⟨v.word.toArray⟩, .bool v.null, .string ⟨v.l.toArray⟩, .string ⟨v.d.toArray⟩, .int .i64 v.size] 27)) W) => fields_any v W hv ((ht.keep hA (by have := hg.sz; omega)).keep hW (by have := hg.sz; simp; omega)) ((hg.keep hA).keep hW) h)
    have HN := Lib.hid (show ∀ W : World, Below (w.alloc (.cells #[.int .i64 v.kind, .string ⟨v.word.toArray⟩, .bool v.null, .string ⟨v.l.toArray⟩, .string ⟨v.d.toArray⟩, .int .i64 v.size] 27)).heap.size (w.alloc (.cells #[.int .i64 v.kind, .string ⟨v.word.toArray⟩, .bool v.null, .string ⟨v.l.toArray⟩, .string ⟨v.d.toArray⟩, .int .i64 v.size] 27)) W → VAt W w.heap.size v ∧ W.cell? ⟨0, kn, none⟩ = some (.string ⟨(nameL v.kind).toArray⟩) from fun W hW => ⟨hM.later hW, by
      have := ((hg.keep hA).keep hW).nm kn (by omega) (by omega)
      rw [hkn]
      exact this⟩)
    have hadd : ∀ w, (Op.stringOp .add ⟨(nameL v.kind).toArray⟩ ⟨(fieldsL v).toArray⟩).run Tryz.prog w = .ok (.string ⟨(nameL v.kind ++ fieldsL v).toArray⟩) w := fun w => add_str _ _ w (by omega)
    have hk1 : (kn : Int) < 10 := by omega
    have hk0 : (0 : Int) ≤ (kn : Int) := by omega
    clear h hA hM hg ht hkr hfl
    generalize textW v = r at *
    generalize fieldsL v = f at *
    generalize nameL v.kind = nm at *
    obtain ⟨k, wd, x, l, d, z⟩ := v
    simp only at HA HV HF HN hkn ⊢
    subst hkn
    go_enter Tryz.func18, Tryz.ntmps18
    go_wp2_with fail
    refine Calls.mono HV.out ?_
    rintro e w1 ⟨rfl, hb⟩
    have HB := Lib.hid (HA.out.trans (hb.mono HA.out.size))
    have HS : Hid (∀ W : World, Below w1.heap.size w1 W → W.cell? ⟨w.heap.size, 0, none⟩ = some (.int .i64 (kn : Int)) ∧ W.cell? ⟨w.heap.size, 1, none⟩ = some (.string ⟨wd.toArray⟩) ∧ W.cell? ⟨w.heap.size, 2, none⟩ = some (.bool x) ∧ W.cell? ⟨w.heap.size, 3, none⟩ = some (.string ⟨l.toArray⟩) ∧ W.cell? ⟨w.heap.size, 4, none⟩ = some (.string ⟨d.toArray⟩) ∧ W.cell? ⟨w.heap.size, 5, none⟩ = some (.int .i64 z) ∧ W.cell? ⟨0, kn, none⟩ = some (.string ⟨nm.toArray⟩)) := Lib.hid fun W hW => by
      obtain ⟨h1, h2⟩ := HN.out W (hb.trans (hW.mono hb.size))
      exact ⟨h1.c0, h1.c1, h1.c2, h1.c3, h1.c4, h1.c5, h2⟩
    have HF1 := Lib.hid (fun W (hW : Below w1.heap.size w1 W) => HF.out W (hb.trans (hW.mono hb.size)))
    obtain ⟨m0, m1, m2, m3, m4, m5, m6⟩ := HS.out w1 (Below.refl _ _)
    clear hb HN HF HV
    go_wp2_with fail
    generalize hn0 : w.heap.size = n0 at *
    go_region_held3 (fun W => W.cell? ⟨n0, 0, none⟩ = some (.int .i64 (kn : Int)) ∧ W.cell? ⟨n0, 1, none⟩ = some (.string ⟨wd.toArray⟩) ∧ W.cell? ⟨n0, 2, none⟩ = some (.bool x) ∧ W.cell? ⟨n0, 3, none⟩ = some (.string ⟨l.toArray⟩) ∧ W.cell? ⟨n0, 4, none⟩ = some (.string ⟨d.toArray⟩) ∧ W.cell? ⟨n0, 5, none⟩ = some (.int .i64 z) ∧ W.cell? ⟨0, kn, none⟩ = some (.string ⟨nm.toArray⟩))
      (first | exact HS.out _ (Below.refl _ _).drew | exact HS.out _ hk5)
      (first | (go_at_call 33; refine Calls.mono (HF1.out _ (by exact (Below.refl _ _).drew)) ?_; rintro e w5 ⟨rfl, hb5⟩; (have hk5 : Below w1.heap.size w1 w5 := (Below.refl _ _).drew.trans hb5)))
    all_goals
      go_wp2_with fail
      go_ret2
      exact ⟨ret_si HE.out rfl, by rw [hn0]; exact HB.out.trans (hk5.mono (by rw [← hn0]; exact HB.out.size))⟩
end Go.Proofs.YtkbhmkofflcpjaaGreatDoor

/-
  Whether replies are the same, how much texts weigh, and the law's waking call, walked.
  Conditions: as each theorem states them: the texts lie in memory.
-/
import Derived.Test.YtlefeebhilfkjaaDoorH
namespace Go.Proofs.YtlefeebhilfkjaaDoor
open Go.RowKit

theorem TextsAt.shape {w : World} {v : Value} {l : List (List UInt8)} (h : TextsAt w v l) : ∃ A n c, v = .slice A n c := by
  obtain ⟨A, c, hv, _⟩ := h
  exact ⟨_, _, _, hv⟩

set_option maxHeartbeats 1000000 in
theorem eqReply_any (ca cb : Int) (la lb : List (List UInt8)) (va vb : Value) (w : World) (ha : TextsAt w va la) (hb : TextsAt w vb lb) :
    Calls Tryd.prog 12 #[.agg #[.int .i64 ca, va], .agg #[.int .i64 cb, vb]] w fun e w' => e = .returned (.bool (decide (ca = cb ∧ la = lb))) ∧ Below w.heap.size w w' := by
  have hbel : Below w.heap.size w ((w.alloc (.cells #[.int .i64 ca, va] 26)).alloc (.cells #[.int .i64 cb, vb] 26)) := ((Below.refl _ w).alloc (Nat.le_refl _) _).alloc (by simp) _
  have HQ := Lib.hid (eqStrings_any la lb va vb _ (ha.later hbel) (hb.later hbel))
  obtain ⟨aA, an, ac, rfl⟩ := ha.shape
  obtain ⟨bA, bn, bc, rfl⟩ := hb.shape
  have HB := Lib.hid hbel
  clear ha hb hbel
  by_cases hc : ca = cb
  · have hcb : (ca == cb) = true := beq_iff_eq.2 hc
    have HC := Lib.hid hc
    clear hc
    go_enter Tryd.func12, Tryd.ntmps12
    go_wp2_with fail
    refine Calls.mono HQ.out ?_
    rintro e w1 ⟨rfl, hb⟩
    go_wp2_with fail
    go_ret
    refine ⟨ret_bool ?_, HB.out.trans (hb.mono (by simp; omega))⟩
    simp [HC.out]
  · have hcb : (ca == cb) = false := beq_eq_false_iff_ne.2 hc
    have HC := Lib.hid hc
    clear hc
    go_enter Tryd.func12, Tryd.ntmps12
    go_wp2_with fail
    go_ret
    refine ⟨ret_bool ?_, HB.out⟩
    simp [HC.out]

/-- How many bytes some texts have. -/
def sumL (l : List (List UInt8)) : Nat := (l.map List.length).sum

theorem sum_mem {l : List (List UInt8)} {s : List UInt8} (h : s ∈ l) : s.length ≤ sumL l := by
  induction l with
  | nil => cases h
  | cons a t ih =>
    rw [sumL, List.map_cons, List.sum_cons]
    rcases List.mem_cons.1 h with rfl | h
    · exact Nat.le_add_right _ _
    · have := ih h
      unfold sumL at this
      omega

set_option maxHeartbeats 1000000 in
set_option maxRecDepth 100000 in
theorem weight_any (l : List (List UInt8)) (v : Value) (w : World) (hl : TextsAt w v l) :
    Calls Tryd.prog 15 #[v] w fun e w' => (∃ n : Nat, e = .returned (.int .i64 n) ∧ (n ≤ 10000 → Small l)) ∧ w = w' := by
  obtain ⟨A, c, rfl, hll, hlm, hl⟩ := hl
  have HL := Lib.hid hl
  have HM := Lib.hid hlm
  clear hl hlm
  go_enter Tryd.func15, Tryd.ntmps15
  go_wp2_with fail
  go_loopw [3, 4] (fun nv iv wr => ∃ j n : Nat, j ≤ l.length ∧ nv = .int .i64 n ∧ iv = .int .i64 j ∧ n = l.length + sumL (l.take j) ∧ n ≤ 1000000000000000 ∧ wr = w) (fun _ iv _ => l.length - (intOf iv).toNat)
  case atStart => exact ⟨0, l.length, Nat.zero_le _, rfl, rfl, rfl, by omega, rfl⟩
  case round =>
    obtain ⟨j, n, hj, rfl, rfl, hn, hnb, rfl⟩ := hrel
    have HN := Lib.hid hn
    clear hn
    by_cases hlt : j < l.length
    · by_cases hbig : n < 1048576
      · obtain ⟨b, o, rfl, hab, hac⟩ := HL.out (fun e => by rw [e] at hlt; exact absurd hlt (by simp))
        have hc := hac j hlt
        have hsm : l[j].length ≤ 140737488355328 := HM.out _ (List.getElem_mem hlt)
        have HT := Lib.hid (show sumL (l.take (j + 1)) = sumL (l.take j) + l[j].length by
          rw [List.take_add_one, List.getElem?_eq_getElem hlt]
          show ((l.take j ++ [l[j]]).map List.length).sum = _
          rw [List.map_append, List.sum_append]
          rfl)
        clear hac
        generalize l[j] = s at *
        have hbi : (n : Int) < 1048576 := by omega
        have HNB := Lib.hid hnb
        have HBG := Lib.hid hbig
        clear hnb hbig
        go_wp2_with fail
        have hbig := HBG.out
        refine ⟨⟨j + 1, n + s.length, hlt, by go_num, by go_num, ?_, by omega, by first | rfl | trivial⟩, by simp [intOf]; omega⟩
        rw [HT.out, HN.out]
        omega
      · have hbig' : decide ((n : Int) < 1048576) = false := by simp; omega
        go_wp2_with fail
        go_ret
        exact ⟨⟨n, rfl, fun h => by omega⟩, rfl⟩
    · obtain rfl : j = l.length := by omega
      rw [List.take_length] at HN
      go_wp2_with fail
      go_ret
      refine ⟨⟨n, rfl, fun h => ⟨by have := HN.out; omega, fun s hs => ?_⟩⟩, rfl⟩
      have := sum_mem hs
      have := HN.out
      omega

set_option maxHeartbeats 1000000 in
set_option maxRecDepth 100000 in
theorem heavy_any (code : Int) (l1 l2 : List (List UInt8)) (v1 v2 : Value) (w : World) (h1 : TextsAt w v1 l1) (h2 : TextsAt w v2 l2) :
    Calls Tryd.prog 5 #[.agg #[.int .i64 code, v1, v2]] w fun e w' => (e = .returned (.bool true) ∨ (e = .returned (.bool false) ∧ Small l1 ∧ Small l2)) ∧ Below w.heap.size w w' := by
  have hbel : Below w.heap.size w (w.alloc (.cells #[.int .i64 code, v1, v2] 28)) := (Below.refl _ w).alloc (Nat.le_refl _) _
  have HQ1 := Lib.hid (weight_any l1 v1 _ (h1.later hbel))
  have HQ2 := Lib.hid (weight_any l2 v2 _ (h2.later hbel))
  obtain ⟨aA, an, ac, rfl⟩ := h1.shape
  obtain ⟨bA, bn, bc, rfl⟩ := h2.shape
  have HB := Lib.hid hbel
  clear h1 h2 hbel
  go_enter Tryd.func5, Tryd.ntmps5
  go_wp2_with fail
  refine Calls.mono HQ1.out ?_
  rintro e w1 ⟨⟨n1, rfl, hs1⟩, rfl⟩
  have HS1 := Lib.hid hs1
  clear hs1
  by_cases hb1 : (10000 : Int) < (n1 : Int)
  · go_wp2_with fail
    go_ret
    exact ⟨.inl rfl, HB.out⟩
  · go_wp2_with fail
    refine Calls.mono HQ2.out ?_
    rintro e w1 ⟨⟨n2, rfl, hs2⟩, rfl⟩
    have HS2 := Lib.hid hs2
    clear hs2
    by_cases hb2 : (10000 : Int) < (n2 : Int)
    · go_wp2_with fail
      go_ret
      exact ⟨.inl rfl, HB.out⟩
    · go_wp2_with fail
      go_ret
      exact ⟨.inr ⟨ret_bool (by rw [decide_eq_false (show ¬ ((10000 : Int) < (n1 : Int)) by omega), decide_eq_false (show ¬ ((10000 : Int) < (n2 : Int)) by omega)]; rfl), HS1.out (by omega), HS2.out (by omega)⟩, HB.out⟩

theorem texts_block {w : World} {b : Nat} {l : List (List UInt8)} {cs : Array Value} {fz : Nat × Nat} (hb : w.heap[b]? = some (.cells cs 9 fz)) (hcs : cs.toList = strsOf l) (hl : Small l) (c : Nat) {n : Nat} (hn : n = l.length) : TextsAt w (.slice (some ⟨b, 0, none⟩) n c) l := by
  subst hn
  refine ⟨_, c, rfl, by have := hl.1; omega, fun s hs => by have := hl.2 s hs; omega, fun _ => ⟨b, 0, rfl, (Array.getElem?_eq_some_iff.1 hb).1, fun i hi => ?_⟩⟩
  have h2 : cs[i]? = some (.string ⟨l[i].toArray⟩) := by
    rw [← Array.getElem?_toList, hcs]
    simp [strsOf, hi]
  simp [World.cell?, hb, h2]

theorem wakes_lines : parseL [[50, 53, 48, 45, 97], [50, 53, 48, 32, 98]] = ⟨0, 250, [[97], [98]]⟩ := by kernel_rfl

set_option maxHeartbeats 1000000 in
theorem wakes_any (w : World) : Calls Tryd.prog 13 #[] w fun e w' => e = .returned (.bool true) ∧ Below w.heap.size w w' := by
  have hbel : Below w.heap.size w (w.alloc (.cells #[.string ⟨#[50, 53, 48, 45, 97]⟩, .string ⟨#[50, 53, 48, 32, 98]⟩] 9)) := (Below.refl _ w).alloc (Nat.le_refl _) _
  have HP := Lib.hid (parse_any [[50, 53, 48, 45, 97], [50, 53, 48, 32, 98]] (.slice (some ⟨w.heap.size, 0, none⟩) 2 2) _
    (texts_block (w := w.alloc (.cells #[.string ⟨#[50, 53, 48, 45, 97]⟩, .string ⟨#[50, 53, 48, 32, 98]⟩] 9)) (heap_alloc_new w _) rfl ⟨by decide, by decide⟩ 2 rfl))
  have HB := Lib.hid hbel
  clear hbel
  go_enter Tryd.func13, Tryd.ntmps13
  go_wp2_with fail
  refine Calls.mono HP.out ?_
  rintro e w1 ⟨lv, rfl, hrow, hb1⟩
  rw [wakes_lines] at hrow ⊢
  obtain ⟨gA, gn, gc, rfl⟩ := row_shape hrow
  have HW := Lib.hid hrow
  have hb01 := HB.out.trans (hb1.mono (by simp))
  have HB1 := Lib.hid hb01
  clear hrow hb1 hb01
  go_wp2_with fail
  refine (num_any _ _).mono ?_
  rintro e w2 ⟨rfl, rfl⟩
  go_wp2_with fail
  have hb2 : Below w1.heap.size w1 ((w1.alloc (.cells #[.int .i64 250, .slice gA gn gc] 26)).alloc (.cells #[.string ⟨#[97]⟩, .string ⟨#[98]⟩] 9)) := ((Below.refl _ w1).alloc (Nat.le_refl _) _).alloc (by simp) _
  have hba : TextsAt ((w1.alloc (.cells #[.int .i64 250, .slice gA gn gc] 26)).alloc (.cells #[.string ⟨#[97]⟩, .string ⟨#[98]⟩] 9)) (.slice gA gn gc) [[97], [98]] :=
    (HW.out.texts (by decide) (by decide)).later hb2
  have hnew := heap_alloc_new (w1.alloc (.cells #[.int .i64 250, .slice gA gn gc] 26)) (.cells #[.string ⟨#[97]⟩, .string ⟨#[98]⟩] 9)
  rw [World.size_alloc] at hnew
  refine (eqStrings_any [[97], [98]] [[97], [98]] _ _ _ hba (texts_block hnew rfl ⟨by decide, by decide⟩ 2 rfl)).mono ?_
  rintro e w3 ⟨rfl, hb3⟩
  have HB3 := Lib.hid (HB1.out.trans ((hb2.mono (HB1.out.size)).trans (hb3.mono (by have := HB1.out.size; simp; omega))))
  clear hb2 hba hnew hb3
  go_wp2_with fail
  go_ret
  exact ⟨rfl, HB3.out⟩
end Go.Proofs.YtlefeebhilfkjaaDoor

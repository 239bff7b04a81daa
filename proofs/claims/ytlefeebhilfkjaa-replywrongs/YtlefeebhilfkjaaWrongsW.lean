/-
  The law ReplyWrongs, walked: it answers true and turns nothing that was there.
  Conditions: as the theorem states them.
-/
import Derived.Test.YtlefeebhilfkjaaO
namespace Go.Proofs.Ytlefeebhilfkjaa
open Go.RowKit

/-- The lines that are no reply. -/
def bads : List (List (List UInt8)) :=
  [[[50, 53, 48, 45, 97], [50, 53, 49, 32, 98]], [[50, 53, 120, 32, 97]], [[49, 53, 48, 32, 97]], [[54, 48, 48, 32, 97]], [[50, 53, 48, 32, 97], [50, 53, 48, 32, 98]], [[50, 53, 48, 95, 97]], [[50, 53]], [[]], [[50, 53, 48, 32, 97, 1]], [[50, 53, 48], [50, 53, 48, 32, 97]], [[50, 53, 48, 45, 97], [120]]]

theorem bads_form : ∀ l ∈ bads, parseL l = .form ∧ Small l := by
  intro l hl
  simp only [bads, List.mem_cons, List.not_mem_nil, or_false] at hl
  rcases hl with rfl | rfl | rfl | rfl | rfl | rfl | rfl | rfl | rfl | rfl | rfl <;> exact ⟨rfl, by decide, by decide⟩

/-- Blocks made one behind another. -/
def allocs (w : World) (os : List Obj) : World := os.foldl World.alloc w

theorem allocs_size (os : List Obj) : ∀ w : World, (allocs w os).heap.size = w.heap.size + os.length := by
  induction os with
  | nil => intro w; rfl
  | cons o t ih =>
    intro w
    show (allocs (w.alloc o) t).heap.size = _
    rw [ih, World.size_alloc, List.length_cons]
    omega

theorem allocs_below (os : List Obj) : ∀ w : World, Below w.heap.size w (allocs w os) := by
  induction os with
  | nil => intro w; exact Below.refl _ _
  | cons o t ih =>
    intro w
    exact ((Below.refl _ w).alloc (Nat.le_refl _) o).trans ((ih (w.alloc o)).mono (by rw [World.size_alloc]; omega))

theorem allocs_at (os : List Obj) : ∀ (w : World) (k : Nat), k < os.length → (allocs w os).heap[w.heap.size + k]? = os[k]? := by
  induction os with
  | nil => intro w k h; exact absurd h (by simp)
  | cons o t ih =>
    intro w k h
    cases k with
    | zero =>
      have := (allocs_below t (w.alloc o)).block w.heap.size (by rw [World.size_alloc]; omega)
      show (allocs (w.alloc o) t).heap[w.heap.size + 0]? = _
      rw [Nat.add_zero, this]
      exact heap_alloc_new w o
    | succ k =>
      have := ih (w.alloc o) k (by simpa using h)
      rw [World.size_alloc] at this
      show (allocs (w.alloc o) t).heap[w.heap.size + (k + 1)]? = _
      rw [show w.heap.size + (k + 1) = w.heap.size + 1 + k by omega, this]
      rfl

/-- The law's lists, as they are made. -/
def badObjs (n : Nat) : List Obj :=
  bads.map (fun l => Obj.cells (strsOf l).toArray 9) ++ [.cells ((List.range 11).map fun k => Value.slice (some ⟨n + k, 0, none⟩) (bads.getD k []).length (bads.getD k []).length).toArray 24]

theorem bads_texts (w : World) (j : Nat) (hj : j < 11) : TextsAt (allocs w (badObjs w.heap.size)) (.slice (some ⟨w.heap.size + j, 0, none⟩) (bads.getD j []).length (bads.getD j []).length) (bads.getD j []) := by
  have hlen : (badObjs w.heap.size).length = 12 := rfl
  have h1 := allocs_at (badObjs w.heap.size) w j (by omega)
  have hb : bads[j]? = some (bads.getD j []) := by
    rw [List.getD_eq_getElem?_getD, List.getElem?_eq_getElem (show j < bads.length from hj)]
    rfl
  have h2 : (badObjs w.heap.size)[j]? = some (.cells (strsOf (bads.getD j [])).toArray 9) := by
    unfold badObjs
    rw [List.getElem?_append_left (by simpa using (show j < bads.length from hj)), List.getElem?_map, hb]
    rfl
  exact texts_block (h1.trans h2) (by simp) (bads_form _ (List.mem_of_getElem? hb)).2 _ rfl

theorem bads_cell (w : World) (j : Nat) (hj : j < 11) : (allocs w (badObjs w.heap.size)).cell? ⟨w.heap.size + 11, j, none⟩ = some (.slice (some ⟨w.heap.size + j, 0, none⟩) (bads.getD j []).length (bads.getD j []).length) := by
  have h1 := allocs_at (badObjs w.heap.size) w 11 (by rw [show (badObjs w.heap.size).length = 12 from rfl]; omega)
  have h2 : (badObjs w.heap.size)[11]? = some (.cells ((List.range 11).map fun k => Value.slice (some ⟨w.heap.size + k, 0, none⟩) (bads.getD k []).length (bads.getD k []).length).toArray 24) := rfl
  have h3 := h1.trans h2
  simp [World.cell?, h3, hj]

theorem row_one {w : World} {B : Nat} {v : Value} {s : List UInt8} (h : StrRow w B v [s]) : ∃ g cap, v = .slice (some ⟨g, 0, none⟩) 1 cap ∧ w.cell? ⟨g, 0, none⟩ = some (.string ⟨s.toArray⟩) ∧ g < w.heap.size := by
  obtain ⟨g, cap, cur, hv, hg, hblk, _⟩ := h.2.resolve_left (fun k => by have := k.2; simp at this)
  have hh := h
  subst hv
  refine ⟨g, cap, rfl, ?_, (Array.getElem?_eq_some_iff.1 hblk).1⟩
  have := World.ownsRow.cellAt hh 0 (by simp)
  rw [this]
  rfl

theorem row_len {w : World} {B : Nat} {v : Value} {rows : List (List UInt8)} (h : StrRow w B v rows) : ∃ A c, v = .slice A rows.length c := by
  rcases h.2 with ⟨h, h0⟩ | ⟨g, cap, cur, h, _⟩
  · exact ⟨none, 0, by rw [h, h0]⟩
  · exact ⟨_, cap, h⟩

theorem lines1 : parseL [[51, 53, 52]] = ⟨0, 354, [[]]⟩ := rfl
theorem lines2 : parseL [[50, 53, 48, 45], [50, 53, 48]] = ⟨0, 250, [[], []]⟩ := rfl
theorem lines3 : parseL [] = ⟨7, 0, []⟩ := rfl

theorem parse_in (l : List (List UInt8)) (hs : Small l) (o : Obj) (cs : Array Value) (w : World) (ho : o = .cells cs 9) (hcs : cs.toList = strsOf l) (n : Nat) (hn : n = l.length) (R : Res) (hR : parseL l = R) (cd : Int) (hcd : ((R.code : Nat) : Int) = cd) (er : Int) (her : R.err = er) (b : Nat) (hb0 : b = w.heap.size) :
    Calls Try.prog 7 #[.slice (some ⟨b, 0, none⟩) n n] (w.alloc o) fun e w' => ∃ lv, e = .returned (.tuple #[.agg #[.int .i64 cd, lv], .int .i64 er]) ∧ StrRow w' w.heap.size lv R.rows ∧ Below w.heap.size w w' := by
  subst hR ho hcd her hb0
  refine (parse_any l _ (w.alloc (.cells cs 9)) (texts_block (heap_alloc_new w _) hcs hs n hn)).mono ?_
  rintro e w' ⟨lv, he, hrow, hb⟩
  rw [World.size_alloc] at hrow hb
  exact ⟨lv, he, hrow.mono (Nat.le_succ _), ((Below.refl _ w).alloc (Nat.le_refl _) _).trans (hb.mono (Nat.le_succ _))⟩

theorem parse_nil (w : World) : Calls Try.prog 7 #[.slice none 0 0] w fun e w' => ∃ lv, e = .returned (.tuple #[.agg #[.int .i64 0, lv], .int .i64 7]) ∧ StrRow w' w.heap.size lv [] ∧ Below w.heap.size w w' := by
  have h := parse_any [] _ w (TextsAt.nil w)
  rw [lines3] at h
  exact h

set_option maxHeartbeats 1000000 in
set_option maxRecDepth 100000 in
theorem wrongs_any (n0 : Nat) (A0 : Option Addr) (k0 : Nat) (w : World) (hn0 : n0 ≤ maxLen) :
    Calls Try.prog 4 #[.slice A0 n0 k0] w fun e w' => e = .returned (.bool true) ∧ Below w.heap.size w w' := by
  unfold maxLen at hn0
  have hn0i : (0 : Int) ≤ (n0 : Int) := by omega
  go_enter Try.func4, Try.ntmps4
  go_wp2_with fail
  go_loopw [4] (fun iv wr => ∃ j : Nat, j ≤ 11 ∧ iv = .int .i64 j ∧ Below (w.heap.size + 12) (allocs w (badObjs w.heap.size)) wr) (fun iv _ => 11 - (intOf iv).toNat)
  case atStart => exact ⟨0, Nat.zero_le _, rfl, Below.refl _ _⟩
  case round =>
    obtain ⟨j, hj, rfl, hB⟩ := hrel
    have HB := Lib.hid hB
    have hs0 : (allocs w (badObjs w.heap.size)).heap.size = w.heap.size + 12 := allocs_size _ _
    have hsz : w.heap.size + 12 ≤ wr.heap.size := by have := hB.size; omega
    have HBW := Lib.hid (show Below w.heap.size w wr from (allocs_below _ w).trans (hB.mono (by omega)))
    clear hB
    by_cases hlt : j < 11
    · have hi : (j : Int) < 11 := by omega
      have hc : wr.cell? ⟨w.heap.size + 11, j, none⟩ = some (.slice (some ⟨w.heap.size + j, 0, none⟩) (bads.getD j []).length (bads.getD j []).length) := (HB.out.cell (p := ⟨w.heap.size + 11, j, none⟩) (by show w.heap.size + 11 < _; omega)).trans (bads_cell w j hlt)
      have ht : TextsAt wr (.slice (some ⟨w.heap.size + j, 0, none⟩) (bads.getD j []).length (bads.getD j []).length) (bads.getD j []) := (bads_texts w j hlt).later (by rw [hs0]; exact HB.out)
      have hR : parseL (bads.getD j []) = .form := (bads_form _ (by
        rw [List.getD_eq_getElem?_getD, List.getElem?_eq_getElem (show j < bads.length from hlt)]
        exact List.getElem_mem _)).1
      have HP := Lib.hid (parse_any _ _ wr ht)
      have HR := Lib.hid hR
      clear ht hR hs0
      generalize bads.getD j [] = l at *
      go_wp2_with fail
      refine Calls.mono HP.out ?_
      rw [HR.out]
      rintro e w1 ⟨lv, rfl, hrow, hb⟩
      obtain ⟨gA, gn, gc, rfl⟩ := row_shape hrow
      have HB1 := Lib.hid ((HB.out.trans (hb.mono hsz)).alloc (show w.heap.size + 12 ≤ w1.heap.size from Nat.le_trans hsz hb.size) (.cells #[.int .i64 Res.form.code, .slice gA gn gc] 26))
      clear hrow hb
      have hf0 : Res.form.code = 0 := rfl
      have hf1 : Res.form.err = 1 := rfl
      rw [hf0] at HB1 ⊢
      rw [hf1]
      go_wp2_with fail
      refine (num_any _ _).mono ?_
      rintro e w2 ⟨rfl, rfl⟩
      go_wp2_with fail
      exact ⟨⟨j + 1, hlt, by go_num, HB1.out⟩, by simp [intOf]; omega⟩
    · obtain rfl : j = 11 := by omega
      have HP1 := Lib.hid (fun w => parse_in [[51, 53, 52]] ⟨by decide, by decide⟩ (.cells #[.string ⟨#[51, 53, 52]⟩] 9) _ w rfl rfl 1 rfl _ lines1 354 rfl 0 rfl w.heap.size rfl)
      have HP2 := Lib.hid (fun w b hb => parse_in [[50, 53, 48, 45], [50, 53, 48]] ⟨by decide, by decide⟩ (.cells #[.string ⟨#[50, 53, 48, 45]⟩, .string ⟨#[50, 53, 48]⟩] 9) _ w rfl rfl 2 rfl _ lines2 250 rfl 0 rfl b hb)
      have HP3 := Lib.hid parse_nil
      clear HB hs0 hj hlt
      go_wp2_with fail
      refine Calls.mono (HP1.out _) ?_
      rintro e w1 ⟨lv1, rfl, hrow1, hb1⟩
      obtain ⟨g1, cap1, rfl, hc1, hg1⟩ := row_one hrow1
      have hb1a := ((upB HBW.out (Nat.le_refl _) hb1).alloc (upB HBW.out (Nat.le_refl _) hb1).size (.cells #[.int .i64 354, .slice (some ⟨g1, 0, none⟩) 1 cap1] 26))
      have HB1 := Lib.hid hb1a
      have HR1 := Lib.hid (show RAt (w1.alloc (.cells #[.int .i64 354, .slice (some ⟨g1, 0, none⟩) 1 cap1] 26)) w1.heap.size 354 (.slice (some ⟨g1, 0, none⟩) 1 cap1) from heap_alloc_new w1 _)
      have HG1 := Lib.hid (show (w1.alloc (.cells #[.int .i64 354, .slice (some ⟨g1, 0, none⟩) 1 cap1] 26)).cell? ⟨g1, 0, none⟩ = some (.string ⟨#[]⟩) from (World.cell?_alloc_lt w1 _ _ hg1).trans hc1)
      clear hrow1 hb1 hb1a hc1
      have hg1' : g1 < (w1.alloc (.cells #[.int .i64 354, .slice (some ⟨g1, 0, none⟩) 1 cap1] 26)).heap.size := by rw [World.size_alloc]; omega
      have H2 := Lib.hid (HP2.out (w1.alloc (.cells #[.int .i64 354, .slice (some ⟨g1, 0, none⟩) 1 cap1] 26)) (w1.heap.size + 1) (World.size_alloc _ _).symm)
      go_wp2_with fail
      refine Calls.mono H2.out ?_
      rintro e w2 ⟨lv2, rfl, hrow2, hb2⟩
      obtain ⟨A2, c2, rfl⟩ := row_len hrow2
      have hb2a := hb2.alloc hb2.size (.cells #[.int .i64 250, .slice A2 2 c2] 26)
      have HB2 := Lib.hid (HB1.out.trans (hb2a.mono HB1.out.size))
      have HR1a := Lib.hid (HR1.out.later hb2a)
      have HG2 := Lib.hid ((hb2a.cell (p := ⟨g1, 0, none⟩) hg1').trans HG1.out)
      have HR2 := Lib.hid (show RAt (w2.alloc (.cells #[.int .i64 250, .slice A2 2 c2] 26)) w2.heap.size 250 (.slice A2 2 c2) from heap_alloc_new w2 _)
      have hg2 : g1 < (w2.alloc (.cells #[.int .i64 250, .slice A2 2 c2] 26)).heap.size := Nat.lt_of_lt_of_le hg1' hb2a.size
      have H3 := Lib.hid (HP3.out (w2.alloc (.cells #[.int .i64 250, .slice A2 2 c2] 26)))
      clear hrow2 hb2 hb2a HB1 HR1 HG1 H2 hg1'
      go_wp2_with fail
      refine Calls.mono H3.out ?_
      rintro e w3 ⟨lv3, rfl, hrow3, hb3⟩
      obtain ⟨A3, c3, rfl⟩ := row_len hrow3
      have hb3a := hb3.alloc hb3.size (.cells #[.int .i64 0, .slice A3 0 c3] 26)
      have HB3 := Lib.hid (HB2.out.trans (hb3a.mono HB2.out.size))
      have HR1b := Lib.hid (HR1a.out.later hb3a)
      have HR2b := Lib.hid (HR2.out.later hb3a)
      have HG3 := Lib.hid ((hb3a.cell (p := ⟨g1, 0, none⟩) hg2).trans HG2.out)
      clear hrow3 hb3 hb3a HB2 HR1a HG2 HR2 H3 HP1 HP2 HP3 hg2
      generalize hW : w3.alloc (.cells #[.int .i64 0, .slice A3 0 c3] 26) = W3 at *
      have x0 := HR1b.out.c0
      have x1 := HR1b.out.c1
      have x2 := HR2b.out.c0
      have x3 := HR2b.out.c1
      have x4 := HG3.out
      go_wp2_with (go_at_call 9; refine (num_any _ _).mono ?_; rintro e w9 ⟨rfl, rfl⟩)
      refine (wakes_any W3).mono ?_
      rintro e w4 ⟨rfl, hb4⟩
      have HB4 := Lib.hid (upB HB3.out (Nat.le_refl _) hb4)
      clear hb4
      go_wp2_with fail
      go_ret
      exact ⟨rfl, HB4.out⟩
end Go.Proofs.Ytlefeebhilfkjaa

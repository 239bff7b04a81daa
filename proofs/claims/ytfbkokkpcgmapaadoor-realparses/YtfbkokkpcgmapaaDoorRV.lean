/-
  The page's Split and Value, walked: what stands between a byte, and the number of some digits.
  Conditions: as each theorem states them.
-/
import Derived.Test.YtfbkokkpcgmapaaDoorRQ
namespace Go.Proofs.YtfbkokkpcgmapaaDoor
open Go.RowKit

theorem byte_ne {c d : UInt8} (h : c ≠ d) : ((c.toNat : Int) == (d.toNat : Int)) = false := by
  rw [beq_eq_false_iff_ne]
  intro e
  exact h (UInt8.toNat_inj.1 (by omega))
theorem ne_empty {s : List UInt8} (h : s ≠ []) : s.isEmpty = false := by
  cases s with
  | nil => exact absurd rfl h
  | cons _ _ => rfl
theorem head_eq {s : List UInt8} (h : 0 < (⟨s.toArray⟩ : ByteArray).size) : s.head? = some ((⟨s.toArray⟩ : ByteArray)[0]'h) := by
  cases s with
  | nil => exact absurd h (Nat.lt_irrefl 0)
  | cons c t => rfl
theorem val_snoc (t : List UInt8) (c : UInt8) : valN (t ++ [c]) = 10 * valN t + (c.toNat - 48) := by simp [valN]
theorem take_snoc {s : List UInt8} {j : Nat} (h : j < s.length) : s.take (j + 1) = s.take j ++ [s[j]] := by
  rw [List.take_add_one, List.getElem?_eq_getElem h]; rfl
theorem not_all {p : UInt8 → Bool} {l : List UInt8} {j : Nat} (h : j < l.length) (hc : p l[j] = false) : l.all p = false := by
  rw [List.all_eq_false]
  exact ⟨l[j], List.getElem_mem h, by rw [hc]; exact Bool.false_ne_true⟩
theorem split_len (b : UInt8) (s : List UInt8) : (splitB b s).length = s.count b + 1 := by
  induction s with
  | nil => rfl
  | cons c t ih =>
    rw [splitB]
    split
    · rename_i h
      subst h
      rw [List.length_cons, ih, List.count_cons_self]
    · rename_i h
      have h1 : ¬ ((c == b) = true) := by simpa using h
      split
      · rename_i h2
        rw [h2] at ih
        simp at ih
      · rename_i h2
        rw [h2] at ih
        rw [List.count_cons, if_neg h1]
        simp only [List.length_cons] at ih ⊢
        omega
/-- The cells of a row of texts. -/
def strsOf (rows : List (List UInt8)) : List Value := rows.map fun l => Value.string ⟨l.toArray⟩
/-- A row of texts of the call's own. -/
def StrRow (w : World) (B : Nat) (v : Value) (rows : List (List UInt8)) : Prop := w.ownsRow B 9 1 v rows.length (strsOf rows)
theorem StrRow.zero (w : World) (B : Nat) : StrRow w B (.slice none 0 0) [] := ⟨rfl, .inl ⟨rfl, rfl⟩⟩
theorem StrRow.blocks {w w' : World} {B : Nat} {v : Value} {rows : List (List UInt8)} (h : StrRow w B v rows) (hk : ∀ (j : Nat) (o : Obj), B ≤ j → w.heap[j]? = some o → w'.heap[j]? = some o) : StrRow w' B v rows := by
  obtain ⟨h1, h2⟩ := h
  refine ⟨h1, ?_⟩
  rcases h2 with h2 | ⟨g, cap, cur, hv, hg, hh, r⟩
  · exact .inl h2
  · exact .inr ⟨g, cap, cur, hv, hg, hk g _ hg hh, r⟩
theorem StrRow.later {w w' : World} {B : Nat} {v : Value} {rows : List (List UInt8)} (h : StrRow w B v rows) (hb : Below w.heap.size w w') : StrRow w' B v rows :=
  h.blocks fun j _ _ hj => (hb.block j (Array.getElem?_eq_some_iff.1 hj).1).trans hj
theorem StrRow.mono {w : World} {B B' : Nat} {v : Value} {rows : List (List UInt8)} (h : StrRow w B v rows) (hb : B' ≤ B) : StrRow w B' v rows := by
  obtain ⟨h1, h2⟩ := h
  refine ⟨h1, ?_⟩
  rcases h2 with h2 | ⟨g, cap, cur, hv, hg, r⟩
  · exact .inl h2
  · exact .inr ⟨g, cap, cur, hv, Nat.le_trans hb hg, r⟩
theorem info9 : (Tryd.prog.info? 9).map (fun i => (i.zero, i.size, i.bytes)) = some (some (.string ⟨#[]⟩), 1, 16) := by kernel_rfl
theorem run_append_str (w : World) (ty : TypeId) (B n : Nat) (lv : Value) (rows : List (List UInt8)) (t : List UInt8) (hown : StrRow w B lv rows)
    (hblk : w.heap[n]? = some (.cells #[.string ⟨t.toArray⟩] 9 (0, 0))) (hB : B ≤ w.heap.size) (hn : rows.length < 1000000) :
    ∃ g cap w', (Builtin.append_ #[40, 40] ty #[lv, .slice (some ⟨n, 0, none⟩) 1 1]).run Tryd.prog w = .ok (.slice (some ⟨g, 0, none⟩) (rows.length + 1) cap) w' ∧
      StrRow w' B (.slice (some ⟨g, 0, none⟩) (rows.length + 1) cap) (rows ++ [t]) ∧ w.grownBy w' lv.ownBlock := by
  obtain ⟨i0, hi0, hz0, hs0, hb0⟩ := info_parts info9
  obtain ⟨g, cap, w', h1, h2, h3, _, _⟩ := run_append_lies (P := Tryd.prog) w 40 ty B 9 i0 _ 1 16 Tryd.underlying40 hi0 hz0 hs0 hb0 rfl (by omega) lv rows.length (strsOf rows) hown ⟨n, 0, none⟩ 1 1
    [.string ⟨t.toArray⟩] rfl (World.news_of_block (cs := #[.string ⟨t.toArray⟩]) hblk) (by simp [Value.oneCell']) (by omega) (by unfold maxLen; omega) (by omega) hB _ rfl
  refine ⟨g, cap, w', h1, ?_, h3⟩
  unfold StrRow
  rw [show strsOf (rows ++ [t]) = strsOf rows ++ [.string ⟨t.toArray⟩] from by simp [strsOf], List.length_append]
  exact h2
theorem wpList_append_str {ops : Array Oper} {rest : List Oper} {o : Oper} {a : Act} {Q : Exit → Act → World → Prop} (w : World) (s x : Operand) (B n : Nat) (lv : Value) (rows : List (List UInt8)) (t : List UInt8)
    (hgd : o.guard = none) (ho : o.op = .call { callee := .builtin .append, args := #[s, x], argTypes := #[40, 40] }) (hs : a.eval s = lv) (hx : a.eval x = .slice (some ⟨n, 0, none⟩) 1 1)
    (hown : StrRow w B lv rows) (hblk : w.heap[n]? = some (.cells #[.string ⟨t.toArray⟩] 9 (0, 0))) (hB : B ≤ w.heap.size) (hn : rows.length < 1000000)
    (h : ∀ g cap w', StrRow w' B (.slice (some ⟨g, 0, none⟩) (rows.length + 1) cap) (rows ++ [t]) → w.grownBy w' lv.ownBlock → wpList Tryd.prog ops Q rest (a.put o.dst (.slice (some ⟨g, 0, none⟩) (rows.length + 1) cap)) w') : wpList Tryd.prog ops Q (o :: rest) a w := by
  refine wpList_plain hgd fun K hK => ?_
  obtain ⟨g, cap, w', hr, h2, h3⟩ := run_append_str w o.type B n lv rows t hown hblk hB hn
  unfold Oper.wp execOp
  simp only [ho, resolve, invoke, builtin, Sem.run_bind, Sem.run_pure, Result.andThen_ok, List.map_toArray, List.map_cons, List.map_nil, hs, hx, hr]
  exact hK _ _ (h g cap w' h2 h3)
/-- Where the texts of a row lie. -/
theorem StrRow.get {w : World} {B : Nat} {v : Value} {rows : List (List UInt8)} (h : StrRow w B v rows) (hne : rows ≠ []) : ∃ g cap, v = .slice (some ⟨g, 0, none⟩) rows.length cap ∧ g < w.heap.size ∧ ∀ j (hj : j < rows.length), w.cell? ⟨g, j, none⟩ = some (.string ⟨rows[j].toArray⟩) := by
  have hh := h
  obtain ⟨h1, h2⟩ := h
  rcases h2 with ⟨hv, hn⟩ | ⟨g, cap, cur, hv, hg, hblk, _⟩
  · exact absurd (List.eq_nil_of_length_eq_zero hn) hne
  · refine ⟨g, cap, hv, (Array.getElem?_eq_some_iff.1 hblk).1, fun j hj => ?_⟩
    subst hv
    have := World.ownsRow.cellAt hh j (by omega)
    rw [this]
    simp [strsOf, hj]
theorem row_shape {w : World} {B : Nat} {v : Value} {rows : List (List UInt8)} (h : StrRow w B v rows) : ∃ A c, v = .slice A rows.length c := by
  rcases h.2 with ⟨h, h0⟩ | ⟨g, cap, cur, h, _⟩
  · exact ⟨none, 0, by rw [h, h0]⟩
  · exact ⟨_, cap, h⟩
theorem split_ne (b : UInt8) (s : List UInt8) : splitB b s ≠ [] := fun h => by
  have := split_len b s
  rw [h] at this
  simp at this
theorem split_short {b : UInt8} : ∀ {s p : List UInt8}, p ∈ splitB b s → p.length ≤ s.length := by
  intro s
  induction s with
  | nil =>
    intro p hp
    rw [splitB, List.mem_singleton] at hp
    rw [hp]
    exact Nat.le_refl _
  | cons c t ih =>
    intro p hp
    rw [splitB] at hp
    split at hp
    · rcases List.mem_cons.1 hp with rfl | hp
      · exact Nat.zero_le _
      · have := ih hp
        simp
        omega
    · split at hp
      · rename_i h
        exact absurd h (split_ne b t)
      · rename_i q r h
        have h1 : ∀ x ∈ q :: r, x.length ≤ t.length := fun x hx => ih (by rw [h]; exact hx)
        rcases List.mem_cons.1 hp with rfl | hp
        · have := h1 q List.mem_cons_self
          simp
          omega
        · have := h1 p (List.mem_cons_of_mem _ hp)
          simp
          omega
/-- Behind some rounds of Split: the texts so far, where the next one begins, where it stands. -/
def SplitAt (c : UInt8) (s : List UInt8) (acc : List (List UInt8)) (f j : Nat) : Prop :=
  (j ≤ s.length ∧ f ≤ j ∧ acc.length ≤ j ∧ splitB c s = acc ++ splitB c (s.drop f) ∧ c ∉ (s.drop f).take (j - f)) ∨ (j = s.length + 1 ∧ acc.length ≤ j ∧ acc = splitB c s)
theorem SplitAt.start (c : UInt8) (s : List UInt8) : SplitAt c s [] 0 0 := .inl ⟨Nat.zero_le _, Nat.le_refl _, Nat.zero_le _, by simp, by simp⟩
theorem take_more {s : List UInt8} {f j : Nat} (h : j < s.length) (hf : f ≤ j) : (s.drop f).take (j + 1 - f) = (s.drop f).take (j - f) ++ [s[j]] := by
  rw [show j + 1 - f = (j - f) + 1 by omega, List.take_add_one, List.getElem?_drop, show f + (j - f) = j by omega, List.getElem?_eq_getElem h]
  rfl
theorem drop_part {s : List UInt8} {f j : Nat} (hf : f ≤ j) : s.drop f = (s.drop f).take (j - f) ++ s.drop j := by
  conv => lhs; rw [← List.take_append_drop (j - f) (s.drop f)]
  rw [List.drop_drop, show f + (j - f) = j by omega]
theorem SplitAt.on {c : UInt8} {s : List UInt8} {acc : List (List UInt8)} {f j : Nat} (h : SplitAt c s acc f j) (hj : j < s.length) (hc : s[j] ≠ c) : SplitAt c s acc f (j + 1) := by
  rcases h with ⟨h1, h2, h3, h4, h5⟩ | ⟨h1, _⟩
  · refine .inl ⟨hj, by omega, by omega, h4, ?_⟩
    rw [take_more hj h2]
    simp only [List.mem_append, List.mem_singleton, not_or]
    exact ⟨h5, fun e => hc e.symm⟩
  · omega
theorem SplitAt.cut {c : UInt8} {s : List UInt8} {acc : List (List UInt8)} {f j : Nat} (h : SplitAt c s acc f j) (hj : j < s.length) (hc : s[j] = c) : SplitAt c s (acc ++ [(s.drop f).take (j - f)]) (j + 1) (j + 1) := by
  rcases h with ⟨h1, h2, h3, h4, h5⟩ | ⟨h1, _⟩
  · refine .inl ⟨hj, Nat.le_refl _, by simp; omega, ?_, by simp⟩
    have h6 : s.drop f = (s.drop f).take (j - f) ++ c :: s.drop (j + 1) := by
      conv => lhs; rw [drop_part h2, List.drop_eq_getElem_cons hj, hc]
    rw [h4]
    conv => lhs; rw [h6]
    rw [split_some h5]
    simp
  · omega
theorem SplitAt.last {c : UInt8} {s : List UInt8} {acc : List (List UInt8)} {f : Nat} (h : SplitAt c s acc f s.length) : SplitAt c s (acc ++ [(s.drop f).take (s.length - f)]) (s.length + 1) (s.length + 1) := by
  rcases h with ⟨h1, h2, h3, h4, h5⟩ | ⟨h1, _⟩
  · refine .inr ⟨rfl, by simp; omega, ?_⟩
    rw [h4]
    have h6 : s.drop f = (s.drop f).take (s.length - f) := by rw [List.take_of_length_le (by simp)]
    conv => rhs; rw [h6, split_none h5]
  · omega
theorem SplitAt.len {c : UInt8} {s : List UInt8} {acc : List (List UInt8)} {f j : Nat} (h : SplitAt c s acc f j) : acc.length ≤ s.length + 1 := by
  rcases h with ⟨h1, h2, h3, _⟩ | ⟨h1, h2, _⟩ <;> omega
theorem SplitAt.from {c : UInt8} {s : List UInt8} {acc : List (List UInt8)} {f j : Nat} (h : SplitAt c s acc f j) (hj : j ≤ s.length) : f ≤ j := by
  rcases h with ⟨h1, h2, _⟩ | ⟨h1, _⟩
  · exact h2
  · omega
theorem SplitAt.done {c : UInt8} {s : List UInt8} {acc : List (List UInt8)} {f j : Nat} (h : SplitAt c s acc f j) (hj : ¬ j ≤ s.length) : acc = splitB c s := by
  rcases h with ⟨h1, _⟩ | ⟨_, _, h3⟩
  · exact absurd h1 hj
  · exact h3
theorem cut_piece (s : List UInt8) (a b : Nat) : (⟨s.toArray⟩ : ByteArray).extract a b = ⟨((s.drop a).take (b - a)).toArray⟩ := by
  rw [ext_eq, List.drop_take]
set_option maxHeartbeats 2000000 in
set_option maxRecDepth 100000 in
theorem split_any (c : UInt8) (s : List UInt8) (w : World) (hs : s.length ≤ 10000) (n : Int) (hn : n = (c.toNat : Int)) :
    Calls Tryd.prog 54 #[.string ⟨s.toArray⟩, .int .u8 n] w fun e w' => ∃ v, e = .returned v ∧ StrRow w' w.heap.size v (splitB c s) ∧ Below w.heap.size w w' := by
  subst hn
  go_enter Tryd.func54, Tryd.ntmps54
  go_wp2_with fail
  go_loopw [5, 6, 7] (fun lv fv iv wr => ∃ (acc : List (List UInt8)) (f j : Nat), SplitAt c s acc f j ∧ fv = .int .i64 f ∧ iv = .int .i64 j ∧ j ≤ s.length + 1 ∧ StrRow wr w.heap.size lv acc ∧ Below w.heap.size w wr) (fun _ _ iv _ => s.length + 1 - (intOf iv).toNat)
  case atStart => exact ⟨[], 0, 0, SplitAt.start c s, rfl, rfl, Nat.zero_le _, StrRow.zero _ _, Below.refl _ _⟩
  case round =>
    obtain ⟨acc, f, j, hat, rfl, rfl, hj1, hrow, hb⟩ := hrel
    have HAT := Lib.hid hat
    have HW := Lib.hid hrow
    have HB := Lib.hid hb
    have hsz := hb.size
    have hacl := hat.len
    obtain ⟨gA, gc, rfl⟩ := row_shape hrow
    clear hat hrow hb
    by_cases hle : j ≤ s.length
    · have hfj := HAT.out.from hle
      have hlei : (j : Int) ≤ (s.length : Int) := by omega
      have hfi : (f : Int) ≤ (j : Int) := by omega
      have HCP := Lib.hid (cut_piece s f j)
      have HRW := Lib.hid (show StrRow (wr.alloc (.cells #[.string ((⟨s.toArray⟩ : ByteArray).extract f j)] 9)) w.heap.size (.slice gA acc.length gc) acc from World.ownsRow.alloc HW.out _)
      have HBK := Lib.hid (show (wr.alloc (.cells #[.string ((⟨s.toArray⟩ : ByteArray).extract f j)] 9)).heap[wr.heap.size]? = some (.cells #[.string ⟨((s.drop f).take (j - f)).toArray⟩] 9 (0, 0)) from by
        rw [HCP.out]
        exact heap_alloc_new wr _)
      by_cases hlt : j < s.length
      · have hjB : j < (⟨s.toArray⟩ : ByteArray).size := hlt
        have HX := Lib.hid (show ((⟨s.toArray⟩ : ByteArray)[j]'hjB) = s[j] from rfl)
        have hbe : ((j : Int) == (s.length : Int)) = false := beq_eq_false_iff_ne.2 (by omega)
        by_cases hc : s[j] = c
        · have hbc : ((((⟨s.toArray⟩ : ByteArray)[j]'hjB).toNat : Int) == (c.toNat : Int)) = true := by rw [HX.out, hc]; exact beq_self_eq_true _
          have HN := Lib.hid (HAT.out.cut hlt hc)
          clear hc
          go_wp2_with (at_builtin; refine wpList_append_str _ (.tmp 25) (.tmp 30) w.heap.size wr.heap.size (.slice gA acc.length gc) acc ((s.drop f).take (j - f)) rfl rfl rfl rfl HRW.out HBK.out (by simp; omega) (by omega) ?_)
          intro g cap w2 hrow2 hgrow
          have HB2 := Lib.hid (show Below w.heap.size w w2 from (HB.out.alloc (by omega) _).grown hgrow (by simp; omega) (fun k hk => (World.ownsRow.lt HRW.out k hk).1))
          have HR2 := Lib.hid hrow2
          clear hrow2 hgrow
          go_wp2_with fail
          exact ⟨⟨_, j + 1, j + 1, HN.out, by go_num, by go_num, by omega, by simpa using HR2.out, HB2.out⟩, by simp [intOf]; omega⟩
        · have hbc : ((((⟨s.toArray⟩ : ByteArray)[j]'hjB).toNat : Int) == (c.toNat : Int)) = false := byte_ne (by rw [HX.out]; exact hc)
          have HN := Lib.hid (HAT.out.on hlt hc)
          clear hc
          go_wp2_with fail
          exact ⟨⟨acc, f, j + 1, HN.out, rfl, by go_num, by omega, HW.out, HB.out⟩, by simp [intOf]; omega⟩
      · obtain rfl : j = s.length := by omega
        have HN := Lib.hid HAT.out.last
        go_wp2_with (at_builtin; refine wpList_append_str _ (.tmp 25) (.tmp 30) w.heap.size wr.heap.size (.slice gA acc.length gc) acc ((s.drop f).take (s.length - f)) rfl rfl rfl rfl HRW.out HBK.out (by simp; omega) (by omega) ?_)
        intro g cap w2 hrow2 hgrow
        have HB2 := Lib.hid (show Below w.heap.size w w2 from (HB.out.alloc (by omega) _).grown hgrow (by simp; omega) (fun k hk => (World.ownsRow.lt HRW.out k hk).1))
        have HR2 := Lib.hid hrow2
        clear hrow2 hgrow
        go_wp2_with fail
        exact ⟨⟨_, s.length + 1, s.length + 1, HN.out, by go_num, by go_num, by omega, by simpa using HR2.out, HB2.out⟩, by simp [intOf]⟩
    · have HE := Lib.hid (HAT.out.done hle)
      have hlei : ¬ ((j : Int) ≤ (s.length : Int)) := by omega
      go_wp2_with fail
      go_ret
      exact ⟨_, rfl, by rw [← HE.out]; exact HW.out, HB.out⟩
theorem valn_lt {t : List UInt8} (h : t.all digB = true) : valN t < 10 ^ t.length := by
  have key : ∀ (t : List UInt8) (n : Nat), t.all digB = true → t.foldl (fun n c => 10 * n + (c.toNat - 48)) n < (n + 1) * 10 ^ t.length := by
    intro t
    induction t with
    | nil => intro n _; simp
    | cons c t ih =>
      intro n h
      simp only [List.all_cons, Bool.and_eq_true] at h
      have hd := dig_lt h.1
      rw [List.foldl_cons, List.length_cons, Nat.pow_succ]
      refine Nat.lt_of_lt_of_le (ih _ h.2) ?_
      have : (n + 1) * (10 ^ t.length * 10) = (10 * (n + 1)) * 10 ^ t.length := by rw [Nat.mul_comm 10 (n + 1), Nat.mul_assoc, Nat.mul_comm (10 ^ t.length) 10]
      rw [this]
      exact Nat.mul_le_mul_right _ (by omega)
  have := key t 0 h
  simpa [valN] using this
theorem ret_ib {a b : Int} {c d : Bool} (h : a = b) (k : c = d) : Ending.returned (.tuple #[.int .i64 a, .bool c]) = .returned (.tuple #[.int .i64 b, .bool d]) := by rw [h, k]
set_option maxHeartbeats 2000000 in
set_option maxRecDepth 100000 in
theorem value_any (s : List UInt8) (w : World) (hs : s.length ≤ 10000) :
    Calls Tryd.prog 55 #[.string ⟨s.toArray⟩] w fun e w' => e = .returned (.tuple #[.int .i64 (valV s), .bool (okV s)]) ∧ w = w' := by
  cases hs0 : s with
  | nil =>
    subst hs0
    go_enter Tryd.func55, Tryd.ntmps55
    go_wp2_with fail
    go_ret2
    exact ⟨rfl, rfl⟩
  | cons c0 t0 =>
    have hB0 : 0 < (⟨s.toArray⟩ : ByteArray).size := by rw [hs0]; exact Nat.zero_lt_succ _
    have HH := Lib.hid (head_eq hB0)
    have h0 : s ≠ [] := by rw [hs0]; exact List.cons_ne_nil _ _
    rw [← hs0]
    clear hs0
    have hne := ne_empty h0
    have hn2 : (s == []) = false := beq_eq_false_iff_ne.2 h0
    have hi0 : (0 : Int) < (s.length : Int) := by have := List.length_pos_iff.2 h0; omega
    have HOK := Lib.hid (show okV s = (decide (s.length ≤ 16) && !(decide (1 < s.length) && s.head? == some 48) && s.all digB) by simp [okV, hne])
    have HV0 : Hid (okV s = false → valV s = 0) := Lib.hid fun h => by simp [valV, h]
    clear h0
    by_cases h16 : s.length ≤ 16
    · have h16i : ¬ ((16 : Int) < (s.length : Int)) := by omega
      have hcase : (1 < s.length ∧ s.head? = some 48) ∨ ¬ (1 < s.length ∧ s.head? = some 48) := Classical.em _
      rcases hcase with ⟨hl1, hz⟩ | hgood
      · have hl1i : (1 : Int) < (s.length : Int) := by omega
        have HE := Lib.hid (show okV s = false by rw [HOK.out, hz]; simp [hl1])
        have hb : ((((⟨s.toArray⟩ : ByteArray)[0]'hB0).toNat : Int) == 48) = true := by
          have h1 := HH.out
          rw [hz] at h1
          rw [← Option.some.inj h1]
          rfl
        clear hz
        go_enter Tryd.func55, Tryd.ntmps55
        go_wp2_with fail
        go_ret2
        exact ⟨ret_ib (HV0.out HE.out).symm HE.out.symm, rfl⟩
      · have HG := Lib.hid (show okV s = s.all digB by
          rw [HOK.out]
          have : (decide (1 < s.length) && s.head? == some 48) = false := by
            rw [Bool.and_eq_false_iff]
            by_cases h : 1 < s.length
            · right
              exact beq_eq_false_iff_ne.2 fun e => hgood ⟨h, e⟩
            · left
              exact decide_eq_false h
          rw [this]
          simp [h16])
        have hrun : ∀ (hh : (¬ (1 : Int) < (s.length : Int)) ∨ ((1 : Int) < (s.length : Int) ∧ ((((⟨s.toArray⟩ : ByteArray)[0]'hB0).toNat : Int) == 48) = false)), Calls Tryd.prog 55 #[.string ⟨s.toArray⟩] w fun e w' => e = .returned (.tuple #[.int .i64 (valV s), .bool (okV s)]) ∧ w = w' := by
          intro hh
          rcases hh with hh | ⟨hh, hh2⟩
          all_goals
            go_enter Tryd.func55, Tryd.ntmps55
            go_wp2_with fail
            go_loop [4, 5] (fun v i => ∃ j : Nat, j ≤ s.length ∧ i = .int .i64 j ∧ v = .int .i64 (valN (s.take j)) ∧ (s.take j).all digB = true) (fun _ i => s.length - (intOf i).toNat)
            case atStart => exact ⟨0, Nat.zero_le _, rfl, rfl, rfl⟩
            case round =>
              obtain ⟨j, hj, rfl, rfl, hall⟩ := hrel
              have HA := Lib.hid hall
              clear hall
              by_cases hlt : j < s.length
              · have hjB : j < (⟨s.toArray⟩ : ByteArray).size := hlt
                have HX := Lib.hid (show ((⟨s.toArray⟩ : ByteArray)[j]'hjB) = s[j] from rfl)
                have HN := Lib.hid (val_snoc (s.take j) s[j])
                have HT := Lib.hid (take_snoc hlt)
                have hvi : ((valN (s.take j) : Nat) : Int) ≤ 1000000000000000 := by
                  have h1 := valn_lt HA.out
                  have h2 : (s.take j).length ≤ 15 := by rw [List.length_take]; omega
                  have h3 : 10 ^ (s.take j).length ≤ 10 ^ 15 := Nat.pow_le_pow_right (by omega) h2
                  omega
                have hv0 : (0 : Int) ≤ ((valN (s.take j) : Nat) : Int) := by omega
                cases hd : digB s[j] with
                | true =>
                  have hd1 := dig_lt hd
                  have HD := Lib.hid hd
                  have hA : (48 : Int) ≤ ((((⟨s.toArray⟩ : ByteArray)[j]'hjB).toNat : Nat) : Int) := by rw [HX.out]; omega
                  have hB : ((((⟨s.toArray⟩ : ByteArray)[j]'hjB).toNat : Nat) : Int) ≤ 57 := by rw [HX.out]; omega
                  have HVV : Hid (((valN (s.take (j + 1)) : Nat) : Int) = 10 * ((valN (s.take j) : Nat) : Int) + (((((⟨s.toArray⟩ : ByteArray)[j]'hjB).toNat : Nat) : Int) - 48)) := Lib.hid (by rw [HT.out, HN.out, HX.out]; omega)
                  clear hd hd1
                  generalize valN (s.take j) = v at *
                  go_wp2_with fail
                  refine ⟨⟨j + 1, hlt, by go_num, ?_, ?_⟩, by simp [intOf]; omega⟩
                  · rw [HVV.out]
                  · rw [HT.out, List.all_append, HA.out]
                    simp [HD.out]
                | false =>
                  have HE := Lib.hid (show okV s = false by rw [HG.out]; exact not_all hlt hd)
                  by_cases hA : (48 : Int) ≤ ((((⟨s.toArray⟩ : ByteArray)[j]'hjB).toNat : Nat) : Int)
                  · have hB : (57 : Int) < ((((⟨s.toArray⟩ : ByteArray)[j]'hjB).toNat : Nat) : Int) := by
                      rw [HX.out] at hA ⊢
                      simp only [digB, Bool.and_eq_false_iff, decide_eq_false_iff_not] at hd
                      omega
                    clear hd
                    go_wp2_with fail
                    go_ret2
                    exact ⟨ret_ib (HV0.out HE.out).symm HE.out.symm, rfl⟩
                  · clear hd
                    go_wp2_with fail
                    go_ret2
                    exact ⟨ret_ib (HV0.out HE.out).symm HE.out.symm, rfl⟩
              · obtain rfl : j = s.length := by omega
                rw [List.take_length] at HA ⊢
                have HE := Lib.hid (show okV s = true by rw [HG.out, HA.out])
                have HF := Lib.hid (show valV s = (valN s : Int) by simp [valV, HE.out])
                go_wp2_with fail
                go_ret2
                exact ⟨ret_ib HF.out.symm HE.out.symm, rfl⟩
        by_cases hl1 : (1 : Int) < (s.length : Int)
        · refine hrun (.inr ⟨hl1, ?_⟩)
          refine byte_ne (d := 48) fun e => hgood ⟨by omega, ?_⟩
          rw [HH.out, e]
        · exact hrun (.inl hl1)
    · have h16i : (16 : Int) < (s.length : Int) := by omega
      have HE := Lib.hid (show okV s = false by rw [HOK.out]; simp [h16])
      go_enter Tryd.func55, Tryd.ntmps55
      go_wp2_with fail
      go_ret2
      exact ⟨ret_ib (HV0.out HE.out).symm HE.out.symm, rfl⟩
end Go.Proofs.YtfbkokkpcgmapaaDoor

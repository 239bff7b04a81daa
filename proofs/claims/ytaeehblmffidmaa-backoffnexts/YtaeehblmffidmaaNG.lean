/-
  Rows of numbers of the call's own; the page's copy of a list, and the statements' own wakes, walked; the argument in a block.
  Conditions: as each theorem states them.
-/
import Derived.Test.YtaeehblmffidmaaNF
import Derived.Laws.OwnMore
import Derived.Deep.AppendLies
namespace Go.Proofs.Ytaeehblmffidmaa
open Go.RowKit

def intsOf (l : List Int) : List Value := l.map fun a => Value.int .i64 a
/-- A row of numbers of the call's own. -/
def IRow (w : World) (B : Nat) (v : Value) (l : List Int) : Prop := w.ownsRow B 3 1 v l.length (intsOf l)
theorem infoI : (Try.prog.info? 3).map (fun i => (i.zero, i.size, i.bytes)) = some (some (.int .i64 0), 1, 8) := by kernel_rfl
theorem run_append_i (w : World) (ty : TypeId) (B n : Nat) (lv : Value) (l : List Int) (a : Int) (hown : IRow w B lv l)
    (hblk : w.heap[n]? = some (.cells #[.int .i64 a] 3 (0, 0))) (hB : B ≤ w.heap.size) (hn : l.length < 1000000) :
    ∃ g cap w', (Builtin.append_ #[22, 22] ty #[lv, .slice (some ⟨n, 0, none⟩) 1 1]).run Try.prog w = .ok (.slice (some ⟨g, 0, none⟩) (l.length + 1) cap) w' ∧
      IRow w' B (.slice (some ⟨g, 0, none⟩) (l.length + 1) cap) (l ++ [a]) ∧ w.grownBy w' lv.ownBlock := by
  obtain ⟨i0, hi0, hz0, hs0, hb0⟩ := info_parts infoI
  obtain ⟨g, cap, w', h1, h2, h3, _, _⟩ := run_append_lies (P := Try.prog) w 22 ty B 3 i0 _ 1 8 Try.underlying22 hi0 hz0 hs0 hb0 rfl (by omega) lv l.length (intsOf l) hown ⟨n, 0, none⟩ 1 1
    [.int .i64 a] rfl (World.news_of_block (cs := #[.int .i64 a]) hblk) (by simp [Value.oneCell']) (by omega) (by unfold maxLen; omega) (by omega) hB _ rfl
  refine ⟨g, cap, w', h1, ?_, h3⟩
  unfold IRow
  rw [show intsOf (l ++ [a]) = intsOf l ++ [.int .i64 a] from by simp [intsOf], List.length_append]
  exact h2
theorem wpList_append_i {ops : Array Oper} {rest : List Oper} {o : Oper} {a : Act} {Q : Exit → Act → World → Prop} (w : World) (s x : Operand) (B n : Nat) (lv : Value) (l : List Int) (t : Int)
    (hgd : o.guard = none) (ho : o.op = .call { callee := .builtin .append, args := #[s, x], argTypes := #[22, 22] }) (hs : a.eval s = lv) (hx : a.eval x = .slice (some ⟨n, 0, none⟩) 1 1)
    (hown : IRow w B lv l) (hblk : w.heap[n]? = some (.cells #[.int .i64 t] 3 (0, 0))) (hB : B ≤ w.heap.size) (hn : l.length < 1000000)
    (h : ∀ g cap w', IRow w' B (.slice (some ⟨g, 0, none⟩) (l.length + 1) cap) (l ++ [t]) → w.grownBy w' lv.ownBlock → wpList Try.prog ops Q rest (a.put o.dst (.slice (some ⟨g, 0, none⟩) (l.length + 1) cap)) w') : wpList Try.prog ops Q (o :: rest) a w := by
  refine wpList_plain hgd fun K hK => ?_
  obtain ⟨g, cap, w', hr, h2, h3⟩ := run_append_i w o.type B n lv l t hown hblk hB hn
  unfold Oper.wp execOp
  simp only [ho, resolve, invoke, builtin, Sem.run_bind, Sem.run_pure, Result.andThen_ok, List.map_toArray, List.map_cons, List.map_nil, hs, hx, hr]
  exact hK _ _ (h g cap w' h2 h3)
theorem irow_slice {w : World} {B : Nat} {v : Value} {l : List Int} (h : IRow w B v l) : ∃ A n c, v = .slice A n c := by
  rcases h.2 with ⟨h, h0⟩ | ⟨g, cap, cur, h, _⟩
  · exact ⟨none, 0, 0, by rw [h]⟩
  · exact ⟨_, _, cap, h⟩
theorem irow_at {w : World} {B : Nat} {v : Value} {l : List Int} (h : IRow w B v l) (hl : l.length ≤ 2000) : NAt w v l := by
  have hh := h
  obtain ⟨h1, h2⟩ := h
  rcases h2 with ⟨hv, hn⟩ | ⟨g, cap, cur, hv, hg, hblk, r⟩
  · have h0 : l = [] := List.eq_nil_of_length_eq_zero hn
    subst h0
    subst hv
    exact NAt.nil w
  · have hc : l.length ≤ cap := by
      have := r
      omega
    refine ⟨_, cap, hv, by unfold maxLen; omega, hc, fun hne => ⟨g, 0, rfl, (Array.getElem?_eq_some_iff.1 hblk).1, fun j hj => ?_⟩⟩
    subst hv
    have := World.ownsRow.cellAt hh j (by omega)
    rw [Nat.zero_add, this]
    simp [intsOf, hj]

set_option maxHeartbeats 2000000 in
set_option maxRecDepth 100000 in
theorem copy_any (l : List Int) (v : Value) (w : World) (h : NAt w v l) (h2 : l.length ≤ 2000) :
    Calls Try.prog 6 #[v] w fun e w' => ∃ u, e = .returned u ∧ NAt w' u l ∧ Below w.heap.size w w' := by
  have HU := Lib.hid h
  obtain ⟨A, c, rfl, hll, _⟩ := h.slice
  have HT := Lib.hid (show l.take l.length = l from List.take_length)
  have H2 := Lib.hid h2
  clear h h2
  go_enter Try.func6, Try.ntmps6
  go_wp2_with fail
  go_loopw [3, 4] (fun mv iv wr => ∃ (i : Nat), iv = .int .i64 i ∧ i ≤ l.length ∧ IRow wr w.heap.size mv (l.take i) ∧ Below w.heap.size w wr) (fun _ iv _ => l.length - (intOf iv).toNat)
  case atStart => exact ⟨0, rfl, Nat.zero_le _, World.ownsRow_nil _ _ _ _, Below.refl _ _⟩
  case round =>
    obtain ⟨i, rfl, hil, hrow, hb⟩ := hrel
    have HW := Lib.hid hrow
    have HB := Lib.hid hb
    have hsz := hb.size
    obtain ⟨gA, gn, gc, rfl⟩ := irow_slice hrow
    clear hrow
    by_cases hlt : i < l.length
    · have hlti : (i : Int) < (l.length : Int) := by omega
      obtain ⟨b, o, rfl, hcell⟩ := (HU.out.later hb).cell hlt
      clear hb
      have HTS := Lib.hid (show l.take (i + 1) = l.take i ++ [l[i]] by rw [List.take_add_one, List.getElem?_eq_getElem hlt]; rfl)
      generalize l[i] = x at *
      have hrl : (l.take i).length < 1000000 := by rw [List.length_take]; have := H2.out; omega
      have HRW := Lib.hid (show IRow (wr.alloc (.cells #[.int .i64 x] 3)) w.heap.size (.slice gA gn gc) (l.take i) from World.ownsRow.alloc HW.out _)
      have HBK := Lib.hid (show (wr.alloc (.cells #[.int .i64 x] 3)).heap[wr.heap.size]? = some (.cells #[.int .i64 x] 3 (0, 0)) from heap_alloc_new wr _)
      generalize l.take i = rows at *
      go_wp2_with (at_builtin; refine wpList_append_i _ (.tmp 11) (.tmp 16) w.heap.size wr.heap.size (.slice gA gn gc) rows x rfl rfl rfl rfl HRW.out HBK.out (by simp; omega) hrl ?_)
      intro g cap w2 hrow2 hgrow
      have HB2 := Lib.hid (show Below w.heap.size w w2 from (HB.out.alloc (by omega) _).grown hgrow (by simp; omega) (fun k hk => (World.ownsRow.lt HRW.out k hk).1))
      have HR2 := Lib.hid hrow2
      clear hrow2 hgrow
      go_wp2_with fail
      refine ⟨⟨i + 1, by go_num, by omega, ?_, HB2.out⟩, by simp [intOf]; omega⟩
      rw [HTS.out]
      exact HR2.out
    · have hlti : ¬ ((i : Int) < (l.length : Int)) := by omega
      obtain rfl : i = l.length := by omega
      rw [HT.out] at HW
      clear hb
      go_wp2_with fail
      go_ret
      exact ⟨_, rfl, irow_at HW.out H2.out, HB.out⟩

/-- A list of numbers in a block that was just made. -/
theorem two_row (w : World) : NAt (w.alloc (.cells #[.int .i64 1, .int .i64 4] 3)) (.slice (some ⟨w.heap.size, 0, none⟩) 2 2) [1, 4] :=
  irow_at (B := w.heap.size) (World.ownsRow_lit w #[.int .i64 1, .int .i64 4] 2 (Nat.le_refl _) (by unfold maxLen; omega) rfl) (by decide)
theorem one_row (w : World) : NAt (w.alloc (.cells #[.int .i64 1] 3)) (.slice (some ⟨w.heap.size, 0, none⟩) 1 1) [1] :=
  irow_at (B := w.heap.size) (World.ownsRow_lit w #[.int .i64 1] 1 (Nat.le_refl _) (by unfold maxLen; omega) rfl) (by decide)
theorem wakes_any (w : World) : Calls Try.prog 13 #[] w fun e w' => e = .returned (.bool true) ∧ Below w.heap.size w w' := by
  have HN := Lib.hid (fun W => next_any [1, 4] 5 _ _ (two_row W))
  have e : outI (afterR [1, 4] 5) = .tuple #[.int .i64 4, .int .i64 0] := by
    rw [show afterR [1, 4] 5 = some 4 by decide]
    rfl
  rw [e] at HN
  clear e
  have H0 := Lib.hid (fun W => num_any 0 W)
  have HA := Lib.hid ((Below.refl _ w).alloc (Nat.le_refl _) (.cells #[.int .i64 1, .int .i64 4] 3))
  go_enter Try.func13, Try.ntmps13
  go_wp2_with fail
  refine Calls.mono (HN.out _) ?_
  rintro e w1 ⟨rfl, hb⟩
  have HB := Lib.hid (HA.out.trans (hb.mono HA.out.size))
  clear hb
  go_wp2_with fail
  refine Calls.mono (H0.out _) ?_
  rintro e w' ⟨rfl, he⟩
  have he := he.symm
  subst he
  go_wp2_with fail
  go_ret
  exact ⟨rfl, HB.out⟩

/-- The argument in a block of its own. -/
def SAt (w : World) (b : Nat) (p q : Value) : Prop := w.heap[b]? = some (.cells #[p, q] 24 (0, 0))
theorem SAt.lt {w : World} {b : Nat} {p q : Value} (h : SAt w b p q) : b < w.heap.size := (Array.getElem?_eq_some_iff.1 h).1
theorem SAt.c0 {w : World} {b : Nat} {p q : Value} (h : SAt w b p q) : w.cell? ⟨b, 0, none⟩ = some p := by
  have h' : w.heap[b]? = some (.cells #[p, q] 24 (0, 0)) := h
  simp [World.cell?, h']
theorem SAt.c1 {w : World} {b : Nat} {p q : Value} (h : SAt w b p q) : w.cell? ⟨b, 1, none⟩ = some q := by
  have h' : w.heap[b]? = some (.cells #[p, q] 24 (0, 0)) := h
  simp [World.cell?, h']
theorem SAt.later {w w' : World} {b : Nat} {p q : Value} (h : SAt w b p q) (hb : Below w.heap.size w w') : SAt w' b p q := (hb.block b h.lt).trans h
theorem SAt.new (w : World) (p q : Value) : SAt (w.alloc (.cells #[p, q] 24)) w.heap.size p q := heap_alloc_new w _
end Go.Proofs.Ytaeehblmffidmaa

/-
  endLine of package frame, walked: the reader's line is told and its rest is empty.
  Conditions: as the theorem states them.
-/
import Derived.Test.YtnhmhdfnphlngaaD
import Derived.Deep.AppendLies
namespace Go.Proofs.Ytnhmhdfnphlngaa
open Go.RowKit

theorem info49 : (Try.prog.info? 49).map (fun i => (i.zero, i.size, i.bytes)) = some (some (.agg #[.string ⟨#[]⟩, .bool false]), 2, 24) := by kernel_rfl

theorem lineCells_snoc (ls : List (List UInt8 × Bool)) (t : List UInt8) (k : Bool) : lineCells (ls ++ [(t, k)]) = lineCells ls ++ [.string ⟨t.toArray⟩, .bool k] := by simp [lineCells]

/-- One line more onto a row of the call's own. -/
theorem run_append_line (w : World) (ty : TypeId) (B n : Nat) (lv : Value) (lines : List (List UInt8 × Bool)) (t : List UInt8) (k : Bool) (hown : w.ownsRow B 49 2 lv lines.length (lineCells lines))
    (hblk : w.heap[n]? = some (.cells #[.string ⟨t.toArray⟩, .bool k] 49 (0, 0))) (hB : B ≤ w.heap.size) (hn : lines.length < 1000000) :
    ∃ g cap w', (Builtin.append_ #[36, 36] ty #[lv, .slice (some ⟨n, 0, none⟩) 1 1]).run Try.prog w = .ok (.slice (some ⟨g, 0, none⟩) (lines.length + 1) cap) w' ∧
      w'.ownsRow B 49 2 (.slice (some ⟨g, 0, none⟩) (lines.length + 1) cap) (lines.length + 1) (lineCells (lines ++ [(t, k)])) ∧ w.grownBy w' lv.ownBlock := by
  obtain ⟨i0, hi0, hz0, hs0, hb0⟩ := info_parts info49
  obtain ⟨g, cap, w', h1, h2, h3, _, _⟩ := run_append_lies (P := Try.prog) w 36 ty B 49 i0 _ 2 24 Try.underlying36 hi0 hz0 hs0 hb0 rfl (by omega) lv lines.length (lineCells lines) hown ⟨n, 0, none⟩ 1 1
    [.string ⟨t.toArray⟩, .bool k] rfl (World.news_of_block (cs := #[.string ⟨t.toArray⟩, .bool k]) hblk) (by simp [Value.oneCell']) (by omega) (by unfold maxLen; omega) (by omega) hB _ rfl
  exact ⟨g, cap, w', h1, by rw [lineCells_snoc]; exact h2, h3⟩

theorem wp_append_line {o : Oper} {a : Act} {K : Act → World → Prop} {Q : Exit → Act → World → Prop} (w : World) (s x : Operand) (B n : Nat) (lv : Value) (lines : List (List UInt8 × Bool)) (t : List UInt8) (k : Bool)
    (ho : o.op = .call { callee := .builtin .append, args := #[s, x], argTypes := #[36, 36] }) (hs : a.eval s = lv) (hx : a.eval x = .slice (some ⟨n, 0, none⟩) 1 1)
    (hown : w.ownsRow B 49 2 lv lines.length (lineCells lines)) (hblk : w.heap[n]? = some (.cells #[.string ⟨t.toArray⟩, .bool k] 49 (0, 0))) (hB : B ≤ w.heap.size) (hn : lines.length < 1000000)
    (h : ∀ g cap w', w'.ownsRow B 49 2 (.slice (some ⟨g, 0, none⟩) (lines.length + 1) cap) (lines.length + 1) (lineCells (lines ++ [(t, k)])) → w.grownBy w' lv.ownBlock → K (a.put o.dst (.slice (some ⟨g, 0, none⟩) (lines.length + 1) cap)) w') :
    o.wp Try.prog a w K Q := by
  obtain ⟨g, cap, w', hr, h2, h3⟩ := run_append_line w o.type B n lv lines t k hown hblk hB hn
  unfold Oper.wp execOp
  simp only [ho, resolve, invoke, builtin, Sem.run_bind, Sem.run_pure, Result.andThen_ok, List.map_toArray, List.map_cons, List.map_nil, hs, hx, hr]
  exact h g cap w' h2 h3

theorem step_append_line {ops : Array Oper} {o : Oper} {a : Act} {K : Act → World → Prop} {Q : Exit → Act → World → Prop} {E : Prop} (w : World) (s x : Operand) (B n : Nat) (lv : Value) (lines : List (List UInt8 × Bool)) (t : List UInt8) (k : Bool)
    (hgd : o.guard = none) (ho : o.op = .call { callee := .builtin .append, args := #[s, x], argTypes := #[36, 36] }) (hs : a.eval s = lv) (hx : a.eval x = .slice (some ⟨n, 0, none⟩) 1 1)
    (hown : w.ownsRow B 49 2 lv lines.length (lineCells lines)) (hblk : w.heap[n]? = some (.cells #[.string ⟨t.toArray⟩, .bool k] 49 (0, 0))) (hB : B ≤ w.heap.size) (hn : lines.length < 1000000)
    (h : ∀ g cap w', w'.ownsRow B 49 2 (.slice (some ⟨g, 0, none⟩) (lines.length + 1) cap) (lines.length + 1) (lineCells (lines ++ [(t, k)])) → w.grownBy w' lv.ownBlock → K (a.put o.dst (.slice (some ⟨g, 0, none⟩) (lines.length + 1) cap)) w') :
    if Region.wanted o (yielded ops a.tmps) = true then Oper.wp Try.prog o a w K Q else E := by
  have hw : Region.wanted o (yielded ops a.tmps) = true := by simp [Region.wanted, hgd]
  rw [if_pos hw]
  exact wp_append_line w s x B n lv lines t k ho hs hx hown hblk hB hn h

theorem wpList_append_line {ops : Array Oper} {rest : List Oper} {o : Oper} {a : Act} {Q : Exit → Act → World → Prop} (w : World) (s x : Operand) (B n : Nat) (lv : Value) (lines : List (List UInt8 × Bool)) (t : List UInt8) (k : Bool)
    (hgd : o.guard = none) (ho : o.op = .call { callee := .builtin .append, args := #[s, x], argTypes := #[36, 36] }) (hs : a.eval s = lv) (hx : a.eval x = .slice (some ⟨n, 0, none⟩) 1 1)
    (hown : w.ownsRow B 49 2 lv lines.length (lineCells lines)) (hblk : w.heap[n]? = some (.cells #[.string ⟨t.toArray⟩, .bool k] 49 (0, 0))) (hB : B ≤ w.heap.size) (hn : lines.length < 1000000)
    (h : ∀ g cap w', w'.ownsRow B 49 2 (.slice (some ⟨g, 0, none⟩) (lines.length + 1) cap) (lines.length + 1) (lineCells (lines ++ [(t, k)])) → w.grownBy w' lv.ownBlock → wpList Try.prog ops Q rest (a.put o.dst (.slice (some ⟨g, 0, none⟩) (lines.length + 1) cap)) w') :
    wpList Try.prog ops Q (o :: rest) a w :=
  wpList_plain hgd fun _ hK => wp_append_line w s x B n lv lines t k ho hs hx hown hblk hB hn fun g cap w' h2 h3 => hK _ _ (h g cap w' h2 h3)

set_option maxHeartbeats 400000 in
theorem endLine_any (w : World) (B g : Nat) (l : List UInt8) (c : UInt8) (skip : Bool) (lines : List (List UInt8 × Bool)) (h : RD w B g ⟨l ++ [c], skip, lines⟩) (hl : l.length < 1000000) (hn : lines.length < 1000000) :
    Calls Try.prog 29 #[.pointer (some ⟨g, 0, none⟩)] w fun e w' => e = .returned (.tuple #[]) ∧ RD w' B g ⟨[], false, lines ++ [(l, skip)]⟩ ∧ Kept B g w w' := by
  obtain ⟨rv, lv, hW, hr⟩ := h
  have hc0 := hW.cell0
  have hc1 := hW.cell1
  have hc2 := hW.cell2
  have hz0 := hW.frozen 0
  have hz1 := hW.frozen 1
  have hz2 := hW.frozen 2
  have hBw := hW.le
  obtain ⟨gr, cap, rfl, hgr, hlt, hlc, hm, hcell⟩ := hr.cell
  have hre := hr.empty
  have hcv : ∀ nq, (convert 26 9 (.slice (some ⟨gr, 0, none⟩) l.length cap)).run Try.prog (w.drewN nq) = .ok (.string ⟨l.toArray⟩) (w.drewN nq) := fun nq =>
    run_convert_bytes_back (P := Try.prog) (w.drewN nq) 26 9 5 ⟨gr, 0, none⟩ cap l Try.underlying26 Try.underlying5 Try.underlying9 (fun j hj => by
      have := hcell j (by simp; omega)
      rw [List.getElem_append_left hj] at this
      exact this)
  simp only [List.length_append, List.length_cons, List.length_nil, Nat.zero_add] at hc0 hlc
  clear hcell
  go_enter Try.func29, Try.ntmps29
  go_wp2_with fail
  go_quiet (fail)
  have hk1 : Kept B g w (w.drewN nq) := ⟨rfl, rfl, rfl, Nat.le_refl _, fun _ _ _ => rfl⟩
  replace hW := hW.drewN nq
  replace hre : ByteRow (w.drewN nq) B 5 (.slice (some ⟨gr, 0, none⟩) 0 cap) [] := hre
  clear hcv hr hc0 hc1 hc2 hz0 hz1 hz2 hBw hlt
  generalize w.drewN nq = w1 at *
  have hc0 := hW.cell0
  have hc1 := hW.cell1
  have hc2 := hW.cell2
  have hz0 := hW.frozen 0
  have hz1 := hW.frozen 1
  have hz2 := hW.frozen 2
  have hBw := hW.le
  have hWd := (hW.alloc (.cells #[.string ⟨l.toArray⟩, .bool skip] 49)).drew
  have hred : ByteRow ((w1.alloc (.cells #[.string ⟨l.toArray⟩, .bool skip] 49)).drew) B 5 (.slice (some ⟨gr, 0, none⟩) 0 cap) [] := hre.alloc _
  have hkd : Kept B g w ((w1.alloc (.cells #[.string ⟨l.toArray⟩, .bool skip] 49)).drew) := (hk1.alloc hBw _).trans ⟨rfl, rfl, rfl, Nat.le_refl _, fun _ _ _ => rfl⟩
  have hne := Lib.hid (hWd.ne hred)
  simp only [List.length_append, List.length_cons, List.length_nil, Nat.zero_add] at hc0
  have hca1 := fun o => (hW.alloc o).cell1
  have hca2 := fun o => (hW.alloc o).cell2
  go_wp2_with fail
  go_region_law (refine step_append_line _ (.tmp 19) (.tmp 26) B w1.heap.size lv lines l skip rfl rfl rfl rfl hWd.own (heap_alloc_new w1 _) hWd.le hn ?_; intro g2 cap2 w2 hown2 hgrow; have hb2 := hWd.blkGrown hgrow; have hd2 : w2.cell? ⟨g, 2, none⟩ = some lv := (by simp [World.cell?, hb2]); have hy2 : w2.frozen? ⟨g, 2, none⟩ = false := (by simp [World.frozen?, hb2]); have HB := Lib.hid hb2; clear hb2)
  all_goals
    have hW3 := hWd.setLines (lines' := lines ++ [(l, skip)]) hgrow (by simpa using hown2)
    have hr2 : ByteRow w2 B 5 (.slice (some ⟨gr, 0, none⟩) 0 cap) [] := hred.keep fun k hk => hgrow.block k (hred.lt k hk).2 (fun e => by
      rcases hne.out with h | h
      · rw [← e] at h; cases h
      · exact h (by rw [hk, ← e]))
    have hr3 := hW3.rowSet (hr2.keep (w' := w2.setCell ⟨g, 2, none⟩ (.slice (some ⟨g2, 0, none⟩) (lines.length + 1) cap2)) fun k hk => Below.heap_setCell _ _ _ _ (by have := (hr2.lt k hk).1; have := hW.lt; simp; omega)) 0 (.slice (some ⟨gr, 0, none⟩) 0 cap)
    have hk3 := (hkd.grown hgrow hWd.le (fun k hk => (hWd.own.lt k hk).1)).set 2 (.slice (some ⟨g2, 0, none⟩) (lines.length + 1) cap2)
    have hc3 := hW3.cell0
    have hz30 := hW3.frozen 0
    have hz31 := hW3.frozen 1
    have hc31 := hW3.cell1
    simp only [List.length_append, List.length_cons, List.length_nil, Nat.zero_add] at hc3
    generalize w2.setCell ⟨g, 2, none⟩ (.slice (some ⟨g2, 0, none⟩) (lines.length + 1) cap2) = w3 at *
    clear hc0 hc1 hc2 hz0 hz1 hz2 hca1 hca2 hd2 hy2
    have hW4 := (hW3.set0 (.slice (some ⟨gr, 0, none⟩) 0 cap))
    have hz41 := hW4.frozen 1
    have hc41 := hW4.cell1
    go_wp2
    go_end0
    exact ⟨rfl, ⟨_, _, hW4.set1 false, hW4.rowSet hr3 1 _⟩, (hk3.set 0 _).set 1 _⟩
end Go.Proofs.Ytnhmhdfnphlngaa

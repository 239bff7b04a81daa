/-
  Laws of a row of entries that a call has made by itself: cut, copied over, cleared; a new row with room.
  Conditions: as each theorem states them.
-/
import Derived.Test.YtaglobnfdgencaaDoorGD
import Derived.Laws.CopyRow
import Derived.Laws.CopyOwn
import Derived.Lib.AppendZerosOnto
import Derived.Lib.Overlaps
import Derived.Deep.RegionLaw
namespace Go.Proofs.YtaglobnfdgencaaDoor
open Go.RowKit

theorem splice_take {α : Type} (L : List α) (o : Nat) (cs : List α) (k : Nat) (h : k ≤ o) (ho : o ≤ L.length) : (splice L o cs).take k = L.take k := by
  unfold splice
  rw [List.take_append_of_le_length (by rw [List.length_take]; omega), List.take_take, Nat.min_eq_left h]
theorem splice_upto {α : Type} (L : List α) (o : Nat) (cs : List α) (k : Nat) (hk : k = o + cs.length) (ho : o ≤ L.length) : (splice L o cs).take k = L.take o ++ cs := by
  unfold splice
  rw [← List.append_assoc]
  exact List.take_left' (by rw [List.length_append, List.length_take]; omega)
theorem splice_drop {α : Type} (L : List α) (o : Nat) (cs : List α) (ho : o ≤ L.length) : (splice L o cs).drop o = cs ++ L.drop (o + cs.length) := by
  unfold splice
  exact List.drop_left' (by rw [List.length_take]; omega)
theorem splice_def {α : Type} (L : List α) (o : Nat) (cs : List α) : L.take o ++ cs ++ L.drop (o + cs.length) = splice L o cs := by
  unfold splice
  rw [List.append_assoc]

/-- A row of the call's own, opened. -/
structure GRow (w : World) (g cap : Nat) (cur : List Value) (l : List Gy) : Prop where
  blk : w.heap[g]? = some (.cells cur.toArray 53 (0, 0))
  le : l.length ≤ cap
  most : cap ≤ maxLen
  size : cur.length = cap * 4
  take : cur.take (l.length * 4) = gcs l
theorem GO.row {w : World} {B : Nat} {v : Value} {l : List Gy} (h : GO w B v l) (hne : 0 < l.length) : ∃ g cap cur, v = .slice (some ⟨g, 0, none⟩) l.length cap ∧ B ≤ g ∧ GRow w g cap cur l := by
  rcases h.2 with ⟨_, h0⟩ | ⟨g, cap, cur, hv, hg, hh, h1, h2, h3, h4⟩
  · omega
  · exact ⟨g, cap, cur.toList, hv, hg, ⟨by simpa using hh, h1, h2, by simpa using h3, h4⟩⟩
section
variable {w w' : World} {g cap : Nat} {cur : List Value} {l : List Gy}
theorem GRow.go (h : GRow w g cap cur l) {B : Nat} (hB : B ≤ g) : GO w B (.slice (some ⟨g, 0, none⟩) l.length cap) l :=
  ⟨by rw [gcs_len], .inr ⟨g, cap, cur.toArray, rfl, hB, h.blk, h.le, h.most, by simpa using h.size, by simpa using h.take⟩⟩
theorem GRow.lt (h : GRow w g cap cur l) : g < w.heap.size := (Array.getElem?_eq_some_iff.1 h.blk).1
theorem GRow.heap (h : GRow w g cap cur l) (he : w'.heap[g]? = w.heap[g]?) : GRow w' g cap cur l := ⟨he.trans h.blk, h.le, h.most, h.size, h.take⟩
theorem GRow.cell (h : GRow w g cap cur l) {j : Nat} {u : Value} (hu : (gcs l)[j]? = some u) : w.cell? ⟨g, j, none⟩ = some u := by
  have hb := h.blk
  have hj : j < l.length * 4 := by have := (List.getElem?_eq_some_iff.1 hu).1; rwa [gcs_len] at this
  rw [← h.take, List.getElem?_take, if_pos hj] at hu
  simp only [World.cell?, hb]
  simpa using hu
theorem GRow.set (h : GRow w g cap cur l) (cur' : List Value) (l' : List Gy) (hs : cur'.length = cur.length) (hl : l'.length ≤ cap) (ht : cur'.take (l'.length * 4) = gcs l') : GRow (w.setRow g cur'.toArray) g cap cur' l' :=
  ⟨setRow_heap w g cur.toArray cur'.toArray 53 (0, 0) h.blk, hl, h.most, hs.trans h.size, ht⟩
end

theorem infoS : (Tryd.prog.info? 53).map (·.size) = some 4 := by kernel_rfl
theorem run_copy4 (w : World) (ty : TypeId) (g o dLen dCap : Nat) (a : Addr) (sLen sCap n : Nat) (cur : List Value) (t : TypeId) (cs : List Value)
    (hg : w.heap[g]? = some (.cells cur.toArray t (0, 0))) (hn : n = Nat.min sLen dLen) (hl : cs.length = n * 4)
    (hsrc : ∀ j v, cs[j]? = some v → w.cell? (a.add j) = some v) (hfit : o + cs.length ≤ cur.length) (h1 : ∀ v ∈ cs, v.oneCell' = true) :
    (Builtin.copy_ #[36, 36] ty #[.slice (some ⟨g, o, none⟩) dLen dCap, .slice (some a) sLen sCap]).run Tryd.prog w =
      .ok (goInt n) (w.setRow g (splice cur o cs).toArray) := by
  have hld := run_loadCells_list (P := Tryd.prog) w a cs hsrc
  have hst := run_storeCells_at Tryd.prog g o t cs 0 cur.toArray w hg (by simpa using hfit) h1
  rw [Nat.add_zero, splice_def] at hst
  have hu : Tryd.prog.underlying 36 = some (.slice 53) := Tryd.underlying36
  rw [hl] at hld
  cases hq : Tryd.prog.info? 53 with
  | none => have := infoS; rw [hq] at this; cases this
  | some i =>
    have hi : i.size = 4 := by have := infoS; rw [hq] at this; simpa using this
    simp [Builtin.copy_, run_underlying hu, Builtin.lenOf, Builtin.firstCells, sizeOf, typeInfo, hq, hi, ← hn, hld, hst]
theorem run_append4 (w : World) (ty : TypeId) (g sLen sCap : Nat) (a : Addr) (n c : Nat) (cur : List Value) (t : TypeId) (cs : List Value)
    (hg : w.heap[g]? = some (.cells cur.toArray t (0, 0))) (hl : cs.length = n * 4)
    (hsrc : ∀ j v, cs[j]? = some v → w.cell? (a.add j) = some v) (hroom : sLen + n ≤ sCap) (hfit : sLen * 4 + cs.length ≤ cur.length) (h1 : ∀ v ∈ cs, v.oneCell' = true) :
    (Builtin.append_ #[36, 36] ty #[.slice (some ⟨g, 0, none⟩) sLen sCap, .slice (some a) n c]).run Tryd.prog w =
      .ok (.slice (some ⟨g, 0, none⟩) (sLen + n) sCap) (w.setRow g (splice cur (sLen * 4) cs).toArray) := by
  have hld := run_firstCells_some (P := Tryd.prog) w 4 n a n c cs hl hsrc
  have hst := run_storeCells_at Tryd.prog g (sLen * 4) t cs 0 cur.toArray w hg (by simpa using hfit) h1
  rw [Nat.add_zero, splice_def] at hst
  have hu : Tryd.prog.underlying 36 = some (.slice 53) := Tryd.underlying36
  cases hq : Tryd.prog.info? 53 with
  | none => have := infoS; rw [hq] at this; cases this
  | some i =>
    have hi : i.size = 4 := by have := infoS; rw [hq] at this; simpa using this
    simp [Builtin.append_, run_underlying hu, Builtin.lenOf, sizeOf, typeInfo, hq, hi, hroom, hld, Addr.add_lit, hst]
def zc : List Value := [.string ⟨#[]⟩, .int .i64 0, .int .i64 0, .bool false]
theorem zeroG (w : World) : (zeroValue 53).run Tryd.prog w = .ok (.agg #[.string ⟨#[]⟩, .int .i64 0, .int .i64 0, .bool false]) w := by
  obtain ⟨i0, hi0, hz0, hs0, hb0⟩ := info_parts infoG
  simp [zeroValue, typeInfo, hi0, hz0]
  rfl
theorem run_clear4 (w : World) (ty : TypeId) (g o c : Nat) (cur : List Value) (t : TypeId)
    (hg : w.heap[g]? = some (.cells cur.toArray t (0, 0))) (hfit : o + 4 ≤ cur.length) :
    (Builtin.clear_ #[36] ty #[.slice (some ⟨g, o, none⟩) 1 c]).run Tryd.prog w = .ok (.tuple #[]) (w.setRow g (splice cur o zc).toArray) := by
  have hst := run_storeCells_at Tryd.prog g o t zc 0 cur.toArray w hg (by simpa [zc] using hfit) (by intro v hv; simp only [zc, List.mem_cons, List.not_mem_nil, or_false] at hv; rcases hv with rfl | rfl | rfl | rfl <;> rfl)
  rw [Nat.add_zero, splice_def] at hst
  have hzc : (Builtin.zeroCells (Value.agg #[.string ⟨#[]⟩, .int .i64 0, .int .i64 0, .bool false]).cells 1).toList = zc := by kernel_rfl
  have hu : Tryd.prog.underlying 36 = some (.slice 53) := Tryd.underlying36
  simp [Builtin.clear_, run_underlying hu, hzc, hst]

theorem step_copyI {ops : Array Oper} {o : Oper} {a : Act} {w : World} {K : Act → World → Prop} {Q : Exit → Act → World → Prop} {E : Prop}
    (hg : o.guard = none) (d x : Operand) (dT sT : TypeId) (hop : o.op = Op.call { callee := Callee.builtin Builtin.copy, args := #[d, x], argTypes := #[dT, sT] })
    (v u : Value) (hd : a.eval d = v) (hx : a.eval x = u) {v' : Value} {w' : World} (hr : (Builtin.copy_ #[dT, sT] o.type #[v, u]).run Tryd.prog w = .ok v' w') (hK : K (a.put o.dst v') w') :
    if Region.wanted o (yielded ops a.tmps) = true then Oper.wp Tryd.prog o a w K Q else E := by
  have hw : Region.wanted o (yielded ops a.tmps) = true := by simp [Region.wanted, hg]
  rw [if_pos hw]
  unfold Oper.wp
  simp [execOp, hop, resolve, invoke, builtin, hd, hx, hr, Result.andThen]
  exact hK
theorem wpList_copyI (w : World) {ops : Array Oper} {rest : List Oper} {o : Oper} {a : Act} {Q : Exit → Act → World → Prop} (hgd : o.guard = none) (d s : Operand) (t t' : TypeId)
    (ho : o.op = .call { callee := .builtin .copy, args := #[d, s], argTypes := #[t, t'] }) (v u : Value) (hd : a.eval d = v) (hs : a.eval s = u) {v' : Value} {w' : World}
    (hr : (Builtin.copy_ #[t, t'] o.type #[v, u]).run Tryd.prog w = .ok v' w') (h : wpList Tryd.prog ops Q rest (a.put o.dst v') w') : wpList Tryd.prog ops Q (o :: rest) a w := by
  refine wpList_plain hgd fun K hK => ?_
  unfold Oper.wp execOp
  simp only [ho, resolve, invoke, builtin, Sem.run_bind, Sem.run_pure, Result.andThen_ok, List.map_toArray, List.map_cons, List.map_nil, hd, hs, hr]
  exact hK _ _ h
theorem step_appI {ops : Array Oper} {o : Oper} {a : Act} {w : World} {K : Act → World → Prop} {Q : Exit → Act → World → Prop} {E : Prop}
    (hg : o.guard = none) (d x : Operand) (dT sT : TypeId) (hop : o.op = Op.call { callee := Callee.builtin Builtin.append, args := #[d, x], argTypes := #[dT, sT] })
    (v u : Value) (hd : a.eval d = v) (hx : a.eval x = u) {v' : Value} {w' : World} (hr : (Builtin.append_ #[dT, sT] o.type #[v, u]).run Tryd.prog w = .ok v' w') (hK : K (a.put o.dst v') w') :
    if Region.wanted o (yielded ops a.tmps) = true then Oper.wp Tryd.prog o a w K Q else E := by
  have hw : Region.wanted o (yielded ops a.tmps) = true := by simp [Region.wanted, hg]
  rw [if_pos hw]
  unfold Oper.wp
  simp [execOp, hop, resolve, invoke, builtin, hd, hx, hr, Result.andThen]
  exact hK
theorem wpList_appI (w : World) {ops : Array Oper} {rest : List Oper} {o : Oper} {a : Act} {Q : Exit → Act → World → Prop} (hgd : o.guard = none) (d s : Operand) (t t' : TypeId)
    (ho : o.op = .call { callee := .builtin .append, args := #[d, s], argTypes := #[t, t'] }) (v u : Value) (hd : a.eval d = v) (hs : a.eval s = u) {v' : Value} {w' : World}
    (hr : (Builtin.append_ #[t, t'] o.type #[v, u]).run Tryd.prog w = .ok v' w') (h : wpList Tryd.prog ops Q rest (a.put o.dst v') w') : wpList Tryd.prog ops Q (o :: rest) a w := by
  refine wpList_plain hgd fun K hK => ?_
  unfold Oper.wp execOp
  simp only [ho, resolve, invoke, builtin, Sem.run_bind, Sem.run_pure, Result.andThen_ok, List.map_toArray, List.map_cons, List.map_nil, hd, hs, hr]
  exact hK _ _ h
theorem wpList_clearI (w : World) {ops : Array Oper} {rest : List Oper} {o : Oper} {a : Act} {Q : Exit → Act → World → Prop} (hgd : o.guard = none) (d : Operand) (t : TypeId)
    (ho : o.op = .call { callee := .builtin .clear, args := #[d], argTypes := #[t] }) (v : Value) (hd : a.eval d = v) {v' : Value} {w' : World}
    (hr : (Builtin.clear_ #[t] o.type #[v]).run Tryd.prog w = .ok v' w') (h : wpList Tryd.prog ops Q rest (a.put o.dst v') w') : wpList Tryd.prog ops Q (o :: rest) a w := by
  refine wpList_plain hgd fun K hK => ?_
  unfold Oper.wp execOp
  simp only [ho, resolve, invoke, builtin, Sem.run_bind, Sem.run_pure, Result.andThen_ok, List.map_toArray, List.map_cons, List.map_nil, hd, hr]
  exact hK _ _ h
/-- All blocks but v's own are as they were. -/
def Keeps (v : Value) (w w' : World) : Prop := ∀ k, k < w.heap.size → v.ownBlock ≠ some k → w'.heap[k]? = w.heap[k]?
theorem Keeps.of {v : Value} {w w' : World} (h : Below w.heap.size w w') : Keeps v w w' := fun k hk _ => h.block k hk
theorem Keeps.trans {v : Value} {a b c : World} (h : Keeps v a b) (hs : a.heap.size ≤ b.heap.size) (k : Keeps v b c) : Keeps v a c :=
  fun j hj hn => (k j (by omega) hn).trans (h j hj hn)
theorem Keeps.own {v u : Value} {a b : World} (h : Keeps v a b) (he : u.ownBlock = v.ownBlock) : Keeps u a b := fun j hj hn => h j hj (by rw [← he]; exact hn)
end Go.Proofs.YtaglobnfdgencaaDoor

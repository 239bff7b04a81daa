/-
  Rows of bytes that a call has made by itself: a slice of bytes that lies at the beginning of a block from B on, whether the block came of a conversion of a string or of an append; one byte appended to it; the bytes read back.
  No condition beyond those that each theorem states.
-/
import Derived.Maps.AppendAt
import Derived.Laws.IdiomStrings
import Derived.Below
import Derived.WalkKit
namespace Go.Proofs.Ytnhmhdfnphlngaa
open Go.RowKit

/-- A byte as a cell. -/
def byteCell (b : UInt8) : Value := .int .u8 (b.toNat : Int)

/-- The slice value v holds the bytes l, in a block from B on, at its beginning; none of its places is frozen. -/
def ByteRow (w : World) (B : Nat) (e : TypeId) (v : Value) (l : List UInt8) : Prop :=
  ∃ g cap cur lo hi, v = .slice (some ⟨g, 0, none⟩) l.length cap ∧ B ≤ g ∧ w.heap[g]? = some (.cells cur e (lo, hi)) ∧ l.length ≤ cap ∧ cap ≤ maxLen ∧ cur.size = cap ∧
    cur.toList.take l.length = l.map byteCell ∧ (hi ≤ lo ∨ cap ≤ lo)

section
variable {w w' : World} {B : Nat} {e : TypeId} {v : Value} {l : List UInt8}

theorem ByteRow.keep (h : ByteRow w B e v l) (hk : ∀ k, v.ownBlock = some k → w'.heap[k]? = w.heap[k]?) : ByteRow w' B e v l := by
  obtain ⟨g, cap, cur, lo, hi, rfl, hb, hg, r⟩ := h
  exact ⟨g, cap, cur, lo, hi, rfl, hb, (hk g rfl).trans hg, r⟩

theorem ByteRow.lt (h : ByteRow w B e v l) : ∀ k, v.ownBlock = some k → B ≤ k ∧ k < w.heap.size := by
  obtain ⟨g, cap, cur, lo, hi, rfl, hb, hg, r⟩ := h
  intro k hk
  have : g = k := by simpa [Value.ownBlock] using hk
  subst this
  exact ⟨hb, (Array.getElem?_eq_some_iff.1 hg).1⟩

theorem ByteRow.cell (h : ByteRow w B e v l) : ∃ g cap, v = .slice (some ⟨g, 0, none⟩) l.length cap ∧ B ≤ g ∧ g < w.heap.size ∧ l.length ≤ cap ∧ cap ≤ maxLen ∧
    ∀ j (hj : j < l.length), w.cell? ((⟨g, 0, none⟩ : Addr).add j) = some (.int .u8 (l[j].toNat : Int)) := by
  obtain ⟨g, cap, cur, lo, hi, rfl, hb, hg, hlc, hm, hs, ht, _⟩ := h
  refine ⟨g, cap, rfl, hb, (Array.getElem?_eq_some_iff.1 hg).1, hlc, hm, fun j hj => ?_⟩
  rw [Addr.add_lit]
  have h1 : (cur.toList.take l.length)[j]? = some (byteCell l[j]) := by rw [ht]; simp [hj]
  rw [List.getElem?_take, if_pos hj] at h1
  simp only [World.cell?, hg, Nat.zero_add]
  simpa [byteCell] using h1

/-- The same block, cut to nothing. -/
theorem ByteRow.empty {g cap n : Nat} (h : ByteRow w B e (.slice (some ⟨g, 0, none⟩) n cap) l) : ByteRow w B e (.slice (some ⟨g, 0, none⟩) 0 cap) [] := by
  obtain ⟨g', cap', cur, lo, hi, hv, hb, hg, hlc, hm, hs, ht, hf⟩ := h
  injection hv with h1 h2 h3
  injection h1 with h1
  injection h1 with h1
  subst h1 h3
  exact ⟨g, cap, cur, lo, hi, rfl, hb, hg, Nat.zero_le _, hm, hs, by simp, hf⟩

/-- '[]byte(s)'. -/
theorem ByteRow.made (w : World) (s : ByteArray) (c n : Nat) (hn : n = w.heap.size) (hB : B ≤ w.heap.size) (hge : s.size ≤ c) (hcm : c ≤ maxLen) :
    ByteRow (w.alloc (.cells (bytesRow s c) e ((bytesRow s c).size, (bytesRow s c).size + 1))) B e (.slice (some ⟨n, 0, none⟩) s.size c) s.data.toList := by
  subst hn
  have hsz : (bytesRow s c).size = c := by
    simp only [bytesRow, Array.size_append, Array.size_map, Array.size_replicate]
    have : s.data.size = s.size := rfl
    omega
  have hl : s.data.toList.length = s.size := by simp
  refine ⟨w.heap.size, c, _, _, _, by rw [hl], hB, heap_alloc_new w _, by rw [hl]; exact hge, hcm, hsz, ?_, .inr (by omega)⟩
  simp only [bytesRow, Array.toList_append, Array.toList_map]
  have h2 : s.data.toList.length = (s.data.toList.map fun b => Value.int .u8 (b.toNat : Int)).length := by simp
  rw [h2, List.take_left]
  rfl
end

section
variable {P : Program} (w : World)

theorem size_byteCell (b : UInt8) : (byteCell b).oneCell' = true := rfl

/-- One byte more. -/
theorem run_append_byte (B : Nat) (t ty e : TypeId) (i : TypeInfo) (ht : P.underlying t = some (.slice e)) (hi : P.info? e = some i) (hz : i.zero = some (.int .u8 0)) (hsize : i.size = 1) (hby : i.bytes = 1)
    (v : Value) (l : List UInt8) (hrow : ByteRow w B e v l) (c : UInt8) (a : Addr) (cp : Nat) (ha : w.cell? a = some (byteCell c)) (hB : B ≤ w.heap.size) (hl : l.length < 1000000) :
    ∃ v' w', (Builtin.append_ #[t, t] ty #[v, .slice (some a) 1 cp]).run P w = .ok v' w' ∧ ByteRow w' B e v' (l ++ [c]) ∧ w.grownBy w' v.ownBlock := by
  have hnews : ∀ j u, [byteCell c][j]? = some u → w.cell? (a.add j) = some u := by
    intro j u hj
    match j, hj with
    | 0, hj =>
      simp at hj
      subst hj
      have : a.add 0 = a := by simp [Addr.add]
      rw [this, ha]
  obtain ⟨g, cap, cur, lo, hi', rfl, hb, hg, hlc, hm, hs, htk, hf⟩ := hrow
  by_cases hroom : l.length + 1 ≤ cap
  · have hcs : cur.size = cap := hs
    have hlt : l.length < cur.size := by omega
    have hf1 := run_firstCells_some (P := P) w i.size 1 a 1 cp [byteCell c] (by simp [hsize]) hnews
    rw [hsize] at hf1
    have hcell : w.cell? ⟨g, l.length, none⟩ = some cur[l.length] := by simp [World.cell?, hg, hlt]
    have hfro : w.frozen? ⟨g, l.length, none⟩ = false := by
      simp only [World.frozen?, hg]
      rcases hf with hf | hf <;> simp <;> omega
    have hadd : (⟨g, l.length, none⟩ : Addr).add 0 = ⟨g, l.length, none⟩ := by simp [Addr.add]
    have hst : (storeCells ⟨g, l.length, none⟩ [byteCell c] 0).run P w = .ok () (w.setRow g (cur.setIfInBounds l.length (byteCell c))) := by
      simp only [storeCells, hadd, Sem.run_bind, run_store P w _ (byteCell c) _ rfl, hcell]
      simp [hfro, setCell_eq_setRow w g l.length cur e (lo, hi') (byteCell c) hg]
    refine ⟨.slice (some ⟨g, 0, none⟩) (l.length + 1) cap, w.setRow g (cur.setIfInBounds l.length (byteCell c)), ?_, ?_, ?_⟩
    · simp [Builtin.append_, run_underlying ht, sizeOf, typeInfo, hi, Builtin.lenOf, hroom, hf1, hsize, Addr.add_lit, hst]
    · refine ⟨g, cap, _, lo, hi', by simp, hb, setRow_heap w g cur _ e _ hg, by simp; omega, hm, by simp [hs], ?_, hf⟩
      simp only [Array.toList_setIfInBounds, List.length_append, List.length_cons, List.length_nil, Nat.zero_add, List.map_append, List.map_cons, List.map_nil]
      rw [List.take_succ_eq_append_getElem (by simp; omega)]
      simp only [List.getElem_set_self]
      congr 1
      rw [List.take_set_of_le (Nat.le_refl _)]
      exact htk
    · exact ⟨rfl, rfl, rfl, by simp, fun k _ hk => setRow_other w g k _ (fun e => hk (by simp [Value.ownBlock, e]))⟩
  · have hcap : cap = l.length := by omega
    have hlm : (l.map byteCell).length = l.length := by simp
    have holds : ∀ j u, (l.map byteCell)[j]? = some u → w.cell? ((⟨g, 0, none⟩ : Addr).add j) = some u := by
      intro j u hj
      rw [← htk] at hj
      rw [Addr.add_lit]
      have hj' : j < l.length := by
        have := (List.getElem?_eq_some_iff.1 hj).1
        simp at this
        omega
      rw [List.getElem?_take, if_pos hj'] at hj
      simp only [World.cell?, hg, Nat.zero_add]
      simpa using hj
    have hr := run_append_grow (P := P) w t ty e i (.int .u8 0) ht hi hz ⟨g, 0, none⟩ l.length cap (l.map byteCell) (by simp [hsize]) holds a 1 cp [byteCell c] (by simp [hsize]) hnews (by omega) (by omega)
      (growslice_fits (by omega) (by rw [hby]; omega))
    have hge := grownCap_ge w (l.length + 1) cap e
    have hcm : grownCap w (l.length + 1) cap e ≤ maxLen := grownCap_le_maxLen w (l.length + 1) cap e (by simp only [maxLen]; omega)
    refine ⟨_, _, hr, ⟨w.heap.size, grownCap w (l.length + 1) cap e, _, 0, 0, by simp, hB, heap_alloc_new w.drew _, by simp; omega, hcm, ?_, ?_, .inl (Nat.le_refl _)⟩, ⟨rfl, rfl, rfl, by simp, fun k hk _ => Below.heap_alloc w.drew _ k hk⟩⟩
    · simp only [Array.size_append, List.size_toArray, size_zeroCells, hlm, List.length_cons, List.length_nil]
      have : (Value.cells (.int .u8 0)).size = 1 := rfl
      rw [this]
      omega
    · simp only [Array.toList_append]
      have : (l ++ [c]).length = (l.map byteCell ++ [byteCell c]).length := by simp
      rw [this, List.take_left]
      simp

/-- At the operation, for a walk. -/
theorem wpList_append_byte {ops : Array Oper} {rest : List Oper} {o : Oper} {a : Act} {Q : Exit → Act → World → Prop} (hgd : o.guard = none) (s x : Operand) (t : TypeId)
    (ho : o.op = .call { callee := .builtin .append, args := #[s, x], argTypes := #[t, t] })
    (B : Nat) (e : TypeId) (i : TypeInfo) (ht : P.underlying t = some (.slice e)) (hi : P.info? e = some i) (hz : i.zero = some (.int .u8 0)) (hsize : i.size = 1) (hby : i.bytes = 1)
    (v : Value) (l : List UInt8) (hs : a.eval s = v) (hrow : ByteRow w B e v l) (c : UInt8) (ad : Addr) (cp : Nat) (hx : a.eval x = .slice (some ad) 1 cp) (ha : w.cell? ad = some (byteCell c)) (hB : B ≤ w.heap.size) (hl : l.length < 1000000)
    (h : ∀ v' w', ByteRow w' B e v' (l ++ [c]) → w.grownBy w' v.ownBlock → wpList P ops Q rest (a.put o.dst v') w') : wpList P ops Q (o :: rest) a w := by
  refine wpList_plain hgd fun K hK => ?_
  obtain ⟨v', w', hr, h2, h3⟩ := run_append_byte (P := P) w B t o.type e i ht hi hz hsize hby v l hrow c ad cp ha hB hl
  unfold Oper.wp execOp
  simp only [ho, resolve, invoke, builtin, Sem.run_bind, Sem.run_pure, Result.andThen_ok, List.map_toArray, List.map_cons, List.map_nil, hs, hx, hr]
  exact hK _ _ (h v' w' h2 h3)
end
end Go.Proofs.Ytnhmhdfnphlngaa

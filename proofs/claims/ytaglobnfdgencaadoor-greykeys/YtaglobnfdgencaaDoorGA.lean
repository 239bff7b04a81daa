/-
  Greylists in memory: lists that are read, lists that a call has made by itself, one entry appended.
  Conditions: as each theorem states them.
-/
import Derived.Test.YtaglobnfdgencaaDoorGP
import Derived.WalkKit
import Derived.WalkSpells
import Derived.Defers
import Derived.Recover
import Derived.Lib.Hide
import Derived.Below
import Derived.Deep.QuietTactic
import Derived.Laws.OwnMore
import Derived.Deep.AppendLies
import Derived.BigQuiet
import Derived.WalkSmall
import Derived.Deep.CutRange
import Derived.Deep.DeepCutAuto
namespace Go.Proofs.YtaglobnfdgencaaDoor
open Go.RowKit

/-- An entry's value, its cells; a list's cells. -/
def gV (g : Gy) : Value := .agg #[.string g.k, .int .i64 g.b, .int .i64 g.l, .bool g.p]
def gc (g : Gy) : List Value := [.string g.k, .int .i64 g.b, .int .i64 g.l, .bool g.p]
def gcs : List Gy → List Value
  | [] => []
  | g :: r => gc g ++ gcs r
theorem gcs_append : ∀ (a b : List Gy), gcs (a ++ b) = gcs a ++ gcs b
  | [], _ => rfl
  | g :: r, b => by simp only [List.cons_append, gcs, gcs_append r b, List.append_assoc]
theorem gcs_len : ∀ l : List Gy, (gcs l).length = l.length * 4
  | [] => rfl
  | g :: r => by simp only [gcs, List.length_append, gcs_len r, gc, List.length_cons, List.length_nil]; omega
theorem gcs_one : ∀ (l : List Gy), ∀ u ∈ gcs l, u.oneCell' = true
  | [], u, h => by cases h
  | g :: r, u, h => by
    rcases List.mem_append.1 h with h | h
    · simp only [gc, List.mem_cons, List.not_mem_nil, or_false] at h
      rcases h with rfl | rfl | rfl | rfl <;> rfl
    · exact gcs_one r u h
theorem gcs_at : ∀ (l : List Gy) (i : Nat) (hi : i < l.length) (j : Nat), j < 4 → (gcs l)[i * 4 + j]? = (gc l[i])[j]?
  | g :: r, 0, _, j, hj => by
    simp only [gcs, Nat.zero_mul, Nat.zero_add, List.getElem_cons_zero]
    rw [List.getElem?_append_left (by simp [gc]; omega)]
  | g :: r, i + 1, hi, j, hj => by
    simp only [gcs, List.getElem_cons_succ]
    rw [List.getElem?_append_right (by simp [gc]; omega), ← gcs_at r i (by simpa using hi) j hj]
    congr 1
    simp [gc]
    omega
theorem gcs_take (l : List Gy) (i : Nat) : (gcs l).take (i * 4) = gcs (l.take i) := by
  by_cases h : i ≤ l.length
  · have e : gcs l = gcs (l.take i) ++ gcs (l.drop i) := by rw [← gcs_append, List.take_append_drop]
    rw [e]
    exact List.take_left' (by rw [gcs_len, List.length_take]; omega)
  · rw [List.take_of_length_le (by rw [gcs_len]; omega), List.take_of_length_le (by omega)]
theorem gcs_drop (l : List Gy) (i : Nat) : (gcs l).drop (i * 4) = gcs (l.drop i) := by
  by_cases h : i ≤ l.length
  · have e : gcs l = gcs (l.take i) ++ gcs (l.drop i) := by rw [← gcs_append, List.take_append_drop]
    rw [e]
    exact List.drop_left' (by rw [gcs_len, List.length_take]; omega)
  · rw [List.drop_of_length_le (by rw [gcs_len]; omega), List.drop_of_length_le (by omega)]
    rfl

/-- A list that can be read. -/
def GR (w : World) (v : Value) (l : List Gy) : Prop :=
  ∃ A c, v = .slice A l.length c ∧ l.length ≤ c ∧ c ≤ maxLen ∧ (l ≠ [] → ∃ b o, A = some ⟨b, o, none⟩ ∧ ∀ j u, (gcs l)[j]? = some u → w.cell? ⟨b, o + j, none⟩ = some u)
theorem GR.slice {w : World} {v : Value} {l : List Gy} (h : GR w v l) : ∃ A c, v = .slice A l.length c ∧ l.length ≤ c ∧ c < 9223372036854775808 := by
  obtain ⟨A, c, hv, h1, h2, _⟩ := h
  exact ⟨A, c, hv, h1, by unfold maxLen at h2; omega⟩
theorem GR.nil (w : World) : GR w (.slice none 0 0) [] := ⟨none, 0, rfl, Nat.le_refl _, Nat.zero_le _, fun h => absurd rfl h⟩
theorem GR.later {w w' : World} {v : Value} {l : List Gy} (h : GR w v l) (hb : Below w.heap.size w w') : GR w' v l := by
  obtain ⟨A, c, hv, h1, h2, h3⟩ := h
  refine ⟨A, c, hv, h1, h2, fun hne => ?_⟩
  obtain ⟨b, o, hA, hc⟩ := h3 hne
  exact ⟨b, o, hA, fun j u hu => (hb.cell (p := ⟨b, o + j, none⟩) (World.block_lt_of_cell? _ ⟨b, o + j, none⟩ (hc j u hu))).trans (hc j u hu)⟩
/-- The four cells of an entry, in a later world. -/
theorem GR.at {w : World} {A : Option Addr} {c n : Nat} {l : List Gy} (h : GR w (.slice A n c) l) {i : Nat} (hi : i < l.length) {B : Nat} {w' : World} (hB : B = w.heap.size) (hb : Below B w w') :
    ∃ (b o : Nat), A = some ⟨b, o, none⟩ ∧ b < w'.heap.size ∧ w'.cell? ⟨b, o + i * 4, none⟩ = some (.string l[i].k) ∧ w'.cell? ⟨b, o + i * 4 + 1, none⟩ = some (.int .i64 l[i].b) ∧ w'.cell? ⟨b, o + i * 4 + 2, none⟩ = some (.int .i64 l[i].l) ∧ w'.cell? ⟨b, o + i * 4 + 3, none⟩ = some (.bool l[i].p) := by
  subst hB
  obtain ⟨A', c', hv, _, _, h3⟩ := h.later hb
  obtain ⟨b, o, hA, hc⟩ := h3 (fun e => by rw [e] at hi; simp at hi)
  injection hv with h1 h2 h3
  subst h1
  have g : ∀ j u, j < 4 → (gc l[i])[j]? = some u → w'.cell? ⟨b, o + i * 4 + j, none⟩ = some u := fun j u hj hu => by
    rw [Nat.add_assoc]
    exact hc _ u ((gcs_at l i hi j hj).trans hu)
  exact ⟨b, o, hA, World.block_lt_of_cell? _ ⟨b, o + i * 4 + 0, none⟩ (g 0 _ (by omega) rfl), g 0 _ (by omega) rfl, g 1 _ (by omega) rfl, g 2 _ (by omega) rfl, g 3 _ (by omega) rfl⟩

/-- A list of the call's own. -/
def GO (w : World) (B : Nat) (v : Value) (l : List Gy) : Prop := w.ownsRow B 53 4 v l.length (gcs l)
section
variable {w w' : World} {B : Nat} {v : Value} {l : List Gy}
theorem GO.blocks (h : GO w B v l) (hk : ∀ (j : Nat) (o : Obj), v.ownBlock = some j → w.heap[j]? = some o → w'.heap[j]? = some o) : GO w' B v l := by
  obtain ⟨h1, h2⟩ := h
  refine ⟨h1, ?_⟩
  rcases h2 with h2 | ⟨g, cap, cur, rfl, hg, hh, r⟩
  · exact .inl h2
  · exact .inr ⟨g, cap, cur, rfl, hg, hk g _ rfl hh, r⟩
theorem GO.later (h : GO w B v l) (hb : Below w.heap.size w w') : GO w' B v l :=
  h.blocks fun j _ _ hj => (hb.block j (Array.getElem?_eq_some_iff.1 hj).1).trans hj
theorem GO.mono {B' : Nat} (h : GO w B v l) (hb : B' ≤ B) : GO w B' v l := by
  obtain ⟨h1, h2⟩ := h
  refine ⟨h1, ?_⟩
  rcases h2 with h2 | ⟨g, cap, cur, hv, hg, r⟩
  · exact .inl h2
  · exact .inr ⟨g, cap, cur, hv, Nat.le_trans hb hg, r⟩
theorem GO.gr (h : GO w B v l) : GR w v l := by
  have hc := fun g hg => World.ownsRow.cells (g := g) h hg
  rcases h.2 with ⟨rfl, hn⟩ | ⟨g, cap, cur, rfl, hg, hh, h1, h2, _⟩
  · have : l = [] := List.eq_nil_of_length_eq_zero hn
    subst this
    exact GR.nil w
  · refine ⟨_, cap, rfl, h1, h2, fun _ => ⟨g, 0, rfl, fun j u hu => ?_⟩⟩
    have := hc g rfl j u hu
    rwa [Addr.add_lit] at this
theorem GO.lt (h : GO w B v l) : ∀ k, v.ownBlock = some k → B ≤ k ∧ k < w.heap.size := World.ownsRow.lt h
end
theorem GO.nil (w : World) (B : Nat) : GO w B (.slice none 0 0) [] := World.ownsRow_nil w B 53 4
theorem infoG : (Tryd.prog.info? 53).map (fun i => (i.zero, i.size, i.bytes)) = some (some (.agg #[.string ByteArray.empty, .int .i64 0, .int .i64 0, .bool false]), 4, 40) := by kernel_rfl
theorem info_parts {o : Option TypeInfo} {z : Value} {s b : Nat} (h : o.map (fun i => (i.zero, i.size, i.bytes)) = some (some z, s, b)) : ∃ i, o = some i ∧ i.zero = some z ∧ i.size = s ∧ i.bytes = b := by
  cases o with
  | none => simp at h
  | some i =>
    simp only [Option.map_some, Option.some.injEq, Prod.mk.injEq] at h
    exact ⟨i, rfl, h.1, h.2.1, h.2.2⟩

/-- The block of one entry. -/
theorem news_g {w : World} {n : Nat} {x : Gy} (hblk : w.heap[n]? = some (.cells #[.string x.k, .int .i64 x.b, .int .i64 x.l, .bool x.p] 53 (0, 0))) : ∀ j u, (gc x)[j]? = some u → w.cell? ((⟨n, 0, none⟩ : Addr).add j) = some u := by
  intro j u hu
  rw [Addr.add_lit]
  simp only [World.cell?, hblk]
  match j, hu with
  | 0, hu => simpa [gc] using hu
  | 1, hu => simpa [gc] using hu
  | 2, hu => simpa [gc] using hu
  | 3, hu => simpa [gc] using hu
  | j + 4, hu => simp [gc] at hu
theorem run_append_g (w : World) (ty : TypeId) (B n : Nat) (lv : Value) (l : List Gy) (x : Gy) (hown : GO w B lv l)
    (hblk : w.heap[n]? = some (.cells #[.string x.k, .int .i64 x.b, .int .i64 x.l, .bool x.p] 53 (0, 0))) (hB : B ≤ w.heap.size) (hn : l.length < 1000000) :
    ∃ g cap w', (Builtin.append_ #[36, 36] ty #[lv, .slice (some ⟨n, 0, none⟩) 1 1]).run Tryd.prog w = .ok (.slice (some ⟨g, 0, none⟩) (l.length + 1) cap) w' ∧
      GO w' B (.slice (some ⟨g, 0, none⟩) (l.length + 1) cap) (l ++ [x]) ∧ w.grownBy w' lv.ownBlock ∧ B ≤ g ∧ g < w'.heap.size := by
  obtain ⟨i0, hi0, hz0, hs0, hb0⟩ := info_parts infoG
  obtain ⟨g, cap, w', h1, h2, h3, _, _⟩ := run_append_lies (P := Tryd.prog) w 36 ty B 53 i0 _ 4 40 Tryd.underlying36 hi0 hz0 hs0 hb0 rfl (by omega) lv l.length (gcs l) hown ⟨n, 0, none⟩ 1 1
    (gc x) rfl (news_g hblk) (by have := gcs_one [x]; simpa [gcs] using this) (by omega) (by unfold maxLen; omega) (by omega) hB _ rfl
  have h4 : GO w' B (.slice (some ⟨g, 0, none⟩) (l.length + 1) cap) (l ++ [x]) := by
    unfold GO
    rw [show gcs (l ++ [x]) = gcs l ++ gc x from by rw [gcs_append]; simp [gcs], List.length_append]
    exact h2
  obtain ⟨h5, h6⟩ := h4.lt g rfl
  exact ⟨g, cap, w', h1, h4, h3, h5, h6⟩
theorem wpList_append_g {ops : Array Oper} {rest : List Oper} {o : Oper} {a : Act} {Q : Exit → Act → World → Prop} (w : World) (s x : Operand) (B n : Nat) (lv : Value) (l : List Gy) (t : Gy)
    (hgd : o.guard = none) (ho : o.op = .call { callee := .builtin .append, args := #[s, x], argTypes := #[36, 36] }) (hs : a.eval s = lv) (hx : a.eval x = .slice (some ⟨n, 0, none⟩) 1 1)
    (hown : GO w B lv l) (hblk : w.heap[n]? = some (.cells #[.string t.k, .int .i64 t.b, .int .i64 t.l, .bool t.p] 53 (0, 0))) (hB : B ≤ w.heap.size) (hn : l.length < 1000000)
    (h : ∀ g cap w', GO w' B (.slice (some ⟨g, 0, none⟩) (l.length + 1) cap) (l ++ [t]) → w.grownBy w' lv.ownBlock → wpList Tryd.prog ops Q rest (a.put o.dst (.slice (some ⟨g, 0, none⟩) (l.length + 1) cap)) w') : wpList Tryd.prog ops Q (o :: rest) a w := by
  refine wpList_plain hgd fun K hK => ?_
  obtain ⟨g, cap, w', hr, h2, h3, _⟩ := run_append_g w o.type B n lv l t hown hblk hB hn
  unfold Oper.wp execOp
  simp only [ho, resolve, invoke, builtin, Sem.run_bind, Sem.run_pure, Result.andThen_ok, List.map_toArray, List.map_cons, List.map_nil, hs, hx, hr]
  exact hK _ _ (h g cap w' h2 h3)
theorem GO.slice {w : World} {B : Nat} {v : Value} {l : List Gy} (h : GO w B v l) : ∃ A c, v = .slice A l.length c ∧ l.length ≤ c ∧ c < 9223372036854775808 := h.gr.slice
theorem below_drewN {B : Nat} {a w : World} (h : Below B a w) (n : Nat) : Below B a (w.drewN n) := ⟨h.os, h.tape, h.output, h.size, h.block⟩

/-- One entry in a block of its own. -/
def EAt (w : World) (k : Nat) (g : Gy) : Prop := w.heap[k]? = some (.cells #[.string g.k, .int .i64 g.b, .int .i64 g.l, .bool g.p] 53 (0, 0))
section
variable {w w' : World} {k : Nat} {g : Gy}
theorem EAt.lt (h : EAt w k g) : k < w.heap.size := (Array.getElem?_eq_some_iff.1 h).1
theorem EAt.c0 (h : EAt w k g) : w.cell? ⟨k, 0, none⟩ = some (.string g.k) := by
  have h' : w.heap[k]? = some (.cells #[.string g.k, .int .i64 g.b, .int .i64 g.l, .bool g.p] 53 (0, 0)) := h
  simp [World.cell?, h']
theorem EAt.c1 (h : EAt w k g) : w.cell? ⟨k, 1, none⟩ = some (.int .i64 g.b) := by
  have h' : w.heap[k]? = some (.cells #[.string g.k, .int .i64 g.b, .int .i64 g.l, .bool g.p] 53 (0, 0)) := h
  simp [World.cell?, h']
theorem EAt.c2 (h : EAt w k g) : w.cell? ⟨k, 2, none⟩ = some (.int .i64 g.l) := by
  have h' : w.heap[k]? = some (.cells #[.string g.k, .int .i64 g.b, .int .i64 g.l, .bool g.p] 53 (0, 0)) := h
  simp [World.cell?, h']
theorem EAt.c3 (h : EAt w k g) : w.cell? ⟨k, 3, none⟩ = some (.bool g.p) := by
  have h' : w.heap[k]? = some (.cells #[.string g.k, .int .i64 g.b, .int .i64 g.l, .bool g.p] 53 (0, 0)) := h
  simp [World.cell?, h']
theorem EAt.fz (h : EAt w k g) (j : Nat) : w.frozen? ⟨k, j, none⟩ = false := by
  have h' : w.heap[k]? = some (.cells #[.string g.k, .int .i64 g.b, .int .i64 g.l, .bool g.p] 53 (0, 0)) := h
  simp [World.frozen?, h']
theorem EAt.later (h : EAt w k g) (hb : Below w.heap.size w w') : EAt w' k g := (hb.block k h.lt).trans h
theorem EAt.alloc (h : EAt w k g) (o : Obj) : EAt (w.alloc o) k g := (Below.heap_alloc w o k h.lt).trans h
end
theorem EAt.new (w : World) (g : Gy) : EAt (w.alloc (.cells #[.string g.k, .int .i64 g.b, .int .i64 g.l, .bool g.p] 53)) w.heap.size g := heap_alloc_new w _
end Go.Proofs.YtaglobnfdgencaaDoor

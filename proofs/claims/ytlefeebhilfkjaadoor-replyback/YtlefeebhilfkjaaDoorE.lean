/-
  Lists of texts and replies in memory: what holds of them, and what keeps it.
  Conditions: as each theorem states them.
-/
import Derived.Test.YtlefeebhilfkjaaDoorD
import Derived.Below
import Derived.Laws.OwnMore
import Derived.Deep.AppendLies
namespace Go.Proofs.YtlefeebhilfkjaaDoor
open Go.RowKit

/-- A list of texts in memory. -/
def TextsAt (w : World) (v : Value) (l : List (List UInt8)) : Prop :=
  ∃ A c, v = .slice A l.length c ∧ l.length ≤ 140737488355328 ∧ (∀ s ∈ l, s.length ≤ 140737488355328) ∧
    (l ≠ [] → ∃ b o, A = some ⟨b, o, none⟩ ∧ b < w.heap.size ∧ ∀ i (hi : i < l.length), w.cell? ⟨b, o + i, none⟩ = some (.string ⟨l[i].toArray⟩))

theorem TextsAt.later {w w' : World} {v : Value} {l : List (List UInt8)} (h : TextsAt w v l) (hb : Below w.heap.size w w') : TextsAt w' v l := by
  obtain ⟨A, c, hv, h1, h2, h3⟩ := h
  refine ⟨A, c, hv, h1, h2, fun hne => ?_⟩
  obtain ⟨b, o, hA, hlt, hc⟩ := h3 hne
  exact ⟨b, o, hA, Nat.lt_of_lt_of_le hlt hb.size, fun i hi => (hb.cell (p := ⟨b, o + i, none⟩) hlt).trans (hc i hi)⟩

/-- The same where what lies below B has not turned, and the list lies there. -/
theorem TextsAt.nil (w : World) : TextsAt w (.slice none 0 0) [] := ⟨none, 0, rfl, Nat.zero_le _, by simp, fun h => absurd rfl h⟩

/-- The cells of a row of texts. -/
def strsOf (rows : List (List UInt8)) : List Value := rows.map fun l => Value.string ⟨l.toArray⟩

/-- A row of texts of the call's own. -/
def StrRow (w : World) (B : Nat) (v : Value) (rows : List (List UInt8)) : Prop := w.ownsRow B 9 1 v rows.length (strsOf rows)

theorem StrRow.zero (w : World) (B : Nat) : StrRow w B (.slice none 0 0) [] := ⟨rfl, .inl ⟨rfl, rfl⟩⟩

theorem StrRow.blocks {w w' : World} {B : Nat} {v : Value} {rows : List (List UInt8)} (h : StrRow w B v rows) (hk : ∀ (j : Nat) (o : Obj), B ≤ j → w.heap[j]? = some o → w'.heap[j]? = some o) : StrRow w' B v rows := by
  obtain ⟨h1, h2⟩ := h
  refine ⟨h1, ?_⟩
  rcases h2 with h2 | ⟨g, cap, cur, hv, hg, hh, r⟩
  · exact .inl h2
  · exact .inr ⟨g, cap, cur, hv, hg, hk g _ hg hh, r⟩

theorem StrRow.later {w w' : World} {B : Nat} {v : Value} {rows : List (List UInt8)} (h : StrRow w B v rows) (hb : Below w.heap.size w w') : StrRow w' B v rows :=
  h.blocks fun j _ _ hj => (hb.block j (Array.getElem?_eq_some_iff.1 hj).1).trans hj

theorem StrRow.mono {w : World} {B B' : Nat} {v : Value} {rows : List (List UInt8)} (h : StrRow w B v rows) (hb : B' ≤ B) : StrRow w B' v rows := by
  obtain ⟨h1, h2⟩ := h
  refine ⟨h1, ?_⟩
  rcases h2 with h2 | ⟨g, cap, cur, hv, hg, r⟩
  · exact .inl h2
  · exact .inr ⟨g, cap, cur, hv, Nat.le_trans hb hg, r⟩

theorem StrRow.texts {w : World} {B : Nat} {v : Value} {rows : List (List UInt8)} (h : StrRow w B v rows) (hl : rows.length ≤ 140737488355328) (hs : ∀ s ∈ rows, s.length ≤ 140737488355328) : TextsAt w v rows := by
  have hh := h
  obtain ⟨h1, h2⟩ := h
  rcases h2 with ⟨hv, hn⟩ | ⟨g, cap, cur, hv, hg, hblk, hnc, hcm, hcs, htk⟩
  · have hr : rows = [] := List.eq_nil_of_length_eq_zero hn
    subst hr
    exact ⟨none, 0, hv, hl, hs, fun h => absurd rfl h⟩
  · refine ⟨_, cap, hv, hl, hs, fun _ => ⟨g, 0, rfl, (Array.getElem?_eq_some_iff.1 hblk).1, fun i hi => ?_⟩⟩
    subst hv
    have := World.ownsRow.cellAt hh i (by omega)
    rw [Nat.zero_add, this]
    simp [strsOf, hi]

theorem info9 : (Tryd.prog.info? 9).map (fun i => (i.zero, i.size, i.bytes)) = some (some (.string ⟨#[]⟩), 1, 16) := by kernel_rfl

theorem run_append_str (w : World) (ty : TypeId) (B n : Nat) (lv : Value) (rows : List (List UInt8)) (t : List UInt8) (hown : StrRow w B lv rows)
    (hblk : w.heap[n]? = some (.cells #[.string ⟨t.toArray⟩] 9 (0, 0))) (hB : B ≤ w.heap.size) (hn : rows.length < 1000000) :
    ∃ g cap w', (Builtin.append_ #[24, 24] ty #[lv, .slice (some ⟨n, 0, none⟩) 1 1]).run Tryd.prog w = .ok (.slice (some ⟨g, 0, none⟩) (rows.length + 1) cap) w' ∧
      StrRow w' B (.slice (some ⟨g, 0, none⟩) (rows.length + 1) cap) (rows ++ [t]) ∧ w.grownBy w' lv.ownBlock := by
  obtain ⟨i0, hi0, hz0, hs0, hb0⟩ := info_parts info9
  obtain ⟨g, cap, w', h1, h2, h3, _, _⟩ := run_append_lies (P := Tryd.prog) w 24 ty B 9 i0 _ 1 16 Tryd.underlying24 hi0 hz0 hs0 hb0 rfl (by omega) lv rows.length (strsOf rows) hown ⟨n, 0, none⟩ 1 1
    [.string ⟨t.toArray⟩] rfl (World.news_of_block (cs := #[.string ⟨t.toArray⟩]) hblk) (by simp [Value.oneCell']) (by omega) (by unfold maxLen; omega) (by omega) hB _ rfl
  refine ⟨g, cap, w', h1, ?_, h3⟩
  unfold StrRow
  rw [show strsOf (rows ++ [t]) = strsOf rows ++ [.string ⟨t.toArray⟩] from by simp [strsOf], List.length_append]
  exact h2

theorem wpList_append_str {ops : Array Oper} {rest : List Oper} {o : Oper} {a : Act} {Q : Exit → Act → World → Prop} (w : World) (s x : Operand) (B n : Nat) (lv : Value) (rows : List (List UInt8)) (t : List UInt8)
    (hgd : o.guard = none) (ho : o.op = .call { callee := .builtin .append, args := #[s, x], argTypes := #[24, 24] }) (hs : a.eval s = lv) (hx : a.eval x = .slice (some ⟨n, 0, none⟩) 1 1)
    (hown : StrRow w B lv rows) (hblk : w.heap[n]? = some (.cells #[.string ⟨t.toArray⟩] 9 (0, 0))) (hB : B ≤ w.heap.size) (hn : rows.length < 1000000)
    (h : ∀ g cap w', StrRow w' B (.slice (some ⟨g, 0, none⟩) (rows.length + 1) cap) (rows ++ [t]) → w.grownBy w' lv.ownBlock → wpList Tryd.prog ops Q rest (a.put o.dst (.slice (some ⟨g, 0, none⟩) (rows.length + 1) cap)) w') : wpList Tryd.prog ops Q (o :: rest) a w := by
  refine wpList_plain hgd fun K hK => ?_
  obtain ⟨g, cap, w', hr, h2, h3⟩ := run_append_str w o.type B n lv rows t hown hblk hB hn
  unfold Oper.wp execOp
  simp only [ho, resolve, invoke, builtin, Sem.run_bind, Sem.run_pure, Result.andThen_ok, List.map_toArray, List.map_cons, List.map_nil, hs, hx, hr]
  exact hK _ _ (h g cap w' h2 h3)

/-- A reply in a block of its own. -/
def RAt (w : World) (b : Nat) (code : Int) (lv : Value) : Prop := w.heap[b]? = some (.cells #[.int .i64 code, lv] 26 (0, 0))

theorem RAt.lt {w : World} {b : Nat} {code : Int} {lv : Value} (h : RAt w b code lv) : b < w.heap.size := (Array.getElem?_eq_some_iff.1 h).1
theorem RAt.c0 {w : World} {b : Nat} {code : Int} {lv : Value} (h : RAt w b code lv) : w.cell? ⟨b, 0, none⟩ = some (.int .i64 code) := by
  have h' : w.heap[b]? = some (.cells #[.int .i64 code, lv] 26 (0, 0)) := h
  simp [World.cell?, h']
theorem RAt.c1 {w : World} {b : Nat} {code : Int} {lv : Value} (h : RAt w b code lv) : w.cell? ⟨b, 1, none⟩ = some lv := by
  have h' : w.heap[b]? = some (.cells #[.int .i64 code, lv] 26 (0, 0)) := h
  simp [World.cell?, h']
theorem RAt.fz {w : World} {b : Nat} {code : Int} {lv : Value} (h : RAt w b code lv) (j : Nat) : w.frozen? ⟨b, j, none⟩ = false := by
  have h' : w.heap[b]? = some (.cells #[.int .i64 code, lv] 26 (0, 0)) := h
  simp [World.frozen?, h']
theorem RAt.later {w w' : World} {b : Nat} {code : Int} {lv : Value} (h : RAt w b code lv) (hb : Below w.heap.size w w') : RAt w' b code lv := (hb.block b h.lt).trans h
theorem RAt.alloc {w : World} {b : Nat} {code : Int} {lv : Value} (h : RAt w b code lv) (o : Obj) : RAt (w.alloc o) b code lv := (Below.heap_alloc w o b h.lt).trans h
theorem RAt.kept {w w' : World} {b : Nat} {code : Int} {lv : Value} {row : Option Nat} (h : RAt w b code lv) (hg : w.grownBy w' row) (hne : some b ≠ row) : RAt w' b code lv := (hg.block b h.lt hne).trans h
theorem RAt.set0 {w : World} {b : Nat} {code : Int} {lv : Value} (h : RAt w b code lv) (n : Int) : RAt (w.setCell ⟨b, 0, none⟩ (.int .i64 n)) b n lv := by
  have h' : w.heap[b]? = some (.cells #[.int .i64 code, lv] 26 (0, 0)) := h
  show (w.setCell ⟨b, 0, none⟩ (.int .i64 n)).heap[b]? = _
  simp only [World.setCell, Array.getElem?_modify, if_true, h']
  rfl
theorem RAt.set1 {w : World} {b : Nat} {code : Int} {lv : Value} (h : RAt w b code lv) (v : Value) : RAt (w.setCell ⟨b, 1, none⟩ v) b code v := by
  have h' : w.heap[b]? = some (.cells #[.int .i64 code, lv] 26 (0, 0)) := h
  show (w.setCell ⟨b, 1, none⟩ v).heap[b]? = _
  simp only [World.setCell, Array.getElem?_modify, if_true, h']
  rfl
theorem RAt.other {w : World} {b : Nat} {code : Int} {lv : Value} (h : RAt w b code lv) {p : Addr} (hp : b ≠ p.block) (v : Value) : RAt (w.setCell p v) b code lv := (Below.heap_setCell w p v b hp).trans h
end Go.Proofs.YtlefeebhilfkjaaDoor

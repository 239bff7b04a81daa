/-
  The page's Rows, walked: it answers the lines of a text, in memory of the call's own, or that it is none.
  Conditions: as each theorem states them.
-/
import Derived.Test.YtdebkbocpljkbaaO
import Derived.Deep.AppendLies
namespace Go.Proofs.Ytdebkbocpljkbaa
open Go.RowKit

/-- What has been read of a line that began at place fr. -/
def curOf (s : List UInt8) (fr i : Nat) : List UInt8 := (s.drop fr).take (i - fr)

theorem cur_snoc {s : List UInt8} {fr i : Nat} (h : fr ≤ i) (hi : i < s.length) : curOf s fr (i + 1) = curOf s fr i ++ [s[i]] := by
  unfold curOf
  rw [show i + 1 - fr = (i - fr) + 1 by omega, List.take_add_one]
  congr 1
  rw [List.getElem?_drop, show fr + (i - fr) = i by omega, List.getElem?_eq_getElem hi]
  rfl

theorem cur_last {s : List UInt8} {fr i : Nat} (h : fr < i) (hi : i ≤ s.length) : (curOf s fr i).getLast? = some (s[i - 1]'(by omega)) := by
  obtain ⟨k, rfl⟩ : ∃ k, i = k + 1 := ⟨i - 1, by omega⟩
  rw [cur_snoc (by omega) (by omega)]
  simp

theorem cur_same (s : List UInt8) (i : Nat) : curOf s i i = [] := by simp [curOf]

theorem cur_drop {s : List UInt8} {fr i : Nat} (h : fr < i) (hi : i ≤ s.length) : (curOf s fr i).dropLast = curOf s fr (i - 1) := by
  obtain ⟨k, rfl⟩ : ∃ k, i = k + 1 := ⟨i - 1, by omega⟩
  rw [cur_snoc (by omega) (by omega)]
  simp

theorem cur_ends {s : List UInt8} {fr i : Nat} (h : fr ≤ i) (hi : i < s.length) : endsL (curOf s fr i) s[i] ↔ s[i] = 10 ∧ i ≠ fr ∧ s[i - 1]'(by omega) = 13 := by
  unfold endsL
  rcases Nat.lt_or_eq_of_le h with hlt | rfl
  · rw [cur_last hlt (by omega)]
    simp
    intro _
    omega
  · rw [cur_same]
    simp

theorem pg_go {s : List UInt8} {fr i : Nat} (h : fr ≤ i) (hi : i < s.length) (hn : ¬ endsL (curOf s fr i) s[i]) : pg (curOf s fr i) (s.drop i) = pg (curOf s fr (i + 1)) (s.drop (i + 1)) := by
  rw [List.drop_eq_getElem_cons hi, pg, if_neg hn, cur_snoc h hi]

theorem pg_end {s : List UInt8} {fr i : Nat} (h : fr ≤ i) (hi : i < s.length) (he : endsL (curOf s fr i) s[i]) : pg (curOf s fr i) (s.drop i) = if cleanL (curOf s fr (i - 1)) then (pg (curOf s (i + 1) (i + 1)) (s.drop (i + 1))).map (curOf s fr (i - 1) :: ·) else none := by
  have hlt : fr < i := by
    have := ((cur_ends h hi).1 he).2.1
    omega
  rw [List.drop_eq_getElem_cons hi, pg, if_pos he, cur_drop hlt (by omega), cur_same]

theorem pg_fin (s : List UInt8) {fr : Nat} (h : fr ≤ s.length) : pg (curOf s fr s.length) (s.drop s.length) = if fr = s.length then some [] else none := by
  rw [List.drop_length, pg]
  have : (curOf s fr s.length = []) ↔ fr = s.length := by
    unfold curOf
    rw [List.take_of_length_le (by simp), List.drop_eq_nil_iff]
    omega
  by_cases e : fr = s.length
  · rw [if_pos (this.2 e), if_pos e]
  · rw [if_neg (fun h => e (this.1 h)), if_neg e]

/-- The cells of a row of texts. -/
def strsOf (rows : List (List UInt8)) : List Value := rows.map fun l => Value.string ⟨l.toArray⟩

/-- A row of texts of the call's own. -/
def StrRow (w : World) (B : Nat) (v : Value) (rows : List (List UInt8)) : Prop := w.ownsRow B 9 1 v rows.length (strsOf rows)

theorem info9 : (Try.prog.info? 9).map (fun i => (i.zero, i.size, i.bytes)) = some (some (.string ⟨#[]⟩), 1, 16) := by kernel_rfl

theorem run_append_str (w : World) (ty : TypeId) (B n : Nat) (lv : Value) (rows : List (List UInt8)) (t : List UInt8) (hown : StrRow w B lv rows)
    (hblk : w.heap[n]? = some (.cells #[.string ⟨t.toArray⟩] 9 (0, 0))) (hB : B ≤ w.heap.size) (hn : rows.length < 1000000) :
    ∃ g cap w', (Builtin.append_ #[22, 22] ty #[lv, .slice (some ⟨n, 0, none⟩) 1 1]).run Try.prog w = .ok (.slice (some ⟨g, 0, none⟩) (rows.length + 1) cap) w' ∧
      StrRow w' B (.slice (some ⟨g, 0, none⟩) (rows.length + 1) cap) (rows ++ [t]) ∧ w.grownBy w' lv.ownBlock := by
  obtain ⟨i0, hi0, hz0, hs0, hb0⟩ := info_parts info9
  obtain ⟨g, cap, w', h1, h2, h3, _, _⟩ := run_append_lies (P := Try.prog) w 22 ty B 9 i0 _ 1 16 Try.underlying22 hi0 hz0 hs0 hb0 rfl (by omega) lv rows.length (strsOf rows) hown ⟨n, 0, none⟩ 1 1
    [.string ⟨t.toArray⟩] rfl (World.news_of_block (cs := #[.string ⟨t.toArray⟩]) hblk) (by simp [Value.oneCell']) (by omega) (by unfold maxLen; omega) (by omega) hB _ rfl
  refine ⟨g, cap, w', h1, ?_, h3⟩
  unfold StrRow
  rw [show strsOf (rows ++ [t]) = strsOf rows ++ [.string ⟨t.toArray⟩] from by simp [strsOf], List.length_append]
  exact h2

theorem wpList_append_str {ops : Array Oper} {rest : List Oper} {o : Oper} {a : Act} {Q : Exit → Act → World → Prop} (w : World) (s x : Operand) (B n : Nat) (lv : Value) (rows : List (List UInt8)) (t : List UInt8)
    (hgd : o.guard = none) (ho : o.op = .call { callee := .builtin .append, args := #[s, x], argTypes := #[22, 22] }) (hs : a.eval s = lv) (hx : a.eval x = .slice (some ⟨n, 0, none⟩) 1 1)
    (hown : StrRow w B lv rows) (hblk : w.heap[n]? = some (.cells #[.string ⟨t.toArray⟩] 9 (0, 0))) (hB : B ≤ w.heap.size) (hn : rows.length < 1000000)
    (h : ∀ g cap w', StrRow w' B (.slice (some ⟨g, 0, none⟩) (rows.length + 1) cap) (rows ++ [t]) → w.grownBy w' lv.ownBlock → wpList Try.prog ops Q rest (a.put o.dst (.slice (some ⟨g, 0, none⟩) (rows.length + 1) cap)) w') : wpList Try.prog ops Q (o :: rest) a w := by
  refine wpList_plain hgd fun K hK => ?_
  obtain ⟨g, cap, w', hr, h2, h3⟩ := run_append_str w o.type B n lv rows t hown hblk hB hn
  unfold Oper.wp execOp
  simp only [ho, resolve, invoke, builtin, Sem.run_bind, Sem.run_pure, Result.andThen_ok, List.map_toArray, List.map_cons, List.map_nil, hs, hx, hr]
  exact hK _ _ (h g cap w' h2 h3)
end Go.Proofs.Ytdebkbocpljkbaa

/-
  Within of the statements' own text, walked; lines appended to a row of the call's own.
  Conditions: as each theorem states them.
-/
import Derived.Test.YtnhmhdfnphlngaaK
import Derived.Test.YtnhmhdfnphlngaaS
namespace Go.Proofs.Ytnhmhdfnphlngaa
open Go.RowKit

theorem within_any (n : Int) (w : World) : Calls Try.prog 17 #[.int .i64 n, .int .i64 100] w fun e w' => ∃ z : Int, (0 ≤ z ∧ z ≤ 99) ∧ e = .returned (.int .i64 z) ∧ w = w' := by
  go_enter Try.func17, Try.ntmps17
  go_wp2
  go_ret
  have h0 : 0 ≤ IntKind.u64.wrap n := by rw [IntKind.wrap_u64]; omega
  have h1 : 0 ≤ (IntKind.u64.wrap n).tmod 100 := Int.tmod_nonneg _ h0
  have h2 : (IntKind.u64.wrap n).tmod 100 < 100 := Int.tmod_lt_of_pos _ (by omega)
  generalize (IntKind.u64.wrap n).tmod 100 = y at *
  have h3 : wrap64 y = y := by unfold wrap64; omega
  exact ⟨y, ⟨h1, by omega⟩, congrArg (fun z => Ending.returned (.int .i64 z)) h3, rfl⟩

/-- A row of lines appended to a row of lines, nil let in at both. -/
theorem run_append_lines (w : World) (ty : TypeId) (B Bs : Nat) (gv lv : Value) (ls ms : List (List UInt8 × Bool)) (hg : w.ownsRow B 49 2 gv ls.length (lineCells ls)) (hl : w.ownsRow Bs 49 2 lv ms.length (lineCells ms))
    (hB : B ≤ w.heap.size) (hn : ls.length < 1000000) (hm : ms.length < 1000000) :
    ∃ v' w', (Builtin.append_ #[36, 36] ty #[gv, lv]).run Try.prog w = .ok v' w' ∧ w'.ownsRow B 49 2 v' (ls ++ ms).length (lineCells (ls ++ ms)) ∧ w.grownBy w' gv.ownBlock := by
  obtain ⟨i0, hi0, hz0, hs0, hb0⟩ := info_parts info49
  have happ : lineCells (ls ++ ms) = lineCells ls ++ lineCells ms := by simp [lineCells]
  rw [happ, List.length_append]
  by_cases hz : lv = .slice none 0 0
  · subst hz
    have h0 : ms.length = 0 := by
      rcases hl.2 with ⟨_, h⟩ | ⟨g, c, _, h, _⟩
      · exact h
      · cases h
    have hms : ms = [] := List.eq_nil_of_length_eq_zero h0
    subst hms
    obtain ⟨v', w', h1, h2, h3⟩ : ∃ v' w', (Builtin.append_ #[36, 36] ty #[gv, .slice none 0 0]).run Try.prog w = .ok v' w' ∧ w'.ownsRow B 49 2 v' ls.length (lineCells ls) ∧ w.grownBy w' gv.ownBlock := by
      exact ⟨gv, w, run_append_owned_none (P := Try.prog) w B 36 ty 49 i0 2 Try.underlying36 hi0 gv ls.length (lineCells ls) hg, hg, World.grownBy.refl w _⟩
    exact ⟨v', w', h1, by simpa [lineCells] using h2, h3⟩
  · obtain ⟨g, c, hv⟩ : ∃ g c, lv = .slice (some ⟨g, 0, none⟩) ms.length c := by
      rcases hl.2 with ⟨h, _⟩ | ⟨g, c, _, h, _⟩
      · exact absurd h hz
      · exact ⟨g, c, h⟩
    subst hv
    obtain ⟨v', w', h1, h2, h3, _⟩ := run_append_own (P := Try.prog) w B 36 ty 49 i0 _ 2 24 Try.underlying36 hi0 hz0 hs0 hb0 rfl (by omega) gv ls.length (lineCells ls) hg ⟨g, 0, none⟩ ms.length c (lineCells ms) (lineCells_length ms) (hl.cells (g := g) rfl)
      (fun u hu => by
        simp only [lineCells, List.mem_flatMap] at hu
        obtain ⟨y, _, hy⟩ := hu
        simp at hy
        rcases hy with rfl | rfl <;> rfl) (by unfold maxLen; omega) (by omega) hB
    exact ⟨v', w', h1, h2, h3⟩

theorem wpList_append_lines {ops : Array Oper} {rest : List Oper} {o : Oper} {a : Act} {Q : Exit → Act → World → Prop} (w : World) (s x : Operand) (B Bs : Nat) (gv lv : Value) (ls ms : List (List UInt8 × Bool))
    (hgd : o.guard = none) (ho : o.op = .call { callee := .builtin .append, args := #[s, x], argTypes := #[36, 36] }) (hs : a.eval s = gv) (hx : a.eval x = lv)
    (hg : w.ownsRow B 49 2 gv ls.length (lineCells ls)) (hl : w.ownsRow Bs 49 2 lv ms.length (lineCells ms)) (hB : B ≤ w.heap.size) (hn : ls.length < 1000000) (hm : ms.length < 1000000)
    (h : ∀ v' w', w'.ownsRow B 49 2 v' (ls ++ ms).length (lineCells (ls ++ ms)) → w.grownBy w' gv.ownBlock → wpList Try.prog ops Q rest (a.put o.dst v') w') : wpList Try.prog ops Q (o :: rest) a w := by
  refine wpList_plain hgd fun K hK => ?_
  obtain ⟨v', w', hr, h2, h3⟩ := run_append_lines w o.type B Bs gv lv ls ms hg hl hB hn hm
  unfold Oper.wp execOp
  simp only [ho, resolve, invoke, builtin, Sem.run_bind, Sem.run_pure, Result.andThen_ok, List.map_toArray, List.map_cons, List.map_nil, hs, hx, hr]
  exact hK _ _ (h v' w' h2 h3)
end Go.Proofs.Ytnhmhdfnphlngaa

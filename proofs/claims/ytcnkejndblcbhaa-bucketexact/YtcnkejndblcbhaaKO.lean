/-
  An argument that can be read as data, opened: its five numbers and its list of fours lie in memory as the walks want them.
  Conditions: as each theorem states them.
-/
import Derived.Test.YtcnkejndblcbhaaKI
import Derived.ProofKit
import Derived.ChangeSlices
import Derived.Deep.Slices
import Derived.OpenShut
import Derived.HandedShaped
import Derived.ChangeOld
import Derived.Lib.SmallJoins
namespace Go.Proofs.Ytcnkejndblcbhaa
open Go.ChangeShapes Go.WideShapes Go.ChangeAt Go.RowKit Go.Deep Go.Joins

theorem Try.own : ownKnob Try.prog.godebug = none := by kernel_rfl
theorem Try.laidOut : laidOutB Try.prog = true := by kernel_rfl
theorem Try.cells26 : Try.prog.cellsOf 26 = 6 := by kernel_rfl
theorem Try.cells23 : Try.prog.cellsOf 23 = 5 := by kernel_rfl
theorem Try.cells31 : Try.prog.cellsOf 31 = 4 := by kernel_rfl
theorem Try.cells3 : Try.prog.cellsOf 3 = 1 := by kernel_rfl

section
variable {H : Type} {enc : TypeId × Value → H} {w : World} {base : Nat} {held : Bool}
/-- A number that can be read as an int. -/
theorem int_of_trod {fuel : Nat} {v : Value} {x : DataW H × List MemPlace} (h : DataW.trod enc Try.prog w base (fun _ => true) held fuel 3 [v] = some x) : ∃ c : Int, v = .int .i64 c ∧ i64B c := by
  obtain ⟨z, hz, _, hw⟩ := DataW.trod_int Try.underlying3 h
  simp only [List.cons.injEq, and_true] at hz
  simp [Lit.wf, IntKind.min, IntKind.max, IntKind.signed, IntKind.bits] at hw
  exact ⟨z, hz, by unfold i64B; omega⟩
/-- Four cells that read as four numbers. -/
theorem four_of_trod {fuel b o : Nat} {cs : List Value} {x : DataW H × List MemPlace} (hc : w.cells? base ⟨b, o, none⟩ 4 = some cs) (h : DataW.trod enc Try.prog w base (fun _ => true) held fuel 31 cs = some x) :
    ∃ q : F4, (w.cell? ⟨b, o, none⟩ = some (.int .i64 q.a) ∧ w.cell? ⟨b, o + 1, none⟩ = some (.int .i64 q.b) ∧ w.cell? ⟨b, o + 2, none⟩ = some (.int .i64 q.c) ∧ w.cell? ⟨b, o + 3, none⟩ = some (.int .i64 q.d)) ∧ q.fit := by
  obtain ⟨_, hlen, hat⟩ := World.cells?_some hc
  match cs, hlen with
  | [v0, v1, v2, v3], _ =>
    have a0 := hat 0 (by omega)
    have a1 := hat 1 (by omega)
    have a2 := hat 2 (by omega)
    have a3 := hat 3 (by omega)
    rw [Addr.add_lit] at a0 a1 a2 a3
    obtain ⟨xs, n, _, _, _, hxl, hfl⟩ := DataW.trod_array Try.underlying31 h
    match xs, hxl with
    | [x0, x1, x2, x3], _ =>
      have f0 : DataW.trod enc Try.prog w base (fun _ => true) held n 3 [v0] = some x0 := by simpa [Try.cells3] using hfl 0 (by omega)
      have f1 : DataW.trod enc Try.prog w base (fun _ => true) held n 3 [v1] = some x1 := by simpa [Try.cells3] using hfl 1 (by omega)
      have f2 : DataW.trod enc Try.prog w base (fun _ => true) held n 3 [v2] = some x2 := by simpa [Try.cells3] using hfl 2 (by omega)
      have f3 : DataW.trod enc Try.prog w base (fun _ => true) held n 3 [v3] = some x3 := by simpa [Try.cells3] using hfl 3 (by omega)
      obtain ⟨p, hp, lp⟩ := int_of_trod f0
      obtain ⟨q, hq, lq⟩ := int_of_trod f1
      obtain ⟨r, hr, lr⟩ := int_of_trod f2
      obtain ⟨s, hs, ls⟩ := int_of_trod f3
      subst hp hq hr hs
      exact ⟨⟨p, q, r, s⟩, ⟨by simpa using a0, by simpa using a1, by simpa using a2, by simpa using a3⟩, lp, lq, lr, ls⟩
/-- A list of fours. -/
theorem fs_of_trod {fuel : Nat} {v : Value} {x : DataW H × List MemPlace} (h : DataW.trod enc Try.prog w base (fun _ => true) held fuel 24 [v] = some x) : ∃ l, FsAt w v l := by
  rcases open_slice Try.underlying24 h with ⟨hcs, _⟩ | ⟨a, len, cap, m, n, D, Pl, hcs, _, hl, hm, hmm, _, hi⟩
  · simp only [List.cons.injEq, and_true] at hcs
    subst hcs
    exact ⟨[], none, 0, rfl, Nat.zero_le _, by simp, fun h => absurd rfl h⟩
  · simp only [List.cons.injEq, and_true] at hcs
    subst hcs
    have hlm : len ≤ m := by rw [hmm]; split <;> omega
    rw [Try.cells31] at hi
    rcases Nat.eq_zero_or_pos len with h0 | h0
    · subst h0
      exact ⟨[], some a, cap, rfl, Nat.zero_le _, by simp, fun h => absurd rfl h⟩
    · obtain ⟨b, o, spot⟩ := a
      have hsp : spot = none := by
        obtain ⟨cs', hc, _⟩ := hi 0 (by omega)
        obtain ⟨_, hlen, hat⟩ := World.cells?_some hc
        have h1 := hat 0 (by omega)
        rw [List.getElem?_eq_getElem (by omega)] at h1
        simpa [Addr.add] using World.cell?_spot h1
      subst hsp
      have hq : ∀ i, ∃ q : F4, i < len → (w.cell? ⟨b, o + i * 4, none⟩ = some (.int .i64 q.a) ∧ w.cell? ⟨b, o + i * 4 + 1, none⟩ = some (.int .i64 q.b) ∧ w.cell? ⟨b, o + i * 4 + 2, none⟩ = some (.int .i64 q.c) ∧ w.cell? ⟨b, o + i * 4 + 3, none⟩ = some (.int .i64 q.d)) ∧ q.fit := fun i => by
        by_cases hlt : i < len
        · obtain ⟨cs', hc, ht⟩ := hi i (by omega)
          rw [Addr.add_lit] at hc
          obtain ⟨q, hq⟩ := four_of_trod hc ht
          exact ⟨q, fun _ => hq⟩
        · exact ⟨⟨0, 0, 0, 0⟩, fun h => absurd h hlt⟩
      obtain ⟨f, hf⟩ : ∃ f : Nat → F4, ∀ i, i < len → (w.cell? ⟨b, o + i * 4, none⟩ = some (.int .i64 (f i).a) ∧ w.cell? ⟨b, o + i * 4 + 1, none⟩ = some (.int .i64 (f i).b) ∧ w.cell? ⟨b, o + i * 4 + 2, none⟩ = some (.int .i64 (f i).c) ∧ w.cell? ⟨b, o + i * 4 + 3, none⟩ = some (.int .i64 (f i).d)) ∧ (f i).fit := ⟨fun i => Classical.choose (hq i), fun i => Classical.choose_spec (hq i)⟩
      refine ⟨(List.range len).map f, some ⟨b, o, none⟩, cap, by simp, by simp; omega, ?_, fun _ => ⟨b, o, rfl, ?_, fun i hi => ?_⟩⟩
      · intro x hx
        obtain ⟨i, hi, rfl⟩ := List.mem_map.1 hx
        exact (hf i (List.mem_range.1 hi)).2
      · exact World.block_lt_of_cell? w ⟨b, o + 0 * 4, none⟩ (hf 0 h0).1.1
      · have : i < len := by simpa using hi
        simpa using (hf i this).1
theorem array6 {α : Type} {cs : Array α} (h : cs.size = 6) : ∃ c0 c1 c2 c3 c4 c5, cs = #[c0, c1, c2, c3, c4, c5] := by
  obtain ⟨l⟩ := cs
  match l, h with
  | [c0, c1, c2, c3, c4, c5], _ => exact ⟨c0, c1, c2, c3, c4, c5, rfl⟩
theorem trod_struct5 {t : TypeId} {f0 f1 f2 f3 f4 : Field} {fuel : Nat} {cs : List Value} {x : DataW H × List MemPlace} (ht : Try.prog.underlying t = some (.struct #[f0, f1, f2, f3, f4])) (h : DataW.trod enc Try.prog w base (fun _ => true) held fuel t cs = some x) :
    ∃ y0 y1 y2 y3 y4 n, DataW.trod enc Try.prog w base (fun _ => true) held n f0.type ((cs.drop f0.offset).take (Try.prog.cellsOf f0.type)) = some y0 ∧
      DataW.trod enc Try.prog w base (fun _ => true) held n f1.type ((cs.drop f1.offset).take (Try.prog.cellsOf f1.type)) = some y1 ∧ DataW.trod enc Try.prog w base (fun _ => true) held n f2.type ((cs.drop f2.offset).take (Try.prog.cellsOf f2.type)) = some y2 ∧
      DataW.trod enc Try.prog w base (fun _ => true) held n f3.type ((cs.drop f3.offset).take (Try.prog.cellsOf f3.type)) = some y3 ∧ DataW.trod enc Try.prog w base (fun _ => true) held n f4.type ((cs.drop f4.offset).take (Try.prog.cellsOf f4.type)) = some y4 := by
  obtain ⟨xs, n, _, rfl, hl, hlen, hf⟩ := DataW.trod_struct ht h
  match xs, hlen with
  | [y0, y1, y2, y3, y4], _ => exact ⟨y0, y1, y2, y3, y4, n, by simpa using hf 0 f0 rfl, by simpa using hf 1 f1 rfl, by simpa using hf 2 f2 rfl, by simpa using hf 3 f3 rfl, by simpa using hf 4 f4 rfl⟩
/-- The whole argument. -/
theorem script_of_trod {r : Reach} {b0 : Nat} {v : Value} {d : DataW H} {p : List MemPlace} (hv : Value.okWide Try.prog w r b0 26 v) (h : DataW.Trod enc Try.prog w base (fun _ => true) held 26 v d p) :
    ∃ (b : BI) (u : Value) (l : List F4), v = .agg #[.int .i64 b.l, .int .i64 b.c, .int .i64 b.f, .int .i64 b.e, .int .i64 b.d, u] ∧ FsAt w u l := by
  obtain ⟨cs, rfl, hsz⟩ := okWide_struct Try.underlying26 hv
  obtain ⟨c0, c1, c2, c3, c4, c5, rfl⟩ := array6 (hsz.trans Try.cells26)
  obtain ⟨fuel, hf⟩ := h
  obtain ⟨y0, y1, n, _, _, h0, h1⟩ := trod_struct2 Try.underlying26 hf
  have h0' : DataW.trod enc Try.prog w base (fun _ => true) held n 23 [c0, c1, c2, c3, c4] = some y0 := by simpa [Value.cells, Try.cells23] using h0
  have h1' : DataW.trod enc Try.prog w base (fun _ => true) held n 24 [c5] = some y1 := by
    have hk : Try.prog.cellsOf 24 = 1 := by kernel_rfl
    simpa [Value.cells, hk] using h1
  obtain ⟨l, hl⟩ := fs_of_trod h1'
  obtain ⟨x0, x1, x2, x3, x4, n', g0, g1, g2, g3, g4⟩ := trod_struct5 Try.underlying23 h0'
  obtain ⟨a0, e0, _⟩ := int_of_trod (v := c0) (by simpa [Try.cells3] using g0)
  obtain ⟨a1, e1, _⟩ := int_of_trod (v := c1) (by simpa [Try.cells3] using g1)
  obtain ⟨a2, e2, _⟩ := int_of_trod (v := c2) (by simpa [Try.cells3] using g2)
  obtain ⟨a3, e3, _⟩ := int_of_trod (v := c3) (by simpa [Try.cells3] using g3)
  obtain ⟨a4, e4, _⟩ := int_of_trod (v := c4) (by simpa [Try.cells3] using g4)
  subst e0 e1 e2 e3 e4
  exact ⟨⟨a0, a1, a2, a3, a4⟩, c5, l, rfl, hl⟩
end
end Go.Proofs.Ytcnkejndblcbhaa

/-
  An argument that can be read as data, opened: its breaker, its word and its list of acts lie in memory as the walks want them.
  Conditions: as each theorem states them.
-/
import Derived.Test.YtlkikecnlafmeaaQM
import Derived.ProofKit
import Derived.ChangeSlices
import Derived.Deep.Slices
import Derived.OpenShut
import Derived.HandedShaped
import Derived.ChangeOld
import Derived.Lib.SmallJoins
namespace Go.Proofs.Ytlkikecnlafmeaa
open Go.ChangeShapes Go.WideShapes Go.ChangeAt Go.RowKit Go.Deep Go.Joins

theorem Try.own : ownKnob Try.prog.godebug = none := by kernel_rfl
theorem Try.laidOut : laidOutB Try.prog = true := by kernel_rfl
theorem Try.cells30 : Try.prog.cellsOf 30 = 7 := by kernel_rfl
theorem Try.cells26 : Try.prog.cellsOf 26 = 5 := by kernel_rfl
theorem Try.cells24 : Try.prog.cellsOf 24 = 2 := by kernel_rfl
theorem Try.cells39 : Try.prog.cellsOf 39 = 6 := by kernel_rfl
theorem Try.cells3 : Try.prog.cellsOf 3 = 1 := by kernel_rfl
theorem Try.cells27 : Try.prog.cellsOf 27 = 1 := by kernel_rfl
theorem Try.cells4 : Try.prog.cellsOf 4 = 1 := by kernel_rfl
theorem Try.cells22 : Try.prog.cellsOf 22 = 1 := by kernel_rfl
theorem Try.cells28 : Try.prog.cellsOf 28 = 1 := by kernel_rfl

section
variable {H : Type} {enc : TypeId × Value → H} {w : World} {base : Nat} {held : Bool}
theorem word_of_trod {fuel : Nat} {v : Value} {x : DataW H × List MemPlace} (h : DataW.trod enc Try.prog w base (fun _ => true) held fuel 27 [v] = some x) : ∃ a : Nat, v = .int .u64 (a : Int) ∧ a < 18446744073709551616 := by
  obtain ⟨z, hz, _, hw⟩ := DataW.trod_int Try.underlying27 h
  simp only [List.cons.injEq, and_true] at hz
  simp [Lit.wf, IntKind.min, IntKind.max, IntKind.signed, IntKind.bits] at hw
  exact ⟨z.toNat, by rw [hz, Int.toNat_of_nonneg hw.1], by omega⟩
theorem int_of_trod {fuel : Nat} {v : Value} {x : DataW H × List MemPlace} (h : DataW.trod enc Try.prog w base (fun _ => true) held fuel 3 [v] = some x) : ∃ c : Int, v = .int .i64 c := by
  obtain ⟨z, hz, _, hw⟩ := DataW.trod_int Try.underlying3 h
  simp only [List.cons.injEq, and_true] at hz
  exact ⟨z, hz⟩
theorem bool_of_trod {fuel : Nat} {v : Value} {x : DataW H × List MemPlace} (h : DataW.trod enc Try.prog w base (fun _ => true) held fuel 4 [v] = some x) : ∃ c : Bool, v = .bool c := by
  obtain ⟨z, hz, _⟩ := DataW.trod_bool Try.underlying4 h
  simp only [List.cons.injEq, and_true] at hz
  exact ⟨z, hz⟩
theorem float_of_trod {fuel : Nat} {v : Value} {x : DataW H × List MemPlace} (h : DataW.trod enc Try.prog w base (fun _ => true) held fuel 22 [v] = some x) : ∃ c : Nat, v = .float .f64 c := by
  cases fuel with
  | zero => simp [DataW.trod] at h
  | succ n =>
    unfold DataW.trod at h
    rw [Try.underlying22] at h
    split at h <;> simp_all
/-- Six cells that read as an act. -/
theorem act_of_trod {fuel b o : Nat} {cs : List Value} {x : DataW H × List MemPlace} (hc : w.cells? base ⟨b, o, none⟩ 6 = some cs) (h : DataW.trod enc Try.prog w base (fun _ => true) held fuel 39 cs = some x) : ∃ q : AR, AcAt w b o q := by
  obtain ⟨_, hlen, hat⟩ := World.cells?_some hc
  match cs, hlen with
  | [v0, v1, v2, v3, v4, v5], _ =>
    have a0 := hat 0 (by omega)
    have a1 := hat 1 (by omega)
    have a2 := hat 2 (by omega)
    have a3 := hat 3 (by omega)
    have a4 := hat 4 (by omega)
    have a5 := hat 5 (by omega)
    rw [Addr.add_lit] at a0 a1 a2 a3 a4 a5
    obtain ⟨xs, n, _, hx, _, hxl, hfl⟩ := DataW.trod_struct Try.underlying39 h
    match xs, hxl with
    | [e0, e1, e2, e3, e4, e5], _ =>
      have f0 := hfl 0 _ rfl
      have f1 := hfl 1 _ rfl
      have f2 := hfl 2 _ rfl
      have f3 := hfl 3 _ rfl
      have f4 := hfl 4 _ rfl
      have f5 := hfl 5 _ rfl
      simp only [List.getElem?_cons_zero, List.getElem?_cons_succ] at f0 f1 f2 f3 f4 f5
      have f0' : DataW.trod enc Try.prog w base (fun _ => true) held n 3 [v0] = some e0 := by simpa [Try.cells3] using f0
      have f1' : DataW.trod enc Try.prog w base (fun _ => true) held n 3 [v1] = some e1 := by simpa [Try.cells3] using f1
      have f2' : DataW.trod enc Try.prog w base (fun _ => true) held n 3 [v2] = some e2 := by simpa [Try.cells3] using f2
      have f3' : DataW.trod enc Try.prog w base (fun _ => true) held n 3 [v3] = some e3 := by simpa [Try.cells3] using f3
      have f4' : DataW.trod enc Try.prog w base (fun _ => true) held n 4 [v4] = some e4 := by simpa [Try.cells4] using f4
      have f5' : DataW.trod enc Try.prog w base (fun _ => true) held n 27 [v5] = some e5 := by simpa [Try.cells27] using f5
      obtain ⟨i0, h0⟩ := int_of_trod f0'
      obtain ⟨i1, h1⟩ := int_of_trod f1'
      obtain ⟨i2, h2⟩ := int_of_trod f2'
      obtain ⟨i3, h3⟩ := int_of_trod f3'
      obtain ⟨b4, h4⟩ := bool_of_trod f4'
      obtain ⟨u5, h5, l5⟩ := word_of_trod f5'
      subst h0 h1 h2 h3 h4 h5
      exact ⟨⟨i0, i1, i2, i3, b4, u5⟩, by simpa using a0, by simpa using a1, by simpa using a2, by simpa using a3, by simpa using a4, by simpa using a5, l5⟩
/-- A list of acts. -/
theorem acts_of_trod {fuel : Nat} {v : Value} {x : DataW H × List MemPlace} (h : DataW.trod enc Try.prog w base (fun _ => true) held fuel 28 [v] = some x) : ∃ l, AcsAt w v l := by
  rcases open_slice Try.underlying28 h with ⟨hcs, _⟩ | ⟨a, len, cap, m, n, D, Pl, hcs, _, hl, hm, hmm, _, hi⟩
  · simp only [List.cons.injEq, and_true] at hcs
    subst hcs
    exact ⟨[], none, 0, rfl, Nat.zero_le _, fun h => absurd rfl h⟩
  · simp only [List.cons.injEq, and_true] at hcs
    subst hcs
    have hlm : len ≤ m := by rw [hmm]; split <;> omega
    rw [Try.cells39] at hi
    rcases Nat.eq_zero_or_pos len with h0 | h0
    · subst h0
      exact ⟨[], some a, cap, rfl, Nat.zero_le _, fun h => absurd rfl h⟩
    · obtain ⟨b, o, spot⟩ := a
      have hsp : spot = none := by
        obtain ⟨cs', hc, _⟩ := hi 0 (by omega)
        obtain ⟨_, hlen, hat⟩ := World.cells?_some hc
        have h1 := hat 0 (by omega)
        rw [List.getElem?_eq_getElem (by omega)] at h1
        simpa [Addr.add] using World.cell?_spot h1
      subst hsp
      have hq : ∀ i, ∃ q : AR, i < len → AcAt w b (o + i * 6) q := fun i => by
        by_cases hlt : i < len
        · obtain ⟨cs', hc, ht⟩ := hi i (by omega)
          rw [Addr.add_lit] at hc
          obtain ⟨q, hq⟩ := act_of_trod hc ht
          exact ⟨q, fun _ => hq⟩
        · exact ⟨⟨0, 0, 0, 0, false, 0⟩, fun h => absurd h hlt⟩
      obtain ⟨f, hf⟩ : ∃ f : Nat → AR, ∀ i, i < len → AcAt w b (o + i * 6) (f i) := ⟨fun i => Classical.choose (hq i), fun i => Classical.choose_spec (hq i)⟩
      refine ⟨(List.range len).map f, some ⟨b, o, none⟩, cap, by simp, by simp; omega, fun _ => ⟨b, o, rfl, ?_, fun i hi => ?_⟩⟩
      · exact World.block_lt_of_cell? w ⟨b, o + 0 * 6, none⟩ (hf 0 h0).c0
      · have : i < len := by simpa using hi
        simpa using hf i this
theorem array7 {α : Type} {cs : Array α} (h : cs.size = 7) : ∃ c0 c1 c2 c3 c4 c5 c6, cs = #[c0, c1, c2, c3, c4, c5, c6] := by
  obtain ⟨l⟩ := cs
  match l, h with
  | [c0, c1, c2, c3, c4, c5, c6], _ => exact ⟨c0, c1, c2, c3, c4, c5, c6, rfl⟩
/-- Five cells that read as a breaker. -/
theorem br_of_trod {fuel : Nat} {c0 c1 c2 c3 c4 : Value} {x : DataW H × List MemPlace} (h : DataW.trod enc Try.prog w base (fun _ => true) held fuel 26 [c0, c1, c2, c3, c4] = some x) : ∃ b : BR, c0 = .int .i64 b.t ∧ c1 = .int .i64 b.f ∧ c2 = .int .i64 b.u ∧ c3 = .float .f64 b.s ∧ c4 = .int .i64 b.c := by
  obtain ⟨xs, n, _, hx, _, hxl, hfl⟩ := DataW.trod_struct Try.underlying26 h
  match xs, hxl with
  | [e0, e1, e2, e3], _ =>
    have f0 := hfl 0 _ rfl
    have f1 := hfl 1 _ rfl
    have f2 := hfl 2 _ rfl
    have f3 := hfl 3 _ rfl
    simp only [List.getElem?_cons_zero, List.getElem?_cons_succ] at f0 f1 f2 f3
    have f0' : DataW.trod enc Try.prog w base (fun _ => true) held n 3 [c0] = some e0 := by simpa [Try.cells3] using f0
    have f1' : DataW.trod enc Try.prog w base (fun _ => true) held n 3 [c1] = some e1 := by simpa [Try.cells3] using f1
    have f2' : DataW.trod enc Try.prog w base (fun _ => true) held n 3 [c2] = some e2 := by simpa [Try.cells3] using f2
    have f3' : DataW.trod enc Try.prog w base (fun _ => true) held n 24 [c3, c4] = some e3 := by simpa [Try.cells24] using f3
    obtain ⟨ys, n', _, _, _, hyl, hgl⟩ := DataW.trod_struct Try.underlying24 f3'
    match ys, hyl with
    | [y0, y1], _ =>
      have g0 := hgl 0 _ rfl
      have g1 := hgl 1 _ rfl
      simp only [List.getElem?_cons_zero, List.getElem?_cons_succ] at g0 g1
      have g0' : DataW.trod enc Try.prog w base (fun _ => true) held n' 22 [c3] = some y0 := by simpa [Try.cells22] using g0
      have g1' : DataW.trod enc Try.prog w base (fun _ => true) held n' 3 [c4] = some y1 := by simpa [Try.cells3] using g1
      obtain ⟨i0, h0⟩ := int_of_trod f0'
      obtain ⟨i1, h1⟩ := int_of_trod f1'
      obtain ⟨i2, h2⟩ := int_of_trod f2'
      obtain ⟨s3, h3⟩ := float_of_trod g0'
      obtain ⟨i4, h4⟩ := int_of_trod g1'
      exact ⟨⟨i0, i1, i2, s3, i4⟩, h0, h1, h2, h3, h4⟩
/-- The whole argument. -/
theorem script_of_trod {r : Reach} {b0 : Nat} {v : Value} {d : DataW H} {p : List MemPlace} (hv : Value.okWide Try.prog w r b0 30 v) (h : DataW.Trod enc Try.prog w base (fun _ => true) held 30 v d p) :
    ∃ (b : BR) (sc : Nat) (u : Value) (l : List AR), v = sV b sc u ∧ AcsAt w u l ∧ sc < 18446744073709551616 := by
  obtain ⟨cs, rfl, hsz⟩ := okWide_struct Try.underlying30 hv
  obtain ⟨c0, c1, c2, c3, c4, c5, c6, rfl⟩ := array7 (hsz.trans Try.cells30)
  obtain ⟨fuel, hf⟩ := h
  obtain ⟨xs, n, _, hx, _, hxl, hfl⟩ := DataW.trod_struct Try.underlying30 hf
  match xs, hxl with
  | [e0, e1, e2], _ =>
    have f0 := hfl 0 _ rfl
    have f1 := hfl 1 _ rfl
    have f2 := hfl 2 _ rfl
    simp only [List.getElem?_cons_zero, List.getElem?_cons_succ] at f0 f1 f2
    have f0' : DataW.trod enc Try.prog w base (fun _ => true) held n 26 [c0, c1, c2, c3, c4] = some e0 := by simpa [Value.cells, Try.cells26] using f0
    have f1' : DataW.trod enc Try.prog w base (fun _ => true) held n 27 [c5] = some e1 := by simpa [Value.cells, Try.cells27] using f1
    have f2' : DataW.trod enc Try.prog w base (fun _ => true) held n 28 [c6] = some e2 := by simpa [Value.cells, Try.cells28] using f2
    obtain ⟨b, h0, h1, h2, h3, h4⟩ := br_of_trod f0'
    obtain ⟨sc, h5, hsc⟩ := word_of_trod f1'
    obtain ⟨l, hl⟩ := acts_of_trod f2'
    subst h0 h1 h2 h3 h4 h5
    exact ⟨b, sc, c6, l, rfl, hl, hsc⟩
end
end Go.Proofs.Ytlkikecnlafmeaa

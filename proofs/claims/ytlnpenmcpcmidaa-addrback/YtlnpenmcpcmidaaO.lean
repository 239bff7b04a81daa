/-
  Arguments that can be read as data, opened: a list of mailboxes and texts lies in memory as the walks want it.
  Conditions: as each theorem states them: each text takes no more room than the form's reach.
-/
import Derived.Test.YtlnpenmcpcmidaaQ
import Derived.ProofKit
import Derived.SliceStrings
import Derived.Deep.Slices
import Derived.OpenShut
namespace Go.Proofs.Ytlnpenmcpcmidaa
open Go.ChangeShapes Go.WideShapes Go.RowKit Go.Deep

/-- One script: a mailbox (or not) and a text. -/
structure Ask where
  l : List UInt8
  d : List UInt8
  s : List UInt8

/-- Script q lies in block b from place o on. -/
structure AskAt (w : World) (b o : Nat) (q : Ask) : Prop where
  c0 : w.cell? ⟨b, o, none⟩ = some (.string ⟨q.l.toArray⟩)
  c1 : w.cell? ⟨b, o + 1, none⟩ = some (.string ⟨q.d.toArray⟩)
  c2 : w.cell? ⟨b, o + 2, none⟩ = some (.string ⟨q.s.toArray⟩)
  b0 : q.l.length ≤ 140737488355328
  b1 : q.d.length ≤ 140737488355328
  b2 : q.s.length ≤ 140737488355328

/-- A list of scripts in memory. -/
def AsksAt (w : World) (v : Value) (l : List Ask) : Prop :=
  ∃ A c, v = .slice A l.length c ∧ l.length ≤ maxLen ∧ (l ≠ [] → ∃ b o, A = some ⟨b, o, none⟩ ∧ b < w.heap.size ∧ ∀ i (hi : i < l.length), AskAt w b (o + i * 3) l[i])

theorem AskAt.later {w w' : World} {b o : Nat} {q : Ask} (h : AskAt w b o q) (hb : Below w.heap.size w w') (hlt : b < w.heap.size) : AskAt w' b o q :=
  ⟨(hb.cell (p := ⟨b, o, none⟩) hlt).trans h.c0, (hb.cell (p := ⟨b, o + 1, none⟩) hlt).trans h.c1, (hb.cell (p := ⟨b, o + 2, none⟩) hlt).trans h.c2, h.b0, h.b1, h.b2⟩

theorem upB {B : Nat} {a b : World} (h : Below B a b) (hB : B ≤ a.heap.size) {c : World} (k : Below b.heap.size b c) : Below B a c := h.trans (k.mono (Nat.le_trans hB h.size))

section
variable {H : Type} {enc : TypeId × Value → H} {w : World} {base : Nat} {spare : Nat → Bool} {held : Bool}

theorem Try.cells9 : Try.prog.cellsOf 9 = 1 := by kernel_rfl
theorem Try.cells25 : Try.prog.cellsOf 25 = 2 := by kernel_rfl
theorem Try.cells27 : Try.prog.cellsOf 27 = 3 := by kernel_rfl

/-- All that a datum weighs is within the form's reach. -/
def Fits (t : TypeId) (d : DataW H) : Prop := ∀ n ∈ DataW.weights Try.prog t d, n ≤ reachBytes

theorem text_of_trod {fuel : Nat} {v : Value} {d : DataW H} {pl : List MemPlace} (h : DataW.trod enc Try.prog w base spare held fuel 9 [v] = some (d, pl)) (hf : Fits 9 d) : ∃ l : List UInt8, v = .string ⟨l.toArray⟩ ∧ l.length ≤ 140737488355328 := by
  obtain ⟨s, hs, hx, _⟩ := DataW.trod_string Try.underlying9 h
  simp only [List.cons.injEq, and_true] at hs
  subst hs
  have hd : d = .lit (.string s.data.toList) := congrArg Prod.fst hx
  have h1 := hf s.data.toList.length (by rw [hd]; exact List.mem_singleton.2 rfl)
  unfold reachBytes at h1
  exact ⟨s.data.toList, by rw [Lib.mk_data], by omega⟩

/-- Three cells that read as a script. -/
theorem ask_of_trod {fuel b o : Nat} {cs : List Value} {d : DataW H} {pl : List MemPlace} (hc : w.cells? base ⟨b, o, none⟩ 3 = some cs) (h : DataW.trod enc Try.prog w base spare held fuel 27 cs = some (d, pl)) (hf : Fits 27 d) : ∃ q : Ask, AskAt w b o q := by
  obtain ⟨_, hlen, hat⟩ := World.cells?_some hc
  match cs, hlen with
  | [v0, v1, v2], _ =>
    have a0 := hat 0 (by omega)
    have a1 := hat 1 (by omega)
    have a2 := hat 2 (by omega)
    rw [Addr.add_lit] at a0 a1 a2
    obtain ⟨xs, n, _, hx, _, hxl, hfl⟩ := DataW.trod_struct Try.underlying27 h
    match xs, hxl with
    | [(e0, p0), (e1, p1)], _ =>
      have f0 := hfl 0 _ rfl
      have f1 := hfl 1 _ rfl
      simp only [List.getElem?_cons_zero, List.getElem?_cons_succ] at f0 f1
      have hd : d = .agg [e0, e1] := congrArg Prod.fst hx
      have hw : DataW.weights Try.prog 27 d = DataW.weights Try.prog 25 e0 ++ (DataW.weights Try.prog 9 e1 ++ []) := by
        rw [hd, DataW.weights, Try.underlying27]
        rfl
      have hf0 : Fits 25 e0 := fun n hn => hf n (by rw [hw]; exact List.mem_append_left _ hn)
      have hf1 : Fits 9 e1 := fun n hn => hf n (by rw [hw]; exact List.mem_append_right _ (List.mem_append_left _ hn))
      obtain ⟨zs, n', _, hz, _, hzl, hg⟩ := DataW.trod_struct Try.underlying25 f0
      match zs, hzl with
      | [(g0, q0), (g1, q1)], _ =>
        have k0 := hg 0 _ rfl
        have k1 := hg 1 _ rfl
        simp only [List.getElem?_cons_zero, List.getElem?_cons_succ] at k0 k1
        have hd2 : e0 = .agg [g0, g1] := congrArg Prod.fst hz
        have hw2 : DataW.weights Try.prog 25 e0 = DataW.weights Try.prog 9 g0 ++ (DataW.weights Try.prog 9 g1 ++ []) := by
          rw [hd2, DataW.weights, Try.underlying25]
          rfl
        have hg0 : Fits 9 g0 := fun n hn => hf0 n (by rw [hw2]; exact List.mem_append_left _ hn)
        have hg1 : Fits 9 g1 := fun n hn => hf0 n (by rw [hw2]; exact List.mem_append_right _ (List.mem_append_left _ hn))
        have k0' : DataW.trod enc Try.prog w base spare held n' 9 [v0] = some (g0, q0) := by
          simpa [Try.cells9, Try.cells25] using k0
        have k1' : DataW.trod enc Try.prog w base spare held n' 9 [v1] = some (g1, q1) := by
          simpa [Try.cells9, Try.cells25] using k1
        have f1' : DataW.trod enc Try.prog w base spare held n 9 [v2] = some (e1, p1) := by
          simpa [Try.cells9] using f1
        obtain ⟨l0, h0, b0⟩ := text_of_trod k0' hg0
        obtain ⟨l1, h1, b1⟩ := text_of_trod k1' hg1
        obtain ⟨l2, h2, b2⟩ := text_of_trod f1' hf1
        subst h0 h1 h2
        exact ⟨⟨l0, l1, l2⟩, ⟨by simpa using a0, by simpa using a1, by simpa using a2, b0, b1, b2⟩⟩

theorem weights_all {P : Program} {t : TypeId} {d : DataW H} : ∀ {l : List (DataW H)}, d ∈ l → ∀ n ∈ DataW.weights P t d, n ∈ DataW.weightsAll P t l := by
  intro l
  induction l with
  | nil => intro h; cases h
  | cons a r ih =>
    intro h n hn
    show n ∈ DataW.weights P t a ++ DataW.weightsAll P t r
    rcases List.mem_cons.1 h with rfl | h
    · exact List.mem_append_left _ hn
    · exact List.mem_append_right _ (ih h n hn)

/-- A list of scripts that can be read. -/
theorem asks_of_trod {fuel : Nat} {v : Value} {d : DataW H} {pl : List MemPlace} (h : DataW.trod enc Try.prog w base spare held fuel 22 [v] = some (d, pl)) (hf : Fits 22 d) : ∃ l : List Ask, AsksAt w v l := by
  rcases open_slice Try.underlying22 h with ⟨hcs, _⟩ | ⟨a, len, cap, m, n, D, Pl, hcs, _, hl, hm, hmm, hx, hi⟩
  · simp only [List.cons.injEq, and_true] at hcs
    subst hcs
    exact ⟨[], ⟨none, 0, rfl, Nat.zero_le _, fun h => absurd rfl h⟩⟩
  · simp only [List.cons.injEq, and_true] at hcs
    subst hcs
    have hlm : len ≤ m := by rw [hmm]; split <;> omega
    rw [Try.cells27] at hi
    have hd : d = .slice ((List.range len).map D) ((List.range (m - len)).map fun j => D (len + j)) := congrArg Prod.fst hx
    have hfi : ∀ i, i < len → Fits 27 (D i) := fun i hlt n hn => hf n (by
      rw [hd, DataW.weights, Try.underlying22]
      refine List.mem_cons_of_mem _ (List.mem_append_left _ ?_)
      exact weights_all (List.mem_map.2 ⟨i, List.mem_range.2 hlt, rfl⟩) n hn)
    rcases Nat.eq_zero_or_pos len with h0 | h0
    · subst h0
      exact ⟨[], ⟨some a, cap, rfl, Nat.zero_le _, fun h => absurd rfl h⟩⟩
    · obtain ⟨b, o, spot⟩ := a
      have hsp : spot = none := by
        obtain ⟨cs', hc, _⟩ := hi 0 (by omega)
        obtain ⟨_, hlen, hat⟩ := World.cells?_some hc
        have h1 := hat 0 (by omega)
        rw [List.getElem?_eq_getElem (by omega)] at h1
        simpa [Addr.add] using World.cell?_spot h1
      subst hsp
      have hq : ∀ i, ∃ q : Ask, i < len → AskAt w b (o + i * 3) q := fun i => by
        by_cases hlt : i < len
        · obtain ⟨cs', hc, ht⟩ := hi i (by omega)
          rw [Addr.add_lit] at hc
          obtain ⟨q, hq⟩ := ask_of_trod hc ht (hfi i hlt)
          exact ⟨q, fun _ => hq⟩
        · exact ⟨⟨[], [], []⟩, fun h => absurd h hlt⟩
      obtain ⟨f, hf⟩ : ∃ f : Nat → Ask, ∀ i, i < len → AskAt w b (o + i * 3) (f i) := ⟨fun i => Classical.choose (hq i), fun i => Classical.choose_spec (hq i)⟩
      refine ⟨(List.range len).map f, ⟨some ⟨b, o, none⟩, cap, by simp, by simp; omega, fun _ => ⟨b, o, rfl, ?_, fun i hi => ?_⟩⟩⟩
      · exact World.block_lt_of_cell? w ⟨b, o + 0 * 3, none⟩ (hf 0 h0).c0
      · have : i < len := by simpa using hi
        simpa using hf i this
end
end Go.Proofs.Ytlnpenmcpcmidaa

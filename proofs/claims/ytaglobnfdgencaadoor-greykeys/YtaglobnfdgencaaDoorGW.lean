/-
  The argument of the statements: a list of entries and a list of acts, in memory; opened out of what can be read as data; heavy and wakes of the statements' text, walked.
  Conditions: as each theorem states them: each text takes no more room than the form's reach.
-/
import Derived.Test.YtaglobnfdgencaaDoorGQ
import Derived.ProofKit
import Derived.SliceStrings
import Derived.ChangeSlices
import Derived.Deep.Slices
import Derived.OpenShut
import Derived.HandedShaped
import Derived.ChangeOld
import Derived.Lib.SmallJoins
namespace Go.Proofs.YtaglobnfdgencaaDoor
open Go.ChangeShapes Go.WideShapes Go.ChangeAt Go.RowKit Go.Deep Go.Joins

theorem Tryd.own : ownKnob Tryd.prog.godebug = none := by kernel_rfl
theorem Tryd.laidOut : laidOutB Tryd.prog = true := by kernel_rfl
theorem Tryd.cells36 : Tryd.prog.cellsOf 36 = 1 := by kernel_rfl
theorem Tryd.cells22 : Tryd.prog.cellsOf 22 = 1 := by kernel_rfl
theorem Tryd.cells53 : Tryd.prog.cellsOf 53 = 4 := by kernel_rfl
theorem Tryd.cells24 : Tryd.prog.cellsOf 24 = 3 := by kernel_rfl
theorem Tryd.cells9 : Tryd.prog.cellsOf 9 = 1 := by kernel_rfl
theorem Tryd.cells3 : Tryd.prog.cellsOf 3 = 1 := by kernel_rfl
theorem Tryd.cells4 : Tryd.prog.cellsOf 4 = 1 := by kernel_rfl

/-- An act: a key, a tick, how long it is waited. -/
structure Ac where
  k : ByteArray
  n : Int
  t : Int
structure AcAt (w : World) (b o : Nat) (q : Ac) : Prop where
  c0 : w.cell? ⟨b, o, none⟩ = some (.string q.k)
  c1 : w.cell? ⟨b, o + 1, none⟩ = some (.int .i64 q.n)
  c2 : w.cell? ⟨b, o + 2, none⟩ = some (.int .i64 q.t)
  sz : q.k.size ≤ 140737488355328
  nb : q.n < 9223372036854775808
/-- A list of acts in memory. -/
def AcsAt (w : World) (v : Value) (l : List Ac) : Prop :=
  ∃ A c, v = .slice A l.length c ∧ l.length ≤ maxLen ∧ (l ≠ [] → ∃ b o, A = some ⟨b, o, none⟩ ∧ b < w.heap.size ∧ ∀ i (hi : i < l.length), AcAt w b (o + i * 3) l[i])
theorem AcsAt.slice {w : World} {v : Value} {l : List Ac} (h : AcsAt w v l) : ∃ A c, v = .slice A l.length c ∧ l.length < 9223372036854775808 := by
  obtain ⟨A, c, hv, h1, _⟩ := h
  exact ⟨A, c, hv, by unfold maxLen at h1; omega⟩
theorem AcsAt.at {w : World} {A : Option Addr} {c n : Nat} {l : List Ac} (h : AcsAt w (.slice A n c) l) {i : Nat} (hi : i < l.length) {B : Nat} {w' : World} (hB : B = w.heap.size) (hb : Below B w w') :
    ∃ (b o : Nat), A = some ⟨b, o, none⟩ ∧ b < w'.heap.size ∧ AcAt w' b (o + i * 3) l[i] := by
  subst hB
  obtain ⟨A', c', hv, _, h3⟩ := h
  obtain ⟨b, o, hA, hlt, hc⟩ := h3 (fun e => by rw [e] at hi; simp at hi)
  injection hv with h1 h2 h3
  subst h1
  have q := hc i hi
  exact ⟨b, o, hA, Nat.lt_of_lt_of_le hlt hb.size, (hb.cell (p := ⟨b, o + i * 3, none⟩) hlt).trans q.c0, (hb.cell (p := ⟨b, o + i * 3 + 1, none⟩) hlt).trans q.c1, (hb.cell (p := ⟨b, o + i * 3 + 2, none⟩) hlt).trans q.c2, q.sz, q.nb⟩

section
variable {H : Type} {enc : TypeId × Value → H} {w : World} {base : Nat} {spare : Nat → Bool}

/-- All that a datum weighs is within the form's reach. -/
def Fits (t : TypeId) (d : DataW H) : Prop := ∀ n ∈ DataW.weights Tryd.prog t d, n ≤ reachBytes
theorem text_of_trod {held : Bool} {fuel : Nat} {v : Value} {d : DataW H} {pl : List MemPlace} (h : DataW.trod enc Tryd.prog w base spare held fuel 9 [v] = some (d, pl)) (hf : Fits 9 d) : ∃ s : ByteArray, v = .string s ∧ s.size ≤ 140737488355328 := by
  obtain ⟨s, hs, hx, _⟩ := DataW.trod_string Tryd.underlying9 h
  simp only [List.cons.injEq, and_true] at hs
  subst hs
  have hd : d = .lit (.string s.data.toList) := congrArg Prod.fst hx
  have h1 := hf s.data.toList.length (by rw [hd]; exact List.mem_singleton.2 rfl)
  unfold reachBytes at h1
  rw [Array.length_toList] at h1
  exact ⟨s, rfl, by show s.data.size ≤ _; omega⟩
theorem int_of_trod {held : Bool} {fuel : Nat} {v : Value} {d : DataW H} {pl : List MemPlace} (h : DataW.trod enc Tryd.prog w base spare held fuel 3 [v] = some (d, pl)) : ∃ n : Int, v = .int .i64 n ∧ n < 9223372036854775808 := by
  obtain ⟨n, hn, _, hw⟩ := DataW.trod_int Tryd.underlying3 h
  simp only [List.cons.injEq, and_true] at hn
  simp [Lit.wf, IntKind.min, IntKind.max, IntKind.signed, IntKind.bits] at hw
  exact ⟨n, hn, by omega⟩
theorem bool_of_trod {held : Bool} {fuel : Nat} {v : Value} {d : DataW H} {pl : List MemPlace} (h : DataW.trod enc Tryd.prog w base spare held fuel 4 [v] = some (d, pl)) : ∃ x : Bool, v = .bool x := by
  obtain ⟨x, hx, _⟩ := DataW.trod_bool Tryd.underlying4 h
  simp only [List.cons.injEq, and_true] at hx
  exact ⟨x, hx⟩
/-- Four cells that read as an entry. -/
theorem grey_of_trod {held : Bool} {fuel b o : Nat} {cs : List Value} {d : DataW H} {pl : List MemPlace} (hc : w.cells? base ⟨b, o, none⟩ 4 = some cs) (h : DataW.trod enc Tryd.prog w base spare held fuel 53 cs = some (d, pl)) (hf : Fits 53 d) :
    ∃ g : Gy, (∀ j u, (gc g)[j]? = some u → w.cell? ⟨b, o + j, none⟩ = some u) ∧ g.k.size ≤ 140737488355328 := by
  obtain ⟨_, hlen, hat⟩ := World.cells?_some hc
  match cs, hlen with
  | [v0, v1, v2, v3], _ =>
    have a0 := hat 0 (by omega)
    have a1 := hat 1 (by omega)
    have a2 := hat 2 (by omega)
    have a3 := hat 3 (by omega)
    rw [Addr.add_lit] at a0 a1 a2 a3
    obtain ⟨xs, n, _, hx, _, hxl, hfl⟩ := DataW.trod_struct Tryd.underlying53 h
    match xs, hxl with
    | [(e0, p0), (e1, p1), (e2, p2), (e3, p3)], _ =>
      have f0 := hfl 0 _ rfl
      have f1 := hfl 1 _ rfl
      have f2 := hfl 2 _ rfl
      have f3 := hfl 3 _ rfl
      simp only [List.getElem?_cons_zero, List.getElem?_cons_succ] at f0 f1 f2 f3
      have hd : d = .agg [e0, e1, e2, e3] := congrArg Prod.fst hx
      have hw : DataW.weights Tryd.prog 53 d = DataW.weights Tryd.prog 9 e0 ++ (DataW.weights Tryd.prog 3 e1 ++ (DataW.weights Tryd.prog 3 e2 ++ (DataW.weights Tryd.prog 4 e3 ++ []))) := by
        rw [hd, DataW.weights, Tryd.underlying53]
        rfl
      have hf0 : Fits 9 e0 := fun n hn => hf n (by rw [hw]; exact List.mem_append_left _ hn)
      have f0' : DataW.trod enc Tryd.prog w base spare held n 9 [v0] = some (e0, p0) := by simpa [Tryd.cells9] using f0
      have f1' : DataW.trod enc Tryd.prog w base spare held n 3 [v1] = some (e1, p1) := by simpa [Tryd.cells3] using f1
      have f2' : DataW.trod enc Tryd.prog w base spare held n 3 [v2] = some (e2, p2) := by simpa [Tryd.cells3] using f2
      have f3' : DataW.trod enc Tryd.prog w base spare held n 4 [v3] = some (e3, p3) := by simpa [Tryd.cells4] using f3
      obtain ⟨s, h0, b0⟩ := text_of_trod f0' hf0
      obtain ⟨i1, h1, _⟩ := int_of_trod f1'
      obtain ⟨i2, h2, _⟩ := int_of_trod f2'
      obtain ⟨x3, h3⟩ := bool_of_trod f3'
      subst h0 h1 h2 h3
      refine ⟨⟨s, i1, i2, x3⟩, fun j u hu => ?_, b0⟩
      match j, hu with
      | 0, hu => simp only [gc, List.getElem?_cons_zero, Option.some.injEq] at hu; subst hu; simpa using a0
      | 1, hu => simp only [gc, List.getElem?_cons_succ, List.getElem?_cons_zero, Option.some.injEq] at hu; subst hu; simpa using a1
      | 2, hu => simp only [gc, List.getElem?_cons_succ, List.getElem?_cons_zero, Option.some.injEq] at hu; subst hu; simpa using a2
      | 3, hu => simp only [gc, List.getElem?_cons_succ, List.getElem?_cons_zero, Option.some.injEq] at hu; subst hu; simpa using a3
      | j + 4, hu => simp [gc] at hu
/-- Three cells that read as an act. -/
theorem act_of_trod {held : Bool} {fuel b o : Nat} {cs : List Value} {d : DataW H} {pl : List MemPlace} (hc : w.cells? base ⟨b, o, none⟩ 3 = some cs) (h : DataW.trod enc Tryd.prog w base spare held fuel 24 cs = some (d, pl)) (hf : Fits 24 d) :
    ∃ q : Ac, AcAt w b o q := by
  obtain ⟨_, hlen, hat⟩ := World.cells?_some hc
  match cs, hlen with
  | [v0, v1, v2], _ =>
    have a0 := hat 0 (by omega)
    have a1 := hat 1 (by omega)
    have a2 := hat 2 (by omega)
    rw [Addr.add_lit] at a0 a1 a2
    obtain ⟨xs, n, _, hx, _, hxl, hfl⟩ := DataW.trod_struct Tryd.underlying24 h
    match xs, hxl with
    | [(e0, p0), (e1, p1), (e2, p2)], _ =>
      have f0 := hfl 0 _ rfl
      have f1 := hfl 1 _ rfl
      have f2 := hfl 2 _ rfl
      simp only [List.getElem?_cons_zero, List.getElem?_cons_succ] at f0 f1 f2
      have hd : d = .agg [e0, e1, e2] := congrArg Prod.fst hx
      have hw : DataW.weights Tryd.prog 24 d = DataW.weights Tryd.prog 9 e0 ++ (DataW.weights Tryd.prog 3 e1 ++ (DataW.weights Tryd.prog 3 e2 ++ [])) := by
        rw [hd, DataW.weights, Tryd.underlying24]
        rfl
      have hf0 : Fits 9 e0 := fun n hn => hf n (by rw [hw]; exact List.mem_append_left _ hn)
      have f0' : DataW.trod enc Tryd.prog w base spare held n 9 [v0] = some (e0, p0) := by simpa [Tryd.cells9] using f0
      have f1' : DataW.trod enc Tryd.prog w base spare held n 3 [v1] = some (e1, p1) := by simpa [Tryd.cells3] using f1
      have f2' : DataW.trod enc Tryd.prog w base spare held n 3 [v2] = some (e2, p2) := by simpa [Tryd.cells3] using f2
      obtain ⟨s, h0, b0⟩ := text_of_trod f0' hf0
      obtain ⟨i1, h1, n1⟩ := int_of_trod f1'
      obtain ⟨i2, h2, _⟩ := int_of_trod f2'
      subst h0 h1 h2
      exact ⟨⟨s, i1, i2⟩, ⟨by simpa using a0, by simpa using a1, by simpa using a2, b0, n1⟩⟩
theorem weights_all {P : Program} {t : TypeId} {d : DataW H} : ∀ {l : List (DataW H)}, d ∈ l → ∀ n ∈ DataW.weights P t d, n ∈ DataW.weightsAll P t l := by
  intro l
  induction l with
  | nil => intro h; cases h
  | cons a r ih =>
    intro h n hn
    show n ∈ DataW.weights P t a ++ DataW.weightsAll P t r
    rcases List.mem_cons.1 h with rfl | h
    · exact List.mem_append_left _ hn
    · exact List.mem_append_right _ (ih h n hn)
/-- A list of entries that can be read. -/
theorem greys_of_trod {held : Bool} {fuel : Nat} {v : Value} {d : DataW H} {pl : List MemPlace} (h : DataW.trod enc Tryd.prog w base spare held fuel 36 [v] = some (d, pl)) (hf : Fits 36 d) : ∃ l : List Gy, GR w v l ∧ ∀ g ∈ l, g.k.size ≤ 140737488355328 := by
  rcases open_slice Tryd.underlying36 h with ⟨hcs, _⟩ | ⟨a, len, cap, m, n, D, Pl, hcs, _, hl, hm, hmm, hx, hi⟩
  · simp only [List.cons.injEq, and_true] at hcs
    subst hcs
    exact ⟨[], GR.nil w, fun g hg => by cases hg⟩
  · simp only [List.cons.injEq, and_true] at hcs
    subst hcs
    have hlm : len ≤ m := by rw [hmm]; split <;> omega
    rw [Tryd.cells53] at hi
    have hd : d = .slice ((List.range len).map D) ((List.range (m - len)).map fun j => D (len + j)) := congrArg Prod.fst hx
    have hfi : ∀ i, i < len → Fits 53 (D i) := fun i hlt n hn => hf n (by
      rw [hd, DataW.weights, Tryd.underlying36]
      refine List.mem_cons_of_mem _ (List.mem_append_left _ ?_)
      exact weights_all (List.mem_map.2 ⟨i, List.mem_range.2 hlt, rfl⟩) n hn)
    rcases Nat.eq_zero_or_pos len with h0 | h0
    · subst h0
      exact ⟨[], ⟨some a, cap, rfl, Nat.zero_le _, by omega, fun h => absurd rfl h⟩, fun g hg => by cases hg⟩
    · obtain ⟨b, o, spot⟩ := a
      have hsp : spot = none := by
        obtain ⟨cs', hc, _⟩ := hi 0 (by omega)
        obtain ⟨_, hlen, hat⟩ := World.cells?_some hc
        have h1 := hat 0 (by omega)
        rw [List.getElem?_eq_getElem (by omega)] at h1
        simpa [Addr.add] using World.cell?_spot h1
      subst hsp
      have hq : ∀ i, ∃ q : Gy, i < len → (∀ j u, (gc q)[j]? = some u → w.cell? ⟨b, o + i * 4 + j, none⟩ = some u) ∧ q.k.size ≤ 140737488355328 := fun i => by
        by_cases hlt : i < len
        · obtain ⟨cs', hc, ht⟩ := hi i (by omega)
          rw [Addr.add_lit] at hc
          obtain ⟨q, hq⟩ := grey_of_trod hc ht (hfi i hlt)
          exact ⟨q, fun _ => hq⟩
        · exact ⟨default, fun h => absurd h hlt⟩
      obtain ⟨f, hff⟩ : ∃ f : Nat → Gy, ∀ i, i < len → (∀ j u, (gc (f i))[j]? = some u → w.cell? ⟨b, o + i * 4 + j, none⟩ = some u) ∧ (f i).k.size ≤ 140737488355328 := ⟨fun i => Classical.choose (hq i), fun i => Classical.choose_spec (hq i)⟩
      have hll : ((List.range len).map f).length = len := by simp
      refine ⟨(List.range len).map f, ⟨some ⟨b, o, none⟩, cap, by rw [hll], by rw [hll]; omega, by omega, fun _ => ⟨b, o, rfl, fun j u hu => ?_⟩⟩, fun g hg => ?_⟩
      · have hj := (List.getElem?_eq_some_iff.1 hu).1
        rw [gcs_len, hll] at hj
        have hi4 : j / 4 < ((List.range len).map f).length := by rw [hll]; omega
        have e := gcs_at ((List.range len).map f) (j / 4) hi4 (j % 4) (by omega)
        rw [show j / 4 * 4 + j % 4 = j by omega, hu] at e
        have hfi' : ((List.range len).map f)[j / 4] = f (j / 4) := by simp
        rw [hfi'] at e
        have := (hff (j / 4) (by omega)).1 (j % 4) u e.symm
        rwa [show o + j / 4 * 4 + j % 4 = o + j by omega] at this
      · obtain ⟨i, hi, rfl⟩ := List.mem_map.1 hg
        exact (hff i (List.mem_range.1 hi)).2
/-- A list of acts that can be read. -/
theorem acts_of_trod {held : Bool} {fuel : Nat} {v : Value} {d : DataW H} {pl : List MemPlace} (h : DataW.trod enc Tryd.prog w base spare held fuel 22 [v] = some (d, pl)) (hf : Fits 22 d) : ∃ l : List Ac, AcsAt w v l := by
  rcases open_slice Tryd.underlying22 h with ⟨hcs, _⟩ | ⟨a, len, cap, m, n, D, Pl, hcs, _, hl, hm, hmm, hx, hi⟩
  · simp only [List.cons.injEq, and_true] at hcs
    subst hcs
    exact ⟨[], ⟨none, 0, rfl, Nat.zero_le _, fun h => absurd rfl h⟩⟩
  · simp only [List.cons.injEq, and_true] at hcs
    subst hcs
    have hlm : len ≤ m := by rw [hmm]; split <;> omega
    rw [Tryd.cells24] at hi
    have hd : d = .slice ((List.range len).map D) ((List.range (m - len)).map fun j => D (len + j)) := congrArg Prod.fst hx
    have hfi : ∀ i, i < len → Fits 24 (D i) := fun i hlt n hn => hf n (by
      rw [hd, DataW.weights, Tryd.underlying22]
      refine List.mem_cons_of_mem _ (List.mem_append_left _ ?_)
      exact weights_all (List.mem_map.2 ⟨i, List.mem_range.2 hlt, rfl⟩) n hn)
    rcases Nat.eq_zero_or_pos len with h0 | h0
    · subst h0
      exact ⟨[], ⟨some a, cap, rfl, Nat.zero_le _, fun h => absurd rfl h⟩⟩
    · obtain ⟨b, o, spot⟩ := a
      have hsp : spot = none := by
        obtain ⟨cs', hc, _⟩ := hi 0 (by omega)
        obtain ⟨_, hlen, hat⟩ := World.cells?_some hc
        have h1 := hat 0 (by omega)
        rw [List.getElem?_eq_getElem (by omega)] at h1
        simpa [Addr.add] using World.cell?_spot h1
      subst hsp
      have hq : ∀ i, ∃ q : Ac, i < len → AcAt w b (o + i * 3) q := fun i => by
        by_cases hlt : i < len
        · obtain ⟨cs', hc, ht⟩ := hi i (by omega)
          rw [Addr.add_lit] at hc
          obtain ⟨q, hq⟩ := act_of_trod hc ht (hfi i hlt)
          exact ⟨q, fun _ => hq⟩
        · exact ⟨⟨⟨#[]⟩, 0, 0⟩, fun h => absurd h hlt⟩
      obtain ⟨f, hff⟩ : ∃ f : Nat → Ac, ∀ i, i < len → AcAt w b (o + i * 3) (f i) := ⟨fun i => Classical.choose (hq i), fun i => Classical.choose_spec (hq i)⟩
      refine ⟨(List.range len).map f, ⟨some ⟨b, o, none⟩, cap, by simp, by simp; omega, fun _ => ⟨b, o, rfl, ?_, fun i hi => ?_⟩⟩⟩
      · exact World.block_lt_of_cell? w ⟨b, o + 0 * 3, none⟩ (hff 0 h0).c0
      · have : i < len := by simpa using hi
        simpa using hff i this
end
end Go.Proofs.YtaglobnfdgencaaDoor

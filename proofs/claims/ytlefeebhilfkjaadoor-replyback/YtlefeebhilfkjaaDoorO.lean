/-
  Arguments that can be read as data, opened: a list of replies and lines lies in memory as the walks want it.
  Conditions: as each theorem states them: each text takes no more room than the form's reach.
-/
import Derived.Test.YtlefeebhilfkjaaDoorI
import Derived.ProofKit
import Derived.SliceStrings
import Derived.Deep.Slices
import Derived.OpenShut
namespace Go.Proofs.YtlefeebhilfkjaaDoor
open Go.ChangeShapes Go.WideShapes Go.RowKit Go.Deep

/-- One script in memory: a reply (or not) and lines. -/
structure Ask where
  code : Int
  v1 : Value
  v2 : Value
  l1 : List (List UInt8)
  l2 : List (List UInt8)

/-- Script q lies in block b from place o on. -/
structure AskAt (w : World) (b o : Nat) (q : Ask) : Prop where
  c0 : w.cell? ⟨b, o, none⟩ = some (.int .i64 q.code)
  c1 : w.cell? ⟨b, o + 1, none⟩ = some q.v1
  c2 : w.cell? ⟨b, o + 2, none⟩ = some q.v2
  t1 : TextsAt w q.v1 q.l1
  t2 : TextsAt w q.v2 q.l2

/-- A list of scripts in memory. -/
def AsksAt (w : World) (v : Value) (l : List Ask) : Prop :=
  ∃ A c, v = .slice A l.length c ∧ l.length ≤ maxLen ∧ (l ≠ [] → ∃ b o, A = some ⟨b, o, none⟩ ∧ b < w.heap.size ∧ ∀ i (hi : i < l.length), AskAt w b (o + i * 3) l[i])

theorem AskAt.later {w w' : World} {b o : Nat} {q : Ask} (h : AskAt w b o q) (hb : Below w.heap.size w w') (hlt : b < w.heap.size) : AskAt w' b o q :=
  ⟨(hb.cell (p := ⟨b, o, none⟩) hlt).trans h.c0, (hb.cell (p := ⟨b, o + 1, none⟩) hlt).trans h.c1, (hb.cell (p := ⟨b, o + 2, none⟩) hlt).trans h.c2, h.t1.later hb, h.t2.later hb⟩

theorem upB {B : Nat} {a b : World} (h : Below B a b) (hB : B ≤ a.heap.size) {c : World} (k : Below b.heap.size b c) : Below B a c := h.trans (k.mono (Nat.le_trans hB h.size))

theorem go_short (l : List (List UInt8)) : ∀ (more : Bool) (code : Nat) (acc : List (List UInt8)), (∀ s ∈ acc, s.length ≤ 506) → ∀ s ∈ (goL more code acc l).rows, s.length ≤ 506 := by
  induction l with
  | nil =>
    intro more code acc h
    rw [goL]
    split
    · intro s hs; cases hs
    · exact h
  | cons s t ih =>
    intro more code acc h
    rw [goL]
    split
    · intro s hs; cases hs
    · rename_i c m x hl
      split
      · intro s hs; cases hs
      · refine ih m c (acc ++ [x]) (fun y hy => ?_)
        rcases List.mem_append.1 hy with hy | hy
        · exact h y hy
        · rw [List.mem_singleton.1 hy]
          have := (line_text hl).1
          simp only [textOk, Bool.and_eq_true, decide_eq_true_eq] at this
          exact this.1

theorem parse_short (l : List (List UInt8)) : ∀ s ∈ (parseL l).rows, s.length ≤ 506 := by
  unfold parseL
  split
  · exact go_short l true 0 [] (fun s hs => by cases hs)
  · intro s hs; cases hs

theorem eqStrings_same (l : List (List UInt8)) (va vb : Value) (w : World) (ha : TextsAt w va l) (hb : TextsAt w vb l) : Calls Tryd.prog 21 #[va, vb] w fun e w' => e = .returned (.bool true) ∧ Below w.heap.size w w' :=
  (eqStrings_any l l va vb w ha hb).mono fun _ _ h => ⟨h.1.trans (ret_bool (decide_eq_true rfl)), h.2⟩

theorem eqReply_same (c : Int) (l : List (List UInt8)) (va vb : Value) (w : World) (ha : TextsAt w va l) (hb : TextsAt w vb l) : Calls Tryd.prog 12 #[.agg #[.int .i64 c, va], .agg #[.int .i64 c, vb]] w fun e w' => e = .returned (.bool true) ∧ Below w.heap.size w w' :=
  (eqReply_any c c l l va vb w ha hb).mono fun _ _ h => ⟨h.1.trans (ret_bool (decide_eq_true ⟨rfl, rfl⟩)), h.2⟩

section
variable {H : Type} {enc : TypeId × Value → H} {w : World} {base : Nat} {spare : Nat → Bool} {held : Bool}

theorem Tryd.cells9 : Tryd.prog.cellsOf 9 = 1 := by kernel_rfl
theorem Tryd.cells3 : Tryd.prog.cellsOf 3 = 1 := by kernel_rfl
theorem Tryd.cells24 : Tryd.prog.cellsOf 24 = 1 := by kernel_rfl
theorem Tryd.cells26 : Tryd.prog.cellsOf 26 = 2 := by kernel_rfl
theorem Tryd.cells28 : Tryd.prog.cellsOf 28 = 3 := by kernel_rfl
theorem Tryd.bytes9 : Tryd.prog.bytesOf 9 = 16 := by kernel_rfl

/-- All that a datum weighs is within the form's reach. -/
def Fits (t : TypeId) (d : DataW H) : Prop := ∀ n ∈ DataW.weights Tryd.prog t d, n ≤ reachBytes

theorem weights_strs (ss : List ByteArray) : DataW.weightsAll (H := H) Tryd.prog 9 (strs ss) = ss.map fun s => s.data.toList.length := by
  induction ss with
  | nil => rfl
  | cons s t ih =>
    show DataW.weights Tryd.prog 9 (.lit (.string s.data.toList)) ++ DataW.weightsAll Tryd.prog 9 (strs t) = _
    rw [ih]
    rfl

theorem texts_of_trod {fuel : Nat} {v : Value} {d : DataW H} {pl : List MemPlace} (h : DataW.trod enc Tryd.prog w base spare held fuel 24 [v] = some (d, pl)) (hf : Fits 24 d) : ∃ l : List (List UInt8), TextsAt w v l := by
  rcases open_strings Tryd.underlying24 Tryd.underlying9 Tryd.cells9 h with ⟨hcs, _⟩ | ⟨a, len, cap, ss, hcs, _, hl, hm, hz, hx, hcell, hws⟩
  · simp only [List.cons.injEq, and_true] at hcs
    subst hcs
    exact ⟨[], TextsAt.nil w⟩
  · simp only [List.cons.injEq, and_true] at hcs
    subst hcs
    have hls : len ≤ ss.length := by rw [hz]; split <;> omega
    have hd : d = .slice (strs (ss.take len)) (strs (ss.drop len)) := congrArg Prod.fst hx
    have hw : DataW.weights Tryd.prog 24 d = ((strs (H := H) (ss.take len)).length + (strs (H := H) (ss.drop len)).length) * Tryd.prog.bytesOf 9 :: (DataW.weightsAll Tryd.prog 9 (strs (H := H) (ss.take len)) ++ DataW.weightsAll Tryd.prog 9 (strs (H := H) (ss.drop len))) := by
      rw [hd, DataW.weights, Tryd.underlying24]
    have h1 := hf _ (by rw [hw]; exact List.mem_cons_self)
    rw [Tryd.bytes9] at h1
    have h2 : ∀ s ∈ ss.take len, s.data.toList.length ≤ reachBytes := fun s hs => hf _ (by
      rw [hw]
      refine List.mem_cons_of_mem _ (List.mem_append_left _ ?_)
      rw [weights_strs]
      exact List.mem_map_of_mem hs)
    have hlen : (strs (H := H) (ss.take len)).length = len := by simp [strs]; omega
    rw [hlen] at h1
    unfold reachBytes at h1 h2
    refine ⟨(ss.take len).map fun s => s.data.toList, some a, cap, by simp; omega, by simp; omega, ?_, ?_⟩
    · intro s hs
      obtain ⟨b, hb, rfl⟩ := List.mem_map.1 hs
      have := h2 b hb
      omega
    · intro hne
      have h0 : 0 < len := by
        rcases Nat.eq_zero_or_pos len with h0 | h0
        · subst h0; simp at hne
        · exact h0
      obtain ⟨b, o, spot⟩ := a
      have hsp : spot = none := by
        have h1 := hcell 0 (by omega)
        simpa [Addr.add] using World.cell?_spot h1
      subst hsp
      have hc : ∀ i, i < ss.length → w.cell? ⟨b, o + i, none⟩ = some (.string (ss.getD i ByteArray.empty)) := fun i hi => by
        have := hcell i hi
        rwa [Addr.add_lit] at this
      refine ⟨b, o, rfl, World.block_lt_of_cell? w ⟨b, o + 0, none⟩ (hc 0 (by omega)), fun i hi => ?_⟩
      have hi' : i < len := by simp at hi; omega
      have hi2 : i < ss.length := by omega
      rw [hc i hi2]
      simp [List.getD, hi2]

/-- Three cells that read as a script. -/
theorem ask_of_trod {fuel b o : Nat} {cs : List Value} {d : DataW H} {pl : List MemPlace} (hc : w.cells? base ⟨b, o, none⟩ 3 = some cs) (h : DataW.trod enc Tryd.prog w base spare held fuel 28 cs = some (d, pl)) (hf : Fits 28 d) : ∃ q : Ask, AskAt w b o q := by
  obtain ⟨_, hlen, hat⟩ := World.cells?_some hc
  match cs, hlen with
  | [v0, v1, v2], _ =>
    have a0 := hat 0 (by omega)
    have a1 := hat 1 (by omega)
    have a2 := hat 2 (by omega)
    rw [Addr.add_lit] at a0 a1 a2
    obtain ⟨xs, n, _, hx, _, hxl, hfl⟩ := DataW.trod_struct Tryd.underlying28 h
    match xs, hxl with
    | [(e0, p0), (e1, p1)], _ =>
      have f0 := hfl 0 _ rfl
      have f1 := hfl 1 _ rfl
      simp only [List.getElem?_cons_zero, List.getElem?_cons_succ] at f0 f1
      have hd : d = .agg [e0, e1] := congrArg Prod.fst hx
      have hw : DataW.weights Tryd.prog 28 d = DataW.weights Tryd.prog 26 e0 ++ (DataW.weights Tryd.prog 24 e1 ++ []) := by
        rw [hd, DataW.weights, Tryd.underlying28]
        rfl
      have hf0 : Fits 26 e0 := fun n hn => hf n (by rw [hw]; exact List.mem_append_left _ hn)
      have hf1 : Fits 24 e1 := fun n hn => hf n (by rw [hw]; exact List.mem_append_right _ (List.mem_append_left _ hn))
      obtain ⟨zs, n', _, hz, _, hzl, hg⟩ := DataW.trod_struct Tryd.underlying26 f0
      match zs, hzl with
      | [(g0, q0), (g1, q1)], _ =>
        have k0 := hg 0 _ rfl
        have k1 := hg 1 _ rfl
        simp only [List.getElem?_cons_zero, List.getElem?_cons_succ] at k0 k1
        have hd2 : e0 = .agg [g0, g1] := congrArg Prod.fst hz
        have hw2 : DataW.weights Tryd.prog 26 e0 = DataW.weights Tryd.prog 3 g0 ++ (DataW.weights Tryd.prog 24 g1 ++ []) := by
          rw [hd2, DataW.weights, Tryd.underlying26]
          rfl
        have hg1 : Fits 24 g1 := fun n hn => hf0 n (by rw [hw2]; exact List.mem_append_right _ (List.mem_append_left _ hn))
        obtain ⟨m, hm, _⟩ := DataW.trod_int Tryd.underlying3 k0
        have k1' : DataW.trod enc Tryd.prog w base spare held n' 24 [v1] = some (g1, q1) := by
          simpa [Tryd.cells24, Tryd.cells26] using k1
        have f1' : DataW.trod enc Tryd.prog w base spare held n 24 [v2] = some (e1, p1) := by
          simpa [Tryd.cells24] using f1
        obtain ⟨l1, h1⟩ := texts_of_trod k1' hg1
        obtain ⟨l2, h2⟩ := texts_of_trod f1' hf1
        obtain rfl : v0 = .int .i64 m := by simpa [Tryd.cells3, Tryd.cells26] using hm
        exact ⟨⟨m, v1, v2, l1, l2⟩, ⟨by simpa using a0, by simpa using a1, by simpa using a2, h1, h2⟩⟩

theorem weights_all {P : Program} {t : TypeId} {d : DataW H} : ∀ {l : List (DataW H)}, d ∈ l → ∀ n ∈ DataW.weights P t d, n ∈ DataW.weightsAll P t l := by
  intro l
  induction l with
  | nil => intro h; cases h
  | cons a r ih =>
    intro h n hn
    show n ∈ DataW.weights P t a ++ DataW.weightsAll P t r
    rcases List.mem_cons.1 h with rfl | h
    · exact List.mem_append_left _ hn
    · exact List.mem_append_right _ (ih h n hn)

/-- A list of scripts that can be read. -/
theorem asks_of_trod {fuel : Nat} {v : Value} {d : DataW H} {pl : List MemPlace} (h : DataW.trod enc Tryd.prog w base spare held fuel 22 [v] = some (d, pl)) (hf : Fits 22 d) : ∃ l : List Ask, AsksAt w v l := by
  rcases open_slice Tryd.underlying22 h with ⟨hcs, _⟩ | ⟨a, len, cap, m, n, D, Pl, hcs, _, hl, hm, hmm, hx, hi⟩
  · simp only [List.cons.injEq, and_true] at hcs
    subst hcs
    exact ⟨[], ⟨none, 0, rfl, Nat.zero_le _, fun h => absurd rfl h⟩⟩
  · simp only [List.cons.injEq, and_true] at hcs
    subst hcs
    have hlm : len ≤ m := by rw [hmm]; split <;> omega
    rw [Tryd.cells28] at hi
    have hd : d = .slice ((List.range len).map D) ((List.range (m - len)).map fun j => D (len + j)) := congrArg Prod.fst hx
    have hfi : ∀ i, i < len → Fits 28 (D i) := fun i hlt n hn => hf n (by
      rw [hd, DataW.weights, Tryd.underlying22]
      refine List.mem_cons_of_mem _ (List.mem_append_left _ ?_)
      exact weights_all (List.mem_map.2 ⟨i, List.mem_range.2 hlt, rfl⟩) n hn)
    rcases Nat.eq_zero_or_pos len with h0 | h0
    · subst h0
      exact ⟨[], ⟨some a, cap, rfl, Nat.zero_le _, fun h => absurd rfl h⟩⟩
    · obtain ⟨b, o, spot⟩ := a
      have hsp : spot = none := by
        obtain ⟨cs', hc, _⟩ := hi 0 (by omega)
        obtain ⟨_, hlen, hat⟩ := World.cells?_some hc
        have h1 := hat 0 (by omega)
        rw [List.getElem?_eq_getElem (by omega)] at h1
        simpa [Addr.add] using World.cell?_spot h1
      subst hsp
      have hq : ∀ i, ∃ q : Ask, i < len → AskAt w b (o + i * 3) q := fun i => by
        by_cases hlt : i < len
        · obtain ⟨cs', hc, ht⟩ := hi i (by omega)
          rw [Addr.add_lit] at hc
          obtain ⟨q, hq⟩ := ask_of_trod hc ht (hfi i hlt)
          exact ⟨q, fun _ => hq⟩
        · exact ⟨⟨0, .slice none 0 0, .slice none 0 0, [], []⟩, fun h => absurd h hlt⟩
      obtain ⟨f, hf⟩ : ∃ f : Nat → Ask, ∀ i, i < len → AskAt w b (o + i * 3) (f i) := ⟨fun i => Classical.choose (hq i), fun i => Classical.choose_spec (hq i)⟩
      refine ⟨(List.range len).map f, ⟨some ⟨b, o, none⟩, cap, by simp, by simp; omega, fun _ => ⟨b, o, rfl, ?_, fun i hi => ?_⟩⟩⟩
      · exact World.block_lt_of_cell? w ⟨b, o + 0 * 3, none⟩ (hf 0 h0).c0
      · have : i < len := by simpa using hi
        simpa using hf i this
end
end Go.Proofs.YtlefeebhilfkjaaDoor

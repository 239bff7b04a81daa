/-
  A list of acts in memory; an argument that can be read as data, opened: its files and its acts lie in memory as the walks want them.
  Conditions: as each theorem states them.
-/
import Derived.Test.YtahmihdahgbhkaaDX
import Derived.Test.YtahmihdahgbhkaaDZ
namespace Go.Proofs.Ytahmihdahgbhkaa
open Go.ChangeShapes Go.WideShapes Go.ChangeAt Go.RowKit Go.Deep Go.Joins

theorem Try.bytes5 : Try.prog.bytesOf 5 = 1 := by kernel_rfl
theorem Try.bytes3 : Try.prog.bytesOf 3 = 8 := by kernel_rfl
theorem Try.bytes37 : Try.prog.bytesOf 37 = 24 := by kernel_rfl
theorem Try.cells22 : Try.prog.cellsOf 22 = 1 := by kernel_rfl
theorem Try.cells23 : Try.prog.cellsOf 23 = 1 := by kernel_rfl
/-- An act. -/
structure Ac where
  d : Int
  n : Int
  a : Int
  k : Int
  b : List UInt8
  p : List Int
/-- An act in six cells. -/
def AcAt (w : World) (g o : Nat) (q : Ac) : Prop :=
  ∃ bv pv, w.cell? ⟨g, o, none⟩ = some (.int .i64 q.d) ∧ w.cell? ⟨g, o + 1, none⟩ = some (.int .i64 q.n) ∧ w.cell? ⟨g, o + 2, none⟩ = some (.int .i64 q.a) ∧ w.cell? ⟨g, o + 3, none⟩ = some (.int .i64 q.k) ∧
    w.cell? ⟨g, o + 4, none⟩ = some bv ∧ w.cell? ⟨g, o + 5, none⟩ = some pv ∧ RB w bv q.b ∧ IA w pv q.p ∧ q.n < 9223372036854775808 ∧ q.b.length ≤ 140737488355328 ∧ q.p.length ≤ 140737488355328
def AcsAt (w : World) (v : Value) (l : List Ac) : Prop :=
  ∃ A c, v = .slice A l.length c ∧ l.length ≤ c ∧ c ≤ maxLen ∧ (l ≠ [] → ∃ b o, A = some ⟨b, o, none⟩ ∧ b < w.heap.size ∧ ∀ i (hi : i < l.length), AcAt w b (o + i * 6) l[i])
theorem AcsAt.slice {w : World} {v : Value} {l : List Ac} (h : AcsAt w v l) : ∃ A c, v = .slice A l.length c ∧ l.length ≤ c ∧ c < 9223372036854775808 := by
  obtain ⟨A, c, hv, h1, h2, _⟩ := h
  exact ⟨A, c, hv, h1, by unfold maxLen at h2; omega⟩
theorem AcsAt.later {w w' : World} {v : Value} {l : List Ac} (h : AcsAt w v l) (hb : Below w.heap.size w w') : AcsAt w' v l := by
  obtain ⟨A, c, hv, h1, h2, h3⟩ := h
  refine ⟨A, c, hv, h1, h2, fun hne => ?_⟩
  obtain ⟨b, o, hA, hlt, hc⟩ := h3 hne
  refine ⟨b, o, hA, Nat.lt_of_lt_of_le hlt hb.size, fun i hi => ?_⟩
  obtain ⟨bv, pv, c0, c1, c2, c3, c4, c5, r1, r2, r3⟩ := hc i hi
  have hk : ∀ j, w'.cell? ⟨b, j, none⟩ = w.cell? ⟨b, j, none⟩ := fun j => hb.cell (p := ⟨b, j, none⟩) hlt
  exact ⟨bv, pv, (hk _).trans c0, (hk _).trans c1, (hk _).trans c2, (hk _).trans c3, (hk _).trans c4, (hk _).trans c5, r1.later hb, r2.later hb, r3⟩
theorem AcsAt.at {w : World} {A : Option Addr} {c n : Nat} {l : List Ac} (h : AcsAt w (.slice A n c) l) {i : Nat} (hi : i < l.length) :
    ∃ (b o : Nat) (bv pv : Value), A = some ⟨b, o, none⟩ ∧ b < w.heap.size ∧ w.cell? ⟨b, o + i * 6, none⟩ = some (.int .i64 l[i].d) ∧ w.cell? ⟨b, o + i * 6 + 1, none⟩ = some (.int .i64 l[i].n) ∧ w.cell? ⟨b, o + i * 6 + 2, none⟩ = some (.int .i64 l[i].a) ∧
      w.cell? ⟨b, o + i * 6 + 3, none⟩ = some (.int .i64 l[i].k) ∧ w.cell? ⟨b, o + i * 6 + 4, none⟩ = some bv ∧ w.cell? ⟨b, o + i * 6 + 5, none⟩ = some pv ∧ RB w bv l[i].b ∧ IA w pv l[i].p ∧ l[i].n < 9223372036854775808 ∧ l[i].b.length ≤ 140737488355328 ∧ l[i].p.length ≤ 140737488355328 := by
  obtain ⟨A', c', hv, _, _, h3⟩ := h
  obtain ⟨b, o, hA, hlt, hc⟩ := h3 (fun e => by rw [e] at hi; simp at hi)
  injection hv with h1 h2 h3
  subst h1
  obtain ⟨bv, pv, r⟩ := hc i hi
  exact ⟨b, o, bv, pv, hA, hlt, r⟩

section
variable {H : Type} {enc : TypeId × Value → H} {w : World} {base : Nat} {held : Bool}
/-- All that a datum weighs is within the form's reach. -/
def Fits (t : TypeId) (d : DataW H) : Prop := ∀ n ∈ DataW.weights Try.prog t d, n ≤ reachBytes
theorem weights_all {P : Program} {t : TypeId} {d : DataW H} : ∀ {l : List (DataW H)}, d ∈ l → ∀ n ∈ DataW.weights P t d, n ∈ DataW.weightsAll P t l := by
  intro l
  induction l with
  | nil => intro h; cases h
  | cons a r ih =>
    intro h n hn
    show n ∈ DataW.weights P t a ++ DataW.weightsAll P t r
    rcases List.mem_cons.1 h with rfl | h
    · exact List.mem_append_left _ hn
    · exact List.mem_append_right _ (ih h n hn)
theorem int_of_trod {fuel : Nat} {v : Value} {x : DataW H × List MemPlace} (h : DataW.trod enc Try.prog w base (fun _ => true) held fuel 3 [v] = some x) : ∃ c : Int, v = .int .i64 c ∧ c < 9223372036854775808 := by
  obtain ⟨z, hz, _, hw⟩ := DataW.trod_int Try.underlying3 h
  simp only [List.cons.injEq, and_true] at hz
  simp [Lit.wf, IntKind.min, IntKind.max, IntKind.signed, IntKind.bits] at hw
  exact ⟨z, hz, by omega⟩
theorem ints_of_trod {fuel : Nat} {v : Value} {d : DataW H} {pl : List MemPlace} (h : DataW.trod enc Try.prog w base (fun _ => true) held fuel 38 [v] = some (d, pl)) (hf : Fits 38 d) : ∃ l : List Int, IA w v l ∧ l.length ≤ 140737488355328 := by
  rcases open_ints Try.underlying38 Try.underlying3 Try.cells3 h with ⟨hv, _⟩ | ⟨a, len, cap, zs, hv, _, hlc, hcm, hzl, hx, hcell, hwf⟩
  · simp only [List.cons.injEq, and_true] at hv
    subst hv
    exact ⟨[], IA.nil w, Nat.zero_le _⟩
  · simp only [List.cons.injEq, and_true] at hv
    simp only [if_true] at hzl
    have hd : d = .slice (lits .i64 (zs.take len)) (lits .i64 (zs.drop len)) := congrArg Prod.fst hx
    have hle : len ≤ 140737488355328 := by
      have := hf (((lits .i64 (zs.take len) : List (DataW H)).length + (lits .i64 (zs.drop len) : List (DataW H)).length) * Try.prog.bytesOf 3) (by
        rw [hd, DataW.weights, Try.underlying38]
        exact List.mem_cons_self ..)
      rw [Try.bytes3] at this
      unfold reachBytes at this
      simp only [lits, List.length_map, List.length_take, List.length_drop] at this
      omega
    have hlen : (zs.take len).length = len := by simp; omega
    refine ⟨zs.take len, ⟨some a, cap, by rw [hlen]; exact hv, by rw [hlen]; exact hlc, hcm, fun hne => ?_⟩, by rw [hlen]; exact hle⟩
    have hpos : 0 < len := by
      apply Nat.pos_of_ne_zero
      rintro rfl
      exact hne (List.eq_nil_of_length_eq_zero hlen)
    obtain ⟨b, o, spot⟩ := a
    have hsp : spot = none := by simpa [Addr.add] using World.cell?_spot (hcell 0 (by omega))
    subst hsp
    have h0 := hcell 0 (by omega)
    rw [Addr.add_lit] at h0
    refine ⟨b, o, rfl, World.block_lt_of_cell? w _ h0, fun i hi => ?_⟩
    have hi' : i < len := by rw [hlen] at hi; exact hi
    have h1 := hcell i (by omega)
    rw [Addr.add_lit] at h1
    rw [h1]
    have h2 : zs.getD i 0 = zs[i]'(by omega) := by simp [List.getD, List.getElem?_eq_getElem (show i < zs.length by omega)]
    rw [h2, List.getElem_take]
theorem bytes_of_trod {fuel : Nat} {v : Value} {d : DataW H} {pl : List MemPlace} (h : DataW.trod enc Try.prog w base (fun _ => true) held fuel 37 [v] = some (d, pl)) (hf : Fits 37 d) : ∃ l : List UInt8, RB w v l ∧ l.length ≤ 140737488355328 := by
  rcases open_ints Try.underlying37 Try.underlying5 Try.cells5 h with ⟨hv, _⟩ | ⟨a, len, cap, zs, hv, _, hlc, hcm, hzl, hx, hcell, hwf⟩
  · simp only [List.cons.injEq, and_true] at hv
    subst hv
    exact ⟨[], RB.nil w, Nat.zero_le _⟩
  · simp only [List.cons.injEq, and_true] at hv
    simp only [if_true] at hzl
    have hd : d = .slice (lits .u8 (zs.take len)) (lits .u8 (zs.drop len)) := congrArg Prod.fst hx
    have hle : len ≤ 140737488355328 := by
      have := hf (((lits .u8 (zs.take len) : List (DataW H)).length + (lits .u8 (zs.drop len) : List (DataW H)).length) * Try.prog.bytesOf 5) (by
        rw [hd, DataW.weights, Try.underlying37]
        exact List.mem_cons_self ..)
      rw [Try.bytes5] at this
      unfold reachBytes at this
      simp only [lits, List.length_map, List.length_take, List.length_drop] at this
      omega
    have hlen : ((zs.take len).map fun z => UInt8.ofNat z.toNat).length = len := by simp; omega
    refine ⟨(zs.take len).map fun z => UInt8.ofNat z.toNat, ⟨some a, cap, by rw [hlen]; exact hv, by rw [hlen]; exact hlc, hcm, fun hne => ?_⟩, by rw [hlen]; exact hle⟩
    have hpos : 0 < len := by
      apply Nat.pos_of_ne_zero
      rintro rfl
      exact hne (List.eq_nil_of_length_eq_zero hlen)
    obtain ⟨b, o, spot⟩ := a
    have hsp : spot = none := by simpa [Addr.add] using World.cell?_spot (hcell 0 (by omega))
    subst hsp
    have h0 := hcell 0 (by omega)
    rw [Addr.add_lit] at h0
    refine ⟨b, o, rfl, World.block_lt_of_cell? w _ h0, fun i u hu => ?_⟩
    have hi' : i < len := by
      have := (List.getElem?_eq_some_iff.1 hu).1
      rw [bc_len, hlen] at this
      exact this
    have h1 := hcell i (by omega)
    rw [Addr.add_lit] at h1
    rw [h1, ← hu]
    have h2 : zs.getD i 0 = zs[i]'(by omega) := by simp [List.getD, List.getElem?_eq_getElem (show i < zs.length by omega)]
    have hw := hwf _ (List.getElem_mem (show i < zs.length by omega))
    rw [h2]
    rw [bc_at (by rw [hlen]; exact hi')]
    simp only [bcell, List.getElem_map, List.getElem_take]
    simp [Lit.wf, IntKind.min, IntKind.max, IntKind.signed, IntKind.bits] at hw
    congr 2
    rw [UInt8.toNat_ofNat']
    omega
/-- A list of bytes. -/
theorem cells_of_trod {fuel : Nat} {v : Value} {d : DataW H} {pl : List MemPlace} (h : DataW.trod enc Try.prog w base (fun _ => true) held fuel 22 [v] = some (d, pl)) (hf : Fits 22 d) : ∃ l, RC w v l ∧ l.length ≤ 140737488355328 ∧ ∀ x ∈ l, x.length ≤ 140737488355328 := by
  rcases open_slice1 Try.underlying22 Try.cells37 h with ⟨hcs, _⟩ | ⟨a, len, cap, m, n, V, D, Pl, hcs, _, hl, hm, hmm, hx, hi⟩
  · simp only [List.cons.injEq, and_true] at hcs
    subst hcs
    exact ⟨[], RC.nil w, Nat.zero_le _, fun x hx => by cases hx⟩
  · simp only [List.cons.injEq, and_true] at hcs
    subst hcs
    have hlm : len ≤ m := by rw [hmm]; split <;> omega
    have hd : d = .slice ((List.range len).map D) ((List.range (m - len)).map fun j => D (len + j)) := congrArg Prod.fst hx
    have hle : len ≤ 140737488355328 := by
      have := hf ((((List.range len).map D).length + ((List.range (m - len)).map fun j => D (len + j)).length) * Try.prog.bytesOf 37) (by
        rw [hd, DataW.weights, Try.underlying22]
        exact List.mem_cons_self ..)
      rw [Try.bytes37] at this
      unfold reachBytes at this
      simp only [List.length_map, List.length_range] at this
      omega
    have hfi : ∀ i, i < len → Fits 37 (D i) := fun i hlt n hn => hf n (by
      rw [hd, DataW.weights, Try.underlying22]
      refine List.mem_cons_of_mem _ (List.mem_append_left _ ?_)
      exact weights_all (List.mem_map.2 ⟨i, List.mem_range.2 hlt, rfl⟩) n hn)
    have hq : ∀ i, ∃ l : List UInt8, i < len → RB w (V i) l ∧ l.length ≤ 140737488355328 := fun i => by
      by_cases hlt : i < len
      · obtain ⟨l, hl⟩ := bytes_of_trod (hi i (by omega)).2 (hfi i hlt)
        exact ⟨l, fun _ => hl⟩
      · exact ⟨[], fun h => absurd h hlt⟩
    obtain ⟨f, hff⟩ : ∃ f : Nat → List UInt8, ∀ i, i < len → RB w (V i) (f i) ∧ (f i).length ≤ 140737488355328 := ⟨fun i => Classical.choose (hq i), fun i => Classical.choose_spec (hq i)⟩
    refine ⟨(List.range len).map f, ⟨some a, cap, by simp, by simp; omega, hm, fun hne => ?_⟩, by simpa using hle, fun x hx => by
      obtain ⟨i, hi', rfl⟩ := List.mem_map.1 hx
      exact (hff i (List.mem_range.1 hi')).2⟩
    have hpos : 0 < len := by
      apply Nat.pos_of_ne_zero
      rintro rfl
      exact hne rfl
    obtain ⟨b, o, spot⟩ := a
    have hsp : spot = none := by simpa [Addr.add] using World.cell?_spot (hi 0 (by omega)).1
    subst hsp
    have h0 := (hi 0 (by omega)).1
    rw [Addr.add_lit] at h0
    refine ⟨b, o, rfl, World.block_lt_of_cell? w _ h0, fun i hi' => ?_⟩
    have hlt : i < len := by simpa using hi'
    have h1 := (hi i (by omega)).1
    rw [Addr.add_lit] at h1
    exact ⟨V i, h1, by simpa using (hff i hlt).1⟩
/-- Six cells that read as an act. -/
theorem act_of_trod {fuel b o : Nat} {cs : List Value} {d : DataW H} {pl : List MemPlace} (hc : w.cells? base ⟨b, o, none⟩ 6 = some cs) (h : DataW.trod enc Try.prog w base (fun _ => true) held fuel 40 cs = some (d, pl)) (hf : Fits 40 d) : ∃ q : Ac, AcAt w b o q := by
  obtain ⟨_, hlen, hat⟩ := World.cells?_some hc
  match cs, hlen with
  | [v0, v1, v2, v3, v4, v5], _ =>
    have a0 := hat 0 (by omega)
    have a1 := hat 1 (by omega)
    have a2 := hat 2 (by omega)
    have a3 := hat 3 (by omega)
    have a4 := hat 4 (by omega)
    have a5 := hat 5 (by omega)
    rw [Addr.add_lit] at a0 a1 a2 a3 a4 a5
    obtain ⟨xs, n, _, hx, _, hxl, hfl⟩ := DataW.trod_struct Try.underlying40 h
    match xs, hxl with
    | [(e0, p0), (e1, p1), (e2, p2), (e3, p3), (e4, p4), (e5, p5)], _ =>
      have f0 := hfl 0 _ rfl
      have f1 := hfl 1 _ rfl
      have f2 := hfl 2 _ rfl
      have f3 := hfl 3 _ rfl
      have f4 := hfl 4 _ rfl
      have f5 := hfl 5 _ rfl
      simp only [List.getElem?_cons_zero, List.getElem?_cons_succ] at f0 f1 f2 f3 f4 f5
      have hd : d = .agg [e0, e1, e2, e3, e4, e5] := congrArg Prod.fst hx
      have hw : DataW.weights Try.prog 40 d = DataW.weights Try.prog 3 e0 ++ (DataW.weights Try.prog 3 e1 ++ (DataW.weights Try.prog 3 e2 ++ (DataW.weights Try.prog 3 e3 ++ (DataW.weights Try.prog 37 e4 ++ (DataW.weights Try.prog 38 e5 ++ []))))) := by
        rw [hd, DataW.weights, Try.underlying40]
        rfl
      have hf4 : Fits 37 e4 := fun n hn => hf n (by rw [hw]; simp [hn])
      have hf5 : Fits 38 e5 := fun n hn => hf n (by rw [hw]; simp [hn])
      have f0' : DataW.trod enc Try.prog w base (fun _ => true) held n 3 [v0] = some (e0, p0) := by simpa [Try.cells3] using f0
      have f1' : DataW.trod enc Try.prog w base (fun _ => true) held n 3 [v1] = some (e1, p1) := by simpa [Try.cells3] using f1
      have f2' : DataW.trod enc Try.prog w base (fun _ => true) held n 3 [v2] = some (e2, p2) := by simpa [Try.cells3] using f2
      have f3' : DataW.trod enc Try.prog w base (fun _ => true) held n 3 [v3] = some (e3, p3) := by simpa [Try.cells3] using f3
      have f4' : DataW.trod enc Try.prog w base (fun _ => true) held n 37 [v4] = some (e4, p4) := by simpa [Try.cells37] using f4
      have f5' : DataW.trod enc Try.prog w base (fun _ => true) held n 38 [v5] = some (e5, p5) := by simpa [Try.cells38] using f5
      obtain ⟨i0, h0, _⟩ := int_of_trod f0'
      obtain ⟨i1, h1, l1⟩ := int_of_trod f1'
      obtain ⟨i2, h2, _⟩ := int_of_trod f2'
      obtain ⟨i3, h3, _⟩ := int_of_trod f3'
      obtain ⟨b4, h4, l4⟩ := bytes_of_trod f4' hf4
      obtain ⟨q5, h5, l5⟩ := ints_of_trod f5' hf5
      subst h0 h1 h2 h3
      exact ⟨⟨i0, i1, i2, i3, b4, q5⟩, v4, v5, by simpa using a0, by simpa using a1, by simpa using a2, by simpa using a3, by simpa using a4, by simpa using a5, h4, h5, l1, l4, l5⟩
/-- A list of acts. -/
theorem acts_of_trod {fuel : Nat} {v : Value} {d : DataW H} {pl : List MemPlace} (h : DataW.trod enc Try.prog w base (fun _ => true) held fuel 23 [v] = some (d, pl)) (hf : Fits 23 d) : ∃ l, AcsAt w v l := by
  rcases open_slice Try.underlying23 h with ⟨hcs, _⟩ | ⟨a, len, cap, m, n, D, Pl, hcs, _, hl, hm, hmm, hx, hi⟩
  · simp only [List.cons.injEq, and_true] at hcs
    subst hcs
    exact ⟨[], none, 0, rfl, Nat.zero_le _, Nat.zero_le _, fun h => absurd rfl h⟩
  · simp only [List.cons.injEq, and_true] at hcs
    subst hcs
    have hlm : len ≤ m := by rw [hmm]; split <;> omega
    rw [Try.cells40] at hi
    have hd : d = .slice ((List.range len).map D) ((List.range (m - len)).map fun j => D (len + j)) := congrArg Prod.fst hx
    have hfi : ∀ i, i < len → Fits 40 (D i) := fun i hlt n hn => hf n (by
      rw [hd, DataW.weights, Try.underlying23]
      refine List.mem_cons_of_mem _ (List.mem_append_left _ ?_)
      exact weights_all (List.mem_map.2 ⟨i, List.mem_range.2 hlt, rfl⟩) n hn)
    rcases Nat.eq_zero_or_pos len with h0 | h0
    · subst h0
      exact ⟨[], some a, cap, rfl, Nat.zero_le _, hm, fun h => absurd rfl h⟩
    · obtain ⟨b, o, spot⟩ := a
      have hsp : spot = none := by
        obtain ⟨cs', hc, _⟩ := hi 0 (by omega)
        obtain ⟨_, hlen, hat⟩ := World.cells?_some hc
        have h1 := hat 0 (by omega)
        rw [List.getElem?_eq_getElem (by omega)] at h1
        simpa [Addr.add] using World.cell?_spot h1
      subst hsp
      have hq : ∀ i, ∃ q : Ac, i < len → AcAt w b (o + i * 6) q := fun i => by
        by_cases hlt : i < len
        · obtain ⟨cs', hc, ht⟩ := hi i (by omega)
          rw [Addr.add_lit] at hc
          obtain ⟨q, hq⟩ := act_of_trod hc ht (hfi i hlt)
          exact ⟨q, fun _ => hq⟩
        · exact ⟨⟨0, 0, 0, 0, [], []⟩, fun h => absurd h hlt⟩
      obtain ⟨f, hff⟩ : ∃ f : Nat → Ac, ∀ i, i < len → AcAt w b (o + i * 6) (f i) := ⟨fun i => Classical.choose (hq i), fun i => Classical.choose_spec (hq i)⟩
      refine ⟨(List.range len).map f, some ⟨b, o, none⟩, cap, by simp, by simp; omega, hm, fun _ => ⟨b, o, rfl, ?_, fun i hi => ?_⟩⟩
      · obtain ⟨bv, pv, c0, _⟩ := hff 0 h0
        exact World.block_lt_of_cell? w ⟨b, o + 0 * 6, none⟩ c0
      · have : i < len := by simpa using hi
        simpa using hff i this
theorem array2 {α : Type} {cs : Array α} (h : cs.size = 2) : ∃ c0 c1, cs = #[c0, c1] := by
  obtain ⟨l⟩ := cs
  match l, h with
  | [c0, c1], _ => exact ⟨c0, c1, rfl⟩
/-- The whole argument. -/
theorem script_of_trod {r : Reach} {b0 : Nat} {v : Value} {d : DataW H} {p : List MemPlace} (hv : Value.okWide Try.prog w r b0 25 v) (h : DataW.Trod enc Try.prog w base (fun _ => true) held 25 v d p) (hf : Fits 25 d) :
    ∃ (u1 u2 : Value) (F : List (List UInt8)) (L : List Ac), v = .agg #[u1, u2] ∧ RC w u1 F ∧ F.length ≤ 140737488355328 ∧ (∀ l ∈ F, l.length ≤ 140737488355328) ∧ AcsAt w u2 L := by
  obtain ⟨cs, rfl, hsz⟩ := okWide_struct Try.underlying25 hv
  obtain ⟨c0, c1, rfl⟩ := array2 (hsz.trans Try.cells25)
  obtain ⟨fuel, hf0⟩ := h
  obtain ⟨xs, n, _, hx, _, hxl, hfl⟩ := DataW.trod_struct Try.underlying25 hf0
  match xs, hxl with
  | [(e0, p0), (e1, p1)], _ =>
    have f0 := hfl 0 _ rfl
    have f1 := hfl 1 _ rfl
    simp only [List.getElem?_cons_zero, List.getElem?_cons_succ] at f0 f1
    have hd : d = .agg [e0, e1] := congrArg Prod.fst hx
    have hw : DataW.weights Try.prog 25 d = DataW.weights Try.prog 22 e0 ++ (DataW.weights Try.prog 23 e1 ++ []) := by
      rw [hd, DataW.weights, Try.underlying25]
      rfl
    have hg0 : Fits 22 e0 := fun n hn => hf n (by rw [hw]; exact List.mem_append_left _ hn)
    have hg1 : Fits 23 e1 := fun n hn => hf n (by rw [hw]; exact List.mem_append_right _ (List.mem_append_left _ hn))
    have f0' : DataW.trod enc Try.prog w base (fun _ => true) held n 22 [c0] = some (e0, p0) := by simpa [Value.cells, Try.cells22] using f0
    have f1' : DataW.trod enc Try.prog w base (fun _ => true) held n 23 [c1] = some (e1, p1) := by simpa [Value.cells, Try.cells23] using f1
    obtain ⟨F, hF, h1, h2⟩ := cells_of_trod f0' hg0
    obtain ⟨L, hL⟩ := acts_of_trod f1' hg1
    exact ⟨c0, c1, F, L, rfl, hF, h1, h2, hL⟩
end
end Go.Proofs.Ytahmihdahgbhkaa

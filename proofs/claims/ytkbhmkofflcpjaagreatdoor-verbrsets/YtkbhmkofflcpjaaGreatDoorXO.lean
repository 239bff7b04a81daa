/-
  Arguments that can be read as data, opened: a list of scripts (a command, a line, a number) lies in memory as the walks want it; heavy and wakes of the statements' text, walked.
  Conditions: as each theorem states them: each text takes no more room than the form's reach.
-/
import Derived.Test.YtkbhmkofflcpjaaGreatDoorWH
import Derived.ProofKit
import Derived.SliceStrings
import Derived.Deep.Slices
import Derived.OpenShut
namespace Go.Proofs.YtkbhmkofflcpjaaGreatDoor
open Go.ChangeShapes Go.WideShapes Go.RowKit Go.Deep

/-- One script: a command (or not), a line, a number. -/
structure Ask where
  v : Vb
  s : List UInt8
  n : Int

/-- Script q lies in block b from place o on. -/
structure AskAt (w : World) (b o : Nat) (q : Ask) : Prop where
  c0 : w.cell? ⟨b, o, none⟩ = some (.int .i64 q.v.kind)
  c1 : w.cell? ⟨b, o + 1, none⟩ = some (.string ⟨q.v.word.toArray⟩)
  c2 : w.cell? ⟨b, o + 2, none⟩ = some (.bool q.v.null)
  c3 : w.cell? ⟨b, o + 3, none⟩ = some (.string ⟨q.v.l.toArray⟩)
  c4 : w.cell? ⟨b, o + 4, none⟩ = some (.string ⟨q.v.d.toArray⟩)
  c5 : w.cell? ⟨b, o + 5, none⟩ = some (.int .i64 q.v.size)
  c6 : w.cell? ⟨b, o + 6, none⟩ = some (.string ⟨q.s.toArray⟩)
  c7 : w.cell? ⟨b, o + 7, none⟩ = some (.int .i64 q.n)
  b1 : q.v.word.length ≤ 140737488355328
  b3 : q.v.l.length ≤ 140737488355328
  b4 : q.v.d.length ≤ 140737488355328
  b6 : q.s.length ≤ 140737488355328

/-- A list of scripts in memory. -/
def AsksAt (w : World) (v : Value) (l : List Ask) : Prop :=
  ∃ A c, v = .slice A l.length c ∧ l.length ≤ maxLen ∧ (l ≠ [] → ∃ b o, A = some ⟨b, o, none⟩ ∧ b < w.heap.size ∧ ∀ i (hi : i < l.length), AskAt w b (o + i * 8) l[i])

theorem AskAt.keep {w w' : World} {b o : Nat} {q : Ask} (h : AskAt w b o q) {B : Nat} (hb : Below B w w') (hlt : b < B) : AskAt w' b o q :=
  ⟨(hb.cell (p := ⟨b, o, none⟩) hlt).trans h.c0, (hb.cell (p := ⟨b, o + 1, none⟩) hlt).trans h.c1, (hb.cell (p := ⟨b, o + 2, none⟩) hlt).trans h.c2, (hb.cell (p := ⟨b, o + 3, none⟩) hlt).trans h.c3, (hb.cell (p := ⟨b, o + 4, none⟩) hlt).trans h.c4, (hb.cell (p := ⟨b, o + 5, none⟩) hlt).trans h.c5, (hb.cell (p := ⟨b, o + 6, none⟩) hlt).trans h.c6, (hb.cell (p := ⟨b, o + 7, none⟩) hlt).trans h.c7, h.b1, h.b3, h.b4, h.b6⟩

theorem upB {B : Nat} {a b : World} (h : Below B a b) (hB : B ≤ a.heap.size) {c : World} (k : Below b.heap.size b c) : Below B a c := h.trans (k.mono (Nat.le_trans hB h.size))

section
variable {H : Type} {enc : TypeId × Value → H} {w : World} {base : Nat} {spare : Nat → Bool} {held : Bool}

theorem Tryz.cells9 : Tryz.prog.cellsOf 9 = 1 := by kernel_rfl
theorem Tryz.cells3 : Tryz.prog.cellsOf 3 = 1 := by kernel_rfl
theorem Tryz.cells4 : Tryz.prog.cellsOf 4 = 1 := by kernel_rfl
theorem Tryz.cells25 : Tryz.prog.cellsOf 25 = 2 := by kernel_rfl
theorem Tryz.cells27 : Tryz.prog.cellsOf 27 = 6 := by kernel_rfl
theorem Tryz.cells29 : Tryz.prog.cellsOf 29 = 8 := by kernel_rfl

/-- All that a datum weighs is within the form's reach. -/
def Fits (t : TypeId) (d : DataW H) : Prop := ∀ n ∈ DataW.weights Tryz.prog t d, n ≤ reachBytes

theorem text_of_trod {fuel : Nat} {v : Value} {d : DataW H} {pl : List MemPlace} (h : DataW.trod enc Tryz.prog w base spare held fuel 9 [v] = some (d, pl)) (hf : Fits 9 d) : ∃ l : List UInt8, v = .string ⟨l.toArray⟩ ∧ l.length ≤ 140737488355328 := by
  obtain ⟨s, hs, hx, _⟩ := DataW.trod_string Tryz.underlying9 h
  simp only [List.cons.injEq, and_true] at hs
  subst hs
  have hd : d = .lit (.string s.data.toList) := congrArg Prod.fst hx
  have h1 := hf s.data.toList.length (by rw [hd]; exact List.mem_singleton.2 rfl)
  unfold reachBytes at h1
  exact ⟨s.data.toList, by rw [Lib.mk_data], by omega⟩
theorem int_of_trod {fuel : Nat} {v : Value} {d : DataW H} {pl : List MemPlace} (h : DataW.trod enc Tryz.prog w base spare held fuel 3 [v] = some (d, pl)) : ∃ n : Int, v = .int .i64 n := by
  obtain ⟨n, hn, _⟩ := DataW.trod_int Tryz.underlying3 h
  simp only [List.cons.injEq, and_true] at hn
  exact ⟨n, hn⟩
theorem bool_of_trod {fuel : Nat} {v : Value} {d : DataW H} {pl : List MemPlace} (h : DataW.trod enc Tryz.prog w base spare held fuel 4 [v] = some (d, pl)) : ∃ x : Bool, v = .bool x := by
  obtain ⟨x, hx, _⟩ := DataW.trod_bool Tryz.underlying4 h
  simp only [List.cons.injEq, and_true] at hx
  exact ⟨x, hx⟩

/-- Eight cells that read as a script. -/
theorem ask_of_trod {fuel b o : Nat} {cs : List Value} {d : DataW H} {pl : List MemPlace} (hc : w.cells? base ⟨b, o, none⟩ 8 = some cs) (h : DataW.trod enc Tryz.prog w base spare held fuel 29 cs = some (d, pl)) (hf : Fits 29 d) : ∃ q : Ask, AskAt w b o q := by
  obtain ⟨_, hlen, hat⟩ := World.cells?_some hc
  match cs, hlen with
  | [v0, v1, v2, v3, v4, v5, v6, v7], _ =>
    have a0 := hat 0 (by omega)
    have a1 := hat 1 (by omega)
    have a2 := hat 2 (by omega)
    have a3 := hat 3 (by omega)
    have a4 := hat 4 (by omega)
    have a5 := hat 5 (by omega)
    have a6 := hat 6 (by omega)
    have a7 := hat 7 (by omega)
    rw [Addr.add_lit] at a0 a1 a2 a3 a4 a5 a6 a7
    obtain ⟨xs, n, _, hx, _, hxl, hfl⟩ := DataW.trod_struct Tryz.underlying29 h
    match xs, hxl with
    | [(e0, p0), (e1, p1), (e2, p2)], _ =>
      have f0 := hfl 0 _ rfl
      have f1 := hfl 1 _ rfl
      have f2 := hfl 2 _ rfl
      simp only [List.getElem?_cons_zero, List.getElem?_cons_succ] at f0 f1 f2
      have hd : d = .agg [e0, e1, e2] := congrArg Prod.fst hx
      have hw : DataW.weights Tryz.prog 29 d = DataW.weights Tryz.prog 27 e0 ++ (DataW.weights Tryz.prog 9 e1 ++ (DataW.weights Tryz.prog 3 e2 ++ [])) := by
        rw [hd, DataW.weights, Tryz.underlying29]
        rfl
      have hf0 : Fits 27 e0 := fun n hn => hf n (by rw [hw]; exact List.mem_append_left _ hn)
      have hf1 : Fits 9 e1 := fun n hn => hf n (by rw [hw]; exact List.mem_append_right _ (List.mem_append_left _ hn))
      obtain ⟨zs, n', _, hz, _, hzl, hg⟩ := DataW.trod_struct Tryz.underlying27 f0
      match zs, hzl with
      | [(g0, q0), (g1, q1), (g2, q2), (g3, q3), (g4, q4)], _ =>
        have k0 := hg 0 _ rfl
        have k1 := hg 1 _ rfl
        have k2 := hg 2 _ rfl
        have k3 := hg 3 _ rfl
        have k4 := hg 4 _ rfl
        simp only [List.getElem?_cons_zero, List.getElem?_cons_succ] at k0 k1 k2 k3 k4
        have hd2 : e0 = .agg [g0, g1, g2, g3, g4] := congrArg Prod.fst hz
        have hw2 : DataW.weights Tryz.prog 27 e0 = DataW.weights Tryz.prog 3 g0 ++ (DataW.weights Tryz.prog 9 g1 ++ (DataW.weights Tryz.prog 4 g2 ++ (DataW.weights Tryz.prog 25 g3 ++ (DataW.weights Tryz.prog 3 g4 ++ [])))) := by
          rw [hd2, DataW.weights, Tryz.underlying27]
          rfl
        have hg1 : Fits 9 g1 := fun n hn => hf0 n (by rw [hw2]; exact List.mem_append_right _ (List.mem_append_left _ hn))
        have hg3 : Fits 25 g3 := fun n hn => hf0 n (by rw [hw2]; exact List.mem_append_right _ (List.mem_append_right _ (List.mem_append_right _ (List.mem_append_left _ hn))))
        have k3a : DataW.trod enc Tryz.prog w base spare held n' 25 [v3, v4] = some (g3, q3) := by
          simpa [Tryz.cells9, Tryz.cells3, Tryz.cells4, Tryz.cells25, Tryz.cells27] using k3
        obtain ⟨ys, n'', _, hy, _, hyl, hh⟩ := DataW.trod_struct Tryz.underlying25 k3a
        match ys, hyl with
        | [(m0, r0), (m1, r1)], _ =>
          have j0 := hh 0 _ rfl
          have j1 := hh 1 _ rfl
          simp only [List.getElem?_cons_zero, List.getElem?_cons_succ] at j0 j1
          have hd3 : g3 = .agg [m0, m1] := congrArg Prod.fst hy
          have hw3 : DataW.weights Tryz.prog 25 g3 = DataW.weights Tryz.prog 9 m0 ++ (DataW.weights Tryz.prog 9 m1 ++ []) := by
            rw [hd3, DataW.weights, Tryz.underlying25]
            rfl
          have hm0 : Fits 9 m0 := fun n hn => hg3 n (by rw [hw3]; exact List.mem_append_left _ hn)
          have hm1 : Fits 9 m1 := fun n hn => hg3 n (by rw [hw3]; exact List.mem_append_right _ (List.mem_append_left _ hn))
          have j0' : DataW.trod enc Tryz.prog w base spare held n'' 9 [v3] = some (m0, r0) := by
            simpa [Tryz.cells9, Tryz.cells25] using j0
          have j1' : DataW.trod enc Tryz.prog w base spare held n'' 9 [v4] = some (m1, r1) := by
            simpa [Tryz.cells9, Tryz.cells25] using j1
          have k0' : DataW.trod enc Tryz.prog w base spare held n' 3 [v0] = some (g0, q0) := by
            simpa [Tryz.cells9, Tryz.cells3, Tryz.cells4, Tryz.cells25, Tryz.cells27] using k0
          have k1' : DataW.trod enc Tryz.prog w base spare held n' 9 [v1] = some (g1, q1) := by
            simpa [Tryz.cells9, Tryz.cells3, Tryz.cells4, Tryz.cells25, Tryz.cells27] using k1
          have k2' : DataW.trod enc Tryz.prog w base spare held n' 4 [v2] = some (g2, q2) := by
            simpa [Tryz.cells9, Tryz.cells3, Tryz.cells4, Tryz.cells25, Tryz.cells27] using k2
          have k4' : DataW.trod enc Tryz.prog w base spare held n' 3 [v5] = some (g4, q4) := by
            simpa [Tryz.cells9, Tryz.cells3, Tryz.cells4, Tryz.cells25, Tryz.cells27] using k4
          have f1' : DataW.trod enc Tryz.prog w base spare held n 9 [v6] = some (e1, p1) := by
            simpa [Tryz.cells9, Tryz.cells3, Tryz.cells27] using f1
          have f2' : DataW.trod enc Tryz.prog w base spare held n 3 [v7] = some (e2, p2) := by
            simpa [Tryz.cells9, Tryz.cells3, Tryz.cells27] using f2
          obtain ⟨i0, rfl⟩ := int_of_trod k0'
          obtain ⟨l1, rfl, b1⟩ := text_of_trod k1' hg1
          obtain ⟨x2, rfl⟩ := bool_of_trod k2'
          obtain ⟨l3, rfl, b3⟩ := text_of_trod j0' hm0
          obtain ⟨l4, rfl, b4⟩ := text_of_trod j1' hm1
          obtain ⟨i5, rfl⟩ := int_of_trod k4'
          obtain ⟨l6, rfl, b6⟩ := text_of_trod f1' hf1
          obtain ⟨i7, rfl⟩ := int_of_trod f2'
          exact ⟨⟨⟨i0, l1, x2, l3, l4, i5⟩, l6, i7⟩, ⟨by simpa using a0, by simpa using a1, by simpa using a2, by simpa using a3, by simpa using a4, by simpa using a5, by simpa using a6, by simpa using a7, b1, b3, b4, b6⟩⟩

theorem weights_all {P : Program} {t : TypeId} {d : DataW H} : ∀ {l : List (DataW H)}, d ∈ l → ∀ n ∈ DataW.weights P t d, n ∈ DataW.weightsAll P t l := by
  intro l
  induction l with
  | nil => intro h; cases h
  | cons a r ih =>
    intro h n hn
    show n ∈ DataW.weights P t a ++ DataW.weightsAll P t r
    rcases List.mem_cons.1 h with rfl | h
    · exact List.mem_append_left _ hn
    · exact List.mem_append_right _ (ih h n hn)

/-- A list of scripts that can be read. -/
theorem asks_of_trod {fuel : Nat} {v : Value} {d : DataW H} {pl : List MemPlace} (h : DataW.trod enc Tryz.prog w base spare held fuel 22 [v] = some (d, pl)) (hf : Fits 22 d) : ∃ l : List Ask, AsksAt w v l := by
  rcases open_slice Tryz.underlying22 h with ⟨hcs, _⟩ | ⟨a, len, cap, m, n, D, Pl, hcs, _, hl, hm, hmm, hx, hi⟩
  · simp only [List.cons.injEq, and_true] at hcs
    subst hcs
    exact ⟨[], ⟨none, 0, rfl, Nat.zero_le _, fun h => absurd rfl h⟩⟩
  · simp only [List.cons.injEq, and_true] at hcs
    subst hcs
    have hlm : len ≤ m := by rw [hmm]; split <;> omega
    rw [Tryz.cells29] at hi
    have hd : d = .slice ((List.range len).map D) ((List.range (m - len)).map fun j => D (len + j)) := congrArg Prod.fst hx
    have hfi : ∀ i, i < len → Fits 29 (D i) := fun i hlt n hn => hf n (by
      rw [hd, DataW.weights, Tryz.underlying22]
      refine List.mem_cons_of_mem _ (List.mem_append_left _ ?_)
      exact weights_all (List.mem_map.2 ⟨i, List.mem_range.2 hlt, rfl⟩) n hn)
    rcases Nat.eq_zero_or_pos len with h0 | h0
    · subst h0
      exact ⟨[], ⟨some a, cap, rfl, Nat.zero_le _, fun h => absurd rfl h⟩⟩
    · obtain ⟨b, o, spot⟩ := a
      have hsp : spot = none := by
        obtain ⟨cs', hc, _⟩ := hi 0 (by omega)
        obtain ⟨_, hlen, hat⟩ := World.cells?_some hc
        have h1 := hat 0 (by omega)
        rw [List.getElem?_eq_getElem (by omega)] at h1
        simpa [Addr.add] using World.cell?_spot h1
      subst hsp
      have hq : ∀ i, ∃ q : Ask, i < len → AskAt w b (o + i * 8) q := fun i => by
        by_cases hlt : i < len
        · obtain ⟨cs', hc, ht⟩ := hi i (by omega)
          rw [Addr.add_lit] at hc
          obtain ⟨q, hq⟩ := ask_of_trod hc ht (hfi i hlt)
          exact ⟨q, fun _ => hq⟩
        · exact ⟨⟨zeroV, [], 0⟩, fun h => absurd h hlt⟩
      obtain ⟨f, hf⟩ : ∃ f : Nat → Ask, ∀ i, i < len → AskAt w b (o + i * 8) (f i) := ⟨fun i => Classical.choose (hq i), fun i => Classical.choose_spec (hq i)⟩
      refine ⟨(List.range len).map f, ⟨some ⟨b, o, none⟩, cap, by simp, by simp; omega, fun _ => ⟨b, o, rfl, ?_, fun i hi => ?_⟩⟩⟩
      · exact World.block_lt_of_cell? w ⟨b, o + 0 * 8, none⟩ (hf 0 h0).c0
      · have : i < len := by simpa using hi
        simpa using hf i this
end

/-- What heavy tells. -/
def HeavyEnd (v : Vb) (s : List UInt8) (e : Ending) : Prop := e = .returned (.bool true) ∨ (e = .returned (.bool false) ∧ Short 2000 v ∧ s.length ≤ 2000)

set_option maxHeartbeats 1000000 in
theorem heavy_any (v : Vb) (s : List UInt8) (n : Int) (w : World) (h1 : v.word.length ≤ 140737488355328) (h3 : v.l.length ≤ 140737488355328) (h4 : v.d.length ≤ 140737488355328) (h6 : s.length ≤ 140737488355328) :
    Calls Tryz.prog 15 #[.agg #[.int .i64 v.kind, .string ⟨v.word.toArray⟩, .bool v.null, .string ⟨v.l.toArray⟩, .string ⟨v.d.toArray⟩, .int .i64 v.size, .string ⟨s.toArray⟩, .int .i64 n]] w fun e w' => HeavyEnd v s e ∧ Below w.heap.size w w' := by
  have HA := Lib.hid ((Below.refl _ w).alloc (Nat.le_refl _) (.cells #[.int .i64 v.kind, .string ⟨v.word.toArray⟩, .bool v.null, .string ⟨v.l.toArray⟩, .string ⟨v.d.toArray⟩, .int .i64 v.size, .string ⟨s.toArray⟩, .int .i64 n] 29))
  obtain ⟨k, wd, x, l, d, z⟩ := v
  simp only at h1 h3 h4 HA ⊢
  by_cases hb : (2000 : Int) < (wd.length : Int) + (l.length : Int) + (d.length : Int)
  · go_enter Tryz.func15, Tryz.ntmps15
    go_wp2_with fail
    go_ret
    exact ⟨.inl rfl, HA.out⟩
  · by_cases h2 : (2000 : Int) < (s.length : Int)
    · go_enter Tryz.func15, Tryz.ntmps15
      go_wp2_with fail
      go_ret
      exact ⟨.inl rfl, HA.out⟩
    · go_enter Tryz.func15, Tryz.ntmps15
      go_wp2_with fail
      go_ret
      exact ⟨.inr ⟨rfl, ⟨by show wd.length ≤ 2000; omega, by show l.length ≤ 2000; omega, by show d.length ≤ 2000; omega⟩, by omega⟩, HA.out⟩

theorem wake_read : readV [109, 97, 105, 108, 32, 102, 114, 111, 109, 58, 60, 62, 32, 115, 105, 122, 101, 61, 49, 48] = (⟨3, [], true, [], [], 10⟩, 0) := by kernel_rfl

set_option maxHeartbeats 1000000 in
theorem wakes_any (w : World) (hg : Gl w) : Calls Tryz.prog 21 #[] w fun e w' => e = .returned (.bool true) ∧ Below w.heap.size w w' := by
  have h := vParse_any [109, 97, 105, 108, 32, 102, 114, 111, 109, 58, 60, 62, 32, 115, 105, 122, 101, 61, 49, 48] w (by decide) hg
  rw [wake_read] at h
  have HP := Lib.hid (show Calls Tryz.prog 22 #[.string ⟨#[109, 97, 105, 108, 32, 102, 114, 111, 109, 58, 60, 62, 32, 115, 105, 122, 101, 61, 49, 48]⟩] w fun e w' => e = .returned (.tuple #[.agg #[.int .i64 3, .string ⟨#[]⟩, .bool true, .string ⟨#[]⟩, .string ⟨#[]⟩, .int .i64 10], .int .i64 0]) ∧ Below w.heap.size w w' from h)
  clear h hg
  go_enter Tryz.func21, Tryz.ntmps21
  go_wp2_with fail
  refine Calls.mono HP.out ?_
  rintro e w1 ⟨rfl, hb⟩
  have HB := Lib.hid (hb.alloc hb.size (.cells #[.int .i64 3, .string ⟨#[]⟩, .bool true, .string ⟨#[]⟩, .string ⟨#[]⟩, .int .i64 10] 27))
  clear hb
  go_wp2_with fail
  refine (num_any _ _).mono ?_
  rintro e w2 ⟨rfl, rfl⟩
  go_wp2_with fail
  go_ret
  exact ⟨rfl, HB.out⟩
end Go.Proofs.YtkbhmkofflcpjaaGreatDoor

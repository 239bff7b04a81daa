/-
  Bytes made of a text, and a text made of bytes; the statements' own wakes, walked.
  Conditions: as each theorem states them.
-/
import Derived.Test.YtahmihdahgbhkaaDW
import Derived.Laws.IdiomStrings
import Derived.Laws.BytesArg
import Derived.Lib.SlBytesConst
namespace Go.Proofs.Ytahmihdahgbhkaa
open Go.RowKit

/-- Bytes that are written out: the row, marked. -/
theorem lit_b (w : World) (l : List UInt8) (C : Array Value) (n : Nat) (hn : l.length = n) (hC : (bc l).toArray = C) (h : n ≤ 1000) :
    ∃ W, (convert 37 37 (.slice (some ⟨w.heap.size, 0, none⟩) n n)).run Try.prog (w.alloc (.cells C 5)) = .ok (.slice (some ⟨w.heap.size, 0, none⟩) n n) W ∧ Below w.heap.size w W ∧ RB W (.slice (some ⟨w.heap.size, 0, none⟩) n n) l ∧
      (∀ j, (Value.slice (some ⟨w.heap.size, 0, none⟩) n n).ownBlock = some j → w.heap.size = j) ∧ W.heap.size = w.heap.size + 1 := by
  subst hn hC
  refine ⟨_, Lib.run_convert_bytes_const (P := Try.prog) w 37 5 _ l.length l.length Try.underlying37 Try.underlying5, (Below.refl _ w).alloc (Nat.le_refl _) _, ⟨_, _, rfl, Nat.le_refl _, by unfold maxLen; omega, fun _ => ⟨w.heap.size, 0, rfl, by simp, fun j u hu => ?_⟩⟩, fun j hj => by simpa [Value.ownBlock] using hj, by simp⟩
  simp only [World.cell?, Nat.zero_add]
  have hb : (w.alloc (.cells (bc l).toArray 5 ((bc l).toArray.size, (bc l).toArray.size + 1))).heap[w.heap.size]? = some (.cells (bc l).toArray 5 ((bc l).toArray.size, (bc l).toArray.size + 1)) := by
    show (w.heap.push _)[w.heap.size]? = _
    simp
  rw [hb]
  simpa using hu
/-- Bytes as a text. -/
theorem to_str (w : World) (v : Value) (l : List UInt8) (h : RB w v l) : (convert 37 9 v).run Try.prog w = .ok (.string ⟨l.toArray⟩) w := by
  obtain ⟨A, c, rfl, h1, h2, h3⟩ := h
  by_cases hl : l = []
  · subst hl
    cases A with
    | none => exact run_convert_bytes_nil (P := Try.prog) w 37 5 Try.underlying37 Try.underlying5 0 c 9 Try.underlying9
    | some a => exact run_convert_bytes_back (P := Try.prog) w 37 9 5 a c [] Try.underlying37 Try.underlying5 Try.underlying9 (fun j hj => absurd hj (by simp))
  · obtain ⟨b, o, rfl, _, hc⟩ := h3 hl
    exact run_convert_bytes_back (P := Try.prog) w 37 9 5 ⟨b, o, none⟩ c l Try.underlying37 Try.underlying5 Try.underlying9 (fun j hj => by
      rw [Addr.add_lit]
      exact hc j _ (bc_at hj))
/-- No file has more changes than k. -/
def MxD (d : Dk) (k : Nat) : Prop := ∀ m, (d.f m).done.length ≤ k
theorem MxD.new (ls : List (List UInt8)) : MxD (newDk ls) 0 := fun _ => Nat.le_refl _
theorem MxD.mono {d : Dk} {k j : Nat} (h : MxD d k) (hk : k ≤ j) : MxD d j := fun m => Nat.le_trans (h m) hk
theorem MxD.pow {d : Dk} {k : Nat} (h : MxD d k) (q : Pw) : MxD ⟨d.f, q⟩ k := h
theorem MxD.act {d : Dk} {k : Nat} (h : MxD d k) (n : Int) (lim : Fl → Bool) (g : Fl → Fl) (hg : ∀ f : Fl, f.done.length ≤ k → (g f).done.length ≤ k + 1) : MxD (actD d n lim g).1 (k + 1) := by
  unfold actD
  have h0 : MxD ⟨d.f, tickP d.p⟩ (k + 1) := h.mono (Nat.le_succ _)
  split
  · exact h0
  · split
    · split
      · intro m
        simp only [Dk.put]
        split
        · exact hg _ (h _)
        · exact h0 m
      · exact h0
    · exact h0
theorem MxD.wr {d : Dk} {k : Nat} (h : MxD d k) (n a : Int) (b : List UInt8) : MxD (wrD d n a b).1 (k + 1) := h.act _ _ _ fun f hf => by simp [wrG]; omega
theorem MxD.cut {d : Dk} {k : Nat} (h : MxD d k) (n a : Int) : MxD (cutD d n a).1 (k + 1) := h.act _ _ _ fun f hf => by simp [cutG]; omega
theorem MxD.sy {d : Dk} {k : Nat} (h : MxD d k) (n : Int) : MxD (syD d n).1 (k + 1) := h.act _ _ _ fun f hf => by simp [syG]
theorem MxD.lt {d : Dk} {k : Nat} (h : MxD d k) (hk : k < 1000000) : ∀ m, (d.f m).done.length < 1000000 := fun m => Nat.lt_of_le_of_lt (h m) hk
/-- A disk of the package that a call uses, with all its blocks from B on. -/
theorem NewK.op {S : List Nat} {B p : Nat} {d : Dk} {w w' : World} {ρ : Ro} (hB : RoOk ρ B w) (hS : 0 ∉ S) (hs : B ≤ w.heap.size) (h : OpK S w ρ B p d w') : NewK B p d w' ∧ Below B w w' := by
  obtain ⟨ρ', h1, h2, x, h3⟩ := h
  exact ⟨⟨ρ', x, h2, h3⟩, h1.below hs hB hS⟩
/-- A disk of the package, all of it from B on, in a later world. -/
theorem NewK.later {B p : Nat} {d : Dk} {w w' : World} (h : NewK B p d w) (hb : Below w.heap.size w w') : NewK B p d w' := h.step (Kept.of hb)
/-- Calls on a new disk. -/
theorem nWrite (w0 w : World) (B p k : Nat) (d : Dk) (h : NewK B p d w0) (hw : Below w0.heap.size w0 w) (hB : B ≤ w0.heap.size) (n a : Int) (b : List UInt8) (bv : Value) (hbv : RB w bv b) (hbb : ∀ j, bv.ownBlock = some j → j < B ∨ w0.heap.size ≤ j) (hm : MxD d k) (hk : k < 1000000) :
    Calls Try.prog 34 #[.pointer (some ⟨p, 0, none⟩), .int .i64 n, .int .i64 a, bv] w fun e w' => e = .returned (.int .i64 (wrD d n a b).2) ∧ NewK B p (wrD d n a b).1 w' ∧ Below B w w' := by
  obtain ⟨ρ, x, hr, hx⟩ := h
  refine (Write_any w ρ B p x d (hx.step (Step.of (S := []) hw) (by simp)) (hr.later hw.size) (Nat.le_trans hB hw.size) n a b bv hbv (fun j hj => ?_) (hm.lt hk)).mono ?_
  · have : ρ j = 0 := Classical.byContradiction fun e => by
      have h1 := hr j e
      rcases hbb j hj with h2 | h2 <;> omega
    rw [this]
    simp
  · rintro e w' ⟨rfl, ho⟩
    exact ⟨rfl, NewK.op (hr.later hw.size) (by decide) (Nat.le_trans hB hw.size) ho⟩
theorem nCut (w : World) (B p k : Nat) (d : Dk) (h : NewK B p d w) (hB : B ≤ w.heap.size) (n a : Int) (hm : MxD d k) (hk : k < 1000000) :
    Calls Try.prog 22 #[.pointer (some ⟨p, 0, none⟩), .int .i64 n, .int .i64 a] w fun e w' => e = .returned (.int .i64 (cutD d n a).2) ∧ NewK B p (cutD d n a).1 w' ∧ Below B w w' := by
  obtain ⟨ρ, x, hr, hx⟩ := h
  refine (Cut_any w ρ B p x d hx hr hB n a (hm.lt hk)).mono ?_
  rintro e w' ⟨rfl, ho⟩
  exact ⟨rfl, NewK.op hr (by decide) hB ho⟩
theorem nSync (w : World) (B p : Nat) (d : Dk) (h : NewK B p d w) (hB : B ≤ w.heap.size) (n : Int) :
    Calls Try.prog 24 #[.pointer (some ⟨p, 0, none⟩), .int .i64 n] w fun e w' => e = .returned (.int .i64 (syD d n).2) ∧ NewK B p (syD d n).1 w' ∧ Below B w w' := by
  obtain ⟨ρ, x, hr, hx⟩ := h
  refine (Sync_any w ρ B p x d hx hr hB n).mono ?_
  rintro e w' ⟨rfl, ho⟩
  exact ⟨rfl, NewK.op hr (by decide) hB ho⟩
theorem nOff (w : World) (B p : Nat) (d : Dk) (h : NewK B p d w) (hB : B ≤ w.heap.size) (n : Int) (hn : n < 9223372036854775808) :
    Calls Try.prog 26 #[.pointer (some ⟨p, 0, none⟩), .int .i64 n] w fun e w' => e = .returned (.tuple #[]) ∧ NewK B p ⟨d.f, setP n d.p⟩ w' ∧ Below B w w' := by
  obtain ⟨ρ, x, hr, hx⟩ := h
  refine (Off_any w ρ B p x d hx hr n hn).mono ?_
  rintro e w' ⟨rfl, ho⟩
  exact ⟨rfl, NewK.op hr (by decide) hB ho⟩
theorem nSize (w : World) (B p : Nat) (d : Dk) (h : NewK B p d w) (n : Int) :
    Calls Try.prog 16 #[.pointer (some ⟨p, 0, none⟩), .int .i64 n] w fun e w' => e = .returned (.tuple #[.int .i64 (sizeD d n).1, .int .i64 (sizeD d n).2]) ∧ NewK B p d w' ∧ Below w.heap.size w w' := by
  have h' := h
  obtain ⟨ρ, x, hr, hx⟩ := h
  refine (Size_any w ρ B p x d hx n).mono ?_
  rintro e w' ⟨rfl, hb⟩
  exact ⟨rfl, h'.later hb, hb⟩
theorem nRead (w : World) (B p : Nat) (d : Dk) (h : NewK B p d w) (n a k : Int) :
    Calls Try.prog 18 #[.pointer (some ⟨p, 0, none⟩), .int .i64 n, .int .i64 a, .int .i64 k] w fun e w' => ∃ u, e = .returned (.tuple #[u, .int .i64 (readD d n a k).2]) ∧ BR w' w.heap.size u (readD d n a k).1 ∧ NewK B p d w' ∧ Below w.heap.size w w' := by
  have h' := h
  obtain ⟨ρ, x, hr, hx⟩ := h
  refine (Read_any w ρ B p x d hx n a k).mono ?_
  rintro e w' ⟨u, rfl, hu, hb⟩
  exact ⟨u, rfl, hu, h'.later hb, hb⟩
theorem nCrash' (w : World) (B p k : Nat) (d : Dk) (h : NewK B p d w) (hB : B ≤ w.heap.size) (l : List Int) (pv : Value) (hpv : IA w pv l) (hpp : l ≠ [] → ∀ j, pv.ownBlock = some j → j ≠ p) (hm : MxD d k) (hk : k < 1000000) :
    Calls Try.prog 28 #[.pointer (some ⟨p, 0, none⟩), pv] w fun e w' => ∃ u, e = .returned u ∧ (∃ us, OC w' (w.heap.size + 1) u us (crashD d l)) ∧ NewK B p ⟨d.f, none⟩ w' ∧ Below B w w' := by
  obtain ⟨ρ, x, hr, hx⟩ := h
  refine (Crash_any' w ρ B p x d hx hr hB l pv hpv (hm.lt hk) hpp).mono ?_
  rintro e w' ⟨u, rfl, hu, ho⟩
  exact ⟨u, rfl, hu, NewK.op hr (by decide) hB ho⟩
theorem nCrash (w : World) (B p k : Nat) (d : Dk) (h : NewK B p d w) (hB : B ≤ w.heap.size) (l : List Int) (pv : Value) (hpv : IA w pv l) (hpp : ∀ j, pv.ownBlock = some j → j ≠ p) (hm : MxD d k) (hk : k < 1000000) :
    Calls Try.prog 28 #[.pointer (some ⟨p, 0, none⟩), pv] w fun e w' => ∃ u, e = .returned u ∧ (∃ us, OC w' (w.heap.size + 1) u us (crashD d l)) ∧ NewK B p ⟨d.f, none⟩ w' ∧ Below B w w' := by
  obtain ⟨ρ, x, hr, hx⟩ := h
  refine (Crash_any w ρ B p x d hx hr hB l pv hpv (hm.lt hk) hpp).mono ?_
  rintro e w' ⟨u, rfl, hu, ho⟩
  exact ⟨u, rfl, hu, NewK.op hr (by decide) hB ho⟩

set_option maxHeartbeats 4000000 in
set_option maxRecDepth 100000 in
theorem wakes_any (w : World) : Calls Try.prog 13 #[] w fun e w' => e = .returned (.bool true) ∧ Below w.heap.size w w' := by
  have HNEW := Lib.hid (New_ok w [] (.slice none 0 0) (RC.nil w) rfl)
  have HN := Lib.hid (fun n W => num_any n W)
  go_enter Try.func13, Try.ntmps13
  go_wp2_with fail
  refine Calls.mono HNEW.out ?_
  rintro e w1 ⟨p, rfl, hp, hb1, hn1⟩
  have HB1 := Lib.hid hb1
  have HK1 := Lib.hid hn1
  have hs1 := hb1.size
  obtain ⟨w2, hcb, hb2, hr2, ho2, hs22⟩ := lit_b w1 [97, 98] #[.int .u8 97, .int .u8 98] 2 rfl rfl (by omega)
  have HW := Lib.hid (nWrite w1 w2 w.heap.size p 0 (newDk []) hn1 hb2 hs1 0 0 [97, 98] _ hr2 (fun j hj => .inr (Nat.le_of_eq (ho2 j hj))) (MxD.new _) (by decide))
  obtain ⟨d1, hd1⟩ : ∃ d1, wrD (newDk []) 0 0 [97, 98] = (d1, 0) := ⟨_, rfl⟩
  have hm1 : MxD d1 1 := by have := (MxD.new []).wr 0 0 [97, 98]; rwa [hd1] at this
  obtain ⟨d2, hd2⟩ : ∃ d2, syD d1 0 = (d2, 0) := ⟨_, by rw [show d1 = (wrD (newDk []) 0 0 [97, 98]).1 by rw [hd1]]; rfl⟩
  have hm2 : MxD d2 2 := by have := hm1.sy 0; rwa [hd2] at this
  have hd3 : crashD d2 [] = [[97, 98], [], []] := by
    rw [show d2 = (syD (wrD (newDk []) 0 0 [97, 98]).1 0).1 by rw [hd1, hd2]]
    rfl
  rw [hd1] at HW
  have HB2 := Lib.hid (hb1.trans (hb2.mono hs1))
  have hs2' := hb2.size
  have hp1 := hn1.lt
  clear hn1 hb1 hr2 hb2
  go_wp2_with fail
  refine Calls.mono (HN.out _ _) ?_
  rintro e w' ⟨rfl, he⟩
  have he := he.symm
  subst he
  go_wp2_with fail
  refine Calls.mono HW.out ?_
  rintro e w3 ⟨rfl, hn3, hb3⟩
  have HB3 := Lib.hid (HB2.out.trans hb3)
  have hs3 := hb3.size
  have HS := Lib.hid (nSync w3 w.heap.size p d1 hn3 (by omega) 0)
  rw [hd2] at HS
  have hp3 := hn3.lt
  clear hn3 hb3 hcb HW
  go_wp2_with fail
  refine Calls.mono HS.out ?_
  rintro e w4 ⟨rfl, hn4, hb4⟩
  have HB4 := Lib.hid (HB3.out.trans hb4)
  have hs4 := hb4.size
  have HC := Lib.hid (nCrash w4 w.heap.size p 2 d2 hn4 (by omega) [] (.slice none 0 0) (IA.nil _) (fun j hj => by cases hj) hm2 (by decide))
  rw [hd3] at HC
  have hp4 := hn4.lt
  clear hn4 hb4 HS
  go_wp2_with fail
  refine Calls.mono HC.out ?_
  rintro e w5 ⟨u, rfl, ⟨us, hoc⟩, _, hb5⟩
  have HB5 := Lib.hid (HB4.out.trans hb5)
  have hrc := hoc.rc
  obtain ⟨uA, uc, rfl⟩ := hoc.slice
  obtain ⟨b, o, x0, rfl, hbl, hcell, hrb⟩ := hrc.at (i := 0) (by decide)
  have hst := to_str w5 x0 [97, 98] hrb
  simp only [Nat.add_zero] at hcell
  clear hoc hrc hb5 HC
  go_wp2_with fail
  refine Calls.mono (HN.out _ _) ?_
  rintro e w' ⟨rfl, he⟩
  have he := he.symm
  subst he
  go_wp2_with fail
  refine Calls.mono (HN.out _ _) ?_
  rintro e w' ⟨rfl, he⟩
  have he := he.symm
  subst he
  go_wp2_with fail
  go_ret
  exact ⟨rfl, HB5.out⟩
end Go.Proofs.Ytahmihdahgbhkaa

/-
  GreyPasses: the law's walk.
  Conditions: as each theorem states them.
-/
import Derived.Test.YtaglobnfdgencaaGX
namespace Go.Proofs.Ytaglobnfdgencaa
open Go.RowKit

theorem okG_mk {b l : Int} {p : Bool} (h1 : 0 ≤ b) (h2 : b ≤ l) (h3 : l ≤ 1099511627776) : okG ⟨kk1, b, l, p⟩ = true := by
  refine okG_of okK_kk1 (inB_iff.2 ⟨?_, ?_⟩) (inB_iff.2 ⟨?_, ?_⟩)
  · show (0 : Int) ≤ l; omega
  · exact h3
  · exact h1
  · exact h2
theorem step_none {now wait : Int} (hn : 0 ≤ now ∧ now ≤ 1099511627776) (hw : 1 ≤ wait ∧ wait ≤ 1099511627776) (W : World) :
    Calls Try.prog 11 #[.slice none 0 0, .string ⟨#[107]⟩, .int .i64 now, .int .i64 wait] W fun e w' => ∃ v, e = .returned (.tuple #[v, .bool false, .int .i64 0]) ∧ GO w' W.heap.size v [⟨kk1, now, now, false⟩] ∧ Below W.heap.size W w' := by
  have h := ask_any [] kk1 now wait (.slice none 0 0) W (GR.nil W) (by simp)
  obtain ⟨e1, e2⟩ := ask_none okK_kk1 (inB_iff.2 hn) (inB_iff.2 (show 0 ≤ wait ∧ wait ≤ 1099511627776 by omega))
  have e3 : (wait == 0) = false := by rw [beq_eq_false_iff_ne]; omega
  rw [e1, e2, e3] at h
  exact h
theorem step_again {b l l' now wait : Int} {p p' : Bool} (hb : 0 ≤ b ∧ b ≤ l ∧ l ≤ 1099511627776) (hn : 0 ≤ now ∧ now ≤ 1099511627776) (hw : 0 ≤ wait ∧ wait ≤ 1099511627776) (ht : now - 65536 ≤ l) (hl : max l now = l') (hp : (p || decide (wait ≤ now - b)) = p') (u : Value) (W : World) (h : GR W u [⟨kk1, b, l, p⟩]) :
    Calls Try.prog 11 #[u, .string ⟨#[107]⟩, .int .i64 now, .int .i64 wait] W fun e w' => ∃ v, e = .returned (.tuple #[v, .bool p', .int .i64 0]) ∧ GO w' W.heap.size v [⟨kk1, b, l', p'⟩] ∧ Below W.heap.size W w' := by
  have h := ask_any [⟨kk1, b, l, p⟩] kk1 now wait u W h (by simp)
  obtain ⟨e1, e2⟩ := ask_again (g := ⟨kk1, b, l, p⟩) (key := kk1) (okG_mk hb.1 hb.2.1 hb.2.2) okK_kk1 (inB_iff.2 hn) (inB_iff.2 hw) rfl ht
  have e3 : meetG ⟨kk1, b, l, p⟩ now wait = ⟨kk1, b, l', p'⟩ := by rw [← hl, ← hp]; rfl
  rw [e1, e2, e3] at h
  exact h
theorem step_anew {b l now wait : Int} {p : Bool} (hb : 0 ≤ b ∧ b ≤ l ∧ l ≤ 1099511627776) (hn : 0 ≤ now ∧ now ≤ 1099511627776) (hw : 1 ≤ wait ∧ wait ≤ 1099511627776) (ht : l < now - 65536) (u : Value) (W : World) (h : GR W u [⟨kk1, b, l, p⟩]) :
    Calls Try.prog 11 #[u, .string ⟨#[107]⟩, .int .i64 now, .int .i64 wait] W fun e w' => ∃ v, e = .returned (.tuple #[v, .bool false, .int .i64 0]) ∧ GO w' W.heap.size v [⟨kk1, now, now, false⟩] ∧ Below W.heap.size W w' := by
  have h := ask_any [⟨kk1, b, l, p⟩] kk1 now wait u W h (by simp)
  obtain ⟨e1, e2⟩ := ask_anew (g := ⟨kk1, b, l, p⟩) (key := kk1) (okG_mk hb.1 hb.2.1 hb.2.2) okK_kk1 (inB_iff.2 hn) (inB_iff.2 (show 0 ≤ wait ∧ wait ≤ 1099511627776 by omega)) ht
  have e3 : (wait == 0) = false := by rw [beq_eq_false_iff_ne]; omega
  rw [e1, e2, e3] at h
  exact h

set_option maxHeartbeats 4000000 in
set_option maxRecDepth 100000 in
theorem passes_any (u1 u2 : Value) (G : List Gy) (L : List Ac) (w : World) (hG : GR w u1 G) (hL : AcsAt w u2 L) :
    Calls Try.prog 4 #[.agg #[u1, u2]] w fun e w' => e = .returned (.bool true) ∧ Below w.heap.size w w' := by
  obtain ⟨A1, c1, rfl, _, _⟩ := hG.slice
  obtain ⟨A2, c2, rfl, hlc2⟩ := hL.slice
  have HB0 := Lib.hid ((Below.refl w.heap.size w).alloc (Nat.le_refl _) (.cells #[.slice A1 G.length c1, .slice A2 L.length c2] 25))
  have HWI := Lib.hid (fun W => within_any L.length hlc2 W)
  have HNM := Lib.hid (fun W => num_any 0 W)
  have HWK := Lib.hid (fun W => wakes_any W)
  obtain ⟨k, hk⟩ : ∃ k, L.length % 50 = k := ⟨_, rfl⟩
  have hk50 : k < 50 := by omega
  rw [hk] at HWI
  obtain ⟨wt, hwt⟩ : ∃ wt : Int, IntKind.i64.wrap (1 + (k : Int)) = wt ∧ 1 ≤ wt ∧ wt ≤ 50 := ⟨1 + k, wrap_id (by omega) (by omega), by omega, by omega⟩
  obtain ⟨hw0, hw1, hw2⟩ := hwt
  have q1 : IntKind.i64.wrap (100 + wt) = 100 + wt := wrap_id (by omega) (by omega)
  have q2 : IntKind.i64.wrap (100 + wt - 1) = 100 + wt - 1 := wrap_id (by omega) (by omega)
  have q3 : IntKind.i64.wrap (101 + wt) = 101 + wt := wrap_id (by omega) (by omega)
  have q4 : IntKind.i64.wrap (101 + wt + 65536) = 101 + wt + 65536 := wrap_id (by omega) (by omega)
  have q5 : IntKind.i64.wrap (101 + wt + 65536 + 65536) = 101 + wt + 65536 + 65536 := wrap_id (by omega) (by omega)
  have q6 : IntKind.i64.wrap (101 + wt + 65536 + 65536 + 1) = 101 + wt + 65536 + 65536 + 1 := wrap_id (by omega) (by omega)
  have H1 := Lib.hid (fun W => step_none (now := 100) (wait := wt) (by omega) (by omega) W)
  have H2 := Lib.hid (fun u W h => step_again (b := 100) (l := 100) (l' := 100 + wt - 1) (now := 100 + wt - 1) (wait := wt) (p := false) (p' := false) (by omega) (by omega) (by omega) (by omega) (by omega) (by rw [decide_eq_false (by omega)]; rfl) u W h)
  have H3 := Lib.hid (fun u W h => step_again (b := 100) (l := 100 + wt - 1) (l' := 100 + wt) (now := 100 + wt) (wait := wt) (p := false) (p' := true) (by omega) (by omega) (by omega) (by omega) (by omega) (by rw [decide_eq_true (by omega)]; rfl) u W h)
  have H4 := Lib.hid (fun u W h => step_again (b := 100) (l := 100 + wt) (l' := 101 + wt) (now := 101 + wt) (wait := 1099511627776) (p := true) (p' := true) (by omega) (by omega) (by omega) (by omega) (by omega) rfl u W h)
  have H5 := Lib.hid (fun u W h => step_again (b := 100) (l := 101 + wt) (l' := 101 + wt + 65536) (now := 101 + wt + 65536) (wait := 1099511627776) (p := true) (p' := true) (by omega) (by omega) (by omega) (by omega) (by omega) rfl u W h)
  have H6 := Lib.hid (fun u W h => step_anew (b := 100) (l := 101 + wt + 65536) (now := 101 + wt + 65536 + 65536 + 1) (wait := wt) (p := true) (by omega) (by omega) (by omega) (by omega) u W h)
  clear hG hL hw1 hw2 hk hk50
  go_enter Try.func4, Try.ntmps4
  go_wp2_with fail
  refine Calls.mono (HWI.out _) ?_
  rintro e w' ⟨rfl, he⟩
  have he := he.symm
  subst he
  go_wp2_with fail
  refine Calls.mono (H1.out _) ?_
  rintro e w1 ⟨v1, rfl, hg1, hb1⟩
  have HB1 := Lib.hid (HB0.out.trans (hb1.mono HB0.out.size))
  have HG1 := Lib.hid hg1
  obtain ⟨A11, C11, rfl, _, _⟩ := hg1.slice
  clear hg1 hb1
  go_wp2_with fail
  refine Calls.mono (H2.out _ _ HG1.out.gr) ?_
  rintro e w2 ⟨v2, rfl, hg2, hb2⟩
  have HB2 := Lib.hid (HB1.out.trans (hb2.mono HB1.out.size))
  have HG2 := Lib.hid hg2
  obtain ⟨A12, C12, rfl, _, _⟩ := hg2.slice
  clear hg2 hb2
  go_wp2_with fail
  refine Calls.mono (H3.out _ _ HG2.out.gr) ?_
  rintro e w3 ⟨v3, rfl, hg3, hb3⟩
  have HB3 := Lib.hid (HB2.out.trans (hb3.mono HB2.out.size))
  have HG3 := Lib.hid hg3
  obtain ⟨A13, C13, rfl, _, _⟩ := hg3.slice
  clear hg3 hb3
  go_wp2_with fail
  refine Calls.mono (H4.out _ _ HG3.out.gr) ?_
  rintro e w4 ⟨v4, rfl, hg4, hb4⟩
  have HB4 := Lib.hid (HB3.out.trans (hb4.mono HB3.out.size))
  have HG4 := Lib.hid hg4
  obtain ⟨A14, C14, rfl, _, _⟩ := hg4.slice
  clear hg4 hb4
  go_wp2_with fail
  refine Calls.mono (H5.out _ _ HG4.out.gr) ?_
  rintro e w5 ⟨v5, rfl, hg5, hb5⟩
  have HB5 := Lib.hid (HB4.out.trans (hb5.mono HB4.out.size))
  have HG5 := Lib.hid hg5
  obtain ⟨A15, C15, rfl, _, _⟩ := hg5.slice
  clear hg5 hb5
  go_wp2_with fail
  refine Calls.mono (H6.out _ _ HG5.out.gr) ?_
  rintro e w6 ⟨v6, rfl, hg6, hb6⟩
  have HB6 := Lib.hid (HB5.out.trans (hb6.mono HB5.out.size))
  have HG6 := Lib.hid hg6
  obtain ⟨A16, C16, rfl, _, _⟩ := hg6.slice
  clear hg6 hb6
  go_wp2_with fail
  refine Calls.mono (HNM.out _) ?_
  rintro e w' ⟨rfl, he⟩
  have he := he.symm
  subst he
  go_wp2_with fail
  refine Calls.mono (HNM.out _) ?_
  rintro e w' ⟨rfl, he⟩
  have he := he.symm
  subst he
  go_wp2_with fail
  refine Calls.mono (HNM.out _) ?_
  rintro e w' ⟨rfl, he⟩
  have he := he.symm
  subst he
  go_wp2_with fail
  refine Calls.mono (HNM.out _) ?_
  rintro e w' ⟨rfl, he⟩
  have he := he.symm
  subst he
  go_wp2_with fail
  refine Calls.mono (HNM.out _) ?_
  rintro e w' ⟨rfl, he⟩
  have he := he.symm
  subst he
  go_wp2_with fail
  refine Calls.mono (HNM.out _) ?_
  rintro e w' ⟨rfl, he⟩
  have he := he.symm
  subst he
  go_wp2_with fail
  refine Calls.mono (HWK.out _) ?_
  rintro e w7 ⟨rfl, hb7⟩
  have HB7 := Lib.hid (HB6.out.trans (hb7.mono HB6.out.size))
  clear hb7
  go_wp2_with fail
  go_ret
  exact ⟨rfl, HB7.out⟩
end Go.Proofs.Ytaglobnfdgencaa

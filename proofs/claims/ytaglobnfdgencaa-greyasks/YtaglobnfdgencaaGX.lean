/-
  The argument in a block; heavy, Within and wakes of the statements' text, walked; what an asking of a list of none or of one tells.
  Conditions: as each theorem states them.
-/
import Derived.Test.YtaglobnfdgencaaGW
namespace Go.Proofs.Ytaglobnfdgencaa
open Go.RowKit

/-- The argument in a block of its own. -/
def SAt (w : World) (k : Nat) (u1 u2 : Value) : Prop := w.heap[k]? = some (.cells #[u1, u2] 25 (0, 0))
section
variable {w w' : World} {k : Nat} {u1 u2 : Value}
theorem SAt.lt (h : SAt w k u1 u2) : k < w.heap.size := (Array.getElem?_eq_some_iff.1 h).1
theorem SAt.c0 (h : SAt w k u1 u2) : w.cell? ⟨k, 0, none⟩ = some u1 := by
  have h' : w.heap[k]? = some (.cells #[u1, u2] 25 (0, 0)) := h
  simp [World.cell?, h']
theorem SAt.c1 (h : SAt w k u1 u2) : w.cell? ⟨k, 1, none⟩ = some u2 := by
  have h' : w.heap[k]? = some (.cells #[u1, u2] 25 (0, 0)) := h
  simp [World.cell?, h']
theorem SAt.later (h : SAt w k u1 u2) {B : Nat} (hb : Below B w w') (hk : k < B) : SAt w' k u1 u2 := (hb.block k hk).trans h
end
theorem SAt.new (w : World) (u1 u2 : Value) : SAt (w.alloc (.cells #[u1, u2] 25)) w.heap.size u1 u2 := heap_alloc_new w _

/-- What heavy tells. -/
def HeavyR (G : List Gy) (v : Value) : Prop := ∃ q : Bool, v = .bool q ∧ (q = false → G.length ≤ 30000)
set_option maxHeartbeats 2000000 in
set_option maxRecDepth 100000 in
theorem heavy_any (u1 u2 : Value) (G : List Gy) (L : List Ac) (w : World) (hG : GR w u1 G) (hGs : ∀ g ∈ G, g.k.size ≤ 140737488355328) (hL : AcsAt w u2 L) :
    Calls Try.prog 6 #[.agg #[u1, u2]] w fun e w' => ∃ v, e = .returned v ∧ HeavyR G v ∧ Below w.heap.size w w' := by
  have HG := Lib.hid hG
  have HL := Lib.hid hL
  have HGS := Lib.hid hGs
  obtain ⟨A1, c1, rfl, hlc1, hc1⟩ := hG.slice
  obtain ⟨A2, c2, rfl, hlc2⟩ := hL.slice
  have HS := Lib.hid (SAt.new w (.slice A1 G.length c1) (.slice A2 L.length c2))
  have HB0 := Lib.hid ((Below.refl w.heap.size w).alloc (Nat.le_refl _) (.cells #[.slice A1 G.length c1, .slice A2 L.length c2] 25))
  obtain ⟨wb, hwb⟩ : ∃ wb, w.alloc (.cells #[.slice A1 G.length c1, .slice A2 L.length c2] 25) = wb := ⟨_, rfl⟩
  rw [hwb] at HS HB0
  have HWB := Lib.hid hwb
  clear hG hL hGs hwb
  go_enter Try.func6, Try.ntmps6
  go_wp2_with fail
  rw [HWB.out]
  go_loopw [3, 4] (fun nv iv w2 => ∃ (i : Nat) (n : Int), iv = .int .i64 i ∧ nv = .int .i64 n ∧ i ≤ G.length ∧ (G.length : Int) ≤ n ∧ Below (w.heap.size + 1) wb w2) (fun _ iv _ => G.length - (intOf iv).toNat)
  case atStart => exact ⟨0, G.length, rfl, rfl, Nat.zero_le _, Int.le_refl _, Below.refl _ _⟩
  case round =>
    obtain ⟨i, n, rfl, rfl, hil, hgn, hb⟩ := hrel
    have HB := Lib.hid hb
    have HBW := Lib.hid (HB0.out.trans (hb.mono (Nat.le_succ _)))
    have HS1 := Lib.hid (HS.out.later hb (Nat.lt_succ_self _))
    have s0 := HS1.out.c0
    have s1 := HS1.out.c1
    have slt := HS1.out.lt
    clear hb
    by_cases hlt : i < G.length
    · have hlti : (i : Int) < (G.length : Int) := by omega
      by_cases hn : n < 1048576
      · obtain ⟨b, o, hA, hbl, c0, _, _, _⟩ := HG.out.at (i := i) hlt rfl HBW.out
        subst hA
        have hsz := HGS.out (G[i]) (List.getElem_mem hlt)
        generalize hkk : (G[i]).k = kk at *
        have hw2 : IntKind.i64.wrap (n + (kk.size : Int)) = n + (kk.size : Int) := wrap_id (by omega) (by omega)
        have HSZ := Lib.hid hsz
        clear hsz hkk
        go_wp2_with fail
        refine ⟨⟨i + 1, n + (kk.size : Int), by go_num, rfl, by omega, by omega, HB.out⟩, by simp [intOf]; omega⟩
      · have hnd : decide (n < 1048576) = false := decide_eq_false hn
        go_wp2_with fail
        clear hlt hlti hnd hn s0 s1 slt
        go_loopw [3, 5] (fun nv jv w2 => ∃ (j : Nat) (m : Int), jv = .int .i64 j ∧ nv = .int .i64 m ∧ j ≤ L.length ∧ (G.length : Int) ≤ m ∧ Below (w.heap.size + 1) wb w2) (fun _ jv _ => L.length - (intOf jv).toNat)
        case atStart => exact ⟨0, n, rfl, rfl, Nat.zero_le _, hgn, HB.out⟩
        case round =>
          obtain ⟨j, n2, rfl, rfl, hjl, hgn2, hb2⟩ := hrel
          have HB2 := Lib.hid hb2
          have HBW2 := Lib.hid (HB0.out.trans (hb2.mono (Nat.le_succ _)))
          have HS2 := Lib.hid (HS.out.later hb2 (Nat.lt_succ_self _))
          have s0 := HS2.out.c0
          have s1 := HS2.out.c1
          have slt := HS2.out.lt
          clear hb2
          by_cases hlt2 : j < L.length
          · have hltj : (j : Int) < (L.length : Int) := by omega
            by_cases hn2 : n2 < 1048576
            · obtain ⟨b, o, hA, hbl, q⟩ := HL.out.at (i := j) hlt2 rfl HBW2.out
              subst hA
              have c0 := q.c0
              have hsz2 := q.sz
              clear q
              generalize hkk : (L[j]).k = kk at *
              have hw2 : IntKind.i64.wrap (n2 + (kk.size : Int)) = n2 + (kk.size : Int) := wrap_id (by omega) (by omega)
              have HSZ := Lib.hid hsz2
              clear hsz2 hkk
              go_wp2_with fail
              refine ⟨⟨j + 1, n2 + (kk.size : Int), by go_num, rfl, by omega, by omega, HB2.out⟩, by simp [intOf]; omega⟩
            · have hn2d : decide (n2 < 1048576) = false := decide_eq_false hn2
              by_cases hbig : (30000 : Int) < n2
              · have hb1 : decide ((30000 : Int) < n2) = true := decide_eq_true hbig
                go_wp2_with fail
                go_ret
                exact ⟨_, rfl, ⟨true, rfl, fun h => by cases h⟩, HBW2.out⟩
              · have hb1 : decide ((30000 : Int) < n2) = false := decide_eq_false hbig
                have HR := Lib.hid (show G.length ≤ 30000 by omega)
                clear hbig
                go_wp2_with fail
                go_ret
                exact ⟨_, rfl, ⟨_, rfl, fun _ => HR.out⟩, HBW2.out⟩
          · have hltj : ¬ ((j : Int) < (L.length : Int)) := by omega
            by_cases hbig : (30000 : Int) < n2
            · have hb1 : decide ((30000 : Int) < n2) = true := decide_eq_true hbig
              go_wp2_with fail
              go_ret
              exact ⟨_, rfl, ⟨true, rfl, fun h => by cases h⟩, HBW2.out⟩
            · have hb1 : decide ((30000 : Int) < n2) = false := decide_eq_false hbig
              have HR := Lib.hid (show G.length ≤ 30000 by omega)
              clear hbig
              go_wp2_with fail
              go_ret
              exact ⟨_, rfl, ⟨_, rfl, fun _ => HR.out⟩, HBW2.out⟩
    · have hlti : ¬ ((i : Int) < (G.length : Int)) := by omega
      go_wp2_with fail
      clear hlt hlti s0 s1 slt
      go_loopw [3, 5] (fun nv jv w2 => ∃ (j : Nat) (m : Int), jv = .int .i64 j ∧ nv = .int .i64 m ∧ j ≤ L.length ∧ (G.length : Int) ≤ m ∧ Below (w.heap.size + 1) wb w2) (fun _ jv _ => L.length - (intOf jv).toNat)
      case atStart => exact ⟨0, n, rfl, rfl, Nat.zero_le _, hgn, HB.out⟩
      case round =>
        obtain ⟨j, n2, rfl, rfl, hjl, hgn2, hb2⟩ := hrel
        have HB2 := Lib.hid hb2
        have HBW2 := Lib.hid (HB0.out.trans (hb2.mono (Nat.le_succ _)))
        have HS2 := Lib.hid (HS.out.later hb2 (Nat.lt_succ_self _))
        have s0 := HS2.out.c0
        have s1 := HS2.out.c1
        have slt := HS2.out.lt
        clear hb2
        by_cases hlt2 : j < L.length
        · have hltj : (j : Int) < (L.length : Int) := by omega
          by_cases hn2 : n2 < 1048576
          · obtain ⟨b, o, hA, hbl, q⟩ := HL.out.at (i := j) hlt2 rfl HBW2.out
            subst hA
            have c0 := q.c0
            have hsz2 := q.sz
            clear q
            generalize hkk : (L[j]).k = kk at *
            have hw2 : IntKind.i64.wrap (n2 + (kk.size : Int)) = n2 + (kk.size : Int) := wrap_id (by omega) (by omega)
            have HSZ := Lib.hid hsz2
            clear hsz2 hkk
            go_wp2_with fail
            refine ⟨⟨j + 1, n2 + (kk.size : Int), by go_num, rfl, by omega, by omega, HB2.out⟩, by simp [intOf]; omega⟩
          · have hn2d : decide (n2 < 1048576) = false := decide_eq_false hn2
            by_cases hbig : (30000 : Int) < n2
            · have hb1 : decide ((30000 : Int) < n2) = true := decide_eq_true hbig
              go_wp2_with fail
              go_ret
              exact ⟨_, rfl, ⟨true, rfl, fun h => by cases h⟩, HBW2.out⟩
            · have hb1 : decide ((30000 : Int) < n2) = false := decide_eq_false hbig
              have HR := Lib.hid (show G.length ≤ 30000 by omega)
              clear hbig
              go_wp2_with fail
              go_ret
              exact ⟨_, rfl, ⟨_, rfl, fun _ => HR.out⟩, HBW2.out⟩
        · have hltj : ¬ ((j : Int) < (L.length : Int)) := by omega
          by_cases hbig : (30000 : Int) < n2
          · have hb1 : decide ((30000 : Int) < n2) = true := decide_eq_true hbig
            go_wp2_with fail
            go_ret
            exact ⟨_, rfl, ⟨true, rfl, fun h => by cases h⟩, HBW2.out⟩
          · have hb1 : decide ((30000 : Int) < n2) = false := decide_eq_false hbig
            have HR := Lib.hid (show G.length ≤ 30000 by omega)
            clear hbig
            go_wp2_with fail
            go_ret
            exact ⟨_, rfl, ⟨_, rfl, fun _ => HR.out⟩, HBW2.out⟩

theorem within_any (i : Nat) (hi : i < 9223372036854775808) (w : World) : Calls Try.prog 17 #[.int .i64 i, .int .i64 50] w fun e w' => e = .returned (.int .i64 ((i % 50 : Nat) : Int)) ∧ w' = w := by
  have h1 : IntKind.u64.wrap (i : Int) = (i : Int) := by
    simp [IntKind.wrap, IntKind.bits, IntKind.signed]
    omega
  have h2 : IntKind.i64.wrap ((i : Int).tmod 50) = ((i % 50 : Nat) : Int) := by
    rw [Int.tmod_eq_emod_of_nonneg (by omega), wrap_id (by omega) (by omega)]
    omega
  have h3 : IntKind.u64.wrap ((i : Int).tmod 50) = (i : Int).tmod 50 := by
    rw [Int.tmod_eq_emod_of_nonneg (by omega)]
    simp [IntKind.wrap, IntKind.bits, IntKind.signed]
    omega
  have h4 : IntKind.u64.wrap 50 = 50 := by rfl
  go_enter Try.func17, Try.ntmps17
  go_wp2_with fail
  go_ret
  exact ⟨by first | rfl | simp only [h2] | (rw [h2]; rfl) | omega, rfl⟩

/-- What is asked of a list of none, of one. -/
theorem okL_nil : okL [] = true := rfl
theorem okL_one {g : Gy} (h : okG g = true) : okL [g] = true := okL_iff.2 ⟨by simp, by simpa using h, List.pairwise_singleton _ _⟩
theorem ask_none {key : ByteArray} {now wait : Int} (hk : okK key = true) (hn : inB now 0 1099511627776 = true) (hw : inB wait 0 1099511627776 = true) :
    mayL [] key now wait = true ∧ outA [] key now wait = ([⟨key, now, now, wait == 0⟩], wait == 0) := by
  have hm : mayL [] key now wait = true := by unfold mayL; rw [okL_nil, hk, hn, hw]; rfl
  refine ⟨hm, ?_⟩
  unfold outA
  rw [if_pos hm]
  rfl
theorem ask_again {g : Gy} {key : ByteArray} {now wait : Int} (hg : okG g = true) (hk : okK key = true) (hn : inB now 0 1099511627776 = true) (hw : inB wait 0 1099511627776 = true) (he : g.k = key) (ht : now - 65536 ≤ g.l) :
    mayL [g] key now wait = true ∧ outA [g] key now wait = ([meetG g now wait], (meetG g now wait).p) := by
  have hm : mayL [g] key now wait = true := by unfold mayL; rw [okL_one hg, hk, hn, hw]; rfl
  refine ⟨hm, ?_⟩
  have hs : sinceL [g] (now - 65536) = [g] := by simp [sinceL, ht]
  have hek : eqK g.k key = true := eqK_iff.2 he
  unfold outA
  rw [if_pos hm]
  unfold askL
  rw [hs]
  exact askM_known now wait (List.pairwise_singleton _ _) (p := 0) (by simp) hek
theorem ask_anew {g : Gy} {key : ByteArray} {now wait : Int} (hg : okG g = true) (hk : okK key = true) (hn : inB now 0 1099511627776 = true) (hw : inB wait 0 1099511627776 = true) (ht : g.l < now - 65536) :
    mayL [g] key now wait = true ∧ outA [g] key now wait = ([⟨key, now, now, wait == 0⟩], wait == 0) := by
  have hm : mayL [g] key now wait = true := by unfold mayL; rw [okL_one hg, hk, hn, hw]; rfl
  refine ⟨hm, ?_⟩
  have hs : sinceL [g] (now - 65536) = [] := by simp [sinceL]; omega
  unfold outA
  rw [if_pos hm]
  unfold askL
  rw [hs]
  rfl

def kk1 : ByteArray := ⟨#[107]⟩
theorem okK_kk1 : okK kk1 = true := by decide
theorem wakes_any (w : World) : Calls Try.prog 16 #[] w fun e w' => e = .returned (.bool true) ∧ Below w.heap.size w w' := by
  have H1 := Lib.hid (fun W => ask_any [] kk1 5 10 (.slice none 0 0) W (GR.nil W) (by simp))
  obtain ⟨e1, e2⟩ := ask_none (key := kk1) (now := 5) (wait := 10) okK_kk1 (by decide) (by decide)
  rw [e1, e2] at H1
  have H2 := Lib.hid (fun u W h => ask_any [⟨kk1, 5, 5, (10 : Int) == 0⟩] kk1 15 10 u W h (by simp))
  obtain ⟨e3, e4⟩ := ask_again (g := ⟨kk1, 5, 5, (10 : Int) == 0⟩) (key := kk1) (now := 15) (wait := 10) (by decide) okK_kk1 (by decide) (by decide) rfl (by decide)
  rw [e3, e4] at H2
  rw [show (meetG ⟨kk1, 5, 5, (10 : Int) == 0⟩ 15 10).p = true by decide] at H2
  rw [show ((10 : Int) == 0) = false by decide] at H1 H2
  have H4 := Lib.hid (fun W => num_any 0 W)
  unfold kk1 at H1 H2
  simp only [errN, if_true] at H1 H2
  go_enter Try.func16, Try.ntmps16
  go_wp2_with fail
  refine Calls.mono (H1.out _) ?_
  rintro e w1 ⟨u, rfl, hg1, hb1⟩
  have HG1 := Lib.hid hg1
  have HB1 := Lib.hid hb1
  obtain ⟨A1, C1, rfl, _, _⟩ := hg1.slice
  clear hg1 hb1
  go_wp2_with fail
  refine Calls.mono (H2.out _ _ HG1.out.gr) ?_
  rintro e w2 ⟨u2, rfl, hg2, hb2⟩
  have HB2 := Lib.hid (HB1.out.trans (hb2.mono HB1.out.size))
  obtain ⟨A2, C2, rfl, _, _⟩ := hg2.slice
  clear hg2 hb2
  go_wp2_with fail
  refine Calls.mono (H4.out _) ?_
  rintro e w' ⟨rfl, he⟩
  have he := he.symm
  subst he
  go_wp2_with fail
  refine Calls.mono (H4.out _) ?_
  rintro e w' ⟨rfl, he⟩
  have he := he.symm
  subst he
  go_wp2_with fail
  go_ret
  exact ⟨rfl, HB2.out⟩
end Go.Proofs.Ytaglobnfdgencaa

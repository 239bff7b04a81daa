/-
  GreyAsks: the law's walk.
  Conditions: as each theorem states them.
-/
import Derived.Test.YtaglobnfdgencaaGX
namespace Go.Proofs.Ytaglobnfdgencaa
open Go.RowKit

/-- An act in a block of its own. -/
def ActAt (w : World) (k : Nat) (a : Ac) : Prop := w.heap[k]? = some (.cells #[.string a.k, .int .i64 a.n, .int .i64 a.t] 29 (0, 0))
section
variable {w w' : World} {k : Nat} {a : Ac}
theorem ActAt.lt (h : ActAt w k a) : k < w.heap.size := (Array.getElem?_eq_some_iff.1 h).1
theorem ActAt.c0 (h : ActAt w k a) : w.cell? ⟨k, 0, none⟩ = some (.string a.k) := by
  have h' : w.heap[k]? = some (.cells #[.string a.k, .int .i64 a.n, .int .i64 a.t] 29 (0, 0)) := h
  simp [World.cell?, h']
theorem ActAt.c1 (h : ActAt w k a) : w.cell? ⟨k, 1, none⟩ = some (.int .i64 a.n) := by
  have h' : w.heap[k]? = some (.cells #[.string a.k, .int .i64 a.n, .int .i64 a.t] 29 (0, 0)) := h
  simp [World.cell?, h']
theorem ActAt.c2 (h : ActAt w k a) : w.cell? ⟨k, 2, none⟩ = some (.int .i64 a.t) := by
  have h' : w.heap[k]? = some (.cells #[.string a.k, .int .i64 a.n, .int .i64 a.t] 29 (0, 0)) := h
  simp [World.cell?, h']
theorem ActAt.later (h : ActAt w k a) (hb : Below w.heap.size w w') : ActAt w' k a := (hb.block k h.lt).trans h
end
theorem ActAt.new (w : World) (a : Ac) : ActAt (w.alloc (.cells #[.string a.k, .int .i64 a.n, .int .i64 a.t] 29)) w.heap.size a := heap_alloc_new w _
theorem filter_len {l : List Gy} (p : Gy → Bool) : (l.filter p).length + (l.filter (fun x => !p x)).length = l.length := by
  induction l with
  | nil => rfl
  | cons a r ih =>
    by_cases h : p a = true
    · simp [h]; omega
    · simp [h]; omega
theorem insL_len (l : List Gy) (g : Gy) : (insL l g).length = l.length + 1 := by
  unfold insL
  rw [List.length_append, List.length_cons]
  have := filter_len (l := l) (fun x => ltK x.k g.k)
  omega
theorem roomL_len (m : List Gy) : (roomL m).length ≤ m.length := by
  unfold roomL
  split
  · exact List.length_eraseIdx_le m _
  · exact Nat.le_refl _
theorem askL_len (l : List Gy) (key : ByteArray) (now wait : Int) : (askL l key now wait).1.length ≤ l.length + 1 := by
  have h := since_len l (now - 65536)
  unfold askL askM
  split
  · simp only [List.length_map]; omega
  · simp only [insL_len]
    have := roomL_len (sinceL l (now - 65536))
    omega
theorem may_len {l : List Gy} {key : ByteArray} {now wait : Int} (h : mayL l key now wait = true) : l.length ≤ 32 := by
  unfold mayL at h
  simp only [Bool.and_eq_true] at h
  exact (okL_iff.1 h.1.1.1).1

set_option maxHeartbeats 8000000 in
set_option maxRecDepth 100000 in
theorem asks_any (u1 u2 : Value) (G : List Gy) (L : List Ac) (w : World) (hG : GR w u1 G) (hGs : ∀ g ∈ G, g.k.size ≤ 140737488355328) (hL : AcsAt w u2 L) :
    Calls Try.prog 3 #[.agg #[u1, u2]] w fun e w' => e = .returned (.bool true) ∧ Below w.heap.size w w' := by
  have HG := Lib.hid hG
  have HL := Lib.hid hL
  obtain ⟨A1, c1, rfl, hlc1, hc1⟩ := hG.slice
  obtain ⟨A2, c2, rfl, hlc2⟩ := hL.slice
  have HS := Lib.hid (SAt.new w (.slice A1 G.length c1) (.slice A2 L.length c2))
  have HB0 := Lib.hid ((Below.refl w.heap.size w).alloc (Nat.le_refl _) (.cells #[.slice A1 G.length c1, .slice A2 L.length c2] 25))
  obtain ⟨wb, hwb⟩ : ∃ wb, w.alloc (.cells #[.slice A1 G.length c1, .slice A2 L.length c2] 25) = wb := ⟨_, rfl⟩
  have HLB := Lib.hid (show w.heap.size + 1 ≤ wb.heap.size by rw [← hwb]; simp)
  rw [hwb] at HS HB0
  have HHV := Lib.hid (heavy_any (.slice A1 G.length c1) (.slice A2 L.length c2) G L wb (hG.later HB0.out) hGs (by
    obtain ⟨A, c, hv, h1, h2⟩ := hL
    refine ⟨A, c, hv, h1, fun hne => ?_⟩
    obtain ⟨b, o, hA, hlt, hc⟩ := h2 hne
    exact ⟨b, o, hA, Nat.lt_of_lt_of_le hlt HB0.out.size, fun i hi => ⟨(HB0.out.cell (p := ⟨b, o + i * 3, none⟩) hlt).trans (hc i hi).c0, (HB0.out.cell (p := ⟨b, o + i * 3 + 1, none⟩) hlt).trans (hc i hi).c1, (HB0.out.cell (p := ⟨b, o + i * 3 + 2, none⟩) hlt).trans (hc i hi).c2, (hc i hi).sz⟩⟩))
  have HWK := Lib.hid (fun W => wakes_any W)
  have HNM := Lib.hid (fun x W => num_any x W)
  have HWB := Lib.hid hwb
  clear hG hL hGs hwb
  go_enter Try.func3, Try.ntmps3
  go_wp2_with fail
  rw [HWB.out]
  refine Calls.mono HHV.out ?_
  rintro e w1 ⟨hv, rfl, ⟨q, rfl, hq⟩, hb1⟩
  have HS1 := Lib.hid (HS.out.later hb1 HS.out.lt)
  have SB1 := Lib.hid (show Below (w.heap.size + 1) wb w1 from hb1.mono HLB.out)
  have HQ := Lib.hid hq
  clear hb1 hq
  have s0 := HS1.out.c0
  have s1 := HS1.out.c1
  have slt := HS1.out.lt
  cases q with
  | true =>
    go_wp2_with fail
    go_ret
    exact ⟨rfl, HB0.out.trans (SB1.out.mono (Nat.le_succ _))⟩
  | false =>
    have HGL := Lib.hid (HQ.out rfl)
    have HCP := Lib.hid (copy_any G (.slice A1 G.length c1) w1 (HG.out.later (HB0.out.trans (SB1.out.mono (Nat.le_succ _)))) (by have := HGL.out; omega))
    go_wp2_with fail
    refine Calls.mono HCP.out ?_
    rintro e w2 ⟨u2, rfl, hg2, hb2⟩
    have HG2 := Lib.hid (hg2.mono (show w.heap.size + 1 ≤ w1.heap.size from Nat.le_trans HLB.out SB1.out.size))
    have SB2 := Lib.hid (SB1.out.trans (hb2.mono (show w.heap.size + 1 ≤ w1.heap.size from Nat.le_trans HLB.out SB1.out.size)))
    obtain ⟨A3, C3, rfl, _, _⟩ := HG2.out.slice
    clear hg2 hb2 s0 s1 slt
    go_wp2_with fail
    go_loopw [3, 4] (fun lv iv wr => ∃ (i : Nat) (m : List Gy), iv = .int .i64 i ∧ i ≤ L.length ∧ i ≤ 40 ∧ m.length ≤ 30000 ∧ GO wr (w.heap.size + 1) lv m ∧ Below (w.heap.size + 1) wb wr) (fun _ iv _ => 41 - (intOf iv).toNat)
    case atStart => exact ⟨0, G, rfl, Nat.zero_le _, Nat.zero_le _, HGL.out, HG2.out, SB2.out⟩
    case round =>
      obtain ⟨i, m, rfl, hil, hi40, hml, hrow, hb⟩ := hrel
      have SB_wr := Lib.hid hb
      have LL_wr := Lib.hid hrow
      have HML := Lib.hid (show m.length < 1000000 by omega)
      have HML2 := Lib.hid hml
      obtain ⟨lA, lC, rfl, _, _⟩ := hrow.slice
      have HSr := Lib.hid (HS.out.later hb (Nat.lt_succ_self _))
      have s0 := HSr.out.c0
      have s1 := HSr.out.c1
      have slt := HSr.out.lt
      clear hrow hb hml
      by_cases hin : i < L.length ∧ i < 40
      · have hlti : (i : Int) < (L.length : Int) := by omega
        have h40i : (i : Int) < 40 := by omega
        obtain ⟨b, o, hA, hbl, qa⟩ := HL.out.at (i := i) hin.1 rfl (HB0.out.trans (SB_wr.out.mono (Nat.le_succ _)))
        subst hA
        have c0 := qa.c0
        have c1' := qa.c1
        have c2' := qa.c2
        clear qa
        generalize L[i] = a at *
        have HIN := Lib.hid hin
        clear hin
        have AC := Lib.hid (ActAt.new wr a)
        have LL0 := Lib.hid (show GO (wr.alloc (.cells #[.string a.k, .int .i64 a.n, .int .i64 a.t] 29)) (w.heap.size + 1) (.slice lA m.length lC) m from World.ownsRow.alloc LL_wr.out _)
        have SB0' := Lib.hid (SB_wr.out.alloc (Nat.le_trans HLB.out SB_wr.out.size) (.cells #[.string a.k, .int .i64 a.n, .int .i64 a.t] 29))
        obtain ⟨v0, hv0⟩ : ∃ v0, wr.alloc (.cells #[.string a.k, .int .i64 a.n, .int .i64 a.t] 29) = v0 := ⟨_, rfl⟩
        rw [hv0] at AC LL0 SB0'
        obtain ⟨N, hN⟩ : ∃ N, wr.heap.size = N := ⟨_, rfl⟩
        rw [hN] at AC
        have HCK := Lib.hid (check_any m (.slice lA m.length lC) v0 LL0.out.gr HML.out)
        obtain ⟨q, hq⟩ : ∃ q, okL m = q := ⟨_, rfl⟩
        have HOK := Lib.hid hq
        rw [hq] at HCK
        clear hq

        go_wp2_with fail
        refine Calls.mono HCK.out ?_
        rintro e v1 ⟨rfl, hb1⟩
        have SB_v1 := Lib.hid (SB0'.out.trans (hb1.mono (show w.heap.size + 1 ≤ v0.heap.size from Nat.le_trans HLB.out SB0'.out.size)))
        have LL_v1 := Lib.hid (LL0.out.later hb1)
        have AC_v1 := Lib.hid (AC.out.later hb1)
        clear hb1 s0 s1 slt hv0 hN c0 c1' c2' hbl
        go_wp2_with fail
        refine Calls.mono (HNM.out _ _) ?_
        rintro e w' ⟨rfl, he⟩
        have he := he.symm
        subst he
        have HGR := Lib.hid (rGreys_any m (.slice lA m.length lC) v1 LL_v1.out.gr HML.out)
        rw [HOK.out] at HGR
        go_upto_region 9 with (fail)
        go_cut [49] (fun tv wc => tv = .bool false ∧ Below v1.heap.size v1 wc)
        case first =>
          cases q with
          | true =>
            rw [show errN true = 0 from rfl]
            go_wp2_with fail
            refine Calls.mono HGR.out ?_
            rintro e v2 ⟨rfl, hb2⟩
            go_wp2_with fail
            go_meet
            case rel => exact ⟨rfl, hb2⟩
          | false =>
            rw [show errN false = 1 from rfl]
            go_wp2_with fail
            refine Calls.mono HGR.out ?_
            rintro e v2 ⟨rfl, hb2⟩
            go_wp2_with fail
            go_meet
            case rel => exact ⟨rfl, hb2⟩
        case rest =>
          obtain ⟨rfl, hb2⟩ := hcut
          generalize errN q = qe at *
          clear HGR HOK
          have SB_wc := Lib.hid (SB_v1.out.trans (hb2.mono (show w.heap.size + 1 ≤ v1.heap.size from Nat.le_trans HLB.out SB_v1.out.size)))
          have LL_wc := Lib.hid (LL_v1.out.later hb2)
          have AC_wc := Lib.hid (AC_v1.out.later hb2)
          clear hb2
          have HCY := Lib.hid (copy_any m (.slice lA m.length lC) wc LL_wc.out.gr HML.out)
          go_wp2_with fail
          refine Calls.mono HCY.out ?_
          rintro e v3 ⟨ui, rfl, hgi, hb3⟩
          have SB_v3 := Lib.hid (SB_wc.out.trans (hb3.mono (show w.heap.size + 1 ≤ wc.heap.size from Nat.le_trans HLB.out SB_wc.out.size)))
          have LL_v3 := Lib.hid (LL_wc.out.later hb3)
          have AC_v3 := Lib.hid (AC_wc.out.later hb3)
          have IN_v3 := Lib.hid hgi
          obtain ⟨iA, iC, rfl, _, _⟩ := hgi.slice
          clear hb3 hgi
          have HAK := Lib.hid (ask_any m a.k a.n a.t (.slice iA m.length iC) v3 IN_v3.out.gr HML.out)
          obtain ⟨X, hX⟩ : ∃ X, outA m a.k a.n a.t = X := ⟨_, rfl⟩
          obtain ⟨may, hmay⟩ : ∃ may, mayL m a.k a.n a.t = may := ⟨_, rfl⟩
          rw [hX, hmay] at HAK
          have HX := Lib.hid hX
          have HMAY := Lib.hid hmay
          clear hX hmay
          have a0 := AC_v3.out.c0
          have a1 := AC_v3.out.c1
          have a2 := AC_v3.out.c2
          go_wp2_with fail
          refine Calls.mono HAK.out ?_
          rintro e v4 ⟨ux, rfl, hgx, hb4⟩
          have SB_v4 := Lib.hid (SB_v3.out.trans (hb4.mono (show w.heap.size + 1 ≤ v3.heap.size from Nat.le_trans HLB.out SB_v3.out.size)))
          have LL_v4 := Lib.hid (LL_v3.out.later hb4)
          have AC_v4 := Lib.hid (AC_v3.out.later hb4)
          have IN_v4 := Lib.hid (IN_v3.out.later hb4)
          have XX_v4 := Lib.hid hgx
          have HS34 := Lib.hid hb4.size
          have HS44 := Lib.hid (Nat.le_refl v4.heap.size)
          obtain ⟨xA, xC, rfl, _, _⟩ := hgx.slice
          clear hb4 hgx a0 a1 a2
          have HE1 := Lib.hid (eqs_same m (.slice iA m.length iC) (.slice lA m.length lC) v4 IN_v4.out.gr LL_v4.out.gr HML.out)
          go_wp2_with fail
          refine Calls.mono HE1.out ?_
          rintro e v5 ⟨rfl, hb5⟩
          have HS5 := Lib.hid hb5.size
          have SB_v5 := Lib.hid (SB_v4.out.trans (hb5.mono (show w.heap.size + 1 ≤ v4.heap.size from Nat.le_trans HLB.out SB_v4.out.size)))
          have LL_v5 := Lib.hid (LL_v4.out.later hb5)
          have AC_v5 := Lib.hid (AC_v4.out.later hb5)
          have IN_v5 := Lib.hid (IN_v4.out.later hb5)
          have XX_v5 := Lib.hid (XX_v4.out.later hb5)
          clear hb5
          have HMA := Lib.hid (may_any m a.k a.n a.t (.slice lA m.length lC) v5 LL_v5.out.gr HML.out)
          rw [HMAY.out] at HMA
          have a0 := AC_v5.out.c0
          have a1 := AC_v5.out.c1
          have a2 := AC_v5.out.c2
          go_wp2_with fail
          refine Calls.mono HMA.out ?_
          rintro e v6 ⟨rfl, hb6⟩
          have HS6 := Lib.hid hb6.size
          have SB_v6 := Lib.hid (SB_v5.out.trans (hb6.mono (show w.heap.size + 1 ≤ v5.heap.size from Nat.le_trans HLB.out SB_v5.out.size)))
          have LL_v6 := Lib.hid (LL_v5.out.later hb6)
          have AC_v6 := Lib.hid (AC_v5.out.later hb6)
          have IN_v6 := Lib.hid (IN_v5.out.later hb6)
          have XX_v6 := Lib.hid (XX_v5.out.later hb6)
          clear hb6 a0 a1 a2
          cases may with
          | false =>
            have hX : X = ([], false) := by rw [← HX.out]; unfold outA; rw [HMAY.out]; rfl
            subst hX
            rw [show errN false = 1 from rfl]
            go_wp2_with fail
            refine Calls.mono (HNM.out _ _) ?_
            rintro e w' ⟨rfl, he⟩
            have he := he.symm
            subst he
            go_wp2_with fail
            refine ⟨⟨i + 1, m, by go_num, by omega, by omega, HML2.out, LL_v6.out, SB_v6.out⟩, by simp [intOf]; omega⟩
          | true =>
            have HXA := Lib.hid (show X = askL m a.k a.n a.t by rw [← HX.out]; unfold outA; rw [HMAY.out]; rfl)
            have HXL := Lib.hid (show X.1.length ≤ 33 by rw [HXA.out]; have := askL_len m a.k a.n a.t; have := may_len HMAY.out; omega)
            rw [show errN true = 0 from rfl]
            have HRA := Lib.hid (rAsk_any m a.k a.n a.t (.slice lA m.length lC) v6 LL_v6.out.gr HML.out HMAY.out)
            rw [← HXA.out] at HRA
            have a0 := AC_v6.out.c0
            have a1 := AC_v6.out.c1
            have a2 := AC_v6.out.c2

            go_wp2_with fail
            refine Calls.mono HRA.out ?_
            rintro e v7 ⟨uw, rfl, hgw, hb7⟩
            have HS7 := Lib.hid hb7.size
            have SB_v7 := Lib.hid (SB_v6.out.trans (hb7.mono (show w.heap.size + 1 ≤ v6.heap.size from Nat.le_trans HLB.out SB_v6.out.size)))
            have LL_v7 := Lib.hid (LL_v6.out.later hb7)
            have AC_v7 := Lib.hid (AC_v6.out.later hb7)
            have IN_v7 := Lib.hid (IN_v6.out.later hb7)
            have XX_v7 := Lib.hid (XX_v6.out.later hb7)
            have WW_v7 := Lib.hid hgw
            obtain ⟨wA, wC, rfl, _, _⟩ := hgw.slice
            clear hb7 hgw a0 a1 a2
            obtain ⟨pb, hpb⟩ : ∃ pb, X.2 = pb := ⟨_, rfl⟩
            rw [hpb]
            have hbb : (pb == pb) = true := beq_self_eq_true pb
            go_wp2_with fail
            refine Calls.mono (HNM.out _ _) ?_
            rintro e w' ⟨rfl, he⟩
            have he := he.symm
            subst he
            have HE2 := Lib.hid (eqs_same X.1 (.slice xA X.1.length xC) (.slice wA X.1.length wC) v7 XX_v7.out.gr WW_v7.out.gr (by have := HXL.out; omega))
            go_wp2_with fail
            refine Calls.mono HE2.out ?_
            rintro e v8 ⟨rfl, hb8⟩
            have HS8 := Lib.hid hb8.size
            have SB_v8 := Lib.hid (SB_v7.out.trans (hb8.mono (show w.heap.size + 1 ≤ v7.heap.size from Nat.le_trans HLB.out SB_v7.out.size)))
            have LL_v8 := Lib.hid (LL_v7.out.later hb8)
            have AC_v8 := Lib.hid (AC_v7.out.later hb8)
            have IN_v8 := Lib.hid (IN_v7.out.later hb8)
            have XX_v8 := Lib.hid (XX_v7.out.later hb8)
            have WW_v8 := Lib.hid (WW_v7.out.later hb8)
            clear hb8
            have hs34 := HS34.out
            have hs48 : v4.heap.size ≤ v8.heap.size := Nat.le_trans (Nat.le_trans (Nat.le_trans HS5.out HS6.out) HS7.out) HS8.out
            have HSP := Lib.hid (spoil_any X.1 (.slice xA X.1.length xC) v3.heap.size v8 XX_v8.out (by have := HXL.out; omega) (show v3.heap.size ≤ v8.heap.size from Nat.le_trans hs34 hs48))
            go_wp2_with fail
            refine Calls.mono HSP.out ?_
            rintro e v9 ⟨rfl, hb9, hk9⟩
            have SB_v9 := Lib.hid (SB_v8.out.trans (hb9.mono (show w.heap.size + 1 ≤ v3.heap.size from Nat.le_trans HLB.out SB_v3.out.size)))
            have IN_v9 := Lib.hid (GO.blocks IN_v8.out (fun j ob hj hh => by rw [hb9.block j (IN_v3.out.lt j hj).2]; exact hh))
            have LL_v9 := Lib.hid (GO.blocks LL_v8.out (fun j ob hj hh => by rw [hb9.block j (LL_v3.out.lt j hj).2]; exact hh))
            have WW_v9 := Lib.hid (GO.blocks WW_v8.out (fun j ob hj hh => by
              rw [hk9 j (WW_v8.out.lt j hj).2 (fun e => by
                have h1 := (WW_v7.out.lt j hj).1
                have h2 := (XX_v4.out.lt j e).2
                have h3 : v4.heap.size ≤ v6.heap.size := Nat.le_trans HS5.out HS6.out
                omega)]
              exact hh))
            clear hb9 hk9
            have HE3 := Lib.hid (eqs_same m (.slice iA m.length iC) (.slice lA m.length lC) v9 IN_v9.out.gr LL_v9.out.gr HML.out)
            go_wp2_with fail
            refine Calls.mono HE3.out ?_
            rintro e v10 ⟨rfl, hb10⟩
            have SB_v10 := Lib.hid (SB_v9.out.trans (hb10.mono (show w.heap.size + 1 ≤ v9.heap.size from Nat.le_trans HLB.out SB_v9.out.size)))
            have IN_v10 := Lib.hid (IN_v9.out.later hb10)
            have LL_v10 := Lib.hid (LL_v9.out.later hb10)
            have WW_v10 := Lib.hid (WW_v9.out.later hb10)
            clear hb10
            have HCZ := Lib.hid (copy_any X.1 (.slice wA X.1.length wC) v10 WW_v10.out.gr (by have := HXL.out; omega))
            go_wp2_with fail
            refine Calls.mono HCZ.out ?_
            rintro e v11 ⟨un, rfl, hgn, hb11⟩
            have SB_v11 := Lib.hid (SB_v10.out.trans (hb11.mono (show w.heap.size + 1 ≤ v10.heap.size from Nat.le_trans HLB.out SB_v10.out.size)))
            have IN_v11 := Lib.hid (IN_v10.out.later hb11)
            have LL_v11 := Lib.hid (LL_v10.out.later hb11)
            have WW_v11 := Lib.hid (WW_v10.out.later hb11)

            have NN := Lib.hid (hgn.mono (show w.heap.size + 1 ≤ v10.heap.size from Nat.le_trans HLB.out SB_v10.out.size))
            obtain ⟨nA, nC, rfl, _, _⟩ := hgn.slice
            clear hgn hb11
            go_wp2_with fail
            refine ⟨⟨i + 1, X.1, by go_num, by omega, by omega, by have := HXL.out; omega, NN.out, SB_v11.out⟩, by simp [intOf]; omega⟩
      · have HBW := Lib.hid (HB0.out.trans (SB_wr.out.mono (Nat.le_succ _)))
        by_cases hlt : i < L.length
        · have hlti : (i : Int) < (L.length : Int) := by omega
          have h40i : decide ((i : Int) < 40) = false := decide_eq_false (by omega)
          have h40j : decide (i < 40) = false := decide_eq_false (by omega)
          go_wp2_with fail
          refine Calls.mono (HWK.out _) ?_
          rintro e v1 ⟨rfl, hb1⟩
          have HB1 := Lib.hid (HBW.out.trans (hb1.mono HBW.out.size))
          clear hb1
          go_wp2_with fail
          go_ret
          exact ⟨rfl, HB1.out⟩
        · have hlti : ¬ ((i : Int) < (L.length : Int)) := by omega
          go_wp2_with fail
          refine Calls.mono (HWK.out _) ?_
          rintro e v1 ⟨rfl, hb1⟩
          have HB1 := Lib.hid (HBW.out.trans (hb1.mono HBW.out.size))
          clear hb1
          go_wp2_with fail
          go_ret
          exact ⟨rfl, HB1.out⟩
end Go.Proofs.Ytaglobnfdgencaa

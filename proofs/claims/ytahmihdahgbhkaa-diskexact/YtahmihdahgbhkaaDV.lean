/-
  Package disk's found: what a crash leaves of a file, walked.
  Conditions: as each theorem states them.
-/
import Derived.Test.YtahmihdahgbhkaaDU
namespace Go.Proofs.Ytahmihdahgbhkaa
open Go.RowKit

theorem fitL_take : ∀ {l : List Ch} {x : List UInt8} (_ : fitL x l) (i : Nat), fitL x (l.take i) := by
  intro l
  induction l with
  | nil => intro x _ i; simp [fitL]
  | cons a r ih =>
    intro x h i
    cases i with
    | zero => exact trivial
    | succ i => exact ⟨h.1, ih h.2 i⟩
/-- The first changes of a list. -/
theorem CL.cut {w : World} {A : Option Addr} {n c i : Nat} {cs : List (Ch × Value)} (h : CL w (.slice A n c) cs) (hi : i ≤ cs.length) : CL w (.slice A i c) (cs.take i) := by
  obtain ⟨⟨A', c', hv, h1, h2, h3⟩, h4⟩ := h
  injection hv with e1 e2 e3
  subst e1 e3
  have hl : (cs.take i).length = i := by simp [hi]
  refine ⟨⟨A, c, by rw [hl], by rw [hl]; omega, h2, fun hne => ?_⟩, fun p hp => h4 p (List.mem_of_mem_take hp)⟩
  obtain ⟨b, o, hA, hlt, hc⟩ := h3 (fun e => hne (by rw [e]; simp))
  refine ⟨b, o, hA, hlt, fun j u hu => hc j u ?_⟩
  rw [← chsC_take, List.getElem?_take] at hu
  split at hu
  · exact hu
  · cases hu
section
variable {f : Fl} {l : List Int} {P : Nat}
theorem crashF_end (h : pickC l (f.done.length + 1) = P) (hP : P = f.done.length) : crashF f l = ((f.done.take P).foldl doC f.kept, 1) := by
  unfold crashF
  simp only [h]
  rw [List.getElem?_eq_none (by omega)]
theorem crashF_cut (h : pickC l (f.done.length + 1) = P) (hlt : P < f.done.length) (hc : (f.done[P]).b = none) : crashF f l = ((f.done.take P).foldl doC f.kept, 1) := by
  unfold crashF
  simp only [h]
  rw [List.getElem?_eq_getElem hlt]
  generalize f.done[P] = c at *
  obtain ⟨n, b⟩ := c
  simp only at hc
  subst hc
  rfl
theorem crashF_tear (h : pickC l (f.done.length + 1) = P) (hlt : P < f.done.length) {b : List UInt8} (hb : (f.done[P]).b = some b) :
    crashF f l = (doC ((f.done.take P).foldl doC f.kept) ⟨(f.done[P]).n, some (b.take (pickC (l.drop 1) (b.length + 1)))⟩, 2) := by
  unfold crashF
  simp only [h]
  rw [List.getElem?_eq_getElem hlt]
  generalize f.done[P] = c at *
  obtain ⟨n, b'⟩ := c
  simp only at hb
  subst hb
  rfl
end
theorem CL.later {w w' : World} {v : Value} {cs : List (Ch × Value)} (h : CL w v cs) (hb : Below w.heap.size w w') : CL w' v cs := h.heap hb.size (fun k _ hk => hb.block k hk) fun _ _ k _ hlt => hb.block k hlt
theorem CHo.later {w w' : World} {q : Nat} {l : List Int} {S : Nat → Prop} (h : CHo w q l S) (hb : Below w.heap.size w w') : CHo w' q l S := by
  obtain ⟨lv, h1, h2, h3⟩ := h
  exact ⟨lv, h1.later hb, h2.later hb, h3⟩
theorem CHo.kept {w w' : World} {q : Nat} {l : List Int} {S E : Nat → Prop} (h : CHo w q l S) (hb : Kept E w w') (hE : ∀ k, S k → ¬ E k) (hq : ¬ E q) : CHo w' q l S := by
  obtain ⟨lv, h1, h2, h3⟩ := h
  exact ⟨lv, h1.kept hb hq, h2.heap hb.size fun hne k hk hlt => hb.block k hlt (hE k (h3 hne k hk)), h3⟩
theorem CHo.lt {w : World} {q : Nat} {l : List Int} {S : Nat → Prop} (h : CHo w q l S) : q < w.heap.size := by
  obtain ⟨lv, h1, _⟩ := h
  exact h1.lt
theorem BR.cutAny {w : World} {B n c k : Nat} {A : Option Addr} {l : List UInt8} (h : BR w B (.slice A n c) l) (hk : k ≤ l.length) : BR w B (.slice A k c) (l.take k) := by
  rcases h.form with ⟨hv, hl⟩ | ⟨g, cap, hv, _⟩
  · injection hv with e1 e2 e3
    subst e1 e2 e3 hl
    obtain rfl : k = 0 := by simpa using hk
    exact BR.nil _ _
  · injection hv with e1 e2 e3
    subst e1 e3
    exact h.cut hk
theorem CL.blockLt {w : World} {v : Value} {cs : List (Ch × Value)} (h : CL w v cs) (hne : cs ≠ []) {k : Nat} (hk : v.ownBlock = some k) : k < w.heap.size := by
  obtain ⟨⟨A, c, rfl, _, _, h3⟩, _⟩ := h
  obtain ⟨b, o, hA, hlt, _⟩ := h3 hne
  subst hA
  have : b = k := by simpa [Value.ownBlock] using hk
  omega
set_option maxHeartbeats 8000000 in
set_option maxRecDepth 100000 in
theorem found_any (w : World) (ρ : Ro) (B p n q : Nat) (x : DkV) (d : Dk) (h : KAt w ρ B p x d) (hn : n ≤ 2) (hq : ρ q = 0) (l : List Int) (S : Nat → Prop) (hc : CHo w q l S) (hS : ¬ S q) (hSl : ∀ k, S k → k < w.heap.size) (hl : (d.f n).done.length < 1000000) :
    Calls Try.prog 50 #[.pointer (some ⟨p, n * 3, none⟩), .pointer (some ⟨q, 0, none⟩)] w fun e w' => ∃ u, e = .returned u ∧ BR w' w.heap.size u (crashF (d.f n) l).1 ∧ Kept (· = q) w w' ∧ CHo w' q (l.drop (crashF (d.f n) l).2) S := by
  have HK := Lib.hid h
  have hdl : (x.C n).length = (d.f n).done.length := by rw [← h.done n hn]; simp
  obtain ⟨lA, lc, hlv, hlc, hlcm⟩ := (h.list n hn).cl.slice
  have cL := h.cL hn
  rw [hlv] at cL
  obtain ⟨D, hD⟩ : ∃ D, (x.C n).length = D := ⟨_, rfl⟩
  rw [hD] at cL hdl hlc hlv
  have HBL := Lib.hid (below_any w q (D + 1) l S hc (by omega) (by omega) hS)
  rw [show ((D + 1 : Nat) : Int) = (D : Int) + 1 by omega] at HBL
  have hw1 : IntKind.i64.wrap ((D : Int) + 1) = (D : Int) + 1 := wrap_id (by omega) (by omega)
  have hbl := h.lt
  have hpl := pickC_lt l (show 0 < D + 1 by omega)
  obtain ⟨P, hP⟩ : ∃ P, pickC l (D + 1) = P := ⟨_, rfl⟩
  rw [hP] at hpl HBL
  have HDL := Lib.hid hdl
  have HDD := Lib.hid hD
  clear h hc hdl hD hl
  go_enter Try.func50, Try.ntmps50
  go_wp2_with fail
  refine Calls.mono HBL.out ?_
  rintro e w1 ⟨rfl, hk1, hc1⟩
  have HK1 := Lib.hid hk1
  have HC1 := Lib.hid hc1
  have hka := HK.out.step (S := [0]) ⟨hk1.mono fun k _ (e : k = q) => by rw [e, hq]; simp, fun _ _ => rfl⟩ (by simp <;> omega)
  have HKA := Lib.hid hka
  have c1L := hka.cL hn
  have c1K := hka.cK hn
  rw [hlv] at c1L
  have hbl1 := hka.lt
  have hPD : P ≤ D := by omega
  have hPi : (P : Int) ≤ (lc : Int) := by omega
  have HCL := Lib.hid (clone_any (d.f n).kept (x.K n) w1.drew ((hka.kept n hn).br.rb.heap (Nat.le_refl _) fun _ _ _ => rfl) (by have := hka.len n hn; omega))
  have hcl1 : CL w1.drew (.slice lA P lc) ((x.C n).take P) := by
    have := ((hka.list n hn).cl.heap (w' := w1.drew) (Nat.le_refl _) (fun _ _ _ => rfl) (fun _ _ _ _ _ => rfl))
    rw [hlv] at this
    exact this.cut (by rw [HDD.out]; exact hPD)
  have HCC := Lib.hid hcl1
  have HLB := Lib.hid (show ∀ k, (Value.slice lA P lc).ownBlock = some k → k < w1.drew.heap.size from fun k hk => by
    have e : (x.L n).ownBlock = some k := by rw [hlv]; cases lA <;> exact hk
    exact (World.ownsRow.lt (hka.list n hn).row k e).2)
  have HAP := Lib.hid (fun v (w2 : World) (hv : BR w2 w1.drew.heap.size v (d.f n).kept) (hb : Below w1.drew.heap.size w1.drew w2) => applied_any ((x.C n).take P) (.slice lA P lc) v (d.f n).kept w1.drew.heap.size w2 hv (HCC.out.later hb) hb.size
    (by rw [List.map_take, HKA.out.done n hn]; exact fitL_take (HKA.out.fit n hn) P) (HKA.out.len n hn)
    (fun k hk e => by have := (hv.lt k hk).1; have := HLB.out k e; omega)
    (fun k hk p' hp e => by have := (hv.lt k hk).1; have := (HCC.out.2 p' hp).lt e; omega))
  rw [List.map_take, HKA.out.done n hn] at HAP
  have HC2L := Lib.hid (fun w2 (hb : Below w1.drew.heap.size w1.drew w2) => show w2.cell? ⟨p, n * 3 + 2, none⟩ = some (.slice lA D lc) from (hb.cell (p := ⟨p, n * 3 + 2, none⟩) (show p < w1.drew.heap.size from hbl1)).trans c1L)
  clear hk1 hc1 hka hcl1
  go_wp2_with fail
  go_region_law (go_simp; first
    | (go_at_call 56; refine (HCL.out).mono ?_; rintro e w2 ⟨v, rfl, hv, hb2⟩; have HB2 := Lib.hid hb2; have HAQ := Lib.hid (HAP.out v w2 hv hb2); have c2L := HC2L.out w2 hb2; obtain ⟨vA, vc, rfl, _, _⟩ := hv.slice; have HV2 := Lib.hid hv; clear hv hb2)
    | (go_at_call 62; refine (HAQ.out).mono ?_; rintro e w3 ⟨u, rfl, hu, hg, hun⟩; have HU3 := Lib.hid hu; have HB3 := Lib.hid (HB2.out.trans (show Below w1.drew.heap.size w2 w3 from ⟨hg.os, hg.tape, hg.output, hg.size, fun k hk => hg.block k (Nat.lt_of_lt_of_le hk HB2.out.size) (fun e => by have := (HV2.out.lt k e.symm).1; omega)⟩)); obtain ⟨uA, uc, rfl, _, _⟩ := hu.slice; clear hu hg hun))
  all_goals
    have hb3 : Below w1.heap.size w1 w3 := (Below.refl w1.heap.size w1).drew.trans HB3.out
    have hka3 := HKA.out.step (S := []) (Step.of hb3) (by simp)
    have HKA3 := Lib.hid hka3
    have c3L := hka3.cL hn
    rw [hlv] at c3L
    have HC3 := Lib.hid (HC1.out.later hb3)
    have HKP := Lib.hid (HK1.out.trans (Kept.of hb3))
    have hs13 := hb3.size
    have hs01 := HK1.out.size
    have HU4 := Lib.hid (HU3.out.mono (B' := w.heap.size) (show w.heap.size ≤ w1.heap.size from hs01))
    have hbl3 := hka3.lt
    clear hka3 HAP HC2L HCC HCL HV2 c2L c1L c1K HB2 HAQ HLB hb3
    by_cases hPe : P = D
    · have HF := Lib.hid (crashF_end (f := d.f n) (P := P) (by rw [← HDL.out]; exact hP) (by rw [← HDL.out]; exact hPe))
      clear HDL HDD hP
      subst hPe
      go_wp2_with fail
      go_ret
      rw [HF.out]
      exact ⟨_, rfl, HU4.out, HKP.out, HC3.out⟩
    · have hPD' : ((P : Int) == (D : Int)) = false := beq_false_of_ne (by omega)
      have hPDi : ¬ ((P : Int) = (D : Int)) := by omega
      have hlt : P < (x.C n).length := by rw [HDD.out]; omega
      have hlt2 : P < (d.f n).done.length := by rw [← HDL.out]; omega
      have hPlt : (P : Int) < (D : Int) := by omega
      have hcl3 := (HKA3.out.list n hn).cl
      rw [hlv] at hcl3
      obtain ⟨b0, o0, rfl, hb0, e0, e1, e2⟩ := hcl3.at (i := P) hlt
      have hce : ((x.C n)[P]).1 = (d.f n).done[P] := by
        have := HKA3.out.done n hn
        have e : ((x.C n).map Prod.fst)[P]'(by simpa using hlt) = (d.f n).done[P] := by simp only [this]
        rwa [List.getElem_map] at e
      have htx := hcl3.2 _ (List.getElem_mem hlt)
      have htx1 := ((HKA.out.list n hn).tx _ (List.getElem_mem hlt)).1
      have hfc := fitL_at (HKA.out.fit n hn) P hlt2
      rw [← hce] at hfc
      have hro := ((HKA3.out.list n hn).tx _ (List.getElem_mem hlt)).2
      generalize (x.C n)[P] = pt at *
      obtain ⟨⟨m, ob⟩, t⟩ := pt
      cases ob with
      | none =>
        have HF := Lib.hid (crashF_cut (f := d.f n) (P := P) (by rw [← HDL.out]; exact hP) hlt2 (by rw [← hce]))
        clear HDL HDD hP htx htx1 hfc hro hcl3 hce
        go_wp2_with fail
        go_ret
        rw [HF.out]
        exact ⟨_, rfl, HU4.out, HKP.out, HC3.out⟩
      | some b =>
        have HF := Lib.hid (crashF_tear (f := d.f n) (P := P) (by rw [← HDL.out]; exact hP) hlt2 (b := b) (by rw [← hce]))
        rw [← hce] at HF
        have HX4 := Lib.hid (htx.2 b rfl)
        have HX1 := Lib.hid (fun k hk => htx1.lt (k := k) hk)
        have HFC := Lib.hid hfc
        obtain ⟨TA, tcap, rfl, htl, htc⟩ := (htx.2 b rfl).1.slice
        have hbl4 := (htx.2 b rfl).2
        obtain ⟨W4, hW4⟩ : ∃ W4, w3.alloc (.cells #[.bool false, .int .i64 (m : Int), .slice TA b.length tcap] 98) = W4 := ⟨_, rfl⟩
        have hq3 := HC3.out.lt
        have hq1 := HC1.out.lt
        have HBW := Lib.hid (show Below w3.heap.size w3 W4.drew by rw [← hW4]; exact ((Below.refl _ w3).alloc (Nat.le_refl _) _).drew)
        have HBL2 := Lib.hid (below_any W4.drew q (b.length + 1) (l.drop 1) S (HC3.out.later HBW.out) (by omega) (by omega) hS)
        have hpl2 := pickC_lt (l.drop 1) (show 0 < b.length + 1 by omega)
        rw [show ((b.length + 1 : Nat) : Int) = (b.length : Int) + 1 by omega] at HBL2
        have hw5 : IntKind.i64.wrap ((b.length : Int) + 1) = (b.length : Int) + 1 := wrap_id (by omega) (by omega)
        generalize pickC (l.drop 1) (b.length + 1) = M at *
        have hMi : (M : Int) ≤ (tcap : Int) := by omega
        have HTB := Lib.hid (show Blk W4.drew w3.heap.size #[.bool false, .int .i64 (m : Int), .slice TA b.length tcap] 98 by rw [← hW4]; exact Blk.new w3 _ _)
        have t2 := HTB.out.c 2 (u := .slice TA b.length tcap) rfl
        have hsz4 : W4.heap.size = w3.heap.size + 1 := by rw [← hW4]; simp
        have HT4 := Lib.hid (fun w4 (hk : Kept (· = q) W4.drew w4) => show Blk w4 w3.heap.size _ 98 from HTB.out.kept hk (by omega))
        have hqs : q < W4.drew.heap.size := by show q < W4.heap.size; omega
        clear HDL HDD hP hcl3 hce htx htx1 hfc
        go_wp2_with fail
        go_region_law (go_simp; go_at_call 61; refine (HBL2.out).mono ?_; rintro e w4 ⟨rfl, hk4, hc4⟩; have HK4 := Lib.hid hk4; have HC4 := Lib.hid hc4; have d2 := (HT4.out w4 hk4).c 2 (u := .slice TA b.length tcap) rfl; have y2 := (HT4.out w4 hk4).fz 2; clear hk4 hc4)
        all_goals
          have hb5 := (HT4.out w4 HK4.out).set 2 (.slice TA M tcap)
          have hst : Kept (fun k => k = q ∨ w3.heap.size ≤ k) w3 (w4.setCell ⟨w3.heap.size, 2, none⟩ (.slice TA M tcap)) :=
            ((Kept.of HBW.out).trans (HK4.out.mono fun k _ e => .inl e)).setCell ⟨w3.heap.size, 2, none⟩ (.inl (Nat.le_refl _)) _
          have hc5 : CHo (w4.setCell ⟨w3.heap.size, 2, none⟩ (.slice TA M tcap)) q ((l.drop 1).drop 1) S := HC4.out.kept (E := fun k => w3.heap.size ≤ k) (Kept.refl.setCell ⟨w3.heap.size, 2, none⟩ (.inr (Nat.le_refl _)) _) (fun k hk => by have := hSl k hk; omega) (by omega)
          have HST := Lib.hid hst
          have HC5 := Lib.hid hc5
          have HB5 := Lib.hid hb5
          generalize w4.setCell ⟨w3.heap.size, 2, none⟩ (.slice TA M tcap) = w5 at *
          have hu5 : BR w5 w1.heap.size (.slice uA (List.foldl doC (d.f n).kept (List.take P (d.f n).done)).length uc) (List.foldl doC (d.f n).kept (List.take P (d.f n).done)) :=
            (show BR w3 w1.heap.size _ _ from HU3.out).kept hst fun k hk e => by
              have h5 := (show BR w3 w1.heap.size _ _ from HU3.out).lt k hk
              omega
          have ht5 : BR w5 0 (.slice TA b.length tcap) b := HX4.out.1.kept hst fun k hk e => by
            have h5 := HX1.out k hk
            have h6 := HX4.out.1.lt k hk
            rcases e with e | e
            · have h7 : ρ k = 1 := hro k hk
              rw [e, hq] at h7
              omega
            · omega
          have HM := Lib.hid (madeIn_any (⟨m, some (b.take M)⟩, .slice TA M tcap) (.slice uA (List.foldl doC (d.f n).kept (List.take P (d.f n).done)).length uc) (List.foldl doC (d.f n).kept (List.take P (d.f n).done)) w1.heap.size w5 hu5
            ⟨HFC.out.1, fun b' e => by
              have := HFC.out.2 b rfl
              have e : b.take M = b' := Option.some.inj e
              rw [← e, List.length_take]
              simp only at this ⊢
              omega⟩
            ⟨fun e => (nomatch e), fun b' e => (Option.some.inj e) ▸ ⟨ht5.cutAny (by omega), by rw [List.length_take]; omega⟩⟩
            (fun k hk e => by
              have h5 := hu5.lt k hk
              have h6 := HX1.out k (by cases TA <;> exact e)
              omega) (Nat.le_trans hs13 HST.out.size) (by have := fitL_len (HKA3.out.len n hn) (HKA3.out.fit n hn) P; omega))
          have HU5 := Lib.hid hu5
          have f0 := hb5.c 0 (u := .bool false) rfl
          have f1 := hb5.c 1 (u := .int .i64 (m : Int)) rfl
          have f2 := hb5.c 2 (u := .slice TA M tcap) rfl
          clear hb5 hst hc5 hu5 ht5 d2 y2 t2 e0 e1 e2 c3L
          go_wp2_with fail
          refine Calls.mono HM.out ?_
          rintro e w6 ⟨r, rfl, hr6, hg6, hr6n⟩
          have HR6 := Lib.hid (hr6.mono (B' := w.heap.size) hs01)
          have HG6 := Lib.hid (show Kept (fun k => w1.heap.size ≤ k) w5 w6 from Kept.refl.grown hg6 fun k hk => .inr (HU5.out.lt k hk).1)
          clear hr6 hg6 hr6n f0 f1 f2
          go_wp2_with fail
          go_ret
          rw [HF.out]
          refine ⟨_, rfl, HR6.out, ?_, ?_⟩
          · have h56 := HG6.out
            have h35 := HST.out
            have h03 := HKP.out
            have z1 := h03.size
            have z2 := h35.size
            have z3 := h56.size
            exact ⟨h56.os.trans (h35.os.trans h03.os), h56.tape.trans (h35.tape.trans h03.tape), h56.output.trans (h35.output.trans h03.output), by omega, fun k hk hn => (h56.block k (by omega) (by omega)).trans ((h35.block k (by omega) (fun e => by
              rcases e with e | e
              · exact hn e
              · omega)).trans (h03.block k hk hn))⟩
          · have := HC5.out.kept HG6.out (fun k hk => by have := hSl k hk; omega) (by omega)
            rwa [List.drop_drop] at this
end Go.Proofs.Ytahmihdahgbhkaa

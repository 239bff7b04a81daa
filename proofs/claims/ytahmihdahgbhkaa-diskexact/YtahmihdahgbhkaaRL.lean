/-
  The page's Write, walked.
  Conditions: as each theorem states them.
-/
import Derived.Test.YtahmihdahgbhkaaRF
namespace Go.Proofs.Ytahmihdahgbhkaa
open Go.RowKit

theorem RB.heap2 {w w' : World} {v : Value} {l : List UInt8} (h : RB w v l) (hs : w.heap.size ≤ w'.heap.size) (hk : l ≠ [] → ∀ k, v.ownBlock = some k → k < w.heap.size → w'.heap[k]? = w.heap[k]?) : RB w' v l := by
  obtain ⟨A, c, rfl, h1, h2, h3⟩ := h
  refine ⟨A, c, rfl, h1, h2, fun hne => ?_⟩
  obtain ⟨b, o, hA, hlt, hc⟩ := h3 hne
  subst hA
  exact ⟨b, o, rfl, Nat.lt_of_lt_of_le hlt hs, fun j u hu => (World.cell?_of_block (a := ⟨b, o + j, none⟩) (hk hne b rfl hlt)).trans (hc j u hu)⟩
set_option maxHeartbeats 12000000 in
set_option maxRecDepth 100000 in
theorem Write_r (w : World) (ρ : Ro) (B p : Nat) (x : RdV) (d : Dk) (h : RAt w ρ B p x d) (hr : RoOk ρ B w) (hB : B ≤ w.heap.size) (n k : Int) (b : List UInt8) (bv : Value) (hbv : RB w bv b) (HBR : b ≠ [] → ∀ j, bv.ownBlock = some j → ρ j ∉ [2]) (hl : ∀ m, (d.f m).done.length < 1000000) (hbl : b.length ≤ 10000000) :
    Calls Try.prog 35 #[.pointer (some ⟨p, 0, none⟩), .int .i64 n, .int .i64 k, bv] w fun e w' => e = .returned (.int .i64 (wrD d n k b).2) ∧ OpR SK w ρ B p (wrD d n k b).1 w' := by
  have HC := Lib.hid (off_r w ρ B p x d h)
  have HR := Lib.hid hr
  have HBV := Lib.hid hbv
  obtain ⟨bA, bcp, rfl, hbl0, hbc⟩ := hbv.slice
  clear hbv
  have HRB := Lib.hid HBR
  clear HBR
  unfold wrD
  cases ht : (tickP d.p).isNone with
  | true =>
    rw [ht] at HC
    rw [actD_off ht]
    clear h hr
    go_enter Try.func35, Try.ntmps35
    go_wp2_with fail
    refine Calls.mono HC.out ?_
    rintro e w1 ⟨rfl, hs, x1, hk⟩
    have HOP := Lib.hid (OpR.of hk (hs.mono (T := SK) (by simp [SK])) (HR.out.later hs.kept.size))
    clear hs hk
    go_wp2_with fail
    go_ret
    exact ⟨rfl, HOP.out⟩
  | false =>
    rw [ht] at HC
    by_cases c : 0 ≤ n ∧ n ≤ 2
    · obtain ⟨N, hN⟩ : ∃ N, n.toNat = N := ⟨_, rfl⟩
      have hN2 : N ≤ 2 := by omega
      have h3 : (n = 0 ∧ N = 0) ∨ (n = 1 ∧ N = 1) ∨ (n = 2 ∧ N = 2) := by omega
      have HB := Lib.hid hB
      have hnl := h.nowLen hN2
      by_cases ck : 0 ≤ k ∧ k ≤ ((d.f N).now.length : Int)
      · have hwm : IntKind.i64.wrap (4194304 - k) = 4194304 - k := wrap_id (by omega) (by omega)
        by_cases cl : (b.length : Int) ≤ 4194304 - k
        · rw [actD_ok ht (fileOk_iff.2 c) (by rw [hN]; unfold wrL; rw [inB_iff.2 ck, decide_eq_true cl]; rfl), hN]
          obtain ⟨M, hM⟩ : ∃ M : Nat, k = (M : Int) := ⟨k.toNat, by omega⟩
          subst hM
          have hM2 : M ≤ (d.f N).now.length := by omega
          have ck0 : ¬ (M : Int) < 0 := by omega
          have ck1 : ¬ (M : Int) > ((d.f N).now.length : Int) := by omega
          have cl1 : ¬ (b.length : Int) > 4194304 - (M : Int) := by omega
          have HG := Lib.hid (show wrG (M : Int) b (d.f N) = ⟨(d.f N).kept, (d.f N).done ++ [⟨M, some b⟩]⟩ from rfl)
          have HF := Lib.hid (show fitC (d.f N).now ⟨M, some b⟩ from ⟨hM2, fun b' hb => by cases hb; show M + b.length ≤ 4194304; omega⟩)
          have hlN := hl N
          clear h hr c hN hB ck hl cl
          rcases h3 with ⟨rfl, rfl⟩ | ⟨rfl, rfl⟩ | ⟨rfl, rfl⟩
          · skip
            go_enter Try.func35, Try.ntmps35
            go_wp2_with fail
            refine Calls.mono HC.out ?_
            rintro e w1 ⟨rfl, hs, x1, hk⟩
            have HBV1 := Lib.hid (show RB w1 (.slice bA b.length bcp) b from HBV.out.heap2 hs.kept.size fun hne k hk hlt => hs.kept.block k hlt (HRB.out hne k hk))
            have cN : w1.cell? ⟨p, 1, none⟩ = some (x1.N 0) := hk.cN hN2
            have hrow := (hk.now _ hN2).br
            obtain ⟨nA, nc, hnv, _, _⟩ := hrow.slice
            rw [hnv] at cN hrow
            have HCB := Lib.hid (copyBytes_any b _ w1 HBV1.out hbl)
            have HS0 := Lib.hid hs
            have HK1 := Lib.hid hk
            have HRO1 := Lib.hid (HR.out.later hs.kept.size)
            have HB1 := Lib.hid (Nat.le_trans HB.out hs.kept.size)
            have hpl := hk.lt
            have HDN := Lib.hid (hk.done 0 hN2)
            clear hs hk hrow
            go_wp2_with fail
            refine Calls.mono HCB.out ?_
            rintro e w2 ⟨u, rfl, hu, hb2⟩
            obtain ⟨ρ1, hst1, hro1, htg⟩ := fresh_tag (r := 1) HRO1.out HB1.out hb2 hu
            have hk2 : RAt w2 ρ1 B p x1 ⟨d.f, tickP d.p⟩ := HK1.out.step hst1 (by simp)
            have HU := Lib.hid hu
            have HTG := Lib.hid htg
            have HS2 := Lib.hid (show Step SK ρ ρ1 w w2 from (HS0.out.mono (T := SK) (by simp [SK])).trans (hst1.mono (by simp)))
            have HRO2 := Lib.hid hro1
            have HB2 := Lib.hid (Nat.le_trans HB1.out hb2.size)
            obtain ⟨tA, tc, rfl, _, _⟩ := hu.slice
            have hpl2 := hk2.lt
            obtain ⟨W1, hW1⟩ : ∃ W1, w2.alloc (.cells #[.int .i64 (M : Int), .int .i64 (-1), .slice tA b.length tc] 81) = W1 := ⟨_, rfl⟩
            have hst0 : Step [] ρ1 ρ1 w2 W1.drew := by
              have e : Step [] ρ1 ρ1 w2 (w2.alloc (.cells #[.int .i64 (M : Int), .int .i64 (-1), .slice tA b.length tc] 81)) := Step.refl.alloc _
              rw [← hW1]
              exact ⟨⟨e.kept.os, e.kept.tape, e.kept.output, e.kept.size, e.kept.block⟩, e.same⟩
            have hk0 : RAt W1.drew ρ1 B p x1 ⟨d.f, tickP d.p⟩ := hk2.step hst0 (by simp)
            have HS := Lib.hid (show Step SK ρ ρ1 w W1.drew from HS2.out.trans (hst0.mono (by simp)))
            have HX0 := Lib.hid (show Blk W1.drew w2.heap.size #[.int .i64 (M : Int), .int .i64 (-1), .slice tA b.length tc] 81 by rw [← hW1]; exact Blk.new w2 _ _)
            have c0 := HX0.out.c 0 (u := .int .i64 (M : Int)) rfl
            have c1 := HX0.out.c 1 (u := .int .i64 (-1)) rfl
            have c2 := HX0.out.c 2 (u := .slice tA b.length tc) rfl
            have hs1 : W1.heap.size = w2.heap.size + 1 := by rw [← hW1]; simp
            have cN1 : W1.cell? ⟨p, 1, none⟩ = some (x1.N 0) := hk0.cN hN2
            have HRO := Lib.hid (HRO2.out.later hst0.kept.size)
            have HB1 := Lib.hid (Nat.le_trans HB2.out hst0.kept.size)
            have HK0 := Lib.hid hk0
            have hbr1 : BR W1.drew 0 (.slice tA b.length tc) b := by
              rw [← hW1]
              exact ((hu.alloc _).mono (Nat.zero_le _)).blocks fun _ _ _ => rfl
            have HTX := Lib.hid (show TX W1.drew (⟨M, some b⟩, .slice tA b.length tc) from ⟨fun e => (nomatch e), fun b' e => (Option.some.inj e) ▸ ⟨hbr1, by omega⟩⟩)
            have hrow := (hk0.now _ hN2).br
            rw [hnv] at cN1 hrow
            have HCB2 := Lib.hid (does_write M b _ _ _ B W1.drew hrow hM2 hbr1.rb (by show (d.f 0).now.length ≤ 10000000; omega) hbl)
            have HSB := Lib.hid (show ∀ w3, Below W1.drew.heap.size W1.drew w3 → Blk w3 p (cellsR x1) 71 from fun w3 hb => hk0.blk.later hb)
            have hcl : (x1.C 0).length < 1000000 := by
              have := HDN.out
              have e : ((x1.C 0).map Prod.fst).length = (d.f 0).done.length := by rw [this]
              rw [List.length_map] at e
              omega
            have HW1 := Lib.hid hW1
            have HNV := Lib.hid hnv
            clear hu hb2 hst1 hro1 htg hk2 HK1 HRO1 HCB cN hk0 hrow hnv hlN hst0 hW1 hbr1
            go_wp2_with fail
            rw [HW1.out]
            go_region_law (go_simp; go_at_call 47; refine (HCB2.out).mono ?_; rintro e w3 ⟨u, rfl, hu, hb⟩; have s0 : w3.cell? ⟨p, 1, none⟩ = some (x1.N 0) := (HSB.out w3 hb).c _ (cellsR_N x1 hN2); have z0 := (HSB.out w3 hb).fz 1; have HU := Lib.hid hu; have HBL := Lib.hid hb; obtain ⟨uA, uc, rfl, _, _⟩ := hu.slice; clear hu hb)
            all_goals
              obtain ⟨ρ2, hm0⟩ := HK0.out.mid (c := ⟨M, some b⟩) (t := .slice tA b.length tc) HRO.out HB1.out hN2 HTX.out HTG.out HBL.out HU.out
              have hm : MidR W1.drew (w3.setCell ⟨p, 1, none⟩ (.slice uA (doC (d.f 0).now ⟨M, some b⟩).length uc)) ρ1 ρ2 B p 0 x1 ⟨d.f, tickP d.p⟩ ⟨M, some b⟩ (.slice tA b.length tc) (.slice uA (doC (d.f 0).now ⟨M, some b⟩).length uc) := hm0
              have hX3 := (HX0.out.later HBL.out).other (p := ⟨p, 1, none⟩) (by simp <;> omega) (.slice uA (doC (d.f 0).now ⟨M, some b⟩).length uc)
              clear hm0 s0 z0 cN1 c0 c1 c2 HBL HU HSB HCB2 HC
              generalize w3.setCell ⟨p, 1, none⟩ (.slice uA (doC (d.f 0).now ⟨M, some b⟩).length uc) = w4 at *
              have HM := Lib.hid hm
              have cL3 : w4.cell? ⟨p, 2, none⟩ = some (x1.L 0) := hm.blk.c _ (cellsR_L _ hN2)
              have hp3 := hm.blk.lt
              have d0 := hX3.c 0 (u := .int .i64 (M : Int)) rfl
              have d1 := hX3.c 1 (u := .int .i64 (-1)) rfl
              have d2 := hX3.c 2 (u := .slice tA b.length tc) rfl
              have hsz3 := hm.st.kept.size
              obtain ⟨W4, hW4⟩ : ∃ W4, w4.drew.alloc (.cells #[.int .i64 (M : Int), .int .i64 (-1), .slice tA b.length tc] 81) = W4 := ⟨_, rfl⟩
              have hst : Step [] ρ2 ρ2 w4 W4 := by
                have e : Step [] ρ2 ρ2 w4 (w4.alloc (.cells #[.int .i64 (M : Int), .int .i64 (-1), .slice tA b.length tc] 81)) := Step.refl.alloc _
                rw [← hW4]
                exact ⟨⟨e.kept.os, e.kept.tape, e.kept.output, e.kept.size, e.kept.block⟩, e.same⟩
              have hs4 : W4.heap.size = w4.heap.size + 1 := by rw [← hW4]; simp
              have HST := Lib.hid hst
              have hb4 := hm.blk.kept hst.kept (by simp)
              have HL4 := Lib.hid (hm.list.step hst (by simp) (by simp))
              have cL4 : W4.cell? ⟨p, 2, none⟩ = some (x1.L 0) := hb4.c _ (cellsR_L _ hN2)
              have HBK := Lib.hid (show W4.heap[w4.heap.size]? = some (.cells #[.int .i64 (M : Int), .int .i64 (-1), .slice tA b.length tc] 81 (0, 0)) by rw [← hW4]; exact heap_alloc_new w4.drew _)
              have HS4 := Lib.hid (show ∀ w', W4.grownBy w' (x1.L 0).ownBlock → w'.cell? ⟨p, 2, none⟩ = some (x1.L 0) ∧ w'.frozen? ⟨p, 2, none⟩ = false from fun w' hg => by
                have : Blk w' p _ 71 := hb4.heap (hg.block p hb4.lt (fun e => by
                  have e1 := HL4.out.ro p e.symm
                  have e2 := (HST.out.same p hp3).trans ((hm.st.same p HK0.out.lt).trans HK0.out.ro)
                  omega))
                exact ⟨this.c _ (cellsR_L _ hN2), this.fz _⟩)
              have hB4 : B ≤ W4.heap.size := by have h1 := HB1.out; have h2 := hm.st.kept.size; omega
              clear hst hb4 hm hX3
              go_wp2_with fail
              go_region_law (refine step_append_r _ _ B w4.heap.size (x1.L 0) (x1.C 0) (⟨M, some b⟩, .slice tA b.length tc) _ rfl rfl rfl (by simp [Act.eval]) (by simp [Act.eval]) HL4.out.row HBK.out rfl hB4 hcl ?_; intro u3 w5 h31 h32 h33; have s1 := (HS4.out w5 h32).1; have z1 := (HS4.out w5 h32).2; obtain ⟨uA3, uc3, rfl⟩ := ownsRow_form h31; have H31 := Lib.hid h31; have H32 := Lib.hid h32; have H33 := Lib.hid h33; clear h31 h32 h33)
              all_goals
                have hop := (HK0.out.changed hN2 HM.out HST.out H32.out H31.out (fun k hk => (H33.out k hk).imp id (fun e => by omega)) HF.out).after HS.out
                have hlen : (x1.C 0 ++ [((⟨M, some b⟩ : Ch), Value.slice tA b.length tc)]).length = (x1.C 0).length + 1 := by simp
                rw [hlen] at hop
                have HOP := Lib.hid hop
                clear hop cL3 cL4 d0 d1 d2
                go_wp2_with fail
                go_ret
                exact ⟨rfl, by rw [HG.out]; exact HOP.out⟩
          · skip
            go_enter Try.func35, Try.ntmps35
            go_wp2_with fail
            refine Calls.mono HC.out ?_
            rintro e w1 ⟨rfl, hs, x1, hk⟩
            have HBV1 := Lib.hid (show RB w1 (.slice bA b.length bcp) b from HBV.out.heap2 hs.kept.size fun hne k hk hlt => hs.kept.block k hlt (HRB.out hne k hk))
            have cN : w1.cell? ⟨p, 4, none⟩ = some (x1.N 1) := hk.cN hN2
            have hrow := (hk.now _ hN2).br
            obtain ⟨nA, nc, hnv, _, _⟩ := hrow.slice
            rw [hnv] at cN hrow
            have HCB := Lib.hid (copyBytes_any b _ w1 HBV1.out hbl)
            have HS0 := Lib.hid hs
            have HK1 := Lib.hid hk
            have HRO1 := Lib.hid (HR.out.later hs.kept.size)
            have HB1 := Lib.hid (Nat.le_trans HB.out hs.kept.size)
            have hpl := hk.lt
            have HDN := Lib.hid (hk.done 1 hN2)
            clear hs hk hrow
            go_wp2_with fail
            refine Calls.mono HCB.out ?_
            rintro e w2 ⟨u, rfl, hu, hb2⟩
            obtain ⟨ρ1, hst1, hro1, htg⟩ := fresh_tag (r := 1) HRO1.out HB1.out hb2 hu
            have hk2 : RAt w2 ρ1 B p x1 ⟨d.f, tickP d.p⟩ := HK1.out.step hst1 (by simp)
            have HU := Lib.hid hu
            have HTG := Lib.hid htg
            have HS2 := Lib.hid (show Step SK ρ ρ1 w w2 from (HS0.out.mono (T := SK) (by simp [SK])).trans (hst1.mono (by simp)))
            have HRO2 := Lib.hid hro1
            have HB2 := Lib.hid (Nat.le_trans HB1.out hb2.size)
            obtain ⟨tA, tc, rfl, _, _⟩ := hu.slice
            have hpl2 := hk2.lt
            obtain ⟨W1, hW1⟩ : ∃ W1, w2.alloc (.cells #[.int .i64 (M : Int), .int .i64 (-1), .slice tA b.length tc] 81) = W1 := ⟨_, rfl⟩
            have hst0 : Step [] ρ1 ρ1 w2 W1.drew := by
              have e : Step [] ρ1 ρ1 w2 (w2.alloc (.cells #[.int .i64 (M : Int), .int .i64 (-1), .slice tA b.length tc] 81)) := Step.refl.alloc _
              rw [← hW1]
              exact ⟨⟨e.kept.os, e.kept.tape, e.kept.output, e.kept.size, e.kept.block⟩, e.same⟩
            have hk0 : RAt W1.drew ρ1 B p x1 ⟨d.f, tickP d.p⟩ := hk2.step hst0 (by simp)
            have HS := Lib.hid (show Step SK ρ ρ1 w W1.drew from HS2.out.trans (hst0.mono (by simp)))
            have HX0 := Lib.hid (show Blk W1.drew w2.heap.size #[.int .i64 (M : Int), .int .i64 (-1), .slice tA b.length tc] 81 by rw [← hW1]; exact Blk.new w2 _ _)
            have c0 := HX0.out.c 0 (u := .int .i64 (M : Int)) rfl
            have c1 := HX0.out.c 1 (u := .int .i64 (-1)) rfl
            have c2 := HX0.out.c 2 (u := .slice tA b.length tc) rfl
            have hs1 : W1.heap.size = w2.heap.size + 1 := by rw [← hW1]; simp
            have cN1 : W1.cell? ⟨p, 4, none⟩ = some (x1.N 1) := hk0.cN hN2
            have HRO := Lib.hid (HRO2.out.later hst0.kept.size)
            have HB1 := Lib.hid (Nat.le_trans HB2.out hst0.kept.size)
            have HK0 := Lib.hid hk0
            have hbr1 : BR W1.drew 0 (.slice tA b.length tc) b := by
              rw [← hW1]
              exact ((hu.alloc _).mono (Nat.zero_le _)).blocks fun _ _ _ => rfl
            have HTX := Lib.hid (show TX W1.drew (⟨M, some b⟩, .slice tA b.length tc) from ⟨fun e => (nomatch e), fun b' e => (Option.some.inj e) ▸ ⟨hbr1, by omega⟩⟩)
            have hrow := (hk0.now _ hN2).br
            rw [hnv] at cN1 hrow
            have HCB2 := Lib.hid (does_write M b _ _ _ B W1.drew hrow hM2 hbr1.rb (by show (d.f 1).now.length ≤ 10000000; omega) hbl)
            have HSB := Lib.hid (show ∀ w3, Below W1.drew.heap.size W1.drew w3 → Blk w3 p (cellsR x1) 71 from fun w3 hb => hk0.blk.later hb)
            have hcl : (x1.C 1).length < 1000000 := by
              have := HDN.out
              have e : ((x1.C 1).map Prod.fst).length = (d.f 1).done.length := by rw [this]
              rw [List.length_map] at e
              omega
            have HW1 := Lib.hid hW1
            have HNV := Lib.hid hnv
            clear hu hb2 hst1 hro1 htg hk2 HK1 HRO1 HCB cN hk0 hrow hnv hlN hst0 hW1 hbr1
            go_wp2_with fail
            rw [HW1.out]
            go_region_law (go_simp; go_at_call 47; refine (HCB2.out).mono ?_; rintro e w3 ⟨u, rfl, hu, hb⟩; have s0 : w3.cell? ⟨p, 4, none⟩ = some (x1.N 1) := (HSB.out w3 hb).c _ (cellsR_N x1 hN2); have z0 := (HSB.out w3 hb).fz 4; have HU := Lib.hid hu; have HBL := Lib.hid hb; obtain ⟨uA, uc, rfl, _, _⟩ := hu.slice; clear hu hb)
            all_goals
              obtain ⟨ρ2, hm0⟩ := HK0.out.mid (c := ⟨M, some b⟩) (t := .slice tA b.length tc) HRO.out HB1.out hN2 HTX.out HTG.out HBL.out HU.out
              have hm : MidR W1.drew (w3.setCell ⟨p, 4, none⟩ (.slice uA (doC (d.f 1).now ⟨M, some b⟩).length uc)) ρ1 ρ2 B p 1 x1 ⟨d.f, tickP d.p⟩ ⟨M, some b⟩ (.slice tA b.length tc) (.slice uA (doC (d.f 1).now ⟨M, some b⟩).length uc) := hm0
              have hX3 := (HX0.out.later HBL.out).other (p := ⟨p, 4, none⟩) (by simp <;> omega) (.slice uA (doC (d.f 1).now ⟨M, some b⟩).length uc)
              clear hm0 s0 z0 cN1 c0 c1 c2 HBL HU HSB HCB2 HC
              generalize w3.setCell ⟨p, 4, none⟩ (.slice uA (doC (d.f 1).now ⟨M, some b⟩).length uc) = w4 at *
              have HM := Lib.hid hm
              have cL3 : w4.cell? ⟨p, 5, none⟩ = some (x1.L 1) := hm.blk.c _ (cellsR_L _ hN2)
              have hp3 := hm.blk.lt
              have d0 := hX3.c 0 (u := .int .i64 (M : Int)) rfl
              have d1 := hX3.c 1 (u := .int .i64 (-1)) rfl
              have d2 := hX3.c 2 (u := .slice tA b.length tc) rfl
              have hsz3 := hm.st.kept.size
              obtain ⟨W4, hW4⟩ : ∃ W4, w4.drew.alloc (.cells #[.int .i64 (M : Int), .int .i64 (-1), .slice tA b.length tc] 81) = W4 := ⟨_, rfl⟩
              have hst : Step [] ρ2 ρ2 w4 W4 := by
                have e : Step [] ρ2 ρ2 w4 (w4.alloc (.cells #[.int .i64 (M : Int), .int .i64 (-1), .slice tA b.length tc] 81)) := Step.refl.alloc _
                rw [← hW4]
                exact ⟨⟨e.kept.os, e.kept.tape, e.kept.output, e.kept.size, e.kept.block⟩, e.same⟩
              have hs4 : W4.heap.size = w4.heap.size + 1 := by rw [← hW4]; simp
              have HST := Lib.hid hst
              have hb4 := hm.blk.kept hst.kept (by simp)
              have HL4 := Lib.hid (hm.list.step hst (by simp) (by simp))
              have cL4 : W4.cell? ⟨p, 5, none⟩ = some (x1.L 1) := hb4.c _ (cellsR_L _ hN2)
              have HBK := Lib.hid (show W4.heap[w4.heap.size]? = some (.cells #[.int .i64 (M : Int), .int .i64 (-1), .slice tA b.length tc] 81 (0, 0)) by rw [← hW4]; exact heap_alloc_new w4.drew _)
              have HS4 := Lib.hid (show ∀ w', W4.grownBy w' (x1.L 1).ownBlock → w'.cell? ⟨p, 5, none⟩ = some (x1.L 1) ∧ w'.frozen? ⟨p, 5, none⟩ = false from fun w' hg => by
                have : Blk w' p _ 71 := hb4.heap (hg.block p hb4.lt (fun e => by
                  have e1 := HL4.out.ro p e.symm
                  have e2 := (HST.out.same p hp3).trans ((hm.st.same p HK0.out.lt).trans HK0.out.ro)
                  omega))
                exact ⟨this.c _ (cellsR_L _ hN2), this.fz _⟩)
              have hB4 : B ≤ W4.heap.size := by have h1 := HB1.out; have h2 := hm.st.kept.size; omega
              clear hst hb4 hm hX3
              go_wp2_with fail
              go_region_law (refine step_append_r _ _ B w4.heap.size (x1.L 1) (x1.C 1) (⟨M, some b⟩, .slice tA b.length tc) _ rfl rfl rfl (by simp [Act.eval]) (by simp [Act.eval]) HL4.out.row HBK.out rfl hB4 hcl ?_; intro u3 w5 h31 h32 h33; have s1 := (HS4.out w5 h32).1; have z1 := (HS4.out w5 h32).2; obtain ⟨uA3, uc3, rfl⟩ := ownsRow_form h31; have H31 := Lib.hid h31; have H32 := Lib.hid h32; have H33 := Lib.hid h33; clear h31 h32 h33)
              all_goals
                have hop := (HK0.out.changed hN2 HM.out HST.out H32.out H31.out (fun k hk => (H33.out k hk).imp id (fun e => by omega)) HF.out).after HS.out
                have hlen : (x1.C 1 ++ [((⟨M, some b⟩ : Ch), Value.slice tA b.length tc)]).length = (x1.C 1).length + 1 := by simp
                rw [hlen] at hop
                have HOP := Lib.hid hop
                clear hop cL3 cL4 d0 d1 d2
                go_wp2_with fail
                go_ret
                exact ⟨rfl, by rw [HG.out]; exact HOP.out⟩
          · skip
            go_enter Try.func35, Try.ntmps35
            go_wp2_with fail
            refine Calls.mono HC.out ?_
            rintro e w1 ⟨rfl, hs, x1, hk⟩
            have HBV1 := Lib.hid (show RB w1 (.slice bA b.length bcp) b from HBV.out.heap2 hs.kept.size fun hne k hk hlt => hs.kept.block k hlt (HRB.out hne k hk))
            have cN : w1.cell? ⟨p, 7, none⟩ = some (x1.N 2) := hk.cN hN2
            have hrow := (hk.now _ hN2).br
            obtain ⟨nA, nc, hnv, _, _⟩ := hrow.slice
            rw [hnv] at cN hrow
            have HCB := Lib.hid (copyBytes_any b _ w1 HBV1.out hbl)
            have HS0 := Lib.hid hs
            have HK1 := Lib.hid hk
            have HRO1 := Lib.hid (HR.out.later hs.kept.size)
            have HB1 := Lib.hid (Nat.le_trans HB.out hs.kept.size)
            have hpl := hk.lt
            have HDN := Lib.hid (hk.done 2 hN2)
            clear hs hk hrow
            go_wp2_with fail
            refine Calls.mono HCB.out ?_
            rintro e w2 ⟨u, rfl, hu, hb2⟩
            obtain ⟨ρ1, hst1, hro1, htg⟩ := fresh_tag (r := 1) HRO1.out HB1.out hb2 hu
            have hk2 : RAt w2 ρ1 B p x1 ⟨d.f, tickP d.p⟩ := HK1.out.step hst1 (by simp)
            have HU := Lib.hid hu
            have HTG := Lib.hid htg
            have HS2 := Lib.hid (show Step SK ρ ρ1 w w2 from (HS0.out.mono (T := SK) (by simp [SK])).trans (hst1.mono (by simp)))
            have HRO2 := Lib.hid hro1
            have HB2 := Lib.hid (Nat.le_trans HB1.out hb2.size)
            obtain ⟨tA, tc, rfl, _, _⟩ := hu.slice
            have hpl2 := hk2.lt
            obtain ⟨W1, hW1⟩ : ∃ W1, w2.alloc (.cells #[.int .i64 (M : Int), .int .i64 (-1), .slice tA b.length tc] 81) = W1 := ⟨_, rfl⟩
            have hst0 : Step [] ρ1 ρ1 w2 W1.drew := by
              have e : Step [] ρ1 ρ1 w2 (w2.alloc (.cells #[.int .i64 (M : Int), .int .i64 (-1), .slice tA b.length tc] 81)) := Step.refl.alloc _
              rw [← hW1]
              exact ⟨⟨e.kept.os, e.kept.tape, e.kept.output, e.kept.size, e.kept.block⟩, e.same⟩
            have hk0 : RAt W1.drew ρ1 B p x1 ⟨d.f, tickP d.p⟩ := hk2.step hst0 (by simp)
            have HS := Lib.hid (show Step SK ρ ρ1 w W1.drew from HS2.out.trans (hst0.mono (by simp)))
            have HX0 := Lib.hid (show Blk W1.drew w2.heap.size #[.int .i64 (M : Int), .int .i64 (-1), .slice tA b.length tc] 81 by rw [← hW1]; exact Blk.new w2 _ _)
            have c0 := HX0.out.c 0 (u := .int .i64 (M : Int)) rfl
            have c1 := HX0.out.c 1 (u := .int .i64 (-1)) rfl
            have c2 := HX0.out.c 2 (u := .slice tA b.length tc) rfl
            have hs1 : W1.heap.size = w2.heap.size + 1 := by rw [← hW1]; simp
            have cN1 : W1.cell? ⟨p, 7, none⟩ = some (x1.N 2) := hk0.cN hN2
            have HRO := Lib.hid (HRO2.out.later hst0.kept.size)
            have HB1 := Lib.hid (Nat.le_trans HB2.out hst0.kept.size)
            have HK0 := Lib.hid hk0
            have hbr1 : BR W1.drew 0 (.slice tA b.length tc) b := by
              rw [← hW1]
              exact ((hu.alloc _).mono (Nat.zero_le _)).blocks fun _ _ _ => rfl
            have HTX := Lib.hid (show TX W1.drew (⟨M, some b⟩, .slice tA b.length tc) from ⟨fun e => (nomatch e), fun b' e => (Option.some.inj e) ▸ ⟨hbr1, by omega⟩⟩)
            have hrow := (hk0.now _ hN2).br
            rw [hnv] at cN1 hrow
            have HCB2 := Lib.hid (does_write M b _ _ _ B W1.drew hrow hM2 hbr1.rb (by show (d.f 2).now.length ≤ 10000000; omega) hbl)
            have HSB := Lib.hid (show ∀ w3, Below W1.drew.heap.size W1.drew w3 → Blk w3 p (cellsR x1) 71 from fun w3 hb => hk0.blk.later hb)
            have hcl : (x1.C 2).length < 1000000 := by
              have := HDN.out
              have e : ((x1.C 2).map Prod.fst).length = (d.f 2).done.length := by rw [this]
              rw [List.length_map] at e
              omega
            have HW1 := Lib.hid hW1
            have HNV := Lib.hid hnv
            clear hu hb2 hst1 hro1 htg hk2 HK1 HRO1 HCB cN hk0 hrow hnv hlN hst0 hW1 hbr1
            go_wp2_with fail
            rw [HW1.out]
            go_region_law (go_simp; go_at_call 47; refine (HCB2.out).mono ?_; rintro e w3 ⟨u, rfl, hu, hb⟩; have s0 : w3.cell? ⟨p, 7, none⟩ = some (x1.N 2) := (HSB.out w3 hb).c _ (cellsR_N x1 hN2); have z0 := (HSB.out w3 hb).fz 7; have HU := Lib.hid hu; have HBL := Lib.hid hb; obtain ⟨uA, uc, rfl, _, _⟩ := hu.slice; clear hu hb)
            all_goals
              obtain ⟨ρ2, hm0⟩ := HK0.out.mid (c := ⟨M, some b⟩) (t := .slice tA b.length tc) HRO.out HB1.out hN2 HTX.out HTG.out HBL.out HU.out
              have hm : MidR W1.drew (w3.setCell ⟨p, 7, none⟩ (.slice uA (doC (d.f 2).now ⟨M, some b⟩).length uc)) ρ1 ρ2 B p 2 x1 ⟨d.f, tickP d.p⟩ ⟨M, some b⟩ (.slice tA b.length tc) (.slice uA (doC (d.f 2).now ⟨M, some b⟩).length uc) := hm0
              have hX3 := (HX0.out.later HBL.out).other (p := ⟨p, 7, none⟩) (by simp <;> omega) (.slice uA (doC (d.f 2).now ⟨M, some b⟩).length uc)
              clear hm0 s0 z0 cN1 c0 c1 c2 HBL HU HSB HCB2 HC
              generalize w3.setCell ⟨p, 7, none⟩ (.slice uA (doC (d.f 2).now ⟨M, some b⟩).length uc) = w4 at *
              have HM := Lib.hid hm
              have cL3 : w4.cell? ⟨p, 8, none⟩ = some (x1.L 2) := hm.blk.c _ (cellsR_L _ hN2)
              have hp3 := hm.blk.lt
              have d0 := hX3.c 0 (u := .int .i64 (M : Int)) rfl
              have d1 := hX3.c 1 (u := .int .i64 (-1)) rfl
              have d2 := hX3.c 2 (u := .slice tA b.length tc) rfl
              have hsz3 := hm.st.kept.size
              obtain ⟨W4, hW4⟩ : ∃ W4, w4.drew.alloc (.cells #[.int .i64 (M : Int), .int .i64 (-1), .slice tA b.length tc] 81) = W4 := ⟨_, rfl⟩
              have hst : Step [] ρ2 ρ2 w4 W4 := by
                have e : Step [] ρ2 ρ2 w4 (w4.alloc (.cells #[.int .i64 (M : Int), .int .i64 (-1), .slice tA b.length tc] 81)) := Step.refl.alloc _
                rw [← hW4]
                exact ⟨⟨e.kept.os, e.kept.tape, e.kept.output, e.kept.size, e.kept.block⟩, e.same⟩
              have hs4 : W4.heap.size = w4.heap.size + 1 := by rw [← hW4]; simp
              have HST := Lib.hid hst
              have hb4 := hm.blk.kept hst.kept (by simp)
              have HL4 := Lib.hid (hm.list.step hst (by simp) (by simp))
              have cL4 : W4.cell? ⟨p, 8, none⟩ = some (x1.L 2) := hb4.c _ (cellsR_L _ hN2)
              have HBK := Lib.hid (show W4.heap[w4.heap.size]? = some (.cells #[.int .i64 (M : Int), .int .i64 (-1), .slice tA b.length tc] 81 (0, 0)) by rw [← hW4]; exact heap_alloc_new w4.drew _)
              have HS4 := Lib.hid (show ∀ w', W4.grownBy w' (x1.L 2).ownBlock → w'.cell? ⟨p, 8, none⟩ = some (x1.L 2) ∧ w'.frozen? ⟨p, 8, none⟩ = false from fun w' hg => by
                have : Blk w' p _ 71 := hb4.heap (hg.block p hb4.lt (fun e => by
                  have e1 := HL4.out.ro p e.symm
                  have e2 := (HST.out.same p hp3).trans ((hm.st.same p HK0.out.lt).trans HK0.out.ro)
                  omega))
                exact ⟨this.c _ (cellsR_L _ hN2), this.fz _⟩)
              have hB4 : B ≤ W4.heap.size := by have h1 := HB1.out; have h2 := hm.st.kept.size; omega
              clear hst hb4 hm hX3
              go_wp2_with fail
              go_region_law (refine step_append_r _ _ B w4.heap.size (x1.L 2) (x1.C 2) (⟨M, some b⟩, .slice tA b.length tc) _ rfl rfl rfl (by simp [Act.eval]) (by simp [Act.eval]) HL4.out.row HBK.out rfl hB4 hcl ?_; intro u3 w5 h31 h32 h33; have s1 := (HS4.out w5 h32).1; have z1 := (HS4.out w5 h32).2; obtain ⟨uA3, uc3, rfl⟩ := ownsRow_form h31; have H31 := Lib.hid h31; have H32 := Lib.hid h32; have H33 := Lib.hid h33; clear h31 h32 h33)
              all_goals
                have hop := (HK0.out.changed hN2 HM.out HST.out H32.out H31.out (fun k hk => (H33.out k hk).imp id (fun e => by omega)) HF.out).after HS.out
                have hlen : (x1.C 2 ++ [((⟨M, some b⟩ : Ch), Value.slice tA b.length tc)]).length = (x1.C 2).length + 1 := by simp
                rw [hlen] at hop
                have HOP := Lib.hid hop
                clear hop cL3 cL4 d0 d1 d2
                go_wp2_with fail
                go_ret
                exact ⟨rfl, by rw [HG.out]; exact HOP.out⟩
        · have cl1 : (b.length : Int) > 4194304 - k := by omega
          rw [actD_limit ht (fileOk_iff.2 c) (by rw [hN]; unfold wrL; rw [decide_eq_false cl, Bool.and_false])]
          obtain ⟨M, hM⟩ : ∃ M : Nat, k = (M : Int) := ⟨k.toNat, by omega⟩
          subst hM
          have ck0 : ¬ (M : Int) < 0 := by omega
          have ck1 : ¬ (M : Int) > ((d.f N).now.length : Int) := by omega
          clear hr c hN hB hl h cl ck
          rcases h3 with ⟨rfl, rfl⟩ | ⟨rfl, rfl⟩ | ⟨rfl, rfl⟩
          all_goals
            go_enter Try.func35, Try.ntmps35
            go_wp2_with fail
            refine Calls.mono HC.out ?_
            rintro e w1 ⟨rfl, hs, x1, hk⟩
            have HOP := Lib.hid (OpR.of hk (hs.mono (T := SK) (by simp [SK])) (HR.out.later hs.kept.size))
            have cN := hk.cN hN2
            obtain ⟨nA, nc, hnv, _, _⟩ := (hk.now _ hN2).br.slice
            rw [hnv] at cN
            clear hs hk hnv
            go_wp2_with fail
            go_ret
            exact ⟨rfl, HOP.out⟩
      · rw [actD_limit ht (fileOk_iff.2 c) (by rw [hN]; unfold wrL; rw [inB_not.2 ck]; rfl)]
        clear hr c hN hB hl h
        by_cases ck0 : k < 0
        · clear ck
          rcases h3 with ⟨rfl, rfl⟩ | ⟨rfl, rfl⟩ | ⟨rfl, rfl⟩
          all_goals
            go_enter Try.func35, Try.ntmps35
            go_wp2_with fail
            refine Calls.mono HC.out ?_
            rintro e w1 ⟨rfl, hs, x1, hk⟩
            have HOP := Lib.hid (OpR.of hk (hs.mono (T := SK) (by simp [SK])) (HR.out.later hs.kept.size))
            have cN := hk.cN hN2
            obtain ⟨nA, nc, hnv, _, _⟩ := (hk.now _ hN2).br.slice
            rw [hnv] at cN
            clear hs hk hnv
            go_wp2_with fail
            go_ret
            exact ⟨rfl, HOP.out⟩
        · have ck1 : k > ((d.f N).now.length : Int) := by omega
          clear ck
          rcases h3 with ⟨rfl, rfl⟩ | ⟨rfl, rfl⟩ | ⟨rfl, rfl⟩
          all_goals
            go_enter Try.func35, Try.ntmps35
            go_wp2_with fail
            refine Calls.mono HC.out ?_
            rintro e w1 ⟨rfl, hs, x1, hk⟩
            have HOP := Lib.hid (OpR.of hk (hs.mono (T := SK) (by simp [SK])) (HR.out.later hs.kept.size))
            have cN := hk.cN hN2
            obtain ⟨nA, nc, hnv, _, _⟩ := (hk.now _ hN2).br.slice
            rw [hnv] at cN
            clear hs hk hnv
            go_wp2_with fail
            go_ret
            exact ⟨rfl, HOP.out⟩
    · rw [actD_form ht (by cases hq : fileOk n with | false => rfl | true => exact absurd (fileOk_iff.1 hq) c)]
      clear h hr
      by_cases c0 : n < 0
      · clear c
        go_enter Try.func35, Try.ntmps35
        go_wp2_with fail
        refine Calls.mono HC.out ?_
        rintro e w1 ⟨rfl, hs, x1, hk⟩
        have HOP := Lib.hid (OpR.of hk (hs.mono (T := SK) (by simp [SK])) (HR.out.later hs.kept.size))
        clear hs hk
        go_wp2_with fail
        go_ret
        exact ⟨rfl, HOP.out⟩
      · have c2 : n > 2 := by omega
        clear c
        go_enter Try.func35, Try.ntmps35
        go_wp2_with fail
        refine Calls.mono HC.out ?_
        rintro e w1 ⟨rfl, hs, x1, hk⟩
        have HOP := Lib.hid (OpR.of hk (hs.mono (T := SK) (by simp [SK])) (HR.out.later hs.kept.size))
        clear hs hk
        go_wp2_with fail
        go_ret
        exact ⟨rfl, HOP.out⟩
end Go.Proofs.Ytahmihdahgbhkaa

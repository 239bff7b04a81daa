/-
  The page's Cut, walked.
  Conditions: as each theorem states them.
-/
import Derived.Test.YtahmihdahgbhkaaRF
namespace Go.Proofs.Ytahmihdahgbhkaa
open Go.RowKit

theorem tx_none (w : World) (n : Nat) : TX w (⟨n, none⟩, .slice none 0 0) := ⟨fun _ => rfl, fun b hb => by cases hb⟩
set_option maxHeartbeats 8000000 in
theorem Cut_r (w : World) (ρ : Ro) (B p : Nat) (x : RdV) (d : Dk) (h : RAt w ρ B p x d) (hr : RoOk ρ B w) (hB : B ≤ w.heap.size) (n k : Int) (hl : ∀ m, (d.f m).done.length < 1000000) :
    Calls Try.prog 23 #[.pointer (some ⟨p, 0, none⟩), .int .i64 n, .int .i64 k] w fun e w' => e = .returned (.int .i64 (cutD d n k).2) ∧ OpR SK w ρ B p (cutD d n k).1 w' := by
  have HC := Lib.hid (off_r w ρ B p x d h)
  have HR := Lib.hid hr
  unfold cutD
  cases ht : (tickP d.p).isNone with
  | true =>
    rw [ht] at HC
    rw [actD_off ht]
    clear h hr
    go_enter Try.func23, Try.ntmps23
    go_wp2_with fail
    refine Calls.mono HC.out ?_
    rintro e w1 ⟨rfl, hs, x1, hk⟩
    have HOP := Lib.hid (OpR.of hk (hs.mono (T := SK) (by simp [SK])) (HR.out.later hs.kept.size))
    clear hs hk
    go_wp2_with fail
    go_ret
    exact ⟨rfl, HOP.out⟩
  | false =>
    rw [ht] at HC
    by_cases c : 0 ≤ n ∧ n ≤ 2
    · obtain ⟨N, hN⟩ : ∃ N, n.toNat = N := ⟨_, rfl⟩
      have hN2 : N ≤ 2 := by omega
      have h3 : (n = 0 ∧ N = 0) ∨ (n = 1 ∧ N = 1) ∨ (n = 2 ∧ N = 2) := by omega
      have HB := Lib.hid hB
      have hnl := h.nowLen hN2
      by_cases ck : 0 ≤ k ∧ k ≤ ((d.f N).now.length : Int)
      · rw [actD_ok ht (fileOk_iff.2 c) (by rw [hN]; exact inB_iff.2 ck), hN]
        obtain ⟨M, hM⟩ : ∃ M : Nat, k = (M : Int) := ⟨k.toNat, by omega⟩
        subst hM
        have hM2 : M ≤ (d.f N).now.length := by omega
        have ck0 : ¬ (M : Int) < 0 := by omega
        have ck1 : ¬ (M : Int) > ((d.f N).now.length : Int) := by omega
        have HG := Lib.hid (show cutG (M : Int) (d.f N) = ⟨(d.f N).kept, (d.f N).done ++ [⟨M, none⟩]⟩ from rfl)
        have HF := Lib.hid (show fitC (d.f N).now ⟨M, none⟩ from ⟨hM2, fun b hb => by cases hb⟩)
        have hlN := hl N
        clear h hr c hN hB ck hl
        rcases h3 with ⟨rfl, rfl⟩ | ⟨rfl, rfl⟩ | ⟨rfl, rfl⟩
        · skip
          go_enter Try.func23, Try.ntmps23
          go_wp2_with fail
          refine Calls.mono HC.out ?_
          rintro e w1 ⟨rfl, hs, x1, hk⟩
          obtain ⟨W1, hW1⟩ : ∃ W1, w1.alloc (.cells #[.int .i64 0, .int .i64 (M : Int), .slice none 0 0] 81) = W1 := ⟨_, rfl⟩
          have hst0 : Step [] ρ ρ w1 W1.drew := by
            have e : Step [] ρ ρ w1 (w1.alloc (.cells #[.int .i64 0, .int .i64 (M : Int), .slice none 0 0] 81)) := Step.refl.alloc _
            rw [← hW1]
            exact ⟨⟨e.kept.os, e.kept.tape, e.kept.output, e.kept.size, e.kept.block⟩, e.same⟩
          have hk0 : RAt W1.drew ρ B p x1 ⟨d.f, tickP d.p⟩ := hk.step hst0 (by simp)
          have HS := Lib.hid (show Step SK ρ ρ w W1.drew from (hs.mono (T := SK) (by simp [SK])).trans (hst0.mono (by simp)))
          have HX0 := Lib.hid (show Blk W1.drew w1.heap.size #[.int .i64 0, .int .i64 (M : Int), .slice none 0 0] 81 by rw [← hW1]; exact Blk.new w1 _ _)
          have c0 := HX0.out.c 0 (u := .int .i64 0) rfl
          have c1 := HX0.out.c 1 (u := .int .i64 (M : Int)) rfl
          have c2 := HX0.out.c 2 (u := .slice none 0 0) rfl
          have hs1 : W1.heap.size = w1.heap.size + 1 := by rw [← hW1]; simp
          have cN1 : W1.cell? ⟨p, 1, none⟩ = some (x1.N 0) := hk0.cN hN2
          have HRO := Lib.hid (HR.out.later HS.out.kept.size)
          have HB1 := Lib.hid (Nat.le_trans HB.out HS.out.kept.size)
          have HK0 := Lib.hid hk0
          have cN : w1.cell? ⟨p, 1, none⟩ = some (x1.N 0) := hk.cN hN2
          have hrow := (hk0.now _ hN2).br
          obtain ⟨nA, nc, hnv, _, _⟩ := hrow.slice
          rw [hnv] at cN cN1 hrow
          have HCB := Lib.hid (does_cut M (.slice none 0 0) _ _ B W1.drew hrow hM2 (by show (d.f 0).now.length ≤ 10000000; omega) ⟨none, 0, 0, rfl⟩)
          have HSB := Lib.hid (show ∀ w2, Below W1.drew.heap.size W1.drew w2 → Blk w2 p (cellsR x1) 71 from fun w2 hb => hk0.blk.later hb)
          have hpl := hk.lt
          have hcl : (x1.C 0).length < 1000000 := by
            have := hk.done 0 hN2
            have e : ((x1.C 0).map Prod.fst).length = (d.f 0).done.length := by rw [this]
            rw [List.length_map] at e
            omega
          have HW1 := Lib.hid hW1
          clear hs hk hk0 hrow hnv hlN hst0 hW1
          go_wp2_with fail
          rw [HW1.out]
          go_region_law (go_simp; go_at_call 47; refine (HCB.out).mono ?_; rintro e w2 ⟨u, rfl, hu, hb⟩; have s0 : w2.cell? ⟨p, 1, none⟩ = some (x1.N 0) := (HSB.out w2 hb).c _ (cellsR_N x1 hN2); have z0 := (HSB.out w2 hb).fz 1; have HU := Lib.hid hu; have HBL := Lib.hid hb; obtain ⟨uA, uc, rfl, _, _⟩ := hu.slice; clear hu hb)
          all_goals
            obtain ⟨ρ1, hm0⟩ := HK0.out.mid (c := ⟨M, none⟩) (t := .slice none 0 0) HRO.out HB1.out hN2 (tx_none _ _) (fun k hk => by cases hk) HBL.out HU.out
            have hm : MidR W1.drew (w2.setCell ⟨p, 1, none⟩ (.slice uA (doC (d.f 0).now ⟨M, none⟩).length uc)) ρ ρ1 B p 0 x1 ⟨d.f, tickP d.p⟩ ⟨M, none⟩ (.slice none 0 0) (.slice uA (doC (d.f 0).now ⟨M, none⟩).length uc) := hm0
            have hX3 := (HX0.out.later HBL.out).other (p := ⟨p, 1, none⟩) (by simp <;> omega) (.slice uA (doC (d.f 0).now ⟨M, none⟩).length uc)
            clear hm0 s0 z0 cN cN1 c0 c1 c2 HBL HU HSB HCB HC
            generalize w2.setCell ⟨p, 1, none⟩ (.slice uA (doC (d.f 0).now ⟨M, none⟩).length uc) = w3 at *
            have HM := Lib.hid hm
            have cL3 : w3.cell? ⟨p, 2, none⟩ = some (x1.L 0) := hm.blk.c _ (cellsR_L _ hN2)
            have hp3 := hm.blk.lt
            have d0 := hX3.c 0 (u := .int .i64 0) rfl
            have d1 := hX3.c 1 (u := .int .i64 (M : Int)) rfl
            have d2 := hX3.c 2 (u := .slice none 0 0) rfl
            have hsz3 := hm.st.kept.size
            obtain ⟨W4, hW4⟩ : ∃ W4, w3.drew.alloc (.cells #[.int .i64 0, .int .i64 (M : Int), .slice none 0 0] 81) = W4 := ⟨_, rfl⟩
            have hst : Step [] ρ1 ρ1 w3 W4 := by
              have e : Step [] ρ1 ρ1 w3 (w3.alloc (.cells #[.int .i64 0, .int .i64 (M : Int), .slice none 0 0] 81)) := Step.refl.alloc _
              rw [← hW4]
              exact ⟨⟨e.kept.os, e.kept.tape, e.kept.output, e.kept.size, e.kept.block⟩, e.same⟩
            have hs4 : W4.heap.size = w3.heap.size + 1 := by rw [← hW4]; simp
            have HST := Lib.hid hst
            have hb4 := hm.blk.kept hst.kept (by simp)
            have HL4 := Lib.hid (hm.list.step hst (by simp) (by simp))
            have cL4 : W4.cell? ⟨p, 2, none⟩ = some (x1.L 0) := hb4.c _ (cellsR_L _ hN2)
            have HBK := Lib.hid (show W4.heap[w3.heap.size]? = some (.cells #[.int .i64 0, .int .i64 (M : Int), .slice none 0 0] 81 (0, 0)) by rw [← hW4]; exact heap_alloc_new w3.drew _)
            have HS4 := Lib.hid (show ∀ w', W4.grownBy w' (x1.L 0).ownBlock → w'.cell? ⟨p, 2, none⟩ = some (x1.L 0) ∧ w'.frozen? ⟨p, 2, none⟩ = false from fun w' hg => by
              have : Blk w' p _ 71 := hb4.heap (hg.block p hb4.lt (fun e => by
                have e1 := HL4.out.ro p e.symm
                have e2 := (HST.out.same p hp3).trans ((hm.st.same p HK0.out.lt).trans HK0.out.ro)
                omega))
              exact ⟨this.c _ (cellsR_L _ hN2), this.fz _⟩)
            have hB4 : B ≤ W4.heap.size := by have h1 := HB1.out; have h2 := hm.st.kept.size; omega
            clear hst hb4 hm hX3
            go_wp2_with fail
            go_region_law (refine step_append_r _ _ B w3.heap.size (x1.L 0) (x1.C 0) (⟨M, none⟩, .slice none 0 0) _ rfl rfl rfl (by simp [Act.eval]) (by simp [Act.eval]) HL4.out.row HBK.out rfl hB4 hcl ?_; intro u3 w5 h31 h32 h33; have s1 := (HS4.out w5 h32).1; have z1 := (HS4.out w5 h32).2; obtain ⟨uA3, uc3, rfl⟩ := ownsRow_form h31; have H31 := Lib.hid h31; have H32 := Lib.hid h32; have H33 := Lib.hid h33; clear h31 h32 h33)
            all_goals
              have hop := (HK0.out.changed hN2 HM.out HST.out H32.out H31.out (fun k hk => (H33.out k hk).imp id (fun e => by omega)) HF.out).after HS.out
              have hlen : (x1.C 0 ++ [((⟨M, none⟩ : Ch), Value.slice none 0 0)]).length = (x1.C 0).length + 1 := by simp
              rw [hlen] at hop
              have HOP := Lib.hid hop
              clear hop cL3 cL4 d0 d1 d2
              go_wp2_with fail
              go_ret
              exact ⟨rfl, by rw [HG.out]; exact HOP.out⟩
        · skip
          go_enter Try.func23, Try.ntmps23
          go_wp2_with fail
          refine Calls.mono HC.out ?_
          rintro e w1 ⟨rfl, hs, x1, hk⟩
          obtain ⟨W1, hW1⟩ : ∃ W1, w1.alloc (.cells #[.int .i64 0, .int .i64 (M : Int), .slice none 0 0] 81) = W1 := ⟨_, rfl⟩
          have hst0 : Step [] ρ ρ w1 W1.drew := by
            have e : Step [] ρ ρ w1 (w1.alloc (.cells #[.int .i64 0, .int .i64 (M : Int), .slice none 0 0] 81)) := Step.refl.alloc _
            rw [← hW1]
            exact ⟨⟨e.kept.os, e.kept.tape, e.kept.output, e.kept.size, e.kept.block⟩, e.same⟩
          have hk0 : RAt W1.drew ρ B p x1 ⟨d.f, tickP d.p⟩ := hk.step hst0 (by simp)
          have HS := Lib.hid (show Step SK ρ ρ w W1.drew from (hs.mono (T := SK) (by simp [SK])).trans (hst0.mono (by simp)))
          have HX0 := Lib.hid (show Blk W1.drew w1.heap.size #[.int .i64 0, .int .i64 (M : Int), .slice none 0 0] 81 by rw [← hW1]; exact Blk.new w1 _ _)
          have c0 := HX0.out.c 0 (u := .int .i64 0) rfl
          have c1 := HX0.out.c 1 (u := .int .i64 (M : Int)) rfl
          have c2 := HX0.out.c 2 (u := .slice none 0 0) rfl
          have hs1 : W1.heap.size = w1.heap.size + 1 := by rw [← hW1]; simp
          have cN1 : W1.cell? ⟨p, 4, none⟩ = some (x1.N 1) := hk0.cN hN2
          have HRO := Lib.hid (HR.out.later HS.out.kept.size)
          have HB1 := Lib.hid (Nat.le_trans HB.out HS.out.kept.size)
          have HK0 := Lib.hid hk0
          have cN : w1.cell? ⟨p, 4, none⟩ = some (x1.N 1) := hk.cN hN2
          have hrow := (hk0.now _ hN2).br
          obtain ⟨nA, nc, hnv, _, _⟩ := hrow.slice
          rw [hnv] at cN cN1 hrow
          have HCB := Lib.hid (does_cut M (.slice none 0 0) _ _ B W1.drew hrow hM2 (by show (d.f 1).now.length ≤ 10000000; omega) ⟨none, 0, 0, rfl⟩)
          have HSB := Lib.hid (show ∀ w2, Below W1.drew.heap.size W1.drew w2 → Blk w2 p (cellsR x1) 71 from fun w2 hb => hk0.blk.later hb)
          have hpl := hk.lt
          have hcl : (x1.C 1).length < 1000000 := by
            have := hk.done 1 hN2
            have e : ((x1.C 1).map Prod.fst).length = (d.f 1).done.length := by rw [this]
            rw [List.length_map] at e
            omega
          have HW1 := Lib.hid hW1
          clear hs hk hk0 hrow hnv hlN hst0 hW1
          go_wp2_with fail
          rw [HW1.out]
          go_region_law (go_simp; go_at_call 47; refine (HCB.out).mono ?_; rintro e w2 ⟨u, rfl, hu, hb⟩; have s0 : w2.cell? ⟨p, 4, none⟩ = some (x1.N 1) := (HSB.out w2 hb).c _ (cellsR_N x1 hN2); have z0 := (HSB.out w2 hb).fz 4; have HU := Lib.hid hu; have HBL := Lib.hid hb; obtain ⟨uA, uc, rfl, _, _⟩ := hu.slice; clear hu hb)
          all_goals
            obtain ⟨ρ1, hm0⟩ := HK0.out.mid (c := ⟨M, none⟩) (t := .slice none 0 0) HRO.out HB1.out hN2 (tx_none _ _) (fun k hk => by cases hk) HBL.out HU.out
            have hm : MidR W1.drew (w2.setCell ⟨p, 4, none⟩ (.slice uA (doC (d.f 1).now ⟨M, none⟩).length uc)) ρ ρ1 B p 1 x1 ⟨d.f, tickP d.p⟩ ⟨M, none⟩ (.slice none 0 0) (.slice uA (doC (d.f 1).now ⟨M, none⟩).length uc) := hm0
            have hX3 := (HX0.out.later HBL.out).other (p := ⟨p, 4, none⟩) (by simp <;> omega) (.slice uA (doC (d.f 1).now ⟨M, none⟩).length uc)
            clear hm0 s0 z0 cN cN1 c0 c1 c2 HBL HU HSB HCB HC
            generalize w2.setCell ⟨p, 4, none⟩ (.slice uA (doC (d.f 1).now ⟨M, none⟩).length uc) = w3 at *
            have HM := Lib.hid hm
            have cL3 : w3.cell? ⟨p, 5, none⟩ = some (x1.L 1) := hm.blk.c _ (cellsR_L _ hN2)
            have hp3 := hm.blk.lt
            have d0 := hX3.c 0 (u := .int .i64 0) rfl
            have d1 := hX3.c 1 (u := .int .i64 (M : Int)) rfl
            have d2 := hX3.c 2 (u := .slice none 0 0) rfl
            have hsz3 := hm.st.kept.size
            obtain ⟨W4, hW4⟩ : ∃ W4, w3.drew.alloc (.cells #[.int .i64 0, .int .i64 (M : Int), .slice none 0 0] 81) = W4 := ⟨_, rfl⟩
            have hst : Step [] ρ1 ρ1 w3 W4 := by
              have e : Step [] ρ1 ρ1 w3 (w3.alloc (.cells #[.int .i64 0, .int .i64 (M : Int), .slice none 0 0] 81)) := Step.refl.alloc _
              rw [← hW4]
              exact ⟨⟨e.kept.os, e.kept.tape, e.kept.output, e.kept.size, e.kept.block⟩, e.same⟩
            have hs4 : W4.heap.size = w3.heap.size + 1 := by rw [← hW4]; simp
            have HST := Lib.hid hst
            have hb4 := hm.blk.kept hst.kept (by simp)
            have HL4 := Lib.hid (hm.list.step hst (by simp) (by simp))
            have cL4 : W4.cell? ⟨p, 5, none⟩ = some (x1.L 1) := hb4.c _ (cellsR_L _ hN2)
            have HBK := Lib.hid (show W4.heap[w3.heap.size]? = some (.cells #[.int .i64 0, .int .i64 (M : Int), .slice none 0 0] 81 (0, 0)) by rw [← hW4]; exact heap_alloc_new w3.drew _)
            have HS4 := Lib.hid (show ∀ w', W4.grownBy w' (x1.L 1).ownBlock → w'.cell? ⟨p, 5, none⟩ = some (x1.L 1) ∧ w'.frozen? ⟨p, 5, none⟩ = false from fun w' hg => by
              have : Blk w' p _ 71 := hb4.heap (hg.block p hb4.lt (fun e => by
                have e1 := HL4.out.ro p e.symm
                have e2 := (HST.out.same p hp3).trans ((hm.st.same p HK0.out.lt).trans HK0.out.ro)
                omega))
              exact ⟨this.c _ (cellsR_L _ hN2), this.fz _⟩)
            have hB4 : B ≤ W4.heap.size := by have h1 := HB1.out; have h2 := hm.st.kept.size; omega
            clear hst hb4 hm hX3
            go_wp2_with fail
            go_region_law (refine step_append_r _ _ B w3.heap.size (x1.L 1) (x1.C 1) (⟨M, none⟩, .slice none 0 0) _ rfl rfl rfl (by simp [Act.eval]) (by simp [Act.eval]) HL4.out.row HBK.out rfl hB4 hcl ?_; intro u3 w5 h31 h32 h33; have s1 := (HS4.out w5 h32).1; have z1 := (HS4.out w5 h32).2; obtain ⟨uA3, uc3, rfl⟩ := ownsRow_form h31; have H31 := Lib.hid h31; have H32 := Lib.hid h32; have H33 := Lib.hid h33; clear h31 h32 h33)
            all_goals
              have hop := (HK0.out.changed hN2 HM.out HST.out H32.out H31.out (fun k hk => (H33.out k hk).imp id (fun e => by omega)) HF.out).after HS.out
              have hlen : (x1.C 1 ++ [((⟨M, none⟩ : Ch), Value.slice none 0 0)]).length = (x1.C 1).length + 1 := by simp
              rw [hlen] at hop
              have HOP := Lib.hid hop
              clear hop cL3 cL4 d0 d1 d2
              go_wp2_with fail
              go_ret
              exact ⟨rfl, by rw [HG.out]; exact HOP.out⟩
        · skip
          go_enter Try.func23, Try.ntmps23
          go_wp2_with fail
          refine Calls.mono HC.out ?_
          rintro e w1 ⟨rfl, hs, x1, hk⟩
          obtain ⟨W1, hW1⟩ : ∃ W1, w1.alloc (.cells #[.int .i64 0, .int .i64 (M : Int), .slice none 0 0] 81) = W1 := ⟨_, rfl⟩
          have hst0 : Step [] ρ ρ w1 W1.drew := by
            have e : Step [] ρ ρ w1 (w1.alloc (.cells #[.int .i64 0, .int .i64 (M : Int), .slice none 0 0] 81)) := Step.refl.alloc _
            rw [← hW1]
            exact ⟨⟨e.kept.os, e.kept.tape, e.kept.output, e.kept.size, e.kept.block⟩, e.same⟩
          have hk0 : RAt W1.drew ρ B p x1 ⟨d.f, tickP d.p⟩ := hk.step hst0 (by simp)
          have HS := Lib.hid (show Step SK ρ ρ w W1.drew from (hs.mono (T := SK) (by simp [SK])).trans (hst0.mono (by simp)))
          have HX0 := Lib.hid (show Blk W1.drew w1.heap.size #[.int .i64 0, .int .i64 (M : Int), .slice none 0 0] 81 by rw [← hW1]; exact Blk.new w1 _ _)
          have c0 := HX0.out.c 0 (u := .int .i64 0) rfl
          have c1 := HX0.out.c 1 (u := .int .i64 (M : Int)) rfl
          have c2 := HX0.out.c 2 (u := .slice none 0 0) rfl
          have hs1 : W1.heap.size = w1.heap.size + 1 := by rw [← hW1]; simp
          have cN1 : W1.cell? ⟨p, 7, none⟩ = some (x1.N 2) := hk0.cN hN2
          have HRO := Lib.hid (HR.out.later HS.out.kept.size)
          have HB1 := Lib.hid (Nat.le_trans HB.out HS.out.kept.size)
          have HK0 := Lib.hid hk0
          have cN : w1.cell? ⟨p, 7, none⟩ = some (x1.N 2) := hk.cN hN2
          have hrow := (hk0.now _ hN2).br
          obtain ⟨nA, nc, hnv, _, _⟩ := hrow.slice
          rw [hnv] at cN cN1 hrow
          have HCB := Lib.hid (does_cut M (.slice none 0 0) _ _ B W1.drew hrow hM2 (by show (d.f 2).now.length ≤ 10000000; omega) ⟨none, 0, 0, rfl⟩)
          have HSB := Lib.hid (show ∀ w2, Below W1.drew.heap.size W1.drew w2 → Blk w2 p (cellsR x1) 71 from fun w2 hb => hk0.blk.later hb)
          have hpl := hk.lt
          have hcl : (x1.C 2).length < 1000000 := by
            have := hk.done 2 hN2
            have e : ((x1.C 2).map Prod.fst).length = (d.f 2).done.length := by rw [this]
            rw [List.length_map] at e
            omega
          have HW1 := Lib.hid hW1
          clear hs hk hk0 hrow hnv hlN hst0 hW1
          go_wp2_with fail
          rw [HW1.out]
          go_region_law (go_simp; go_at_call 47; refine (HCB.out).mono ?_; rintro e w2 ⟨u, rfl, hu, hb⟩; have s0 : w2.cell? ⟨p, 7, none⟩ = some (x1.N 2) := (HSB.out w2 hb).c _ (cellsR_N x1 hN2); have z0 := (HSB.out w2 hb).fz 7; have HU := Lib.hid hu; have HBL := Lib.hid hb; obtain ⟨uA, uc, rfl, _, _⟩ := hu.slice; clear hu hb)
          all_goals
            obtain ⟨ρ1, hm0⟩ := HK0.out.mid (c := ⟨M, none⟩) (t := .slice none 0 0) HRO.out HB1.out hN2 (tx_none _ _) (fun k hk => by cases hk) HBL.out HU.out
            have hm : MidR W1.drew (w2.setCell ⟨p, 7, none⟩ (.slice uA (doC (d.f 2).now ⟨M, none⟩).length uc)) ρ ρ1 B p 2 x1 ⟨d.f, tickP d.p⟩ ⟨M, none⟩ (.slice none 0 0) (.slice uA (doC (d.f 2).now ⟨M, none⟩).length uc) := hm0
            have hX3 := (HX0.out.later HBL.out).other (p := ⟨p, 7, none⟩) (by simp <;> omega) (.slice uA (doC (d.f 2).now ⟨M, none⟩).length uc)
            clear hm0 s0 z0 cN cN1 c0 c1 c2 HBL HU HSB HCB HC
            generalize w2.setCell ⟨p, 7, none⟩ (.slice uA (doC (d.f 2).now ⟨M, none⟩).length uc) = w3 at *
            have HM := Lib.hid hm
            have cL3 : w3.cell? ⟨p, 8, none⟩ = some (x1.L 2) := hm.blk.c _ (cellsR_L _ hN2)
            have hp3 := hm.blk.lt
            have d0 := hX3.c 0 (u := .int .i64 0) rfl
            have d1 := hX3.c 1 (u := .int .i64 (M : Int)) rfl
            have d2 := hX3.c 2 (u := .slice none 0 0) rfl
            have hsz3 := hm.st.kept.size
            obtain ⟨W4, hW4⟩ : ∃ W4, w3.drew.alloc (.cells #[.int .i64 0, .int .i64 (M : Int), .slice none 0 0] 81) = W4 := ⟨_, rfl⟩
            have hst : Step [] ρ1 ρ1 w3 W4 := by
              have e : Step [] ρ1 ρ1 w3 (w3.alloc (.cells #[.int .i64 0, .int .i64 (M : Int), .slice none 0 0] 81)) := Step.refl.alloc _
              rw [← hW4]
              exact ⟨⟨e.kept.os, e.kept.tape, e.kept.output, e.kept.size, e.kept.block⟩, e.same⟩
            have hs4 : W4.heap.size = w3.heap.size + 1 := by rw [← hW4]; simp
            have HST := Lib.hid hst
            have hb4 := hm.blk.kept hst.kept (by simp)
            have HL4 := Lib.hid (hm.list.step hst (by simp) (by simp))
            have cL4 : W4.cell? ⟨p, 8, none⟩ = some (x1.L 2) := hb4.c _ (cellsR_L _ hN2)
            have HBK := Lib.hid (show W4.heap[w3.heap.size]? = some (.cells #[.int .i64 0, .int .i64 (M : Int), .slice none 0 0] 81 (0, 0)) by rw [← hW4]; exact heap_alloc_new w3.drew _)
            have HS4 := Lib.hid (show ∀ w', W4.grownBy w' (x1.L 2).ownBlock → w'.cell? ⟨p, 8, none⟩ = some (x1.L 2) ∧ w'.frozen? ⟨p, 8, none⟩ = false from fun w' hg => by
              have : Blk w' p _ 71 := hb4.heap (hg.block p hb4.lt (fun e => by
                have e1 := HL4.out.ro p e.symm
                have e2 := (HST.out.same p hp3).trans ((hm.st.same p HK0.out.lt).trans HK0.out.ro)
                omega))
              exact ⟨this.c _ (cellsR_L _ hN2), this.fz _⟩)
            have hB4 : B ≤ W4.heap.size := by have h1 := HB1.out; have h2 := hm.st.kept.size; omega
            clear hst hb4 hm hX3
            go_wp2_with fail
            go_region_law (refine step_append_r _ _ B w3.heap.size (x1.L 2) (x1.C 2) (⟨M, none⟩, .slice none 0 0) _ rfl rfl rfl (by simp [Act.eval]) (by simp [Act.eval]) HL4.out.row HBK.out rfl hB4 hcl ?_; intro u3 w5 h31 h32 h33; have s1 := (HS4.out w5 h32).1; have z1 := (HS4.out w5 h32).2; obtain ⟨uA3, uc3, rfl⟩ := ownsRow_form h31; have H31 := Lib.hid h31; have H32 := Lib.hid h32; have H33 := Lib.hid h33; clear h31 h32 h33)
            all_goals
              have hop := (HK0.out.changed hN2 HM.out HST.out H32.out H31.out (fun k hk => (H33.out k hk).imp id (fun e => by omega)) HF.out).after HS.out
              have hlen : (x1.C 2 ++ [((⟨M, none⟩ : Ch), Value.slice none 0 0)]).length = (x1.C 2).length + 1 := by simp
              rw [hlen] at hop
              have HOP := Lib.hid hop
              clear hop cL3 cL4 d0 d1 d2
              go_wp2_with fail
              go_ret
              exact ⟨rfl, by rw [HG.out]; exact HOP.out⟩
      · rw [actD_limit ht (fileOk_iff.2 c) (by rw [hN]; exact inB_not.2 ck)]
        clear hr c hN hB hl h
        by_cases ck0 : k < 0
        · clear ck
          rcases h3 with ⟨rfl, rfl⟩ | ⟨rfl, rfl⟩ | ⟨rfl, rfl⟩
          all_goals
            go_enter Try.func23, Try.ntmps23
            go_wp2_with fail
            refine Calls.mono HC.out ?_
            rintro e w1 ⟨rfl, hs, x1, hk⟩
            have HOP := Lib.hid (OpR.of hk (hs.mono (T := SK) (by simp [SK])) (HR.out.later hs.kept.size))
            have cN := hk.cN hN2
            obtain ⟨nA, nc, hnv, _, _⟩ := (hk.now _ hN2).br.slice
            rw [hnv] at cN
            clear hs hk hnv
            go_wp2_with fail
            go_ret
            exact ⟨rfl, HOP.out⟩
        · have ck1 : k > ((d.f N).now.length : Int) := by omega
          clear ck
          rcases h3 with ⟨rfl, rfl⟩ | ⟨rfl, rfl⟩ | ⟨rfl, rfl⟩
          all_goals
            go_enter Try.func23, Try.ntmps23
            go_wp2_with fail
            refine Calls.mono HC.out ?_
            rintro e w1 ⟨rfl, hs, x1, hk⟩
            have HOP := Lib.hid (OpR.of hk (hs.mono (T := SK) (by simp [SK])) (HR.out.later hs.kept.size))
            have cN := hk.cN hN2
            obtain ⟨nA, nc, hnv, _, _⟩ := (hk.now _ hN2).br.slice
            rw [hnv] at cN
            clear hs hk hnv
            go_wp2_with fail
            go_ret
            exact ⟨rfl, HOP.out⟩
    · rw [actD_form ht (by cases hq : fileOk n with | false => rfl | true => exact absurd (fileOk_iff.1 hq) c)]
      clear h hr
      by_cases c0 : n < 0
      · clear c
        go_enter Try.func23, Try.ntmps23
        go_wp2_with fail
        refine Calls.mono HC.out ?_
        rintro e w1 ⟨rfl, hs, x1, hk⟩
        have HOP := Lib.hid (OpR.of hk (hs.mono (T := SK) (by simp [SK])) (HR.out.later hs.kept.size))
        clear hs hk
        go_wp2_with fail
        go_ret
        exact ⟨rfl, HOP.out⟩
      · have c2 : n > 2 := by omega
        clear c
        go_enter Try.func23, Try.ntmps23
        go_wp2_with fail
        refine Calls.mono HC.out ?_
        rintro e w1 ⟨rfl, hs, x1, hk⟩
        have HOP := Lib.hid (OpR.of hk (hs.mono (T := SK) (by simp [SK])) (HR.out.later hs.kept.size))
        clear hs hk
        go_wp2_with fail
        go_ret
        exact ⟨rfl, HOP.out⟩
end Go.Proofs.Ytahmihdahgbhkaa

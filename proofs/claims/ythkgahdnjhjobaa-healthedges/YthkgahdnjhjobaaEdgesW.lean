/-
  HealthEdges: the statement's own walk.
  Conditions: as the theorem states them: the argument's list is a slice.
-/
import Derived.Test.YthkgahdnjhjobaaHG
import Derived.Deep.CutRange
import Derived.Deep.DeepCutAuto
import Derived.Deep.RegionHeld3
import Derived.Deep.QuietTactic
import Derived.BigQuiet
import Derived.WalkSmall
namespace Go.Proofs.Ythkgahdnjhjobaa
open Go.RowKit

theorem HAt.drew {w : World} {b s : Nat} {c : Int} (h : HAt w b s c) : HAt w.drew b s c := h
theorem edge_up {n : Nat} (hn : n = 9221120237041090561) : endN n 0 9218868437227405312 4607182418800017408 = .returned (.tuple #[hV 4607182418800017408 1, .int .i64 0]) := by
  rw [endN_ok (by rw [hn]; decide) (by decide), show nextS n 0 9218868437227405312 4607182418800017408 = 4607182418800017408 by rw [hn]; decide]
  rfl
theorem edge_down {n : Nat} (hn : n = 9221120237041090561) : endN n 0 18442240474082181120 4607182418800017408 = .returned (.tuple #[hV 0 1, .int .i64 0]) := by
  rw [endN_ok (by rw [hn]; decide) (by decide), show nextS n 0 18442240474082181120 4607182418800017408 = 0 by rw [hn]; decide]
  rfl
theorem edge_zero {n : Nat} (hn : n = 9221120237041090561) : endN n 0 9223372036854775808 4607182418800017408 = .returned (.tuple #[hV 0 1, .int .i64 0]) := by
  rw [endN_ok (by rw [hn]; decide) (by decide), show nextS n 0 9223372036854775808 4607182418800017408 = 0 by rw [hn]; decide]
  rfl

/-- The weights that are refused. -/
def wsL (n : Nat) : List Nat := [0, 9223372036854775808, 13830554455654793216, 4609434218613702656, n, 9218868437227405312]
/-- The healths that may not be. -/
def badL (n : Nat) : List (Nat × Int) := [(4602678819172646912, 0), (n, 1), (9223372036854775808, 1), (4607632778762754458, 1), (n, -1), (4602678819172646912, 1099511627777)]
theorem ws_bad {n : Nat} (hn : n = 9221120237041090561) : ∀ y ∈ wsL n, okW y = false ∧ y < 18446744073709551616 := by
  subst hn
  decide
theorem bad_bad {n : Nat} (hn : n = 9221120237041090561) : ∀ q ∈ badL n, okH q.1 q.2 = false ∧ q.1 < 18446744073709551616 := by
  subst hn
  decide
theorem cell_lit (w : World) (cs : Array Value) (t : TypeId) (j : Nat) : (w.alloc (.cells cs t)).cell? ⟨w.heap.size, j, none⟩ = cs[j]? := by
  have h := heap_alloc_new w (.cells cs t)
  unfold World.cell?
  rw [h]
  rfl
theorem ws_cell (w : World) (n j : Nat) (hj : j < (wsL n).length) : (w.alloc (.cells #[.float .f64 0, .float .f64 9223372036854775808, .float .f64 13830554455654793216, .float .f64 4609434218613702656, .float .f64 n, .float .f64 9218868437227405312] 27)).cell? ⟨w.heap.size, j, none⟩ = some (.float .f64 (wsL n)[j]) := by
  have hj6 : j < 6 := hj
  rw [cell_lit]
  rcases (show j = 0 ∨ j = 1 ∨ j = 2 ∨ j = 3 ∨ j = 4 ∨ j = 5 by omega) with h | h | h | h | h | h <;> subst h <;> rfl
theorem bad_cell (w : World) (n j : Nat) (hj : j < (badL n).length) :
    (w.alloc (.cells #[.float .f64 4602678819172646912, .int .i64 0, .float .f64 n, .int .i64 1, .float .f64 9223372036854775808, .int .i64 1, .float .f64 4607632778762754458, .int .i64 1, .float .f64 n, .int .i64 (-1), .float .f64 4602678819172646912, .int .i64 1099511627777] 30)).cell? ⟨w.heap.size, j * 2, none⟩ = some (.float .f64 (badL n)[j].1) ∧
    (w.alloc (.cells #[.float .f64 4602678819172646912, .int .i64 0, .float .f64 n, .int .i64 1, .float .f64 9223372036854775808, .int .i64 1, .float .f64 4607632778762754458, .int .i64 1, .float .f64 n, .int .i64 (-1), .float .f64 4602678819172646912, .int .i64 1099511627777] 30)).cell? ⟨w.heap.size, j * 2 + 1, none⟩ = some (.int .i64 (badL n)[j].2) := by
  have hj6 : j < 6 := hj
  rw [cell_lit, cell_lit]
  refine ⟨?_, ?_⟩
  · rcases (show j = 0 ∨ j = 1 ∨ j = 2 ∨ j = 3 ∨ j = 4 ∨ j = 5 by omega) with h | h | h | h | h | h <;> subst h <;> rfl
  · rcases (show j = 0 ∨ j = 1 ∨ j = 2 ∨ j = 3 ∨ j = 4 ∨ j = 5 by omega) with h | h | h | h | h | h <;> subst h <;> rfl
theorem edge_last : endN 4602678819172646912 1099511627776 4607182418800017408 4607182418800017408 = .returned (.tuple #[hV 4607182418800017408 1099511627776, .int .i64 0]) := by
  rw [endN_ok (by decide) (by decide), show nextS 4602678819172646912 1099511627776 4607182418800017408 4607182418800017408 = 4607182418800017408 by decide +kernel]
  rfl

set_option maxHeartbeats 8000000 in
set_option maxRecDepth 100000 in
theorem edges_any (m : Nat) (A0 : Option Addr) (c0 : Nat) (v0 v1 v3 : Value) (w : World) :
    Calls Try.prog 6 #[.agg #[v0, v1, .slice A0 m c0, v3]] w fun e w' => e = .returned (.bool true) ∧ Below w.heap.size w w' := by
  obtain ⟨n, hn⟩ : ∃ n, n = 9221120237041090561 := ⟨_, rfl⟩
  have HNO := Lib.hid (fun W => none_any n hn W)
  have HNN := Lib.hid (fun W => nan_any W)
  rw [← hn] at HNN
  have HNZ := Lib.hid (fun W => negZero_any W)
  have HIP := Lib.hid (fun W => inf_plus W)
  have HIM := Lib.hid (fun W => inf_minus W)
  have HE1 := Lib.hid (fun W => note_any n 0 9218868437227405312 4607182418800017408 W (by omega) (by decide) (by decide))
  have HE2 := Lib.hid (fun W => note_any n 0 18442240474082181120 4607182418800017408 W (by omega) (by decide) (by decide))
  have HE3 := Lib.hid (fun W => note_any n 0 9223372036854775808 4607182418800017408 W (by omega) (by decide) (by decide))
  rw [edge_up hn] at HE1
  rw [edge_down hn] at HE2
  rw [edge_zero hn] at HE3
  have HSA := Lib.hid (SAt.new w v0 v1 (.slice A0 m c0) v3)
  have HBA := Lib.hid ((Below.refl _ w).alloc (Nat.le_refl _) (.cells #[v0, v1, (.slice A0 m c0), v3] 26))
  have hst := store_float
  have HN0 := Lib.hid (fun W => num_any 0 W)
  have HN1 := Lib.hid (fun W => num_any 1 W)
  have HNb := Lib.hid (show n < 18446744073709551616 by omega)
  have HWB := Lib.hid (ws_bad hn)
  have HDB := Lib.hid (bad_bad hn)
  have HLN := Lib.hid (fun W => note_any 4602678819172646912 1099511627776 4607182418800017408 4607182418800017408 W (by decide) (by decide) (by decide))
  rw [edge_last] at HLN
  have HWK := Lib.hid (fun W => wakes_any W)
  unfold hV at HNO HE1 HE2 HE3 HLN
  clear hn
  go_enter Try.func6, Try.ntmps6
  go_wp2_with fail
  refine Calls.mono (HNO.out _) ?_
  rintro e w1 ⟨rfl, hb1⟩
  have HS1 := Lib.hid (HSA.out.later hb1)
  have HB1 := Lib.hid (HBA.out.trans (hb1.mono (by simp)))
  have hs1 : w.heap.size < w1.heap.size := HS1.out.lt
  clear hb1 HSA HBA HNO
  have Hp2 := Lib.hid (HS1.out.alloc (.cells #[.float .f64 n, .int .i64 0] 30))
  have HH2 := Lib.hid (HAt.new w1 n 0)
  have HB2 := Lib.hid (HB1.out.alloc HB1.out.size (.cells #[.float .f64 n, .int .i64 0] 30))
  go_upto_region 2 with (fail)
  generalize w1.heap.size = B at *
  generalize (w1.alloc (.cells #[.float .f64 n, .int .i64 0] 30)) = w2 at *
  clear HB1 HS1
  have HS : Hid (∀ W, Below w2.heap.size w2 W → (W.cell? ⟨B, 0, none⟩ = some (.float .f64 n) ∧ W.cell? ⟨B, 1, none⟩ = some (.int .i64 0))) := Lib.hid (fun W hW => ⟨(HH2.out.later hW).c0, (HH2.out.later hW).c1⟩)
  go_upto_region 2 with (fail)
  go_cut [4, 5] (fun pv ev wc => ∃ b4, pv = .pointer (some ⟨b4, 0, none⟩) ∧ ev = .int .i64 0 ∧ HAt wc b4 4607182418800017408 1 ∧ Below w2.heap.size w2 wc)
  case first =>
    go_region_held3 (fun W => W.cell? ⟨B, 0, none⟩ = some (.float .f64 n) ∧ W.cell? ⟨B, 1, none⟩ = some (.int .i64 0))
      (first | exact HS.out _ (Below.refl _ _).drew | exact HS.out _ ((Below.refl _ _).alloc (Nat.le_refl _) _).drew | exact HS.out _ hk5 | exact HS.out _ ((hk5.setCell (p := ⟨w2.heap.size, 0, none⟩) (Nat.le_refl _) _).setCell (p := ⟨w2.heap.size, 1, none⟩) (Nat.le_refl _) _) | exact HS.out _ (hk5.alloc hk5.size _))
      (first
        | (go_at_call 21; refine (HIP.out _).mono ?_; rintro e w' ⟨rfl, rfl⟩)
        | (go_at_call 12; refine (HE1.out _).mono ?_; rintro e w5 ⟨rfl, hb5⟩; (have hk5 : Below w2.heap.size w2 w5 := (Below.refl _ _).drew.trans hb5))
        | (go_at_call 12; refine (HE1.out _).mono ?_; rintro e w5 ⟨rfl, hb5⟩; (have hm5 := (HAt.new w2 0 0).drew.later hb5); (have hk5 : Below w2.heap.size w2 w5 := (((Below.refl _ _).alloc (Nat.le_refl _) _).drew).trans (hb5.mono (by simp))); (have y0 := hm5.c0); (have y1 := hm5.c1); (have y2 := hm5.fz 0); (have y3 := hm5.fz 1)))
    all_goals
      go_wp2_with fail
      go_meet
      case rel =>
        first
        | exact ⟨w5.heap.size, rfl, rfl, HAt.new w5 4607182418800017408 1, hk5.alloc hk5.size _⟩
        | exact ⟨w2.heap.size, rfl, rfl, hm5.set 4607182418800017408 1, (hk5.setCell (p := ⟨w2.heap.size, 0, none⟩) (Nat.le_refl _) _).setCell (p := ⟨w2.heap.size, 1, none⟩) (Nat.le_refl _) _⟩
  case rest =>
    obtain ⟨ba, rfl, rfl, hma, hbc⟩ := hcut
    have Hp3 := Lib.hid (Hp2.out.later hbc)
    have HH3 := Lib.hid (HH2.out.later hbc)
    have HB3 := Lib.hid (HB2.out.trans (hbc.mono HB2.out.size))
    have Ha3 := Lib.hid hma
    clear hbc hma HS
    generalize wc = w3 at *
    have HS : Hid (∀ W, Below w3.heap.size w3 W → (W.cell? ⟨B, 0, none⟩ = some (.float .f64 n) ∧ W.cell? ⟨B, 1, none⟩ = some (.int .i64 0))) := Lib.hid (fun W hW => ⟨(HH3.out.later hW).c0, (HH3.out.later hW).c1⟩)
    go_upto_region 3 with (fail)
    go_cut [6, 7] (fun pv ev wc => ∃ b4, pv = .pointer (some ⟨b4, 0, none⟩) ∧ ev = .int .i64 0 ∧ HAt wc b4 0 1 ∧ Below w3.heap.size w3 wc)
    case first =>
      go_region_held3 (fun W => W.cell? ⟨B, 0, none⟩ = some (.float .f64 n) ∧ W.cell? ⟨B, 1, none⟩ = some (.int .i64 0))
        (first | exact HS.out _ (Below.refl _ _).drew | exact HS.out _ ((Below.refl _ _).alloc (Nat.le_refl _) _).drew | exact HS.out _ hk5 | exact HS.out _ ((hk5.setCell (p := ⟨w3.heap.size, 0, none⟩) (Nat.le_refl _) _).setCell (p := ⟨w3.heap.size, 1, none⟩) (Nat.le_refl _) _) | exact HS.out _ (hk5.alloc hk5.size _))
        (first
          | (go_at_call 21; refine (HIM.out _).mono ?_; rintro e w' ⟨rfl, rfl⟩)
          | (go_at_call 12; refine (HE2.out _).mono ?_; rintro e w5 ⟨rfl, hb5⟩; (have hk5 : Below w3.heap.size w3 w5 := (Below.refl _ _).drew.trans hb5))
          | (go_at_call 12; refine (HE2.out _).mono ?_; rintro e w5 ⟨rfl, hb5⟩; (have hm5 := (HAt.new w3 0 0).drew.later hb5); (have hk5 : Below w3.heap.size w3 w5 := (((Below.refl _ _).alloc (Nat.le_refl _) _).drew).trans (hb5.mono (by simp))); (have y0 := hm5.c0); (have y1 := hm5.c1); (have y2 := hm5.fz 0); (have y3 := hm5.fz 1)))
      all_goals
        go_wp2_with fail
        go_meet
        case rel =>
          first
          | exact ⟨w5.heap.size, rfl, rfl, HAt.new w5 0 1, hk5.alloc hk5.size _⟩
          | exact ⟨w3.heap.size, rfl, rfl, hm5.set 0 1, (hk5.setCell (p := ⟨w3.heap.size, 0, none⟩) (Nat.le_refl _) _).setCell (p := ⟨w3.heap.size, 1, none⟩) (Nat.le_refl _) _⟩
    case rest =>
      obtain ⟨bb, rfl, rfl, hmb, hbc⟩ := hcut
      have Hp4 := Lib.hid (Hp3.out.later hbc)
      have Ha4 := Lib.hid (Ha3.out.later hbc)
      have HH4 := Lib.hid (HH3.out.later hbc)
      have HB4 := Lib.hid (HB3.out.trans (hbc.mono HB3.out.size))
      have Hb4 := Lib.hid hmb
      clear hbc hmb HS
      generalize wc = w4 at *
      have HS : Hid (∀ W, Below w4.heap.size w4 W → (W.cell? ⟨B, 0, none⟩ = some (.float .f64 n) ∧ W.cell? ⟨B, 1, none⟩ = some (.int .i64 0))) := Lib.hid (fun W hW => ⟨(HH4.out.later hW).c0, (HH4.out.later hW).c1⟩)
      go_upto_region 4 with (fail)
      go_cut [8, 9] (fun pv ev wc => ∃ b4, pv = .pointer (some ⟨b4, 0, none⟩) ∧ ev = .int .i64 0 ∧ HAt wc b4 0 1 ∧ Below w4.heap.size w4 wc)
      case first =>
        go_region_held3 (fun W => W.cell? ⟨B, 0, none⟩ = some (.float .f64 n) ∧ W.cell? ⟨B, 1, none⟩ = some (.int .i64 0))
          (first | exact HS.out _ (Below.refl _ _).drew | exact HS.out _ ((Below.refl _ _).alloc (Nat.le_refl _) _).drew | exact HS.out _ hk5 | exact HS.out _ ((hk5.setCell (p := ⟨w4.heap.size, 0, none⟩) (Nat.le_refl _) _).setCell (p := ⟨w4.heap.size, 1, none⟩) (Nat.le_refl _) _) | exact HS.out _ (hk5.alloc hk5.size _))
          (first
            | (go_at_call 19; refine (HNZ.out _).mono ?_; rintro e w' ⟨rfl, rfl⟩)
            | (go_at_call 12; refine (HE3.out _).mono ?_; rintro e w5 ⟨rfl, hb5⟩; (have hk5 : Below w4.heap.size w4 w5 := (Below.refl _ _).drew.trans hb5))
            | (go_at_call 12; refine (HE3.out _).mono ?_; rintro e w5 ⟨rfl, hb5⟩; (have hm5 := (HAt.new w4 0 0).drew.later hb5); (have hk5 : Below w4.heap.size w4 w5 := (((Below.refl _ _).alloc (Nat.le_refl _) _).drew).trans (hb5.mono (by simp))); (have y0 := hm5.c0); (have y1 := hm5.c1); (have y2 := hm5.fz 0); (have y3 := hm5.fz 1)))
        all_goals
          go_wp2_with fail
          go_meet
          case rel =>
            first
            | exact ⟨w5.heap.size, rfl, rfl, HAt.new w5 0 1, hk5.alloc hk5.size _⟩
            | exact ⟨w4.heap.size, rfl, rfl, hm5.set 0 1, (hk5.setCell (p := ⟨w4.heap.size, 0, none⟩) (Nat.le_refl _) _).setCell (p := ⟨w4.heap.size, 1, none⟩) (Nat.le_refl _) _⟩
      case rest =>
        obtain ⟨bc, rfl, rfl, hmc, hbc⟩ := hcut
        have Hp5 := Lib.hid (Hp4.out.later hbc)
        have Ha5 := Lib.hid (Ha4.out.later hbc)
        have Hb5 := Lib.hid (Hb4.out.later hbc)
        have HB5 := Lib.hid (HB4.out.trans (hbc.mono HB4.out.size))
        have Hc5 := Lib.hid hmc
        clear hbc hmc HS
        generalize wc = w5 at *
        have a0 := Ha5.out.c0
        have a1 := Hb5.out.c0
        have a2 := Hc5.out.c0
        have hO := ord_ne 4607182418800017408
        rw [show nanF 4607182418800017408 = false by decide] at hO
        have hfb : ∀ w, (callFunc 24 #[.float .f64 0]).run Try.prog w = .ok (.value (.int .u64 0)) w := fun w => run_bits 0 w
        go_wp2_with fail
        refine Calls.mono (HN0.out _) ?_
        rintro e w' ⟨rfl, he⟩
        have he := he.symm
        subst he
        go_wp2_with fail
        refine Calls.mono (HN0.out _) ?_
        rintro e w' ⟨rfl, he⟩
        have he := he.symm
        subst he
        go_wp2_with fail
        refine Calls.mono (HN0.out _) ?_
        rintro e w' ⟨rfl, he⟩
        have he := he.symm
        subst he
        go_wp2_with fail
        refine Calls.mono (HNZ.out _) ?_
        rintro e w' ⟨rfl, he⟩
        have he := he.symm
        subst he
        go_wp2_with fail
        refine Calls.mono (HNN.out _) ?_
        rintro e w' ⟨rfl, he⟩
        have he := he.symm
        subst he
        go_wp2_with fail
        refine Calls.mono (HIP.out _) ?_
        rintro e w' ⟨rfl, he⟩
        have he := he.symm
        subst he
        clear a0 a1 a2 hO hfb HE1 HE2 HE3 HH2 Hb5 Hc5 HIM
        have HCW := Lib.hid (fun j hj => ws_cell w5 n j hj)
        have Hp7 := Lib.hid (Hp5.out.alloc (.cells #[.float .f64 0, .float .f64 9223372036854775808, .float .f64 13830554455654793216, .float .f64 4609434218613702656, .float .f64 n, .float .f64 9218868437227405312] 27))
        have Ha7 := Lib.hid (Ha5.out.alloc (.cells #[.float .f64 0, .float .f64 9223372036854775808, .float .f64 13830554455654793216, .float .f64 4609434218613702656, .float .f64 n, .float .f64 9218868437227405312] 27))
        have HB7 := Lib.hid (HB5.out.alloc HB5.out.size (.cells #[.float .f64 0, .float .f64 9223372036854775808, .float .f64 13830554455654793216, .float .f64 4609434218613702656, .float .f64 n, .float .f64 9218868437227405312] 27))
        have hwl : w5.heap.size < (w5.alloc (.cells #[.float .f64 0, .float .f64 9223372036854775808, .float .f64 13830554455654793216, .float .f64 4609434218613702656, .float .f64 n, .float .f64 9218868437227405312] 27)).heap.size := by simp
        go_wp2_with fail
        generalize (w5.alloc (.cells #[.float .f64 0, .float .f64 9223372036854775808, .float .f64 13830554455654793216, .float .f64 4609434218613702656, .float .f64 n, .float .f64 9218868437227405312] 27)) = w7 at *
        generalize w5.heap.size = wb at *
        clear Hp5 Ha5 HB5
        go_loopw [11] (fun jv wr => ∃ j : Nat, jv = .int .i64 j ∧ j ≤ 6 ∧ Below w7.heap.size w7 wr) (fun jv _ => 7 - (intOf jv).toNat)
        case atStart => exact ⟨0, rfl, Nat.zero_le _, Below.refl _ _⟩
        case round =>
          obtain ⟨j, rfl, hj, hb⟩ := hrel
          have HBr := Lib.hid hb
          have Har := Lib.hid (Ha7.out.later hb)
          have Hpr := Lib.hid (Hp7.out.later hb)
          have hszr := hb.size
          clear hb
          by_cases hjt : j < 6
          · have hjti : (j : Int) < 6 := by omega
            have HYC := Lib.hid (fun W (hW : Below w7.heap.size w7 W) => (hW.cell (p := ⟨wb, j, none⟩) hwl).trans (HCW.out j hjt))
            obtain ⟨hyw, hy⟩ := HWB.out _ (List.getElem_mem (show j < (wsL n).length from hjt))
            generalize (wsL n)[j]'hjt = y at *
            have HT1 := Lib.hid (fun W => note_any 4607182418800017408 1 4602678819172646912 y W (by decide) (by decide) hy)
            have HT2 := Lib.hid (fun W => note_any 4607182418800017408 1 n y W (by decide) HNb.out hy)
            rw [endN_bad (by rw [hyw, Bool.and_false])] at HT1 HT2
            unfold hV at HT1 HT2
            clear hyw hy
            generalize wr = w8 at *
            have HS : Hid (∀ W, Below w8.heap.size w8 W → (W.cell? ⟨ba, 0, none⟩ = some (.float .f64 4607182418800017408) ∧ W.cell? ⟨ba, 1, none⟩ = some (.int .i64 1) ∧ W.cell? ⟨wb, j, none⟩ = some (.float .f64 y))) := Lib.hid (fun W hW => ⟨(Har.out.later hW).c0, (Har.out.later hW).c1, HYC.out _ (HBr.out.trans (hW.mono hszr))⟩)
            go_upto_region 11 with (fail)
            go_cut [12, 13] (fun pv ev wc => ∃ b4, pv = .pointer (some ⟨b4, 0, none⟩) ∧ ev = .int .i64 1 ∧ HAt wc b4 0 0 ∧ Below w8.heap.size w8 wc)
            case first =>
              go_region_held3 (fun W => W.cell? ⟨ba, 0, none⟩ = some (.float .f64 4607182418800017408) ∧ W.cell? ⟨ba, 1, none⟩ = some (.int .i64 1) ∧ W.cell? ⟨wb, j, none⟩ = some (.float .f64 y))
                (first | exact HS.out _ (Below.refl _ _).drew | exact HS.out _ ((Below.refl _ _).alloc (Nat.le_refl _) _).drew | exact HS.out _ hk5 | exact HS.out _ ((hk5.setCell (p := ⟨w8.heap.size, 0, none⟩) (Nat.le_refl _) _).setCell (p := ⟨w8.heap.size, 1, none⟩) (Nat.le_refl _) _) | exact HS.out _ (hk5.alloc hk5.size _))
                (first
                  | (go_at_call 12; refine (HT1.out _).mono ?_; rintro e w5 ⟨rfl, hb5⟩; (have hk5 : Below w8.heap.size w8 w5 := (Below.refl _ _).drew.trans hb5))
                  | (go_at_call 12; refine (HT1.out _).mono ?_; rintro e w5 ⟨rfl, hb5⟩; (have hm5 := (HAt.new w8 0 0).drew.later hb5); (have hk5 : Below w8.heap.size w8 w5 := (((Below.refl _ _).alloc (Nat.le_refl _) _).drew).trans (hb5.mono (by simp))); (have y0 := hm5.c0); (have y1 := hm5.c1); (have y2 := hm5.fz 0); (have y3 := hm5.fz 1)))
              all_goals
                go_wp2_with fail
                go_meet
                case rel =>
                  first
                  | exact ⟨w5.heap.size, rfl, rfl, HAt.new w5 0 0, hk5.alloc hk5.size _⟩
                  | exact ⟨w8.heap.size, rfl, rfl, hm5.set 0 0, (hk5.setCell (p := ⟨w8.heap.size, 0, none⟩) (Nat.le_refl _) _).setCell (p := ⟨w8.heap.size, 1, none⟩) (Nat.le_refl _) _⟩
            case rest =>
              obtain ⟨bh, rfl, rfl, hmh, hbc⟩ := hcut
              have HB9 := Lib.hid (HBr.out.trans (hbc.mono hszr))
              have Ha9 := Lib.hid (Har.out.later hbc)
              have hsz9 := HB9.out.size
              clear hbc hmh HS
              generalize wc = w9 at *
              have HS : Hid (∀ W, Below w9.heap.size w9 W → (W.cell? ⟨ba, 0, none⟩ = some (.float .f64 4607182418800017408) ∧ W.cell? ⟨ba, 1, none⟩ = some (.int .i64 1) ∧ W.cell? ⟨wb, j, none⟩ = some (.float .f64 y))) := Lib.hid (fun W hW => ⟨(Ha9.out.later hW).c0, (Ha9.out.later hW).c1, HYC.out _ (HB9.out.trans (hW.mono hsz9))⟩)
              go_upto_region 12 with (fail)
              go_cut [14, 15] (fun pv ev wc => ∃ b4, pv = .pointer (some ⟨b4, 0, none⟩) ∧ ev = .int .i64 1 ∧ HAt wc b4 0 0 ∧ Below w9.heap.size w9 wc)
              case first =>
                go_region_held3 (fun W => W.cell? ⟨ba, 0, none⟩ = some (.float .f64 4607182418800017408) ∧ W.cell? ⟨ba, 1, none⟩ = some (.int .i64 1) ∧ W.cell? ⟨wb, j, none⟩ = some (.float .f64 y))
                  (first | exact HS.out _ (Below.refl _ _).drew | exact HS.out _ ((Below.refl _ _).alloc (Nat.le_refl _) _).drew | exact HS.out _ hk5 | exact HS.out _ ((hk5.setCell (p := ⟨w9.heap.size, 0, none⟩) (Nat.le_refl _) _).setCell (p := ⟨w9.heap.size, 1, none⟩) (Nat.le_refl _) _) | exact HS.out _ (hk5.alloc hk5.size _))
                  (first
                    | (go_at_call 20; refine (HNN.out _).mono ?_; rintro e w' ⟨rfl, rfl⟩)
                    | (go_at_call 12; refine (HT2.out _).mono ?_; rintro e w5 ⟨rfl, hb5⟩; (have hk5 : Below w9.heap.size w9 w5 := (Below.refl _ _).drew.trans hb5))
                    | (go_at_call 12; refine (HT2.out _).mono ?_; rintro e w5 ⟨rfl, hb5⟩; (have hm5 := (HAt.new w9 0 0).drew.later hb5); (have hk5 : Below w9.heap.size w9 w5 := (((Below.refl _ _).alloc (Nat.le_refl _) _).drew).trans (hb5.mono (by simp))); (have y0 := hm5.c0); (have y1 := hm5.c1); (have y2 := hm5.fz 0); (have y3 := hm5.fz 1)))
                all_goals
                  go_wp2_with fail
                  go_meet
                  case rel =>
                    first
                    | exact ⟨w5.heap.size, rfl, rfl, HAt.new w5 0 0, hk5.alloc hk5.size _⟩
                    | exact ⟨w9.heap.size, rfl, rfl, hm5.set 0 0, (hk5.setCell (p := ⟨w9.heap.size, 0, none⟩) (Nat.le_refl _) _).setCell (p := ⟨w9.heap.size, 1, none⟩) (Nat.le_refl _) _⟩
              case rest =>
                obtain ⟨bi, rfl, rfl, hmi, hbc⟩ := hcut
                have HB10 := Lib.hid (HB9.out.trans (hbc.mono hsz9))
                clear hbc hmi HS
                generalize wc = w10 at *
                go_wp2_with fail
                refine Calls.mono (HN1.out _) ?_
                rintro e w' ⟨rfl, he⟩
                have he := he.symm
                subst he
                go_wp2_with fail
                refine Calls.mono (HN1.out _) ?_
                rintro e w' ⟨rfl, he⟩
                have he := he.symm
                subst he
                go_wp2_with fail
                exact ⟨⟨j + 1, by go_num, by omega, HB10.out⟩, by simp [intOf]; omega⟩
          have hjti : ¬ ((j : Int) < 6) := by omega
          have HBo := Lib.hid (HB7.out.trans (HBr.out.mono HB7.out.size))
          generalize wr = wo at *
          clear HWB HCW hwl Har HB7 HBr Ha7 Hp7
          go_wp2_with fail
          refine Calls.mono (HNN.out _) ?_
          rintro e w' ⟨rfl, he⟩
          have he := he.symm
          subst he
          go_wp2_with fail
          refine Calls.mono (HNZ.out _) ?_
          rintro e w' ⟨rfl, he⟩
          have he := he.symm
          subst he
          go_wp2_with fail
          refine Calls.mono (HNN.out _) ?_
          rintro e w' ⟨rfl, he⟩
          have he := he.symm
          subst he
          have HCD := Lib.hid (fun j hj => bad_cell wo n j hj)
          have Hp11 := Lib.hid (Hpr.out.alloc (.cells #[.float .f64 4602678819172646912, .int .i64 0, .float .f64 n, .int .i64 1, .float .f64 9223372036854775808, .int .i64 1, .float .f64 4607632778762754458, .int .i64 1, .float .f64 n, .int .i64 (-1), .float .f64 4602678819172646912, .int .i64 1099511627777] 30))
          have HB11 := Lib.hid (HBo.out.alloc HBo.out.size (.cells #[.float .f64 4602678819172646912, .int .i64 0, .float .f64 n, .int .i64 1, .float .f64 9223372036854775808, .int .i64 1, .float .f64 4607632778762754458, .int .i64 1, .float .f64 n, .int .i64 (-1), .float .f64 4602678819172646912, .int .i64 1099511627777] 30))
          have hwl : wo.heap.size < (wo.alloc (.cells #[.float .f64 4602678819172646912, .int .i64 0, .float .f64 n, .int .i64 1, .float .f64 9223372036854775808, .int .i64 1, .float .f64 4607632778762754458, .int .i64 1, .float .f64 n, .int .i64 (-1), .float .f64 4602678819172646912, .int .i64 1099511627777] 30)).heap.size := by simp
          go_wp2_with fail
          generalize (wo.alloc (.cells #[.float .f64 4602678819172646912, .int .i64 0, .float .f64 n, .int .i64 1, .float .f64 9223372036854775808, .int .i64 1, .float .f64 4607632778762754458, .int .i64 1, .float .f64 n, .int .i64 (-1), .float .f64 4602678819172646912, .int .i64 1099511627777] 30)) = w11 at *
          generalize wo.heap.size = bd at *
          clear Hpr HBo
          go_loopw [17] (fun kv wr => ∃ k : Nat, kv = .int .i64 k ∧ k ≤ 6 ∧ Below w11.heap.size w11 wr) (fun kv _ => 7 - (intOf kv).toNat)
          case atStart => exact ⟨0, rfl, Nat.zero_le _, Below.refl _ _⟩
          case round =>
            obtain ⟨k, rfl, hk, hb⟩ := hrel
            have HBk := Lib.hid hb
            have Hpk := Lib.hid (Hp11.out.later hb)
            have hszk := hb.size
            by_cases hkt : k < 6
            · have hkti : (k : Int) < 6 := by omega
              obtain ⟨d0, d1⟩ := HCD.out k hkt
              have g0 := (hb.cell (p := ⟨bd, k * 2, none⟩) hwl).trans d0
              have g1 := (hb.cell (p := ⟨bd, k * 2 + 1, none⟩) hwl).trans d1
              obtain ⟨hq, hy⟩ := HDB.out _ (List.getElem_mem (show k < (badL n).length from hkt))
              generalize ((badL n)[k]'hkt).1 = y at *
              generalize ((badL n)[k]'hkt).2 = z at *
              have HCK := Lib.hid (fun W => check_any y z W hy)
              rw [hq] at HCK
              unfold hV at HCK
              clear hb d0 d1 hq hy
              go_wp2_with fail
              refine Calls.mono (HCK.out _) ?_
              rintro e w12 ⟨rfl, hb12⟩
              have HB12 := Lib.hid (HBk.out.trans (hb12.mono hszk))
              clear hb12
              go_wp2_with fail
              refine Calls.mono (HN1.out _) ?_
              rintro e w' ⟨rfl, he⟩
              have he := he.symm
              subst he
              go_wp2_with fail
              exact ⟨⟨k + 1, by go_num, by omega, HB12.out⟩, by simp [intOf]; omega⟩
            have hkti : ¬ ((k : Int) < 6) := by omega
            have HBz := Lib.hid (HB11.out.trans (HBk.out.mono HB11.out.size))
            clear hb HCD HDB hwl HB11 HBk Hp11
            have hO := ord_eq 4607182418800017408
            rw [show (!nanF 4607182418800017408) = true by decide] at hO
            go_wp2_with fail
            refine Calls.mono (HLN.out _) ?_
            rintro e w21 ⟨rfl, hb21⟩
            have Hp21 := Lib.hid (Hpk.out.later hb21)
            have HB21 := Lib.hid (HBz.out.trans (hb21.mono HBz.out.size))
            clear hb21
            have ep21c0 := Hp21.out.c0
            have ep21c1 := Hp21.out.c1
            have ep21c2 := Hp21.out.c2
            have ep21l := Hp21.out.lt
            have Hd21 := Lib.hid (HAt.new w21 4607182418800017408 1099511627776)
            have hm0 : (0 : Int) ≤ (m : Int) := by omega
            go_wp2_with fail
            refine Calls.mono (HN0.out _) ?_
            rintro e w' ⟨rfl, he⟩
            have he := he.symm
            subst he
            go_wp2_with fail
            refine Calls.mono (HWK.out _) ?_
            rintro e w22 ⟨rfl, hb22⟩
            have Hp22 := Lib.hid ((Hp21.out.alloc (.cells #[.float .f64 4607182418800017408, .int .i64 1099511627776] 30)).later hb22)
            have Hd22 := Lib.hid (Hd21.out.later hb22)
            have HBa22 := Lib.hid (HB21.out.alloc HB21.out.size (.cells #[.float .f64 4607182418800017408, .int .i64 1099511627776] 30))
            have HB22 := Lib.hid (HBa22.out.trans (hb22.mono HBa22.out.size))
            clear hb22
            clear ep21c0 ep21c1 ep21c2 ep21l
            go_wp2_with fail
            go_ret
            exact ⟨rfl, HB22.out⟩
end Go.Proofs.Ythkgahdnjhjobaa

/-
  DiskThree: the law's walk.
  Conditions: as each theorem states them.
-/
import Derived.Test.YtahmihdahgbhkaaDX
namespace Go.Proofs.Ytahmihdahgbhkaa
open Go.RowKit

/-- Three rows in a block of their own. -/
theorem rc3 (w : World) (v0 v1 v2 : Value) (l0 l1 l2 : List UInt8) (h0 : RB w v0 l0) (h1 : RB w v1 l1) (h2 : RB w v2 l2) : RC (w.alloc (.cells #[v0, v1, v2] 37)) (.slice (some ⟨w.heap.size, 0, none⟩) 3 3) [l0, l1, l2] := by
  have hb := Blk.new w #[v0, v1, v2] 37
  have hl : Below w.heap.size w (w.alloc (.cells #[v0, v1, v2] 37)) := (Below.refl _ w).alloc (Nat.le_refl _) _
  refine ⟨_, 3, rfl, by simp, by unfold maxLen; omega, fun _ => ⟨w.heap.size, 0, rfl, hb.lt, fun i hi => ?_⟩⟩
  rw [Nat.zero_add]
  match i, hi with
  | 0, _ => exact ⟨v0, hb.c 0 rfl, h0.later hl⟩
  | 1, _ => exact ⟨v1, hb.c 1 rfl, h1.later hl⟩
  | 2, _ => exact ⟨v2, hb.c 2 rfl, h2.later hl⟩
/-- A list of no bytes, made. -/
theorem made_nil (w : World) (n : Nat) (hn : n ≤ 1000) : ∃ W, (Instr.makeSlice 22 (.int .i64 (n : Int)) (.int .i64 (n : Int))).run Try.prog w = .ok (.slice (some ⟨w.heap.size, 0, none⟩) n n) W ∧ RC W (.slice (some ⟨w.heap.size, 0, none⟩) n n) (List.replicate n []) ∧ Below w.heap.size w W := by
  obtain ⟨i0, hi0, hz0, hs0, hb0⟩ := info_parts infoBs
  obtain ⟨W, h1, h2, h3⟩ := run_make_full (P := Try.prog) w w.heap.size 22 37 i0 _ 1 Try.underlying22 hi0 hz0 hs0 .i64 .i64 n (by rw [hb0]; omega) (by unfold maxLen; omega) (Nat.le_refl _)
  refine ⟨W, h1, ⟨_, n, by rw [List.length_replicate], by simp, by unfold maxLen; omega, fun _ => ⟨w.heap.size, 0, rfl, (World.ownsRow.lt h2 w.heap.size rfl).2, fun i hi => ?_⟩⟩, (Below.refl _ w).grown h3 (Nat.le_refl _) (fun k hk => by cases hk)⟩
  rw [List.length_replicate] at hi
  have := World.ownsRow.cellAt h2 i (by omega)
  rw [Nat.zero_add, this]
  refine ⟨.slice none 0 0, ?_, by rw [List.getElem_replicate]; exact RB.nil _⟩
  have e : (Value.slice none 0 0).cells = #[Value.slice none 0 0] := rfl
  rw [e, Nat.mul_one, toList_madeCells_one]
  simp [hi]
def thA : Dk := newDk [[97], [98, 98], [99, 99, 99]]
set_option maxHeartbeats 1000000 in
set_option maxRecDepth 100000 in
theorem three_any (A0 A1 : Option Addr) (n0 k0 n1 k1 : Nat) (w : World) (hn1 : n1 < 9223372036854775808) :
    Calls Try.prog 7 #[.agg #[.slice A0 n0 k0, .slice A1 n1 k1]] w fun e w' => e = .returned (.bool true) ∧ Below w.heap.size w w' := by
  have HN := Lib.hid (fun n W => num_any n W)
  have HWK := Lib.hid (fun W => wakes_any W)
  have hn1i : (0 : Int) ≤ (n1 : Int) := by omega
  obtain ⟨W0, hW0⟩ : ∃ W0, w.alloc (.cells #[.slice A0 n0 k0, .slice A1 n1 k1] 25) = W0 := ⟨_, rfl⟩
  have HX := Lib.hid (show Blk W0 w.heap.size #[.slice A0 n0 k0, .slice A1 n1 k1] 25 by rw [← hW0]; exact Blk.new w _ _)
  have HB0 := Lib.hid (show Below w.heap.size w W0 by rw [← hW0]; exact (Below.refl _ w).alloc (Nat.le_refl _) _)
  go_enter Try.func7, Try.ntmps7
  go_wp2_with fail
  clear hW0
  go_loopw [3] (fun iv wr => ∃ i : Nat, iv = .int .i64 i ∧ i ≤ 3 ∧ Below w.heap.size w wr ∧ Blk wr w.heap.size #[.slice A0 n0 k0, .slice A1 n1 k1] 25) (fun iv _ => 3 - (intOf iv).toNat)
  case atStart => exact ⟨0, rfl, Nat.zero_le _, HB0.out, HX.out⟩
  case round =>
    obtain ⟨i, rfl, hil, hb, hx⟩ := hrel


    have HB := Lib.hid hb
    have HXr := Lib.hid hx
    have hsr := hb.size
    have hsx := hx.lt
    clear hx
    by_cases hlt : i < 3
    · have hlti : (i : Int) < 3 := by omega
      clear hb
      obtain ⟨m1, hm1⟩ : ∃ m, ((i : Int) + 1).tmod 3 = m := ⟨_, rfl⟩
      obtain ⟨m2, hm2⟩ : ∃ m, ((i : Int) + 2).tmod 3 = m := ⟨_, rfl⟩
      have hi3 : i = 0 ∨ i = 1 ∨ i = 2 := by omega
      obtain ⟨dB, hdB⟩ : ∃ d, (wrD thA i ((i : Int) + 1) [122, 122]).1 = d := ⟨_, rfl⟩
      obtain ⟨dC, hdC⟩ : ∃ d, (syD dB m1).1 = d := ⟨_, rfl⟩
      obtain ⟨dE, hdE⟩ : ∃ d, (cutD dC m2 0).1 = d := ⟨_, rfl⟩
      have he1 : (wrD thA i ((i : Int) + 1) [122, 122]).2 = 0 := by rcases hi3 with rfl | rfl | rfl <;> decide
      have he2 : (syD dB m1).2 = 0 := by subst hdB hm1; rcases hi3 with rfl | rfl | rfl <;> decide
      have he3 : (cutD dC m2 0).2 = 0 := by subst hdC hdB hm1 hm2; rcases hi3 with rfl | rfl | rfl <;> decide
      have HSZ := Lib.hid (show ∀ n : Nat, n < 3 → (sizeD dE n).2 = 0 ∧ ((n : Int) = m2 → (sizeD dE n).1 = 0) ∧ ((n : Int) ≠ m2 → n = i → (sizeD dE n).1 = (n : Int) + 3) ∧ ((n : Int) ≠ m2 → n ≠ i → (sizeD dE n).1 = (n : Int) + 1) from by
        subst hdE hdC hdB hm1 hm2
        intro n hn
        have hn3 : n = 0 ∨ n = 1 ∨ n = 2 := by omega
        rcases hi3 with rfl | rfl | rfl <;> rcases hn3 with rfl | rfl | rfl <;> decide)
      have hcr : crashD dE [] = [[97], [98, 98], [99, 99, 99]] := by
        subst hdE hdC hdB hm1 hm2
        rcases hi3 with rfl | rfl | rfl <;> decide
      have hmA : MxD thA 0 := MxD.new _
      have hmB : MxD dB 1 := by rw [← hdB]; exact hmA.wr _ _ _
      have hmC : MxD dC 2 := by rw [← hdC]; exact hmB.sy _
      have hmE : MxD dE 3 := by rw [← hdE]; exact hmC.cut _ _
      have hw1 : IntKind.i64.wrap ((i : Int) + 1) = (i : Int) + 1 := wrap_id (by omega) (by omega)
      have hw2 : IntKind.i64.wrap ((i : Int) + 2) = (i : Int) + 2 := wrap_id (by omega) (by omega)
      obtain ⟨Wa, hcva, hba, hra, -, hsa⟩ := lit_b wr [97] #[.int .u8 97] 1 rfl rfl (by omega)
      obtain ⟨Wb, hcvb, hbb, hrb, -, hsb⟩ := lit_b Wa [98, 98] #[.int .u8 98, .int .u8 98] 2 rfl rfl (by omega)
      obtain ⟨Wc, hcvc, hbc, hrc, -, hsc⟩ := lit_b Wb [99, 99, 99] #[.int .u8 99, .int .u8 99, .int .u8 99] 3 rfl rfl (by omega)
      obtain ⟨Wd, hWd⟩ : ∃ Wd, Wc.alloc (.cells #[.slice (some ⟨wr.heap.size, 0, none⟩) 1 1, .slice (some ⟨Wa.heap.size, 0, none⟩) 2 2, .slice (some ⟨Wb.heap.size, 0, none⟩) 3 3] 37) = Wd := ⟨_, rfl⟩
      have hrcd : RC Wd (.slice (some ⟨Wc.heap.size, 0, none⟩) 3 3) [[97], [98, 98], [99, 99, 99]] := by
        rw [← hWd]
        exact rc3 Wc _ _ _ _ _ _ ((hra.later hbb).later hbc) (hrb.later hbc) hrc
      have hbd : Below wr.heap.size wr Wd := by
        rw [← hWd]
        exact ((hba.trans (hbb.mono hba.size)).trans (hbc.mono (by omega))).alloc (by omega) _
      have HNEW := Lib.hid (New_ok Wd [[97], [98, 98], [99, 99, 99]] _ hrcd (by decide))
      have HBD := Lib.hid (HB.out.trans (hbd.mono hsr))
      have HXD := Lib.hid (HXr.out.later hbd)
      have hsd := hbd.size
      clear hsa hsb hsc hrcd hba hbb hbc hra hrb hrc hbd
      go_wp2_with fail
      refine Calls.mono HNEW.out ?_
      rintro e w1 ⟨p, rfl, hp, hb1, hk1⟩
      have HB1 := Lib.hid (HBD.out.trans (hb1.mono (by omega)))
      have HX1 := Lib.hid (HXD.out.later hb1)
      have hp1 := hk1.lt
      have hs1 := hb1.size
      obtain ⟨v1, hcb, hbv, hrv, hov, _⟩ := lit_b w1 [122, 122] #[.int .u8 122, .int .u8 122] 2 rfl rfl (by omega)
      have HW := Lib.hid (nWrite w1 v1 Wd.heap.size p 0 thA hk1 hbv hs1 i ((i : Int) + 1) [122, 122] _ hrv (fun j hj => .inr (Nat.le_of_eq (hov j hj))) hmA (by decide))
      rw [he1, hdB] at HW
      have HBV := Lib.hid (HB1.out.trans (hbv.mono (by omega)))
      have HXV := Lib.hid (HX1.out.later hbv)
      have hsv := hbv.size
      have hpv : p < v1.heap.size := by omega
      clear hb1 hk1 hbv hrv HNEW hcva hcvb hcvc hWd
      go_wp2_with fail
      refine Calls.mono (HN.out _ _) ?_
      rintro e w' ⟨rfl, he⟩
      have he := he.symm
      subst he
      go_wp2_with fail
      refine Calls.mono HW.out ?_
      rintro e w2 ⟨rfl, hk2, hb2⟩
      have HB2 := Lib.hid (HBV.out.trans (hb2.mono (by omega)))
      have HX2 := Lib.hid (HXV.out.heap (hb2.block _ (by omega)))
      have hp2 := hk2.lt
      have hs2 := hb2.size
      have HS := Lib.hid (nSync w2 Wd.heap.size p dB hk2 (by omega) m1)
      rw [he2, hdC] at HS
      clear hb2 hk2 HW hcb
      go_wp2_with fail
      refine Calls.mono (HN.out _ _) ?_
      rintro e w' ⟨rfl, he⟩
      have he := he.symm
      subst he
      go_wp2_with fail
      refine Calls.mono HS.out ?_
      rintro e w3 ⟨rfl, hk3, hb3⟩
      have HB3 := Lib.hid (HB2.out.trans (hb3.mono (by omega)))
      have HX3 := Lib.hid (HX2.out.heap (hb3.block _ (by omega)))
      have hp3 := hk3.lt
      have hs3 := hb3.size
      have HC := Lib.hid (nCut w3 Wd.heap.size p 2 dC hk3 (by omega) m2 0 hmC (by decide))
      rw [he3, hdE] at HC
      clear hb3 hk3 HS
      go_wp2_with fail
      refine Calls.mono (HN.out _ _) ?_
      rintro e w' ⟨rfl, he⟩
      have he := he.symm
      subst he
      go_wp2_with fail
      refine Calls.mono HC.out ?_
      rintro e w4 ⟨rfl, hk4, hb4⟩
      have HB4 := Lib.hid (HB3.out.trans (hb4.mono (by omega)))
      have HX4 := Lib.hid (HX3.out.heap (hb4.block _ (by omega)))
      have HK4 := Lib.hid hk4
      have hp4 := hk4.lt
      have hs4 := hb4.size
      clear hb4 hk4 HC
      go_wp2_with fail
      refine Calls.mono (HN.out _ _) ?_
      rintro e w' ⟨rfl, he⟩
      have he := he.symm
      subst he
      go_wp2_with fail
      clear hdB hdC hdE he1 he2 he3 hmA hmB hmC hw1
      have hi4 := Lib.hid hi3
      clear hi3
      go_loopw [6] (fun iv wz => ∃ n : Nat, iv = .int .i64 n ∧ n ≤ 3 ∧ Below w.heap.size w wz ∧ Blk wz w.heap.size #[.slice A0 n0 k0, .slice A1 n1 k1] 25 ∧ NewK Wd.heap.size p dE wz ∧ Wd.heap.size ≤ wz.heap.size) (fun iv _ => 3 - (intOf iv).toNat)
      case atStart => exact ⟨0, rfl, Nat.zero_le _, HB4.out, HX4.out, HK4.out, by omega⟩
      case round =>
        obtain ⟨n, rfl, hnl, hbz, hxz, hkz, hdz⟩ := hrel
        have HBZ := Lib.hid hbz
        have HXZ := Lib.hid hxz
        have HKZ := Lib.hid hkz
        have hpz := hkz.lt
        have hsz := hbz.size
        clear hbz hxz hkz
        by_cases hlt3 : n < 3
        · have hlt3i : (n : Int) < 3 := by omega
          have HS := Lib.hid (nSize wr Wd.heap.size p dE HKZ.out n)
          obtain ⟨z0, z1, z2, z3⟩ := HSZ.out n hlt3
          rw [z0] at HS
          have hwn1 : IntKind.i64.wrap ((n : Int) + 1) = (n : Int) + 1 := wrap_id (by omega) (by omega)
          have hwn3 : IntKind.i64.wrap ((n : Int) + 3) = (n : Int) + 3 := wrap_id (by omega) (by omega)
          by_cases hn2 : (n : Int) = m2
          · have hn2b : ((n : Int) == m2) = true := beq_iff_eq.2 hn2
            rw [z1 hn2] at HS
            clear z0 z1 z2 z3
            by_cases hni : n = i
            · have hnib : ((n : Int) == (i : Int)) = true := beq_iff_eq.2 (by omega)
              clear hni hn2
              go_wp2_with fail
              refine Calls.mono HS.out ?_
              rintro e wy ⟨rfl, hky, hby⟩
              have HBY := Lib.hid (HBZ.out.trans (hby.mono (by omega)))
              have HXY := Lib.hid (HXZ.out.later hby)
              have HKY := Lib.hid hky
              have hsy := hby.size
              clear hby hky HS
              go_wp2_with fail
              refine Calls.mono (HN.out _ _) ?_
              rintro e w' ⟨rfl, he⟩
              have he := he.symm
              subst he
              go_wp2_with fail
              exact ⟨⟨n + 1, by go_num, by omega, HBY.out, HXY.out, HKY.out, by omega⟩, by simp [intOf]; omega⟩
            · have hnib : ((n : Int) == (i : Int)) = false := beq_false_of_ne (by omega)
              clear hni hn2
              go_wp2_with fail
              refine Calls.mono HS.out ?_
              rintro e wy ⟨rfl, hky, hby⟩
              have HBY := Lib.hid (HBZ.out.trans (hby.mono (by omega)))
              have HXY := Lib.hid (HXZ.out.later hby)
              have HKY := Lib.hid hky
              have hsy := hby.size
              clear hby hky HS
              go_wp2_with fail
              refine Calls.mono (HN.out _ _) ?_
              rintro e w' ⟨rfl, he⟩
              have he := he.symm
              subst he
              go_wp2_with fail
              exact ⟨⟨n + 1, by go_num, by omega, HBY.out, HXY.out, HKY.out, by omega⟩, by simp [intOf]; omega⟩
          · have hn2b : ((n : Int) == m2) = false := beq_false_of_ne hn2
            by_cases hni : n = i
            · have hnib : ((n : Int) == (i : Int)) = true := beq_iff_eq.2 (by omega)
              rw [z2 hn2 hni] at HS
              clear z0 z1 z2 z3
              clear hni hn2
              go_wp2_with fail
              refine Calls.mono HS.out ?_
              rintro e wy ⟨rfl, hky, hby⟩
              have HBY := Lib.hid (HBZ.out.trans (hby.mono (by omega)))
              have HXY := Lib.hid (HXZ.out.later hby)
              have HKY := Lib.hid hky
              have hsy := hby.size
              clear hby hky HS
              go_wp2_with fail
              refine Calls.mono (HN.out _ _) ?_
              rintro e w' ⟨rfl, he⟩
              have he := he.symm
              subst he
              go_wp2_with fail
              exact ⟨⟨n + 1, by go_num, by omega, HBY.out, HXY.out, HKY.out, by omega⟩, by simp [intOf]; omega⟩
            · have hnib : ((n : Int) == (i : Int)) = false := beq_false_of_ne (by omega)
              rw [z3 hn2 hni] at HS
              clear z0 z1 z2 z3
              clear hni hn2
              go_wp2_with fail
              refine Calls.mono HS.out ?_
              rintro e wy ⟨rfl, hky, hby⟩
              have HBY := Lib.hid (HBZ.out.trans (hby.mono (by omega)))
              have HXY := Lib.hid (HXZ.out.later hby)
              have HKY := Lib.hid hky
              have hsy := hby.size
              clear hby hky HS
              go_wp2_with fail
              refine Calls.mono (HN.out _ _) ?_
              rintro e w' ⟨rfl, he⟩
              have he := he.symm
              subst he
              go_wp2_with fail
              exact ⟨⟨n + 1, by go_num, by omega, HBY.out, HXY.out, HKY.out, by omega⟩, by simp [intOf]; omega⟩
        · obtain rfl : n = 3 := by omega
          have HCR := Lib.hid (nCrash wr Wd.heap.size p 3 dE HKZ.out hdz [] (.slice none 0 0) (IA.nil _) (fun j hj => by cases hj) hmE (by decide))
          rw [hcr] at HCR
          go_wp2_with fail
          refine Calls.mono HCR.out ?_
          rintro e w10 ⟨u, rfl, ⟨us, hoc⟩, -, hb10⟩
          have HB10 := Lib.hid (HBZ.out.trans (hb10.mono (by omega)))
          have HX10 := Lib.hid (HXZ.out.heap (hb10.block _ (by omega)))
          have hrc := hoc.rc
          obtain ⟨uA, uc, rfl⟩ := hoc.slice
          obtain ⟨b, o, y0, rfl, hbl, hc0, hr0⟩ := hrc.at (i := 0) (by simp)
          obtain ⟨b', o', y1, hA1, -, hc1, hr1⟩ := hrc.at (i := 1) (by simp)
          injection hA1 with hA1
          injection hA1 with e1 e2
          subst e1 e2
          obtain ⟨b', o', y2, hA2, -, hc2, hr2⟩ := hrc.at (i := 2) (by simp)
          injection hA2 with hA2
          injection hA2 with e1 e2
          subst e1 e2
          have hst0 := to_str w10 y0 [97] hr0
          have hst1 := to_str w10 y1 [98, 98] hr1
          have hst2 := to_str w10 y2 [99, 99, 99] hr2
          simp only [Nat.add_zero] at hc0
          clear hoc hrc hb10 HCR hr0 hr1 hr2
          go_wp2_with fail
          exact ⟨⟨i + 1, by go_num, by omega, HB10.out, HX10.out⟩, by simp [intOf]; omega⟩
    · obtain rfl : i = 3 := by omega
      have c1 := HXr.out.c 1 (u := .slice A1 n1 k1) rfl
      obtain ⟨W1, hmk1, hrc1, hbm1⟩ := made_nil wr 2 (by omega)
      have HNB := Lib.hid (New_bad W1 _ _ hrc1 (by simp) (by simp))
      have HB1 := Lib.hid (HB.out.trans (hbm1.mono hsr))
      have HX1 := Lib.hid (HXr.out.later hbm1)
      have hs1 := hbm1.size
      have hmk1 : (Instr.makeSlice 22 (.int .i64 2) (.int .i64 2)).run Try.prog wr = .ok (.slice (some ⟨wr.heap.size, 0, none⟩) 2 2) W1 := hmk1
      clear hb c1 hrc1 hbm1
      go_wp2_with fail
      refine Calls.mono HNB.out ?_
      rintro e w2 ⟨rfl, hb2⟩
      have HB2 := Lib.hid (HB1.out.trans (hb2.mono (by omega)))
      have HX2 := Lib.hid (HX1.out.later hb2)
      have hs2 := hb2.size
      obtain ⟨W3, hmk3, hrc3, hbm3⟩ := made_nil w2 4 (by omega)
      have HNB3 := Lib.hid (New_bad W3 _ _ hrc3 (by simp) (by simp))
      have HB3 := Lib.hid (HB2.out.trans (hbm3.mono (by omega)))
      have HX3 := Lib.hid (HX2.out.later hbm3)
      have hs3 := hbm3.size
      have hmk3 : (Instr.makeSlice 22 (.int .i64 4) (.int .i64 4)).run Try.prog w2 = .ok (.slice (some ⟨w2.heap.size, 0, none⟩) 4 4) W3 := hmk3
      clear hb2 hrc3 hbm3 hmk1 HNB
      go_wp2_with fail
      refine Calls.mono HNB3.out ?_
      rintro e w4 ⟨rfl, hb4⟩
      have HB4 := Lib.hid (HB3.out.trans (hb4.mono (by omega)))
      have HX4 := Lib.hid (HX3.out.later hb4)
      have hs4 := hb4.size
      have c1 := HX4.out.c 1 (u := .slice A1 n1 k1) rfl
      clear hb4 hmk3 HNB3
      go_wp2_with fail
      refine Calls.mono (HN.out _ _) ?_
      rintro e w' ⟨rfl, he⟩
      have he := he.symm
      subst he
      go_wp2_with fail
      refine Calls.mono (HN.out _ _) ?_
      rintro e w' ⟨rfl, he⟩
      have he := he.symm
      subst he
      go_wp2_with fail
      refine Calls.mono (HWK.out _) ?_
      rintro e w9 ⟨rfl, hb9⟩
      have HB9 := Lib.hid (HB4.out.trans (hb9.mono (by omega)))
      clear hb9
      go_wp2_with fail
      go_ret
      exact ⟨rfl, HB9.out⟩
end Go.Proofs.Ytahmihdahgbhkaa

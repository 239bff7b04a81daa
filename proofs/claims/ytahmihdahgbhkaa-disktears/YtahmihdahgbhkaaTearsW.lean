/-
  DiskTears: the law's walk.
  Conditions: as each theorem states them.
-/
import Derived.Test.YtahmihdahgbhkaaThreeW
namespace Go.Proofs.Ytahmihdahgbhkaa
open Go.RowKit

/-- So many rounds of two writes. -/
def tdk : Nat → Dk
  | 0 => newDk [[120], [], []]
  | i + 1 => (wrD (wrD (tdk i) 0 (1 + 4 * (i : Int)) [97, 98, 99, 100]).1 2 0 [122, 122]).1
theorem tdk_max : ∀ i, MxD (tdk i) (2 * i)
  | 0 => MxD.new _
  | i + 1 => ((tdk_max i).wr _ _ _).wr _ _ _
/-- Numbers in a block of their own. -/
theorem ints_row (w : World) (l : List Int) (cs : Array Value) (n : Nat) (hl : l.length = n) (hc : (l.map fun a => Value.int .i64 a).toArray = cs) (hn : n ≤ 1000) : IA (w.alloc (.cells cs 3)) (.slice (some ⟨w.heap.size, 0, none⟩) n n) l := by
  subst hl hc
  have hb := Blk.new w (l.map fun a => Value.int .i64 a).toArray 3
  refine ⟨_, _, rfl, Nat.le_refl _, by unfold maxLen; omega, fun _ => ⟨w.heap.size, 0, rfl, hb.lt, fun i hi => ?_⟩⟩
  rw [Nat.zero_add]
  exact hb.c i (by simp [hi])
set_option maxHeartbeats 2000000 in
set_option maxRecDepth 100000 in
theorem tears_any (A0 A1 : Option Addr) (n0 k0 n1 k1 : Nat) (w : World) (hn1 : n1 < 9223372036854775808) :
    Calls Try.prog 5 #[.agg #[.slice A0 n0 k0, .slice A1 n1 k1]] w fun e w' => e = .returned (.bool true) ∧ Below w.heap.size w w' := by
  have HN := Lib.hid (fun n W => num_any n W)
  have HWK := Lib.hid (fun W => wakes_any W)
  have hn1i : (0 : Int) ≤ (n1 : Int) := by omega
  obtain ⟨W0, hW0⟩ : ∃ W0, w.alloc (.cells #[.slice A0 n0 k0, .slice A1 n1 k1] 25) = W0 := ⟨_, rfl⟩
  have HX := Lib.hid (show Blk W0 w.heap.size #[.slice A0 n0 k0, .slice A1 n1 k1] 25 by rw [← hW0]; exact Blk.new w _ _)
  have HB0 := Lib.hid (show Below w.heap.size w W0 by rw [← hW0]; exact (Below.refl _ w).alloc (Nat.le_refl _) _)
  go_enter Try.func5, Try.ntmps5
  go_wp2_with fail
  clear hW0
  go_loopw [3] (fun iv wr => ∃ a : Nat, iv = .int .i64 a ∧ a ≤ 4 ∧ Below w.heap.size w wr ∧ Blk wr w.heap.size #[.slice A0 n0 k0, .slice A1 n1 k1] 25) (fun iv _ => 4 - (intOf iv).toNat)
  case atStart => exact ⟨0, rfl, Nat.zero_le _, HB0.out, HX.out⟩
  case round =>
    obtain ⟨a, rfl, hal, hb, hx⟩ := hrel
    have HB := Lib.hid hb
    have HXr := Lib.hid hx
    have hsr := hb.size
    clear hx
    by_cases hlt : a ≤ 3
    · have hlti : (a : Int) ≤ 3 := by omega
      clear hb
      go_wp2_with fail
      go_loopw [4] (fun iv wr => ∃ c : Nat, iv = .int .i64 c ∧ c ≤ 5 ∧ Below w.heap.size w wr ∧ Blk wr w.heap.size #[.slice A0 n0 k0, .slice A1 n1 k1] 25) (fun iv _ => 5 - (intOf iv).toNat)
      case atStart => exact ⟨0, rfl, Nat.zero_le _, HB.out, HXr.out⟩
      case round =>
        obtain ⟨c, rfl, hcl, hb, hx⟩ := hrel
        have HB := Lib.hid hb
        have HXr := Lib.hid hx
        have hsr := hb.size
        have hsx := hx.lt
        clear hx hb
        by_cases hltc : c ≤ 4
        · have hltci : (c : Int) ≤ 4 := by omega
          obtain ⟨Wa, hcva, hba, hra, -, hsa⟩ := lit_b wr [120] #[.int .u8 120] 1 rfl rfl (by omega)
          obtain ⟨Wd, hWd⟩ : ∃ Wd, Wa.alloc (.cells #[.slice (some ⟨wr.heap.size, 0, none⟩) 1 1, .slice none 0 0, .slice none 0 0] 37) = Wd := ⟨_, rfl⟩
          have hrcd : RC Wd (.slice (some ⟨Wa.heap.size, 0, none⟩) 3 3) [[120], [], []] := by
            rw [← hWd]
            exact rc3 Wa _ _ _ _ _ _ hra (RB.nil _) (RB.nil _)
          have hbd : Below wr.heap.size wr Wd := by
            rw [← hWd]
            exact hba.alloc hba.size _
          have HNEW := Lib.hid (New_ok Wd [[120], [], []] _ hrcd (by decide))
          have HBD := Lib.hid (HB.out.trans (hbd.mono hsr))
          have HXD := Lib.hid (HXr.out.later hbd)
          have hsd := hbd.size
          clear hsa hrcd hba hra hbd
          go_wp2_with fail
          refine Calls.mono HNEW.out ?_
          rintro e w1 ⟨p, rfl, hp, hb1, hk1⟩
          have HB1 := Lib.hid (HBD.out.trans (hb1.mono (by omega)))
          have HX1 := Lib.hid (HXD.out.later hb1)
          have HK1 := Lib.hid hk1
          have hp1 := hk1.lt
          have hs1 := hb1.size
          clear hb1 hk1 HNEW hcva hWd
          go_wp2_with fail
          refine Calls.mono (HN.out _ _) ?_
          rintro e w' ⟨rfl, he⟩
          have he := he.symm
          subst he
          go_wp2_with fail
          go_loopw [7] (fun iv wz => ∃ n : Nat, iv = .int .i64 n ∧ n ≤ 3 ∧ Below w.heap.size w wz ∧ Blk wz w.heap.size #[.slice A0 n0 k0, .slice A1 n1 k1] 25 ∧ NewK Wd.heap.size p (tdk n) wz ∧ Wd.heap.size ≤ wz.heap.size) (fun iv _ => 3 - (intOf iv).toNat)
          case atStart => exact ⟨0, rfl, Nat.zero_le _, HB1.out, HX1.out, HK1.out, hs1⟩
          case round =>
            obtain ⟨n, rfl, hnl, hbz, hxz, hkz, hdz⟩ := hrel
            have HBZ := Lib.hid hbz
            have HXZ := Lib.hid hxz
            have HKZ := Lib.hid hkz
            have hpz := hkz.lt
            have hsz := hbz.size
            clear hbz hxz hkz
            by_cases hlt3 : n < 3
            · have hlt3i : (n : Int) < 3 := by omega
              have hn3 : n = 0 ∨ n = 1 ∨ n = 2 := by omega
              have hwn1 : IntKind.i64.wrap (4 * (n : Int)) = 4 * (n : Int) := wrap_id (by omega) (by omega)
              have hwn2 : IntKind.i64.wrap (1 + 4 * (n : Int)) = 1 + 4 * (n : Int) := wrap_id (by omega) (by omega)
              have he1 : (wrD (tdk n) 0 (1 + 4 * (n : Int)) [97, 98, 99, 100]).2 = 0 := by rcases hn3 with rfl | rfl | rfl <;> decide
              have he2 : (wrD (wrD (tdk n) 0 (1 + 4 * (n : Int)) [97, 98, 99, 100]).1 2 0 [122, 122]).2 = 0 := by rcases hn3 with rfl | rfl | rfl <;> decide
              have hmm := (tdk_max n).wr 0 (1 + 4 * (n : Int)) [97, 98, 99, 100]
              obtain ⟨v1, hcb, hbv, hrv, hov, _⟩ := lit_b wr [97, 98, 99, 100] #[.int .u8 97, .int .u8 98, .int .u8 99, .int .u8 100] 4 rfl rfl (by omega)
              have HW := Lib.hid (nWrite wr v1 Wd.heap.size p (2 * n) (tdk n) HKZ.out hbv hdz 0 (1 + 4 * (n : Int)) [97, 98, 99, 100] _ hrv (fun j hj => .inr (Nat.le_of_eq (hov j hj))) (tdk_max n) (by omega))
              rw [he1] at HW
              have HBV := Lib.hid (HBZ.out.trans (hbv.mono hsz))
              have HXV := Lib.hid (HXZ.out.later hbv)
              have hsv := hbv.size
              have hpv : p < v1.heap.size := by omega
              clear hbv hrv he1 hn3
              go_wp2_with fail
              refine Calls.mono HW.out ?_
              rintro e w2 ⟨rfl, hk2, hb2⟩
              have HB2 := Lib.hid (HBV.out.trans (hb2.mono (by omega)))
              have HX2 := Lib.hid (HXV.out.heap (hb2.block _ (by omega)))
              have hp2 := hk2.lt
              have hs2 := hb2.size
              obtain ⟨v2, hcb2, hbv2, hrv2, hov2, _⟩ := lit_b w2 [122, 122] #[.int .u8 122, .int .u8 122] 2 rfl rfl (by omega)
              have HW2 := Lib.hid (nWrite w2 v2 Wd.heap.size p (2 * n + 1) _ hk2 hbv2 (by omega) 2 0 [122, 122] _ hrv2 (fun j hj => .inr (Nat.le_of_eq (hov2 j hj))) hmm (by omega))
              rw [he2] at HW2
              have HBV2 := Lib.hid (HB2.out.trans (hbv2.mono (by omega)))
              have HXV2 := Lib.hid (HX2.out.later hbv2)
              have hsv2 := hbv2.size
              have hpv2 : p < v2.heap.size := by omega
              clear hb2 hk2 HW hcb hbv2 hrv2
              go_wp2_with fail
              refine Calls.mono (HN.out _ _) ?_
              rintro e w' ⟨rfl, he⟩
              have he := he.symm
              subst he
              go_wp2_with fail
              refine Calls.mono HW2.out ?_
              rintro e w3 ⟨rfl, hk3, hb3⟩
              have HB3 := Lib.hid (HBV2.out.trans (hb3.mono (by omega)))
              have HX3 := Lib.hid (HXV2.out.heap (hb3.block _ (by omega)))
              have HK3 := Lib.hid hk3
              have hs3 := hb3.size
              clear hb3 hk3 HW2 hcb2
              go_wp2_with fail
              refine Calls.mono (HN.out _ _) ?_
              rintro e w' ⟨rfl, he⟩
              have he := he.symm
              subst he
              go_wp2_with fail
              exact ⟨⟨n + 1, by go_num, by omega, HB3.out, HX3.out, HK3.out, by omega⟩, by simp [intOf]; omega⟩
            · obtain rfl : n = 3 := by omega
              have hwa1 : IntKind.i64.wrap (4 * (a : Int)) = 4 * (a : Int) := wrap_id (by omega) (by omega)
              have hwa2 : IntKind.i64.wrap (1 + 4 * (a : Int)) = 1 + 4 * (a : Int) := wrap_id (by omega) (by omega)
              have hwa3 : IntKind.i64.wrap (1 + 4 * (a : Int) + (c : Int)) = 1 + 4 * (a : Int) + (c : Int) := wrap_id (by omega) (by omega)
              have HNU := Lib.hid hnl
              by_cases ha : a = 3
              · have ha3 : ¬ ((a : Int) < 3) := by omega
                have hab : ((a : Int) == 3) = true := beq_iff_eq.2 (by omega)
                have hc5 : c = 0 ∨ c = 1 ∨ c = 2 ∨ c = 3 ∨ c = 4 := by omega
                obtain ⟨W2, hW2⟩ : ∃ W2, (wr.alloc (.cells #[.int .i64 a, .int .i64 c, .int .i64 9, .int .i64 1, .int .i64 0] 3)).alloc (.cells #[.int .i64 a, .int .i64 9, .int .i64 1, .int .i64 0] 3) = W2 := ⟨_, rfl⟩
                have hbW : Below wr.heap.size wr W2 := by rw [← hW2]; exact ((Below.refl _ wr).alloc (Nat.le_refl _) _).alloc (by simp) _
                have hpk : IA W2 (.slice (some ⟨wr.heap.size + 1, 0, none⟩) 4 4) [(a : Int), 9, 1, 0] := by
                  rw [← hW2]
                  have := ints_row (wr.alloc (.cells #[.int .i64 a, .int .i64 c, .int .i64 9, .int .i64 1, .int .i64 0] 3)) [(a : Int), 9, 1, 0] #[.int .i64 a, .int .i64 9, .int .i64 1, .int .i64 0] 4 rfl rfl (by omega)
                  rwa [show (wr.alloc (.cells #[.int .i64 a, .int .i64 c, .int .i64 9, .int .i64 1, .int .i64 0] 3)).heap.size = wr.heap.size + 1 by simp] at this
                obtain ⟨x0, hcr, hl0⟩ : ∃ x0, crashD (tdk 3) [(a : Int), 9, 1, 0] = [x0, [], [122, 122]] ∧ x0.length = 13 := by
                  subst ha
                  exact ⟨(crashD (tdk 3) [3, 9, 1, 0]).headD [], by decide, by decide⟩
                clear hc5
                have hl0i : (x0.length : Int) = 1 + 4 * (a : Int) := by omega
                clear ha
                have HI := Lib.hid hpk
                have hsW := hbW.size
                have HBW := Lib.hid (HBZ.out.trans (hbW.mono hsz))
                have HXW := Lib.hid (HXZ.out.later hbW)
                have HCR := Lib.hid (nCrash W2 Wd.heap.size p 6 (tdk 3) (HKZ.out.later hbW) (by omega) _ _ hpk (fun j hj => by
                  have e : wr.heap.size + 1 = j := by simpa [Value.ownBlock] using hj
                  omega) (tdk_max 3) (by decide))
                rw [hcr] at HCR
                have hpW : p < W2.heap.size := by omega
                clear hpk hbW HI HNU
                go_wp2_with fail
                refine Calls.mono HCR.out ?_
                rintro e w10 ⟨u, rfl, ⟨us, hoc⟩, -, hb10⟩
                have HB10 := Lib.hid (HBW.out.trans (hb10.mono (by omega)))
                have HX10 := Lib.hid (HXW.out.heap (hb10.block _ (by omega)))
                have hrc := hoc.rc
                obtain ⟨uA, uc, rfl⟩ := hoc.slice
                obtain ⟨b, o, y0, rfl, hbl, hc0, hr0⟩ := hrc.at (i := 0) (by simp)
                obtain ⟨b', o', y1, hA1, -, hc1, hr1⟩ := hrc.at (i := 1) (by simp)
                injection hA1 with hA1
                injection hA1 with e1 e2
                subst e1 e2
                obtain ⟨b', o', y2, hA2, -, hc2, hr2⟩ := hrc.at (i := 2) (by simp)
                injection hA2 with hA2
                injection hA2 with e1 e2
                subst e1 e2
                have hst2 := to_str w10 y2 [122, 122] hr2
                obtain ⟨Y0, yc0, rfl, _, _⟩ := hr0.slice
                obtain ⟨Y1, yc1, rfl, _, _⟩ := hr1.slice
                simp only [Nat.add_zero] at hc0
                clear hoc hrc hb10 HCR hr0 hr1 hr2 hW2
                go_wp2_with fail
                exact ⟨⟨c + 1, by go_num, by omega, HB10.out, HX10.out⟩, by simp [intOf]; omega⟩
              · have ha3 : (a : Int) < 3 := by omega
                have hab : ((a : Int) == 3) = false := beq_false_of_ne (by omega)
                obtain ⟨W2, hW2⟩ : ∃ W2, wr.alloc (.cells #[.int .i64 a, .int .i64 c, .int .i64 9, .int .i64 1, .int .i64 0] 3) = W2 := ⟨_, rfl⟩
                have hbW : Below wr.heap.size wr W2 := by rw [← hW2]; exact (Below.refl _ wr).alloc (Nat.le_refl _) _
                have hpk : IA W2 (.slice (some ⟨wr.heap.size, 0, none⟩) 5 5) [(a : Int), (c : Int), 9, 1, 0] := by
                  rw [← hW2]
                  exact ints_row wr [(a : Int), (c : Int), 9, 1, 0] #[.int .i64 a, .int .i64 c, .int .i64 9, .int .i64 1, .int .i64 0] 5 rfl rfl (by omega)
                obtain ⟨x0, hcr, hl0⟩ : ∃ x0, crashD (tdk 3) [(a : Int), (c : Int), 9, 1, 0] = [x0, [], [122, 122]] ∧ x0.length = 1 + 4 * a + c := by
                  refine ⟨(crashD (tdk 3) [(a : Int), (c : Int), 9, 1, 0]).headD [], ?_⟩
                  have hac : a = 0 ∨ a = 1 ∨ a = 2 := by omega
                  have hcc : c = 0 ∨ c = 1 ∨ c = 2 ∨ c = 3 ∨ c = 4 := by omega
                  rcases hac with rfl | rfl | rfl <;> rcases hcc with rfl | rfl | rfl | rfl | rfl <;> decide
                have hl0i : (x0.length : Int) = 1 + 4 * (a : Int) + (c : Int) := by omega
                have HI := Lib.hid hpk
                have hsW := hbW.size
                have HBW := Lib.hid (HBZ.out.trans (hbW.mono hsz))
                have HXW := Lib.hid (HXZ.out.later hbW)
                have HCR := Lib.hid (nCrash W2 Wd.heap.size p 6 (tdk 3) (HKZ.out.later hbW) (by omega) _ _ hpk (fun j hj => by
                  have e : wr.heap.size = j := by simpa [Value.ownBlock] using hj
                  omega) (tdk_max 3) (by decide))
                rw [hcr] at HCR
                have hpW : p < W2.heap.size := by omega
                clear hpk hbW HI HNU
                go_wp2_with fail
                refine Calls.mono HCR.out ?_
                rintro e w10 ⟨u, rfl, ⟨us, hoc⟩, -, hb10⟩
                have HB10 := Lib.hid (HBW.out.trans (hb10.mono (by omega)))
                have HX10 := Lib.hid (HXW.out.heap (hb10.block _ (by omega)))
                have hrc := hoc.rc
                obtain ⟨uA, uc, rfl⟩ := hoc.slice
                obtain ⟨b, o, y0, rfl, hbl, hc0, hr0⟩ := hrc.at (i := 0) (by simp)
                obtain ⟨b', o', y1, hA1, -, hc1, hr1⟩ := hrc.at (i := 1) (by simp)
                injection hA1 with hA1
                injection hA1 with e1 e2
                subst e1 e2
                obtain ⟨b', o', y2, hA2, -, hc2, hr2⟩ := hrc.at (i := 2) (by simp)
                injection hA2 with hA2
                injection hA2 with e1 e2
                subst e1 e2
                have hst2 := to_str w10 y2 [122, 122] hr2
                obtain ⟨Y0, yc0, rfl, _, _⟩ := hr0.slice
                obtain ⟨Y1, yc1, rfl, _, _⟩ := hr1.slice
                simp only [Nat.add_zero] at hc0
                clear hoc hrc hb10 HCR hr0 hr1 hr2 hW2
                go_wp2_with fail
                exact ⟨⟨c + 1, by go_num, by omega, HB10.out, HX10.out⟩, by simp [intOf]; omega⟩
        · obtain rfl : c = 5 := by omega
          go_wp2_with fail
          exact ⟨⟨a + 1, by go_num, by omega, HB.out, HXr.out⟩, by simp [intOf]; omega⟩
    · obtain rfl : a = 4 := by omega
      have c1 := HXr.out.c 1 (u := .slice A1 n1 k1) rfl
      clear hb
      go_wp2_with fail
      refine Calls.mono (HWK.out _) ?_
      rintro e w9 ⟨rfl, hb9⟩
      have HB9 := Lib.hid (HB.out.trans (hb9.mono hsr))
      clear hb9
      go_wp2_with fail
      go_ret
      exact ⟨rfl, HB9.out⟩
end Go.Proofs.Ytahmihdahgbhkaa

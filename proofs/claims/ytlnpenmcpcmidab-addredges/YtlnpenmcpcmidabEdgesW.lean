/-
  The law AddrEdges, walked: it answers true and turns nothing that was there.
  Conditions: as the theorem states them.
-/
import Derived.Test.YtlnpenmcpcmidabQ
import Derived.Deep.CutRange
import Derived.Deep.DeepCutAuto
namespace Go.Proofs.Ytlnpenmcpcmidab
open Go.RowKit

/-- So many of one byte. -/
def repB (c : UInt8) (n : Nat) : List UInt8 := List.replicate n c
theorem rep_len (c : UInt8) (n : Nat) : (repB c n).length = n := by simp [repB]
theorem rep_succ (c : UInt8) (n : Nat) : repB c (n + 1) = repB c n ++ [c] := by
  simp [repB, List.replicate_succ']

/-- A long host name, byte by byte. -/
def longN : Nat → List UInt8
  | 0 => [97]
  | n + 1 => longN n ++ [if (n + 1) % 10 = 5 ∧ n + 1 < 253 then 46 else 97]
theorem long_len (n : Nat) : (longN n).length = n + 1 := by
  induction n with
  | zero => rfl
  | succ n ih => simp [longN, ih]
theorem long_dot {n : Nat} (h : (n + 1) % 10 = 5 ∧ n + 1 < 253) : longN (n + 1) = longN n ++ [46] := by rw [longN, if_pos h]
theorem long_let {n : Nat} (h : ¬ ((n + 1) % 10 = 5 ∧ n + 1 < 253)) : longN (n + 1) = longN n ++ [97] := by rw [longN, if_neg h]

theorem edge_a0 : chk (boxL [120] (repB 97 63)) = 0 := by decide +kernel
theorem edge_a1 : chk (boxL [120] (repB 97 64)) = 1 := by decide +kernel
theorem edge_b0 : chk (boxL (repB 98 64) [120]) = 0 := by decide +kernel
theorem edge_b1 : chk (boxL (repB 98 65) [120]) = 1 := by decide +kernel
theorem edge_c0 : chk (boxL [120] (longN 254)) = 0 := by decide +kernel
theorem edge_c1 : chk (boxL [120] (longN 255)) = 1 := by decide +kernel

theorem add_one (a : List UInt8) (c : UInt8) (w : World) (h : a.length ≤ 1000) : (Op.stringOp .add ⟨a.toArray⟩ ⟨#[c]⟩).run Try.prog w = .ok (.string ⟨(a ++ [c]).toArray⟩) w :=
  run_string_add_lists (P := Try.prog) w a [c] (by omega) (by simp)

set_option maxHeartbeats 1000000 in
theorem within_any (w : World) : Calls Try.prog 6 #[.int .i64 5, .int .i64 3] w fun e w' => e = .returned (.int .i64 2) ∧ w = w' := by
  go_enter Try.func6, Try.ntmps6
  go_wp2_with fail
  go_ret
  exact ⟨rfl, rfl⟩

theorem mk0 (w : World) : (Instr.makeSlice 24 (.int .i64 0) (.int .i64 0)).run Try.prog w = .ok (.slice (some ⟨w.heap.size, 0, none⟩) 0 0) (w.alloc (.cells #[] 5)) := by kernel_rfl
theorem cv0 (a : Addr) (w : World) : (convert 24 9 (.slice (some a) 0 0)).run Try.prog w = .ok (.string ⟨#[]⟩) w :=
  run_convert_bytes_back (P := Try.prog) w 24 9 5 a 0 [] Try.underlying24 Try.underlying5 Try.underlying9 (fun _ hj => absurd hj (Nat.not_lt_zero _))

theorem upB' {a b c : World} (h : Below a.heap.size a b) (k : Below b.heap.size b c) : Below a.heap.size a c := h.trans (k.mono h.size)

/-- What the law asks in round k. -/
structure Edge (k : Nat) (want : Int) : Prop where
  a : chk (boxL [120] (repB 97 (63 + k))) = want
  b : chk (boxL (repB 98 (64 + k)) [120]) = want
  c : chk (boxL [120] (longN (254 + k))) = want
theorem edge0 : Edge 0 0 := ⟨edge_a0, edge_b0, edge_c0⟩
theorem edge1 : Edge 1 1 := ⟨edge_a1, edge_b1, edge_c1⟩

set_option maxHeartbeats 2000000 in
set_option maxRecDepth 100000 in
theorem edges_any (n0 : Nat) (A0 : Option Addr) (k0 : Nat) (w : World) (hn0 : n0 ≤ maxLen) :
    Calls Try.prog 3 #[.slice A0 n0 k0] w fun e w' => e = .returned (.bool true) ∧ Below w.heap.size w w' := by
  unfold maxLen at hn0
  have hn0i : (0 : Int) ≤ (n0 : Int) := by omega
  go_enter Try.func3, Try.ntmps3
  go_wp2_with fail
  go_loopw [3] (fun iv wr => ∃ k : Nat, k ≤ 2 ∧ iv = .int .i64 k ∧ Below w.heap.size w wr) (fun iv _ => 2 - (intOf iv).toNat)
  case atStart => exact ⟨0, Nat.zero_le _, rfl, Below.refl _ _⟩
  case round =>
    obtain ⟨k, hk, rfl, hB⟩ := hrel
    have HB := Lib.hid hB
    have hsz := hB.size
    clear hB
    by_cases hlt : k < 2
    · have hki : (k : Int) < 2 := by omega
      have hk0 : (0 : Int) ≤ (k : Int) := by omega
      generalize wr = wo at *
      go_upto_region 4 with (fail)
      go_cut [4] (fun wv wc => ∃ want, wv = .int .i64 want ∧ Edge k want ∧ Below w.heap.size w wc)
      case first =>
        obtain rfl | rfl : k = 0 ∨ k = 1 := by omega
        · go_wp2_with fail
          go_meet
          case rel => exact ⟨0, rfl, edge0, HB.out.alloc hsz _⟩
        · go_wp2_with fail
          go_meet
          case rel => exact ⟨1, rfl, edge1, HB.out.alloc hsz _⟩
      case rest =>
        obtain ⟨want, rfl, hE, hBc⟩ := hcut
        have HE := Lib.hid hE
        have HBc := Lib.hid hBc
        have hsc := hBc.size
        clear hE hBc
        generalize wc = wd at *
        have hmk := mk0 wd
        have hcv := cv0 ⟨wd.heap.size, 0, none⟩ (wd.alloc (.cells #[] 5))
        have HB1 := Lib.hid (HBc.out.alloc hsc (.cells #[] 5))
        go_wp2_with fail
        generalize hW : wd.alloc (.cells #[] 5) = W1 at *
        clear hmk hcv hW HBc HB
        go_loop [5] (fun sv => ∃ j : Nat, j ≤ 63 + k ∧ sv = .string ⟨(repB 97 j).toArray⟩) (fun sv => match sv with | .string b => 63 + k - b.size | _ => 0)
        case atStart => exact ⟨0, Nat.zero_le _, rfl⟩
        case round =>
          obtain ⟨j, hj, rfl⟩ := hrel
          have hl := rep_len 97 j
          have HL := Lib.hid hl
          have hji : ((repB 97 j).length : Int) = (j : Int) := by omega
          by_cases hlt2 : j < 63 + k
          · have hli : ((repB 97 j).length : Int) < 63 + (k : Int) := by omega
            have hadd := fun w => add_one (repB 97 j) 97 w (by omega)
            rw [← rep_succ] at hadd
            clear hl hji
            go_wp2_with fail
            refine ⟨⟨j + 1, hlt2, rfl⟩, ?_⟩
            show 63 + k - (repB 97 (j + 1)).length < 63 + k - (repB 97 j).length
            rw [rep_len, rep_len]
            omega
          · obtain rfl : j = 63 + k := by omega
            have hli : ¬ (((repB 97 (63 + k)).length : Int) < 63 + (k : Int)) := by omega
            clear hl hji
            have HA := Lib.hid HE.out.a
            have HLA := Lib.hid HL.out
            generalize repB 97 (63 + k) = la at *
            go_wp2_with fail
            go_loop [6] (fun sv => ∃ j : Nat, j ≤ 64 + k ∧ sv = .string ⟨(repB 98 j).toArray⟩) (fun sv => match sv with | .string b => 64 + k - b.size | _ => 0)
            case atStart => exact ⟨0, Nat.zero_le _, rfl⟩
            case round =>
              obtain ⟨j, hj, rfl⟩ := hrel
              have hl := rep_len 98 j
              have HL2 := Lib.hid hl
              have hji : ((repB 98 j).length : Int) = (j : Int) := by omega
              by_cases hlt3 : j < 64 + k
              · have hli3 : ((repB 98 j).length : Int) < 64 + (k : Int) := by omega
                have hadd := fun w => add_one (repB 98 j) 98 w (by omega)
                rw [← rep_succ] at hadd
                clear hl hji
                go_wp2_with fail
                refine ⟨⟨j + 1, hlt3, rfl⟩, ?_⟩
                show 64 + k - (repB 98 (j + 1)).length < 64 + k - (repB 98 j).length
                rw [rep_len, rep_len]
                omega
              · obtain rfl : j = 64 + k := by omega
                have hli3 : ¬ (((repB 98 (64 + k)).length : Int) < 64 + (k : Int)) := by omega
                clear hl hji
                have HBB := Lib.hid HE.out.b
                have HLB := Lib.hid HL2.out
                generalize repB 98 (64 + k) = lb at *
                go_wp2_with fail
                go_loop [7] (fun sv => ∃ j : Nat, j ≤ 254 + k ∧ sv = .string ⟨(longN j).toArray⟩) (fun sv => match sv with | .string b => 255 + k - b.size | _ => 0)
                case atStart => exact ⟨0, Nat.zero_le _, rfl⟩
                case round =>
                  obtain ⟨j, hj, rfl⟩ := hrel
                  have hl := long_len j
                  have HL3 := Lib.hid hl
                  have hji : ((longN j).length : Int) = (j : Int) + 1 := by omega
                  by_cases hlt4 : j < 254 + k
                  · have hli4 : ((longN j).length : Int) < 255 + (k : Int) := by omega
                    have hl0 : (0 : Int) ≤ ((longN j).length : Int) := by omega
                    have hmeas : 255 + k - (longN (j + 1)).length < 255 + k - (longN j).length := by rw [long_len, long_len]; omega
                    have HME := Lib.hid hmeas
                    clear hmeas
                    by_cases hd : (j + 1) % 10 = 5 ∧ j + 1 < 253
                    · have hm : (((longN j).length : Int) % 10 == 5) = true := beq_iff_eq.2 (by omega)
                      have hm2 : ((longN j).length : Int) < 253 := by omega
                      have hadd := fun w => add_one (longN j) 46 w (by omega)
                      rw [← long_dot hd] at hadd
                      clear hl hji hd
                      go_wp2_with fail
                      exact ⟨⟨j + 1, hlt4, rfl⟩, HME.out⟩
                    · have hadd := fun w => add_one (longN j) 97 w (by omega)
                      rw [← long_let hd] at hadd
                      by_cases hm5 : (j + 1) % 10 = 5
                      · have hm : (((longN j).length : Int) % 10 == 5) = true := beq_iff_eq.2 (by omega)
                        have hm2 : ¬ (((longN j).length : Int) < 253) := by omega
                        clear hl hji hd hm5
                        go_wp2_with fail
                        exact ⟨⟨j + 1, hlt4, rfl⟩, HME.out⟩
                      · have hm : (((longN j).length : Int) % 10 == 5) = false := beq_eq_false_iff_ne.2 (by omega)
                        clear hl hji hd hm5
                        go_wp2_with fail
                        exact ⟨⟨j + 1, hlt4, rfl⟩, HME.out⟩
                  · obtain rfl : j = 254 + k := by omega
                    have hli4 : ¬ (((longN (254 + k)).length : Int) < 255 + (k : Int)) := by omega
                    clear hl hji
                    have HCC := Lib.hid HE.out.c
                    have HLC := Lib.hid HL3.out
                    generalize longN (254 + k) = lc at *
                    have HK1 := Lib.hid (fun W => check_any [120] la W (by decide) (by rw [HLA.out]; omega))
                    rw [HA.out] at HK1
                    have HK2 := Lib.hid (fun W => check_any lb [120] W (by rw [HLB.out]; omega) (by decide))
                    rw [HBB.out] at HK2
                    have HK3 := Lib.hid (fun W => check_any [120] lc W (by decide) (by rw [HLC.out]; omega))
                    rw [HCC.out] at HK3
                    have hww : (want != want) = false := by simp
                    clear HA HBB HCC HE
                    go_wp2_with fail
                    refine Calls.mono (HK1.out _) ?_
                    rintro e w2 ⟨rfl, hb2⟩
                    have HB2 := Lib.hid (HB1.out.trans (hb2.mono HB1.out.size))
                    clear hb2
                    go_wp2_with fail
                    refine (num_any _ _).mono ?_
                    rintro e w3 ⟨rfl, rfl⟩
                    go_wp2_with fail
                    refine Calls.mono (HK2.out _) ?_
                    rintro e w3 ⟨rfl, hb3⟩
                    have HB3 := Lib.hid (HB2.out.trans (hb3.mono HB2.out.size))
                    clear hb3
                    go_wp2_with fail
                    refine (num_any _ _).mono ?_
                    rintro e w4 ⟨rfl, rfl⟩
                    go_wp2_with fail
                    refine Calls.mono (HK3.out _) ?_
                    rintro e w4 ⟨rfl, hb4⟩
                    have HB4 := Lib.hid (HB3.out.trans (hb4.mono HB3.out.size))
                    clear hb4
                    go_wp2_with fail
                    refine (num_any _ _).mono ?_
                    rintro e w5 ⟨rfl, rfl⟩
                    go_wp2_with fail
                    exact ⟨⟨k + 1, hlt, by go_num, HB4.out⟩, by simp [intOf]; omega⟩
    · have hki : ¬ ((k : Int) < 2) := by omega
      go_wp2_with fail
      refine (within_any _).mono ?_
      rintro e w2 ⟨rfl, rfl⟩
      go_wp2_with fail
      refine (wakes_any _).mono ?_
      rintro e w3 ⟨rfl, hb3⟩
      have HB3 := Lib.hid (upB' HB.out hb3)
      clear hb3
      go_wp2_with fail
      go_ret
      exact ⟨rfl, HB3.out⟩
end Go.Proofs.Ytlnpenmcpcmidab

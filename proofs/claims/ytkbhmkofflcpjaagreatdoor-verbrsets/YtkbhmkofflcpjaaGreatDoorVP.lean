/-
  readCommand of package verb, walked: the kinds of command other than the greetings; all of them together.
  Conditions: as each theorem states them.
-/
import Derived.Test.YtkbhmkofflcpjaaGreatDoorVM
namespace Go.Proofs.YtkbhmkofflcpjaaGreatDoor
open Go.RowKit

set_option maxHeartbeats 2000000 in
theorem cmd_vrfy (s : List UInt8) (w : World) (hs : s.length ≤ 9000) (hg : Gl w) (hr : restOk s = true) (h : kindL s = 9) :
    Calls Tryz.prog 36 #[.string ⟨s.toArray⟩] w fun e w' => e = cmdE s ∧ Below w.heap.size w w' := by
  have hg0 := hg.alloc (.cells #[.int .i64 0, .string ⟨#[]⟩, .bool false, .string ⟨#[]⟩, .string ⟨#[]⟩, .int .i64 0] 27)
  have HN := Lib.hid (vreadName_any s (w.alloc (.cells #[.int .i64 0, .string ⟨#[]⟩, .bool false, .string ⟨#[]⟩, .string ⟨#[]⟩, .int .i64 0] 27)) (by omega) hg0)
  have HE := Lib.hid (read_vrfy (by omega) hr h)
  have hrl : (s.drop 4).length ≤ 9000 := by simp; omega
  have HD := Lib.hid (fun w1 hb => begun w w1 9 hg hb)
  rw [show nameE s = .returned (.tuple #[.int .i64 9, .string ⟨(s.drop 4).toArray⟩]) by unfold nameE; rw [if_neg (by rw [hr, h]; simp), h]] at HN
  clear h hg hr
  generalize s.drop 4 = R at *
  clear hg0
  have HP := Lib.hid (fun W (hW : Gl W) => readPast_any R [32] W (by omega) goodBlank hW)
  cases hp : pastL R [32] with
  | none =>
    rw [hp] at HP HE
    have HP2 := Lib.hid (fun W hW => callsBad (HP.out W hW) rfl)
    clear HP hp
    go_enter Tryz.func36, Tryz.ntmps36
    go_wp2_with fail
    refine Calls.mono (show _ from HN.out) ?_
    rintro e w1 ⟨rfl, hb⟩
    have HW := Lib.hid (HD.out w1 hb)
    clear hb
    go_wp2_with fail
    refine Calls.mono (show _ from HP2.out _ HW.out.g) ?_
    rintro e w2 ⟨rfl, hb⟩
    exact ⟨rfl, wrong8 HE.out rfl, (HW.out.later hb).b⟩
  | some r =>
    have hl : r.length ≤ 9000 := Nat.le_trans (past_len hp) hrl
    rw [hp] at HP HE
    have HP2 := Lib.hid (fun W hW => callsGood (HP.out W hW) (show _ = some (.string ⟨r.toArray⟩) from rfl))
    have HQ := Lib.hid (fun W (hW : Gl W) => vreadWords_any r W (by omega) hW)
    clear HP hp
    cases hd : wordsO r with
    | none =>
      rw [Option.bind_some, hd] at HE
      rw [hd] at HQ
      have HQ2 := Lib.hid (fun W hW => callsBad (HQ.out W hW) rfl)
      clear HQ hd
      go_enter Tryz.func36, Tryz.ntmps36
      go_wp2_with fail
      refine Calls.mono (show _ from HN.out) ?_
      rintro e w1 ⟨rfl, hb⟩
      have HW := Lib.hid (HD.out w1 hb)
      clear hb
      go_wp2_with fail
      refine Calls.mono (show _ from HP2.out _ HW.out.g) ?_
      rintro e w2 ⟨rfl, hb⟩
      have HW2 := Lib.hid (HW.out.later hb)
      clear hb
      go_wp2_with fail
      refine Calls.mono (HQ2.out _ HW2.out.g) ?_
      rintro e w3 ⟨rfl, hb⟩
      exact ⟨rfl, wrong8 HE.out rfl, (HW2.out.later hb).b⟩
    | some x =>
      rw [Option.bind_some, hd] at HE
      rw [hd] at HQ
      have HQ2 := Lib.hid (fun W hW => callsGood (HQ.out W hW) (show _ = some (.string ⟨x.toArray⟩) from rfl))
      clear HQ hd
      go_enter Tryz.func36, Tryz.ntmps36
      go_wp2_with fail
      refine Calls.mono (show _ from HN.out) ?_
      rintro e w1 ⟨rfl, hb⟩
      have HW := Lib.hid (HD.out w1 hb)
      clear hb
      go_wp2_with fail
      refine Calls.mono (show _ from HP2.out _ HW.out.g) ?_
      rintro e w2 ⟨rfl, hb⟩
      have HW2 := Lib.hid (HW.out.later hb)
      clear hb
      go_wp2_with fail
      refine Calls.mono (HQ2.out _ HW2.out.g) ?_
      rintro e w3 ⟨rfl, hb⟩
      have hW3 := HW2.out.later hb
      have hlt := hW3.lt
      have hvl := hW3.v.lt
      have u1 := hW3.v.c1
      have t1 := hW3.v.fz 1
      have HVX := Lib.hid (hW3.v.set1 x)
      have HZX := Lib.hid (hW3.z.other (p := ⟨w1.heap.size, 1, none⟩) (Nat.ne_of_lt hlt) (.string ⟨x.toArray⟩))
      have HBX := Lib.hid (hW3.b.setCell (p := ⟨w1.heap.size, 1, none⟩) (Nat.le_of_lt hlt) (.string ⟨x.toArray⟩))
      clear hb hW3
      have v0 := HVX.out.c0
      have v1 := HVX.out.c1
      have v2 := HVX.out.c2
      have v3 := HVX.out.c3
      have v4 := HVX.out.c4
      have v5 := HVX.out.c5
      have z0 := HZX.out.c0
      have y0 := HZX.out.fz 0
      have z1 := HZX.out.c1
      have y1 := HZX.out.fz 1
      have z2 := HZX.out.c2
      have y2 := HZX.out.fz 2
      have z3 := HZX.out.c3
      have y3 := HZX.out.fz 3
      have z4 := HZX.out.c4
      have y4 := HZX.out.fz 4
      have z5 := HZX.out.c5
      have y5 := HZX.out.fz 5
      go_wp2_with fail
      have hk := HZX.out.set6 ⟨9, x, false, [], [], 0⟩
      have k0 := hk.c0
      have k1 := hk.c1
      have k2 := hk.c2
      have k3 := hk.c3
      have k4 := hk.c4
      have k5 := hk.c5
      simp only [Go.Proofs.YtkbhmkofflcpjaaGreatDoor.set6] at k0 k1 k2 k3 k4 k5
      refine bodyPost_ret (v := vbV ⟨9, x, false, [], [], 0⟩) (by simp [results, Tryz.results36, go_sem, k0, k1, k2, k3, k4, k5, vbV, vbCells]) rfl ⟨right8 HE.out rfl, below_set6 HBX.out (Nat.le_refl _) ⟨9, x, false, [], [], 0⟩⟩

set_option maxHeartbeats 2000000 in
theorem cmd_noop (s : List UInt8) (w : World) (hs : s.length ≤ 9000) (hg : Gl w) (hr : restOk s = true) (h : kindL s = 7) :
    Calls Tryz.prog 36 #[.string ⟨s.toArray⟩] w fun e w' => e = cmdE s ∧ Below w.heap.size w w' := by
  have hg0 := hg.alloc (.cells #[.int .i64 0, .string ⟨#[]⟩, .bool false, .string ⟨#[]⟩, .string ⟨#[]⟩, .int .i64 0] 27)
  have HN := Lib.hid (vreadName_any s (w.alloc (.cells #[.int .i64 0, .string ⟨#[]⟩, .bool false, .string ⟨#[]⟩, .string ⟨#[]⟩, .int .i64 0] 27)) (by omega) hg0)
  have HE := Lib.hid (read_noop (by omega) hr h)
  have hrl : (s.drop 4).length ≤ 9000 := by simp; omega
  have HD := Lib.hid (fun w1 hb => begun w w1 7 hg hb)
  have HZ0 := Lib.hid (VAt.new w zeroV)
  have h0 := (Below.refl _ w).alloc (Nat.le_refl _) (.cells #[.int .i64 0, .string ⟨#[]⟩, .bool false, .string ⟨#[]⟩, .string ⟨#[]⟩, .int .i64 0] 27)
  have HA0 := Lib.hid h0
  clear h0
  rw [show nameE s = .returned (.tuple #[.int .i64 7, .string ⟨(s.drop 4).toArray⟩]) by unfold nameE; rw [if_neg (by rw [hr, h]; simp), h]] at HN
  clear h hg hr
  generalize s.drop 4 = R at *
  clear hg0
  by_cases hR : R = []
  · subst hR
    rw [if_pos rfl] at HE
    go_enter Tryz.func36, Tryz.ntmps36
    go_wp2_with fail
    refine Calls.mono (show _ from HN.out) ?_
    rintro e w1 ⟨rfl, hb⟩
    have hz := VAt.later HZ0.out hb
    have HZX := Lib.hid hz
    have HBX := Lib.hid (HA0.out.trans (hb.mono HA0.out.size))
    have HVX := Lib.hid (VAt.new w1 ⟨7, [], false, [], [], 0⟩)
    have hlt := hz.lt
    clear hb hz
    have v0 := HVX.out.c0
    have v1 := HVX.out.c1
    have v2 := HVX.out.c2
    have v3 := HVX.out.c3
    have v4 := HVX.out.c4
    have v5 := HVX.out.c5
    have z0 := HZX.out.c0
    have y0 := HZX.out.fz 0
    have z1 := HZX.out.c1
    have y1 := HZX.out.fz 1
    have z2 := HZX.out.c2
    have y2 := HZX.out.fz 2
    have z3 := HZX.out.c3
    have y3 := HZX.out.fz 3
    have z4 := HZX.out.c4
    have y4 := HZX.out.fz 4
    have z5 := HZX.out.c5
    have y5 := HZX.out.fz 5
    go_wp2_with fail
    have hk := (HZX.out.set6 ⟨7, [], false, [], [], 0⟩).alloc (.cells #[.int .i64 7, .string ⟨#[]⟩, .bool false, .string ⟨#[]⟩, .string ⟨#[]⟩, .int .i64 0] 27)
    have k0 := hk.c0
    have k1 := hk.c1
    have k2 := hk.c2
    have k3 := hk.c3
    have k4 := hk.c4
    have k5 := hk.c5
    simp only [Go.Proofs.YtkbhmkofflcpjaaGreatDoor.set6] at k0 k1 k2 k3 k4 k5
    have hb6 := below_set6 HBX.out (Nat.le_refl _) ⟨7, [], false, [], [], 0⟩
    refine bodyPost_ret (v := vbV ⟨7, [], false, [], [], 0⟩) (by simp [results, Tryz.results36, go_sem, k0, k1, k2, k3, k4, k5, vbV, vbCells]) rfl ⟨right8 HE.out rfl, hb6.alloc hb6.size _⟩
  · rw [if_neg hR] at HE
    have hne := ne_empty hR
    have hn2 : (R == []) = false := by
      rw [beq_eq_false_iff_ne]
      exact hR
    clear hR HZ0 HA0
    have HP := Lib.hid (fun W (hW : Gl W) => readPast_any R [32] W (by omega) goodBlank hW)
    cases hp : pastL R [32] with
    | none =>
      rw [hp] at HP HE
      have HP2 := Lib.hid (fun W hW => callsBad (HP.out W hW) rfl)
      clear HP hp
      go_enter Tryz.func36, Tryz.ntmps36
      go_wp2_with fail
      refine Calls.mono (show _ from HN.out) ?_
      rintro e w1 ⟨rfl, hb⟩
      have HW := Lib.hid (HD.out w1 hb)
      clear hb
      go_wp2_with fail
      refine Calls.mono (show _ from HP2.out _ HW.out.g) ?_
      rintro e w2 ⟨rfl, hb⟩
      exact ⟨rfl, wrong8 HE.out rfl, (HW.out.later hb).b⟩
    | some r =>
      have hl : r.length ≤ 9000 := Nat.le_trans (past_len hp) hrl
      rw [hp] at HP HE
      have HP2 := Lib.hid (fun W hW => callsGood (HP.out W hW) (show _ = some (.string ⟨r.toArray⟩) from rfl))
      have HQ := Lib.hid (fun W (hW : Gl W) => vreadWords_any r W (by omega) hW)
      clear HP hp
      cases hd : wordsO r with
      | none =>
        rw [Option.bind_some, hd] at HE
        rw [hd] at HQ
        have HQ2 := Lib.hid (fun W hW => callsBad (HQ.out W hW) rfl)
        clear HQ hd
        go_enter Tryz.func36, Tryz.ntmps36
        go_wp2_with fail
        refine Calls.mono (show _ from HN.out) ?_
        rintro e w1 ⟨rfl, hb⟩
        have HW := Lib.hid (HD.out w1 hb)
        clear hb
        go_wp2_with fail
        refine Calls.mono (show _ from HP2.out _ HW.out.g) ?_
        rintro e w2 ⟨rfl, hb⟩
        have HW2 := Lib.hid (HW.out.later hb)
        clear hb
        go_wp2_with fail
        refine Calls.mono (HQ2.out _ HW2.out.g) ?_
        rintro e w3 ⟨rfl, hb⟩
        exact ⟨rfl, wrong8 HE.out rfl, (HW2.out.later hb).b⟩
      | some x =>
        rw [Option.bind_some, hd] at HE
        rw [hd] at HQ
        have HQ2 := Lib.hid (fun W hW => callsGood (HQ.out W hW) (show _ = some (.string ⟨x.toArray⟩) from rfl))
        clear HQ hd
        go_enter Tryz.func36, Tryz.ntmps36
        go_wp2_with fail
        refine Calls.mono (show _ from HN.out) ?_
        rintro e w1 ⟨rfl, hb⟩
        have HW := Lib.hid (HD.out w1 hb)
        clear hb
        go_wp2_with fail
        refine Calls.mono (show _ from HP2.out _ HW.out.g) ?_
        rintro e w2 ⟨rfl, hb⟩
        have HW2 := Lib.hid (HW.out.later hb)
        clear hb
        go_wp2_with fail
        refine Calls.mono (HQ2.out _ HW2.out.g) ?_
        rintro e w3 ⟨rfl, hb⟩
        have hW3 := HW2.out.later hb
        have hlt := hW3.lt
        have hvl := hW3.v.lt
        have u1 := hW3.v.c1
        have t1 := hW3.v.fz 1
        have HVX := Lib.hid (hW3.v.set1 x)
        have HZX := Lib.hid (hW3.z.other (p := ⟨w1.heap.size, 1, none⟩) (Nat.ne_of_lt hlt) (.string ⟨x.toArray⟩))
        have HBX := Lib.hid (hW3.b.setCell (p := ⟨w1.heap.size, 1, none⟩) (Nat.le_of_lt hlt) (.string ⟨x.toArray⟩))
        clear hb hW3
        have v0 := HVX.out.c0
        have v1 := HVX.out.c1
        have v2 := HVX.out.c2
        have v3 := HVX.out.c3
        have v4 := HVX.out.c4
        have v5 := HVX.out.c5
        have z0 := HZX.out.c0
        have y0 := HZX.out.fz 0
        have z1 := HZX.out.c1
        have y1 := HZX.out.fz 1
        have z2 := HZX.out.c2
        have y2 := HZX.out.fz 2
        have z3 := HZX.out.c3
        have y3 := HZX.out.fz 3
        have z4 := HZX.out.c4
        have y4 := HZX.out.fz 4
        have z5 := HZX.out.c5
        have y5 := HZX.out.fz 5
        go_wp2_with fail
        have hk := HZX.out.set6 ⟨7, x, false, [], [], 0⟩
        have k0 := hk.c0
        have k1 := hk.c1
        have k2 := hk.c2
        have k3 := hk.c3
        have k4 := hk.c4
        have k5 := hk.c5
        simp only [Go.Proofs.YtkbhmkofflcpjaaGreatDoor.set6] at k0 k1 k2 k3 k4 k5
        refine bodyPost_ret (v := vbV ⟨7, x, false, [], [], 0⟩) (by simp [results, Tryz.results36, go_sem, k0, k1, k2, k3, k4, k5, vbV, vbCells]) rfl ⟨right8 HE.out rfl, below_set6 HBX.out (Nat.le_refl _) ⟨7, x, false, [], [], 0⟩⟩

set_option maxHeartbeats 2000000 in
theorem cmd_bare5 (s : List UInt8) (w : World) (hs : s.length ≤ 9000) (hg : Gl w) (hr : restOk s = true) (h : kindL s = 5) :
    Calls Tryz.prog 36 #[.string ⟨s.toArray⟩] w fun e w' => e = cmdE s ∧ Below w.heap.size w w' := by
  have hg0 := hg.alloc (.cells #[.int .i64 0, .string ⟨#[]⟩, .bool false, .string ⟨#[]⟩, .string ⟨#[]⟩, .int .i64 0] 27)
  have HN := Lib.hid (vreadName_any s (w.alloc (.cells #[.int .i64 0, .string ⟨#[]⟩, .bool false, .string ⟨#[]⟩, .string ⟨#[]⟩, .int .i64 0] 27)) (by omega) hg0)
  have HE := Lib.hid (read_bare (by omega) hr (show kindL s = 5 ∨ kindL s = 6 ∨ kindL s = 8 by omega))
  rw [h] at HE
  have HD := Lib.hid (fun w1 hb => begun w w1 5 hg hb)
  rw [show nameE s = .returned (.tuple #[.int .i64 5, .string ⟨(s.drop 4).toArray⟩]) by unfold nameE; rw [if_neg (by rw [hr, h]; simp), h]] at HN
  clear h hg hr
  generalize s.drop 4 = R at *
  clear hg0
  have HP := Lib.hid (fun W => vreadEnd_below R W)
  by_cases hR : R = []
  · rw [show endL R = some (.tuple #[]) from if_pos hR] at HP HE
    have HP2 := Lib.hid (fun W => callsGood (HP.out W) (show _ = some (.tuple #[]) from rfl))
    clear HP hR
    go_enter Tryz.func36, Tryz.ntmps36
    go_wp2_with fail
    refine Calls.mono (show _ from HN.out) ?_
    rintro e w1 ⟨rfl, hb⟩
    have HW := Lib.hid (HD.out w1 hb)
    clear hb
    go_wp2_with fail
    refine Calls.mono (show _ from HP2.out _) ?_
    rintro e w2 ⟨rfl, hb⟩
    have hW3 := HW.out.later hb
    have hlt := hW3.lt
    have HVX := Lib.hid hW3.v
    have HZX := Lib.hid hW3.z
    have HBX := Lib.hid hW3.b
    clear hb hW3
    have v0 := HVX.out.c0
    have v1 := HVX.out.c1
    have v2 := HVX.out.c2
    have v3 := HVX.out.c3
    have v4 := HVX.out.c4
    have v5 := HVX.out.c5
    have z0 := HZX.out.c0
    have y0 := HZX.out.fz 0
    have z1 := HZX.out.c1
    have y1 := HZX.out.fz 1
    have z2 := HZX.out.c2
    have y2 := HZX.out.fz 2
    have z3 := HZX.out.c3
    have y3 := HZX.out.fz 3
    have z4 := HZX.out.c4
    have y4 := HZX.out.fz 4
    have z5 := HZX.out.c5
    have y5 := HZX.out.fz 5
    go_wp2_with fail
    have hk := HZX.out.set6 ⟨5, [], false, [], [], 0⟩
    have k0 := hk.c0
    have k1 := hk.c1
    have k2 := hk.c2
    have k3 := hk.c3
    have k4 := hk.c4
    have k5 := hk.c5
    simp only [Go.Proofs.YtkbhmkofflcpjaaGreatDoor.set6] at k0 k1 k2 k3 k4 k5
    refine bodyPost_ret (v := vbV ⟨5, [], false, [], [], 0⟩) (by simp [results, Tryz.results36, go_sem, k0, k1, k2, k3, k4, k5, vbV, vbCells]) rfl ⟨right8 HE.out rfl, below_set6 HBX.out (Nat.le_refl _) ⟨5, [], false, [], [], 0⟩⟩
  · rw [show endL R = none from if_neg hR] at HP HE
    have HP2 := Lib.hid (fun W => callsBad (HP.out W) rfl)
    clear HP hR
    go_enter Tryz.func36, Tryz.ntmps36
    go_wp2_with fail
    refine Calls.mono (show _ from HN.out) ?_
    rintro e w1 ⟨rfl, hb⟩
    have HW := Lib.hid (HD.out w1 hb)
    clear hb
    go_wp2_with fail
    refine Calls.mono (show _ from HP2.out _) ?_
    rintro e w2 ⟨rfl, hb⟩
    exact ⟨rfl, wrong8 HE.out rfl, (HW.out.later hb).b⟩

set_option maxHeartbeats 2000000 in
theorem cmd_bare6 (s : List UInt8) (w : World) (hs : s.length ≤ 9000) (hg : Gl w) (hr : restOk s = true) (h : kindL s = 6) :
    Calls Tryz.prog 36 #[.string ⟨s.toArray⟩] w fun e w' => e = cmdE s ∧ Below w.heap.size w w' := by
  have hg0 := hg.alloc (.cells #[.int .i64 0, .string ⟨#[]⟩, .bool false, .string ⟨#[]⟩, .string ⟨#[]⟩, .int .i64 0] 27)
  have HN := Lib.hid (vreadName_any s (w.alloc (.cells #[.int .i64 0, .string ⟨#[]⟩, .bool false, .string ⟨#[]⟩, .string ⟨#[]⟩, .int .i64 0] 27)) (by omega) hg0)
  have HE := Lib.hid (read_bare (by omega) hr (show kindL s = 5 ∨ kindL s = 6 ∨ kindL s = 8 by omega))
  rw [h] at HE
  have HD := Lib.hid (fun w1 hb => begun w w1 6 hg hb)
  rw [show nameE s = .returned (.tuple #[.int .i64 6, .string ⟨(s.drop 4).toArray⟩]) by unfold nameE; rw [if_neg (by rw [hr, h]; simp), h]] at HN
  clear h hg hr
  generalize s.drop 4 = R at *
  clear hg0
  have HP := Lib.hid (fun W => vreadEnd_below R W)
  by_cases hR : R = []
  · rw [show endL R = some (.tuple #[]) from if_pos hR] at HP HE
    have HP2 := Lib.hid (fun W => callsGood (HP.out W) (show _ = some (.tuple #[]) from rfl))
    clear HP hR
    go_enter Tryz.func36, Tryz.ntmps36
    go_wp2_with fail
    refine Calls.mono (show _ from HN.out) ?_
    rintro e w1 ⟨rfl, hb⟩
    have HW := Lib.hid (HD.out w1 hb)
    clear hb
    go_wp2_with fail
    refine Calls.mono (show _ from HP2.out _) ?_
    rintro e w2 ⟨rfl, hb⟩
    have hW3 := HW.out.later hb
    have hlt := hW3.lt
    have HVX := Lib.hid hW3.v
    have HZX := Lib.hid hW3.z
    have HBX := Lib.hid hW3.b
    clear hb hW3
    have v0 := HVX.out.c0
    have v1 := HVX.out.c1
    have v2 := HVX.out.c2
    have v3 := HVX.out.c3
    have v4 := HVX.out.c4
    have v5 := HVX.out.c5
    have z0 := HZX.out.c0
    have y0 := HZX.out.fz 0
    have z1 := HZX.out.c1
    have y1 := HZX.out.fz 1
    have z2 := HZX.out.c2
    have y2 := HZX.out.fz 2
    have z3 := HZX.out.c3
    have y3 := HZX.out.fz 3
    have z4 := HZX.out.c4
    have y4 := HZX.out.fz 4
    have z5 := HZX.out.c5
    have y5 := HZX.out.fz 5
    go_wp2_with fail
    have hk := HZX.out.set6 ⟨6, [], false, [], [], 0⟩
    have k0 := hk.c0
    have k1 := hk.c1
    have k2 := hk.c2
    have k3 := hk.c3
    have k4 := hk.c4
    have k5 := hk.c5
    simp only [Go.Proofs.YtkbhmkofflcpjaaGreatDoor.set6] at k0 k1 k2 k3 k4 k5
    refine bodyPost_ret (v := vbV ⟨6, [], false, [], [], 0⟩) (by simp [results, Tryz.results36, go_sem, k0, k1, k2, k3, k4, k5, vbV, vbCells]) rfl ⟨right8 HE.out rfl, below_set6 HBX.out (Nat.le_refl _) ⟨6, [], false, [], [], 0⟩⟩
  · rw [show endL R = none from if_neg hR] at HP HE
    have HP2 := Lib.hid (fun W => callsBad (HP.out W) rfl)
    clear HP hR
    go_enter Tryz.func36, Tryz.ntmps36
    go_wp2_with fail
    refine Calls.mono (show _ from HN.out) ?_
    rintro e w1 ⟨rfl, hb⟩
    have HW := Lib.hid (HD.out w1 hb)
    clear hb
    go_wp2_with fail
    refine Calls.mono (show _ from HP2.out _) ?_
    rintro e w2 ⟨rfl, hb⟩
    exact ⟨rfl, wrong8 HE.out rfl, (HW.out.later hb).b⟩

set_option maxHeartbeats 2000000 in
theorem cmd_bare8 (s : List UInt8) (w : World) (hs : s.length ≤ 9000) (hg : Gl w) (hr : restOk s = true) (h : kindL s = 8) :
    Calls Tryz.prog 36 #[.string ⟨s.toArray⟩] w fun e w' => e = cmdE s ∧ Below w.heap.size w w' := by
  have hg0 := hg.alloc (.cells #[.int .i64 0, .string ⟨#[]⟩, .bool false, .string ⟨#[]⟩, .string ⟨#[]⟩, .int .i64 0] 27)
  have HN := Lib.hid (vreadName_any s (w.alloc (.cells #[.int .i64 0, .string ⟨#[]⟩, .bool false, .string ⟨#[]⟩, .string ⟨#[]⟩, .int .i64 0] 27)) (by omega) hg0)
  have HE := Lib.hid (read_bare (by omega) hr (show kindL s = 5 ∨ kindL s = 6 ∨ kindL s = 8 by omega))
  rw [h] at HE
  have HD := Lib.hid (fun w1 hb => begun w w1 8 hg hb)
  rw [show nameE s = .returned (.tuple #[.int .i64 8, .string ⟨(s.drop 4).toArray⟩]) by unfold nameE; rw [if_neg (by rw [hr, h]; simp), h]] at HN
  clear h hg hr
  generalize s.drop 4 = R at *
  clear hg0
  have HP := Lib.hid (fun W => vreadEnd_below R W)
  by_cases hR : R = []
  · rw [show endL R = some (.tuple #[]) from if_pos hR] at HP HE
    have HP2 := Lib.hid (fun W => callsGood (HP.out W) (show _ = some (.tuple #[]) from rfl))
    clear HP hR
    go_enter Tryz.func36, Tryz.ntmps36
    go_wp2_with fail
    refine Calls.mono (show _ from HN.out) ?_
    rintro e w1 ⟨rfl, hb⟩
    have HW := Lib.hid (HD.out w1 hb)
    clear hb
    go_wp2_with fail
    refine Calls.mono (show _ from HP2.out _) ?_
    rintro e w2 ⟨rfl, hb⟩
    have hW3 := HW.out.later hb
    have hlt := hW3.lt
    have HVX := Lib.hid hW3.v
    have HZX := Lib.hid hW3.z
    have HBX := Lib.hid hW3.b
    clear hb hW3
    have v0 := HVX.out.c0
    have v1 := HVX.out.c1
    have v2 := HVX.out.c2
    have v3 := HVX.out.c3
    have v4 := HVX.out.c4
    have v5 := HVX.out.c5
    have z0 := HZX.out.c0
    have y0 := HZX.out.fz 0
    have z1 := HZX.out.c1
    have y1 := HZX.out.fz 1
    have z2 := HZX.out.c2
    have y2 := HZX.out.fz 2
    have z3 := HZX.out.c3
    have y3 := HZX.out.fz 3
    have z4 := HZX.out.c4
    have y4 := HZX.out.fz 4
    have z5 := HZX.out.c5
    have y5 := HZX.out.fz 5
    go_wp2_with fail
    have hk := HZX.out.set6 ⟨8, [], false, [], [], 0⟩
    have k0 := hk.c0
    have k1 := hk.c1
    have k2 := hk.c2
    have k3 := hk.c3
    have k4 := hk.c4
    have k5 := hk.c5
    simp only [Go.Proofs.YtkbhmkofflcpjaaGreatDoor.set6] at k0 k1 k2 k3 k4 k5
    refine bodyPost_ret (v := vbV ⟨8, [], false, [], [], 0⟩) (by simp [results, Tryz.results36, go_sem, k0, k1, k2, k3, k4, k5, vbV, vbCells]) rfl ⟨right8 HE.out rfl, below_set6 HBX.out (Nat.le_refl _) ⟨8, [], false, [], [], 0⟩⟩
  · rw [show endL R = none from if_neg hR] at HP HE
    have HP2 := Lib.hid (fun W => callsBad (HP.out W) rfl)
    clear HP hR
    go_enter Tryz.func36, Tryz.ntmps36
    go_wp2_with fail
    refine Calls.mono (show _ from HN.out) ?_
    rintro e w1 ⟨rfl, hb⟩
    have HW := Lib.hid (HD.out w1 hb)
    clear hb
    go_wp2_with fail
    refine Calls.mono (show _ from HP2.out _) ?_
    rintro e w2 ⟨rfl, hb⟩
    exact ⟨rfl, wrong8 HE.out rfl, (HW.out.later hb).b⟩
end Go.Proofs.YtkbhmkofflcpjaaGreatDoor

namespace Go.Proofs.YtkbhmkofflcpjaaGreatDoor
open Go.RowKit

set_option maxHeartbeats 2000000 in
theorem cmd_rcpt (s : List UInt8) (w : World) (hs : s.length ≤ 9000) (hg : Gl w) (hr : restOk s = true) (h : kindL s = 4) :
    Calls Tryz.prog 36 #[.string ⟨s.toArray⟩] w fun e w' => e = cmdE s ∧ Below w.heap.size w w' := by
  have hg0 := hg.alloc (.cells #[.int .i64 0, .string ⟨#[]⟩, .bool false, .string ⟨#[]⟩, .string ⟨#[]⟩, .int .i64 0] 27)
  have HN := Lib.hid (vreadName_any s (w.alloc (.cells #[.int .i64 0, .string ⟨#[]⟩, .bool false, .string ⟨#[]⟩, .string ⟨#[]⟩, .int .i64 0] 27)) (by omega) hg0)
  have HE := Lib.hid (read_rcpt (by omega) hr h)
  have hrl : (s.drop 4).length ≤ 9000 := by simp; omega
  have HD := Lib.hid (fun w1 hb => begun w w1 4 hg hb)
  rw [show nameE s = .returned (.tuple #[.int .i64 4, .string ⟨(s.drop 4).toArray⟩]) by unfold nameE; rw [if_neg (by rw [hr, h]; simp), h]] at HN
  clear h hg hr
  generalize s.drop 4 = R at *
  clear hg0
  have HP := Lib.hid (fun W (hW : Gl W) => readColon_any R [32, 84, 79, 58] W (by omega) goodTo hW)
  cases hp : colonL R [32, 84, 79, 58] with
  | none =>
    rw [hp] at HP HE
    have HP2 := Lib.hid (fun W hW => callsBad (HP.out W hW) rfl)
    clear HP hp
    go_enter Tryz.func36, Tryz.ntmps36
    go_wp2_with fail
    refine Calls.mono (show _ from HN.out) ?_
    rintro e w1 ⟨rfl, hb⟩
    have HW := Lib.hid (HD.out w1 hb)
    clear hb
    go_wp2_with fail
    refine Calls.mono (show _ from HP2.out _ HW.out.g) ?_
    rintro e w2 ⟨rfl, hb⟩
    exact ⟨rfl, wrong8 HE.out rfl, (HW.out.later hb).b⟩
  | some r =>
    have hl : r.length ≤ 9000 := Nat.le_trans (colon_len hp) hrl
    rw [hp] at HP HE
    have HP2 := Lib.hid (fun W hW => callsGood (HP.out W hW) (show _ = some (.string ⟨r.toArray⟩) from rfl))
    have HQ := Lib.hid (fun W => vreadBox_any r W (by omega))
    clear HP hp
    cases hd : boxO r with
    | none =>
      rw [Option.bind_some, hd] at HE
      rw [hd] at HQ
      have HQ2 := Lib.hid (fun W => callsBad (HQ.out W) rfl)
      clear HQ hd
      go_enter Tryz.func36, Tryz.ntmps36
      go_wp2_with fail
      refine Calls.mono (show _ from HN.out) ?_
      rintro e w1 ⟨rfl, hb⟩
      have HW := Lib.hid (HD.out w1 hb)
      clear hb
      go_wp2_with fail
      refine Calls.mono (show _ from HP2.out _ HW.out.g) ?_
      rintro e w2 ⟨rfl, hb⟩
      have HW2 := Lib.hid (HW.out.later hb)
      clear hb
      go_wp2_with fail
      refine Calls.mono (HQ2.out _) ?_
      rintro e w3 ⟨rfl, hb⟩
      exact ⟨rfl, wrong8 HE.out rfl, (HW2.out.later hb).b⟩
    | some p =>
      obtain ⟨l, d⟩ := p
      rw [Option.bind_some, hd] at HE
      rw [hd] at HQ
      have HQ2 := Lib.hid (fun W => callsGood (HQ.out W) (show _ = some (.agg #[.string ⟨l.toArray⟩, .string ⟨d.toArray⟩]) from rfl))
      clear HQ hd
      go_enter Tryz.func36, Tryz.ntmps36
      go_wp2_with fail
      refine Calls.mono (show _ from HN.out) ?_
      rintro e w1 ⟨rfl, hb⟩
      have HW := Lib.hid (HD.out w1 hb)
      clear hb
      go_wp2_with fail
      refine Calls.mono (show _ from HP2.out _ HW.out.g) ?_
      rintro e w2 ⟨rfl, hb⟩
      have HW2 := Lib.hid (HW.out.later hb)
      clear hb
      go_wp2_with fail
      refine Calls.mono (HQ2.out _) ?_
      rintro e w3 ⟨rfl, hb⟩
      have hW3 := HW2.out.later hb
      have hlt := hW3.lt
      have hvl := hW3.v.lt
      have u3 := hW3.v.c3
      have t3 := hW3.v.fz 3
      have u4 := hW3.v.c4
      have t4 := hW3.v.fz 4
      have HVX := Lib.hid ((hW3.v.set3 l).set4 d)
      have HZX := Lib.hid ((hW3.z.other (p := ⟨w1.heap.size, 3, none⟩) (Nat.ne_of_lt hlt) (.string ⟨l.toArray⟩)).other (p := ⟨w1.heap.size, 4, none⟩) (Nat.ne_of_lt hlt) (.string ⟨d.toArray⟩))
      have HBX := Lib.hid ((hW3.b.setCell (p := ⟨w1.heap.size, 3, none⟩) (Nat.le_of_lt hlt) (.string ⟨l.toArray⟩)).setCell (p := ⟨w1.heap.size, 4, none⟩) (Nat.le_of_lt hlt) (.string ⟨d.toArray⟩))
      clear hb hW3
      have v0 := HVX.out.c0
      have v1 := HVX.out.c1
      have v2 := HVX.out.c2
      have v3 := HVX.out.c3
      have v4 := HVX.out.c4
      have v5 := HVX.out.c5
      have z0 := HZX.out.c0
      have y0 := HZX.out.fz 0
      have z1 := HZX.out.c1
      have y1 := HZX.out.fz 1
      have z2 := HZX.out.c2
      have y2 := HZX.out.fz 2
      have z3 := HZX.out.c3
      have y3 := HZX.out.fz 3
      have z4 := HZX.out.c4
      have y4 := HZX.out.fz 4
      have z5 := HZX.out.c5
      have y5 := HZX.out.fz 5
      go_wp2_with fail
      have hk := HZX.out.set6 ⟨4, [], false, l, d, 0⟩
      have k0 := hk.c0
      have k1 := hk.c1
      have k2 := hk.c2
      have k3 := hk.c3
      have k4 := hk.c4
      have k5 := hk.c5
      simp only [Go.Proofs.YtkbhmkofflcpjaaGreatDoor.set6] at k0 k1 k2 k3 k4 k5
      refine bodyPost_ret (v := vbV ⟨4, [], false, l, d, 0⟩) (by simp [results, Tryz.results36, go_sem, k0, k1, k2, k3, k4, k5, vbV, vbCells]) rfl ⟨right8 HE.out rfl, below_set6 HBX.out (Nat.le_refl _) ⟨4, [], false, l, d, 0⟩⟩

set_option maxHeartbeats 2000000 in
theorem cmd_mail (s : List UInt8) (w : World) (hs : s.length ≤ 9000) (hg : Gl w) (hr : restOk s = true) (h : kindL s = 3) :
    Calls Tryz.prog 36 #[.string ⟨s.toArray⟩] w fun e w' => e = cmdE s ∧ Below w.heap.size w w' := by
  have hg0 := hg.alloc (.cells #[.int .i64 0, .string ⟨#[]⟩, .bool false, .string ⟨#[]⟩, .string ⟨#[]⟩, .int .i64 0] 27)
  have HN := Lib.hid (vreadName_any s (w.alloc (.cells #[.int .i64 0, .string ⟨#[]⟩, .bool false, .string ⟨#[]⟩, .string ⟨#[]⟩, .int .i64 0] 27)) (by omega) hg0)
  have HE := Lib.hid (read_mail (by omega) hr h)
  have hrl : (s.drop 4).length ≤ 9000 := by simp; omega
  have HGW := Lib.hid hg
  have HD := Lib.hid (fun w1 hb => begun w w1 3 hg hb)
  rw [show nameE s = .returned (.tuple #[.int .i64 3, .string ⟨(s.drop 4).toArray⟩]) by unfold nameE; rw [if_neg (by rw [hr, h]; simp), h]] at HN
  clear h hg hr
  generalize s.drop 4 = R at *
  clear hg0
  have HP := Lib.hid (fun W (hW : Gl W) => readColon_any R [32, 70, 82, 79, 77, 58] W (by omega) goodFrom hW)
  cases hp : colonL R [32, 70, 82, 79, 77, 58] with
  | none =>
    rw [hp] at HP HE
    have HP2 := Lib.hid (fun W hW => callsBad (HP.out W hW) rfl)
    clear HP hp
    go_enter Tryz.func36, Tryz.ntmps36
    go_wp2_with fail
    refine Calls.mono (show _ from HN.out) ?_
    rintro e w1 ⟨rfl, hb⟩
    have HW := Lib.hid (HD.out w1 hb)
    clear hb
    go_wp2_with fail
    refine Calls.mono (show _ from HP2.out _ HW.out.g) ?_
    rintro e w2 ⟨rfl, hb⟩
    exact ⟨rfl, wrong8 HE.out rfl, (HW.out.later hb).b⟩
  | some r =>
    have hl : r.length ≤ 9000 := Nat.le_trans (colon_len hp) hrl
    rw [hp] at HP HE
    have HP2 := Lib.hid (fun W hW => callsGood (HP.out W hW) (show _ = some (.string ⟨r.toArray⟩) from rfl))
    have HC := Lib.hid (fun W => vcutPath_any r W (by omega))
    clear HP hp
    cases hc : cutL false r with
    | none =>
      rw [Option.bind_some, hc] at HE
      rw [hc] at HC
      have HC2 := Lib.hid (fun W => callsBad (HC.out W) rfl)
      clear HC hc
      go_enter Tryz.func36, Tryz.ntmps36
      go_wp2_with fail
      refine Calls.mono (show _ from HN.out) ?_
      rintro e w1 ⟨rfl, hb⟩
      have HW := Lib.hid (HD.out w1 hb)
      clear hb
      go_wp2_with fail
      refine Calls.mono (show _ from HP2.out _ HW.out.g) ?_
      rintro e w2 ⟨rfl, hb⟩
      have HW2 := Lib.hid (HW.out.later hb)
      clear hb
      go_wp2_with fail
      refine Calls.mono (show _ from HC2.out _) ?_
      rintro e w3 ⟨rfl, hb⟩
      exact ⟨rfl, wrong8 HE.out rfl, (HW2.out.later hb).b⟩
    | some m =>
      rw [Option.bind_some, hc, Option.bind_some] at HE
      rw [hc] at HC
      have HC2 := Lib.hid (fun W => callsGood (HC.out W) (show _ = some (.tuple #[.string ⟨(r.take m).toArray⟩, .string ⟨(r.drop m).toArray⟩]) from rfl))
      have hl1 : (r.take m).length ≤ 9000 := by simp; omega
      have hl2 : (r.drop m).length ≤ 9000 := by simp; omega
      clear HC hc
      generalize r.take m = u at *
      generalize r.drop m = v at *
      have HQ := Lib.hid (fun W => vreadPath_any u W (by omega))
      cases hq : pathL u with
      | none =>
        rw [hq] at HE HQ
        have HQ2 := Lib.hid (fun W => callsBad (HQ.out W) rfl)
        clear HQ hq
        go_enter Tryz.func36, Tryz.ntmps36
        go_wp2_with fail
        refine Calls.mono (show _ from HN.out) ?_
        rintro e w1 ⟨rfl, hb⟩
        have HW := Lib.hid (HD.out w1 hb)
        clear hb
        go_wp2_with fail
        refine Calls.mono (show _ from HP2.out _ HW.out.g) ?_
        rintro e w2 ⟨rfl, hb⟩
        have HW2 := Lib.hid (HW.out.later hb)
        clear hb
        go_wp2_with fail
        refine Calls.mono (show _ from HC2.out _) ?_
        rintro e w3 ⟨rfl, hb⟩
        have HW3 := Lib.hid (HW2.out.later hb)
        clear hb
        go_wp2_with fail
        refine Calls.mono (show _ from HQ2.out _) ?_
        rintro e w4 ⟨rfl, hb⟩
        exact ⟨rfl, wrong8 HE.out rfl, (HW3.out.later hb).b⟩
      | some o =>
        rw [hq, Option.bind_some] at HE
        rw [hq] at HQ
        have HQ2 := Lib.hid (fun W => callsGood (HQ.out W) (show _ = some (.tuple #[.agg #[.string ⟨(o.getD ([], [])).1.toArray⟩, .string ⟨(o.getD ([], [])).2.toArray⟩], .bool o.isNone]) from rfl))
        clear HQ hq
        generalize (o.getD ([], [])).1 = l at *
        generalize (o.getD ([], [])).2 = d at *
        generalize o.isNone = n at *
        have HTT := Lib.hid (fun W (hW : Gl W) => vreadSize_any v W (by omega) hW)
        cases ht : tailL v with
        | none =>
          rw [ht] at HE HTT
          have HT2 := Lib.hid (fun W hW => callsBad (HTT.out W hW) rfl)
          clear HTT ht
          go_enter Tryz.func36, Tryz.ntmps36
          go_wp2_with fail
          refine Calls.mono (show _ from HN.out) ?_
          rintro e w1 ⟨rfl, hb⟩
          have HW := Lib.hid (HD.out w1 hb)
          clear hb
          go_wp2_with fail
          refine Calls.mono (show _ from HP2.out _ HW.out.g) ?_
          rintro e w2 ⟨rfl, hb⟩
          have HW2 := Lib.hid (HW.out.later hb)
          clear hb
          go_wp2_with fail
          refine Calls.mono (show _ from HC2.out _) ?_
          rintro e w3 ⟨rfl, hb⟩
          have HW3 := Lib.hid (HW2.out.later hb)
          clear hb
          go_wp2_with fail
          refine Calls.mono (show _ from HQ2.out _) ?_
          rintro e w4 ⟨rfl, hb⟩
          have hW4 := HW3.out.later hb
          have hlt := hW4.lt
          have hvl := hW4.v.lt
          have u2 := hW4.v.c2
          have t2 := hW4.v.fz 2
          have u3 := hW4.v.c3
          have t3 := hW4.v.fz 3
          have u4 := hW4.v.c4
          have t4 := hW4.v.fz 4
          have HVY := Lib.hid (((hW4.v.set3 l).set4 d).set2 n)
          have HZY := Lib.hid (((hW4.z.other (p := ⟨w1.heap.size, 3, none⟩) (Nat.ne_of_lt hlt) (.string ⟨l.toArray⟩)).other (p := ⟨w1.heap.size, 4, none⟩) (Nat.ne_of_lt hlt) (.string ⟨d.toArray⟩)).other (p := ⟨w1.heap.size, 2, none⟩) (Nat.ne_of_lt hlt) (.bool n))
          have hby := (((hW4.b.setCell (p := ⟨w1.heap.size, 3, none⟩) (Nat.le_of_lt hlt) (.string ⟨l.toArray⟩)).setCell (p := ⟨w1.heap.size, 4, none⟩) (Nat.le_of_lt hlt) (.string ⟨d.toArray⟩)).setCell (p := ⟨w1.heap.size, 2, none⟩) (Nat.le_of_lt hlt) (.bool n))
          have HBY := Lib.hid hby
          have HGY := Lib.hid (HGW.out.keep hby)
          have HT := Lib.hid (HT2.out _ HGY.out)
          clear hb hW4 hby
          go_wp2_with fail
          refine Calls.mono HT.out ?_
          rintro e w5 ⟨rfl, hb⟩
          exact ⟨rfl, wrong8 HE.out rfl, HBY.out.trans (hb.mono HBY.out.size)⟩
        | some z =>
          rw [ht] at HE HTT
          have HT2 := Lib.hid (fun W hW => callsGood (HTT.out W hW) (show _ = some (.int .i64 z) from rfl))
          clear HTT ht
          go_enter Tryz.func36, Tryz.ntmps36
          go_wp2_with fail
          refine Calls.mono (show _ from HN.out) ?_
          rintro e w1 ⟨rfl, hb⟩
          have HW := Lib.hid (HD.out w1 hb)
          clear hb
          go_wp2_with fail
          refine Calls.mono (show _ from HP2.out _ HW.out.g) ?_
          rintro e w2 ⟨rfl, hb⟩
          have HW2 := Lib.hid (HW.out.later hb)
          clear hb
          go_wp2_with fail
          refine Calls.mono (show _ from HC2.out _) ?_
          rintro e w3 ⟨rfl, hb⟩
          have HW3 := Lib.hid (HW2.out.later hb)
          clear hb
          go_wp2_with fail
          refine Calls.mono (show _ from HQ2.out _) ?_
          rintro e w4 ⟨rfl, hb⟩
          have hW4 := HW3.out.later hb
          have hlt := hW4.lt
          have hvl := hW4.v.lt
          have u2 := hW4.v.c2
          have t2 := hW4.v.fz 2
          have u3 := hW4.v.c3
          have t3 := hW4.v.fz 3
          have u4 := hW4.v.c4
          have t4 := hW4.v.fz 4
          have HVY := Lib.hid (((hW4.v.set3 l).set4 d).set2 n)
          have HZY := Lib.hid (((hW4.z.other (p := ⟨w1.heap.size, 3, none⟩) (Nat.ne_of_lt hlt) (.string ⟨l.toArray⟩)).other (p := ⟨w1.heap.size, 4, none⟩) (Nat.ne_of_lt hlt) (.string ⟨d.toArray⟩)).other (p := ⟨w1.heap.size, 2, none⟩) (Nat.ne_of_lt hlt) (.bool n))
          have hby := (((hW4.b.setCell (p := ⟨w1.heap.size, 3, none⟩) (Nat.le_of_lt hlt) (.string ⟨l.toArray⟩)).setCell (p := ⟨w1.heap.size, 4, none⟩) (Nat.le_of_lt hlt) (.string ⟨d.toArray⟩)).setCell (p := ⟨w1.heap.size, 2, none⟩) (Nat.le_of_lt hlt) (.bool n))
          have HBY := Lib.hid hby
          have HGY := Lib.hid (HGW.out.keep hby)
          have HT := Lib.hid (HT2.out _ HGY.out)
          clear hb hW4 hby
          go_wp2_with fail
          refine Calls.mono HT.out ?_
          rintro e w5 ⟨rfl, hb⟩
          have hv := HVY.out.later hb
          have hz := HZY.out.later hb
          have u5 := hv.c5
          have t5 := hv.fz 5
          have hvl5 := hv.lt
          have HVX := Lib.hid (hv.set5 z)
          have HZX := Lib.hid (hz.other (p := ⟨w1.heap.size, 5, none⟩) (Nat.ne_of_lt hlt) (.int .i64 z))
          have HBX := Lib.hid ((HBY.out.trans (hb.mono HBY.out.size)).setCell (p := ⟨w1.heap.size, 5, none⟩) (Nat.le_of_lt hlt) (.int .i64 z))
          clear hb hv hz
          have v0 := HVX.out.c0
          have v1 := HVX.out.c1
          have v2 := HVX.out.c2
          have v3 := HVX.out.c3
          have v4 := HVX.out.c4
          have v5 := HVX.out.c5
          have z0 := HZX.out.c0
          have y0 := HZX.out.fz 0
          have z1 := HZX.out.c1
          have y1 := HZX.out.fz 1
          have z2 := HZX.out.c2
          have y2 := HZX.out.fz 2
          have z3 := HZX.out.c3
          have y3 := HZX.out.fz 3
          have z4 := HZX.out.c4
          have y4 := HZX.out.fz 4
          have z5 := HZX.out.c5
          have y5 := HZX.out.fz 5
          go_wp2_with fail
          have hk := HZX.out.set6 ⟨3, [], n, l, d, z⟩
          have k0 := hk.c0
          have k1 := hk.c1
          have k2 := hk.c2
          have k3 := hk.c3
          have k4 := hk.c4
          have k5 := hk.c5
          simp only [Go.Proofs.YtkbhmkofflcpjaaGreatDoor.set6] at k0 k1 k2 k3 k4 k5
          refine bodyPost_ret (v := vbV ⟨3, [], n, l, d, z⟩) (by simp [results, Tryz.results36, go_sem, k0, k1, k2, k3, k4, k5, vbV, vbCells]) rfl ⟨right8 HE.out rfl, below_set6 HBX.out (Nat.le_refl _) ⟨3, [], n, l, d, z⟩⟩

/-- readCommand. -/
theorem readCommand_any (s : List UInt8) (w : World) (hs : s.length ≤ 9000) (hg : Gl w) :
    Calls Tryz.prog 36 #[.string ⟨s.toArray⟩] w fun e w' => e = cmdE s ∧ Below w.heap.size w w' := by
  by_cases h : kindL s = 0 ∨ restOk s = false
  · exact cmd_noname s w hs hg h
  · simp only [not_or, Bool.not_eq_false] at h
    obtain ⟨hk, hr⟩ := h
    have h9 := kind_range s
    have : kindL s = 1 ∨ kindL s = 2 ∨ kindL s = 3 ∨ kindL s = 4 ∨ kindL s = 5 ∨ kindL s = 6 ∨ kindL s = 7 ∨ kindL s = 8 ∨ kindL s = 9 := by omega
    rcases this with h | h | h | h | h | h | h | h | h
    · exact cmd_helo1 s w hs hg hr h
    · exact cmd_helo2 s w hs hg hr h
    · exact cmd_mail s w hs hg hr h
    · exact cmd_rcpt s w hs hg hr h
    · exact cmd_bare5 s w hs hg hr h
    · exact cmd_bare6 s w hs hg hr h
    · exact cmd_noop s w hs hg hr h
    · exact cmd_bare8 s w hs hg hr h
    · exact cmd_vrfy s w hs hg hr h
end Go.Proofs.YtkbhmkofflcpjaaGreatDoor

namespace Go.Proofs.YtkbhmkofflcpjaaGreatDoor
open Go.RowKit

theorem out_zero (v : Vb) : (outV v).2 = 0 ∨ outV v = (zeroV, 8) := by
  unfold outV
  split
  · exact .inl rfl
  · exact .inr rfl
theorem read_zero {s : List UInt8} (h : (readV s).2 ≠ 0) : (readV s).1 = zeroV := by
  have key : ∀ p : Vb × Int, (p.2 = 0 ∨ p.1 = zeroV) → p.2 ≠ 0 → p.1 = zeroV := fun p hp hn => hp.elim (fun e => absurd e hn) id
  have ho : ∀ v, (outV v).2 = 0 ∨ (outV v).1 = zeroV := fun v => (out_zero v).imp id (fun e => by rw [e])
  refine key _ ?_ h
  clear h
  have hm : ∀ r, (mailL r).2 = 0 ∨ (mailL r).1 = zeroV := fun r => by
    unfold mailL
    split
    · exact ho _
    · exact .inr rfl
  have hc : ∀ r, (rcptL r).2 = 0 ∨ (rcptL r).1 = zeroV := fun r => by
    unfold rcptL
    split
    · exact ho _
    · exact .inr rfl
  unfold readV
  repeat' split
  all_goals first | exact .inr rfl | exact ho _ | exact hm _ | exact hc _

theorem enters_vParse_1 (args : Array Value) (w : World) : (callFunc 35 args).run Tryz.prog w = .ok (.enter 35 args) w := enters_of Tryz.func35 (by kernel_rfl) rfl args w

set_option maxHeartbeats 1000000 in
theorem vparse1_good (s : List UInt8) (u : Vb) (n m : Nat) (w : World) (hn : SAt w n s) (hm : VAt w m u) (hs : s.length ≤ 9000) (hg : Gl w) (hr : (readV s).2 = 0) :
    Calls Tryz.prog 35 #[.pointer (some ⟨n, 0, none⟩), .pointer (some ⟨m, 0, none⟩)] w fun e w' => e = .returned (.tuple #[]) ∧ But [m] w.heap.size w w' ∧ VAt w' m (readV s).1 := by
  have HR := readCommand_any s w hs hg
  rw [show cmdE s = .returned (vbV (readV s).1) from if_pos hr] at HR
  have HM := Lib.hid hm
  have hc := hn.c
  clear hn hm hr hg
  generalize (readV s).1 = v at *
  obtain ⟨k, wd, x, l, d, z⟩ := v
  have HR2 := Lib.hid (show Calls Tryz.prog 36 #[.string ⟨s.toArray⟩] w fun e w' => e = .returned (.agg #[.int .i64 k, .string ⟨wd.toArray⟩, .bool x, .string ⟨l.toArray⟩, .string ⟨d.toArray⟩, .int .i64 z]) ∧ Below w.heap.size w w' from HR)
  clear HR
  go_enter Tryz.func35, Tryz.ntmps35
  go_wp2_with fail
  refine Calls.mono HR2.out ?_
  rintro e w1 ⟨rfl, hb⟩
  have HB := Lib.hid hb
  have hm1 := HM.out.later hb
  have HM1 := Lib.hid hm1
  have c0 := hm1.c0
  have c1 := hm1.c1
  have c2 := hm1.c2
  have c3 := hm1.c3
  have c4 := hm1.c4
  have c5 := hm1.c5
  have z0 := hm1.fz 0
  have z1 := hm1.fz 1
  have z2 := hm1.fz 2
  have z3 := hm1.fz 3
  have z4 := hm1.fz 4
  have z5 := hm1.fz 5
  clear hb hm1
  go_wp2_with fail
  go_end0
  exact ⟨rfl, but_set6 (But.of HB.out) (.inl (by simp)) ⟨k, wd, x, l, d, z⟩, HM1.out.set6 ⟨k, wd, x, l, d, z⟩⟩

theorem vparse1_bad (s : List UInt8) (n m : Nat) (w : World) (hn : SAt w n s) (hs : s.length ≤ 9000) (hg : Gl w) (hr : (readV s).2 ≠ 0) :
    Calls Tryz.prog 35 #[.pointer (some ⟨n, 0, none⟩), .pointer (some ⟨m, 0, none⟩)] w fun e w' => e = .panicked [{ v := .iface 67 (.agg #[.int .i64 (readV s).2]), recovered := false }] ∧ Below w.heap.size w w' := by
  have HR := readCommand_any s w hs hg
  rw [show cmdE s = wrongV (readV s).2 from if_neg hr] at HR
  have HR2 := Lib.hid HR
  have hc := hn.c
  clear hn hr hg HR
  go_enter Tryz.func35, Tryz.ntmps35
  go_wp2_with fail
  refine Calls.mono HR2.out ?_
  rintro e w1 ⟨rfl, hb⟩
  exact ⟨rfl, rfl, hb⟩

/-- A world in which Parse's own variables have been made. -/
def madeV (s : List UInt8) (w : World) : World := ((w.alloc (.cells #[.string ⟨s.toArray⟩] 9)).alloc (.cells #[.int .i64 0, .string ⟨#[]⟩, .bool false, .string ⟨#[]⟩, .string ⟨#[]⟩, .int .i64 0] 27)).alloc (.cells #[.int .i64 0, .string ⟨#[]⟩, .bool false, .string ⟨#[]⟩, .string ⟨#[]⟩, .int .i64 0] 27)
theorem madeV_size (s : List UInt8) (w : World) : (madeV s w).heap.size = w.heap.size + 3 := by simp [madeV]
theorem madeV_below (s : List UInt8) (w : World) : Below w.heap.size w (madeV s w) := (((Below.refl _ w).alloc (Nat.le_refl _) _).alloc (by simp) _).alloc (by simp; omega) _
theorem madeV_0 (s : List UInt8) (w : World) : SAt (madeV s w) w.heap.size s := ((SAt.new w s).alloc _).alloc _
theorem madeV_1 (s : List UInt8) (w : World) : VAt (madeV s w) (w.heap.size + 1) zeroV := by
  have := VAt.new (w.alloc (.cells #[.string ⟨s.toArray⟩] 9)) zeroV
  rw [World.size_alloc] at this
  exact VAt.alloc this _
theorem madeV_2 (s : List UInt8) (w : World) : VAt (madeV s w) (w.heap.size + 2) zeroV := by
  have := VAt.new ((w.alloc (.cells #[.string ⟨s.toArray⟩] 9)).alloc (.cells #[.int .i64 0, .string ⟨#[]⟩, .bool false, .string ⟨#[]⟩, .string ⟨#[]⟩, .int .i64 0] 27)) zeroV
  rw [World.size_alloc, World.size_alloc] at this
  exact this

theorem catchV_good (s : List UInt8) (w : World) (hs : s.length ≤ 9000) (hg : Gl w) (hr : (readV s).2 = 0) :
    Calls Tryz.prog 34 #[.func (.func 35) #[] #[.pointer (some ⟨w.heap.size, 0, none⟩), .pointer (some ⟨w.heap.size + 2, 0, none⟩)]] (madeV s w) fun e w' =>
      e = .returned (.int .i64 0) ∧ VAt w' (w.heap.size + 1) zeroV ∧ VAt w' (w.heap.size + 2) (readV s).1 ∧ Below w.heap.size w w' := by
  have hsz := madeV_size s w
  have h := vparse1_good s zeroV w.heap.size (w.heap.size + 2) ((madeV s w).alloc (.cells #[.int .i64 0] 32)) ((madeV_0 s w).alloc _) ((madeV_2 s w).alloc _) hs ((hg.keep (madeV_below s w)).alloc _) hr
  rw [World.size_alloc] at h
  refine (vcatch_ok 35 _ [w.heap.size + 2] (madeV s w) (fun w' => VAt w' (w.heap.size + 2) (readV s).1) (enters_vParse_1 _) (by simp [hsz]) h).mono ?_
  rintro e w' ⟨rfl, hb, w1, h1, hk⟩
  refine ⟨rfl, ?_, (hk _ (by omega)).trans h1, (madeV_below s w).trans (hb.below (by omega) (by simp))⟩
  exact (hb.block (w.heap.size + 1) (by omega) (by simp)).trans (madeV_1 s w)

theorem catchV_bad (s : List UInt8) (w : World) (hs : s.length ≤ 9000) (hg : Gl w) (hr : (readV s).2 ≠ 0) :
    Calls Tryz.prog 34 #[.func (.func 35) #[] #[.pointer (some ⟨w.heap.size, 0, none⟩), .pointer (some ⟨w.heap.size + 2, 0, none⟩)]] (madeV s w) fun e w' =>
      e = .returned (.int .i64 (readV s).2) ∧ VAt w' (w.heap.size + 1) zeroV ∧ Below w.heap.size w w' := by
  have hsz := madeV_size s w
  have h := vparse1_bad s w.heap.size (w.heap.size + 2) ((madeV s w).alloc (.cells #[.int .i64 0] 32)) ((madeV_0 s w).alloc _) hs ((hg.keep (madeV_below s w)).alloc _) hr
  rw [World.size_alloc] at h
  refine (vcatch_no 35 _ (readV s).2 (madeV s w) (enters_vParse_1 _) h).mono ?_
  rintro e w' ⟨rfl, hb⟩
  exact ⟨rfl, (madeV_1 s w).later hb, (madeV_below s w).trans (hb.mono (by omega))⟩

set_option maxHeartbeats 1000000 in
theorem vParse_any (s : List UInt8) (w : World) (hs : s.length ≤ 9000) (hg : Gl w) :
    Calls Tryz.prog 22 #[.string ⟨s.toArray⟩] w fun e w' => e = .returned (.tuple #[vbV (readV s).1, .int .i64 (readV s).2]) ∧ Below w.heap.size w w' := by
  have hmf : ∀ (fn : Fn) (first cap : Array Value) (w : World), (Instr.makeFunc fn first cap).run Tryz.prog w = .ok (.func fn first cap) w := fun _ _ _ _ => rfl
  by_cases hr : (readV s).2 = 0
  · have HC := Lib.hid (catchV_good s w hs hg hr)
    rw [hr]
    clear hr hg
    generalize (readV s).1 = v at *
    go_enter Tryz.func22, Tryz.ntmps22
    go_wp2_with fail
    refine Calls.mono (show _ from HC.out) ?_
    rintro e w1 ⟨rfl, h1, h2, hb⟩
    have HB := Lib.hid hb
    have HZX := Lib.hid h1
    have v0 := h2.c0
    have v1 := h2.c1
    have v2 := h2.c2
    have v3 := h2.c3
    have v4 := h2.c4
    have v5 := h2.c5
    have z0 := h1.c0
    have z1 := h1.c1
    have z2 := h1.c2
    have z3 := h1.c3
    have z4 := h1.c4
    have z5 := h1.c5
    have y0 := h1.fz 0
    have y1 := h1.fz 1
    have y2 := h1.fz 2
    have y3 := h1.fz 3
    have y4 := h1.fz 4
    have y5 := h1.fz 5
    clear hb h1 h2 HC
    go_wp2_with fail
    have hk := HZX.out.set6 v
    have k0 := hk.c0
    have k1 := hk.c1
    have k2 := hk.c2
    have k3 := hk.c3
    have k4 := hk.c4
    have k5 := hk.c5
    simp only [Go.Proofs.YtkbhmkofflcpjaaGreatDoor.set6] at k0 k1 k2 k3 k4 k5
    refine bodyPost_ret (v := .tuple #[vbV v, .int .i64 0]) (by simp [results, Tryz.results22, go_sem, k0, k1, k2, k3, k4, k5, vbV, vbCells]) rfl ⟨rfl, below_set6 HB.out (Nat.le_succ _) v⟩
  · have HC := Lib.hid (catchV_bad s w hs hg hr)
    have hne : ((readV s).2 != 0) = true := bne_iff_ne.2 hr
    rw [read_zero hr]
    clear hr hg
    generalize (readV s).2 = n at *
    go_enter Tryz.func22, Tryz.ntmps22
    go_wp2_with fail
    refine Calls.mono (show _ from HC.out) ?_
    rintro e w1 ⟨rfl, h1, hb⟩
    have HB := Lib.hid hb
    have HZX := Lib.hid h1
    have z0 := h1.c0
    have z1 := h1.c1
    have z2 := h1.c2
    have z3 := h1.c3
    have z4 := h1.c4
    have z5 := h1.c5
    have y0 := h1.fz 0
    have y1 := h1.fz 1
    have y2 := h1.fz 2
    have y3 := h1.fz 3
    have y4 := h1.fz 4
    have y5 := h1.fz 5
    clear hb h1 HC
    go_wp2_with fail
    have hk := HZX.out.set6 zeroV
    have k0 := hk.c0
    have k1 := hk.c1
    have k2 := hk.c2
    have k3 := hk.c3
    have k4 := hk.c4
    have k5 := hk.c5
    simp only [Go.Proofs.YtkbhmkofflcpjaaGreatDoor.set6, zeroV] at k0 k1 k2 k3 k4 k5
    refine bodyPost_ret (v := .tuple #[vbV zeroV, .int .i64 n]) (by simp [results, Tryz.results22, go_sem, k0, k1, k2, k3, k4, k5, vbV, vbCells, zeroV]) rfl ⟨rfl, below_set6 HB.out (Nat.le_succ _) zeroV⟩
end Go.Proofs.YtkbhmkofflcpjaaGreatDoor

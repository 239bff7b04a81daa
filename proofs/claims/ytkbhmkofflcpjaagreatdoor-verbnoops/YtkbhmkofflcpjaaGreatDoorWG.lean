/-
  The page's ParseVerb, walked: the greetings and the commands of one word.
  Conditions: as each theorem states them.
-/
import Derived.Test.YtkbhmkofflcpjaaGreatDoorWE
namespace Go.Proofs.YtkbhmkofflcpjaaGreatDoor
open Go.RowKit

set_option maxHeartbeats 4000000 in
theorem pv_helo1 (s : List UInt8) (w : World) (hs : s.length ≤ 3000) (hr : restOk s = true) (h : kindL s = 1) :
    Calls Tryz.prog 23 #[.string ⟨s.toArray⟩] w fun e w' => e = pvE (readV s) ∧ Below w.heap.size w w' := by
  have HA := Lib.hid ((Below.refl _ w).alloc (Nat.le_refl _) (.cells #[.int .i64 0, .string ⟨#[]⟩, .bool false, .string ⟨#[]⟩, .string ⟨#[]⟩, .int .i64 0] 27))
  have HZ0 := Lib.hid (VAt.new w zeroV)
  have HEN := Lib.hid (show s.drop 4 = [] → readV s = (zeroV, 8) from fun hd => by
    unfold readV
    rw [if_neg (read_pass (by omega) hr), if_pos (by omega), if_pos hd])
  have HEC := Lib.hid (show s.drop 4 ≠ [] → readV s = outV ⟨1, lowL (s.drop 5), false, [], [], 0⟩ from fun hd => by
    unfold readV
    rw [if_neg (read_pass (by omega) hr), if_pos (by omega), if_neg hd, h])
  go_enter Tryz.func23, Tryz.ntmps23
  go_wp2_with fail
  go_loopg [4, 5] 9 (fun g s4 s5 wx => Below w.heap.size w wx ∧ VAt wx w.heap.size zeroV ∧ ∃ (k : Nat) (K : Int), s4 = .int .i64 K ∧ s5 = .int .i64 k ∧ k + g = 10 ∧ 1 ≤ k ∧ ((K = 0 ∧ ∀ j : Nat, 1 ≤ j → j < k → beginsL s (nameL (j : Int)) = false) ∨ K = kindL s))
  case atStart => exact ⟨HA.out, HZ0.out, 1, 0, rfl, rfl, by omega, by omega, .inl ⟨rfl, fun j h1 h2 => by omega⟩⟩
  case round =>
    obtain ⟨hb, hz, k, K, rfl, rfl, hkg, h1, hK⟩ := hrel
    have HB := Lib.hid hb
    have HZ := Lib.hid hz
    have HKK := Lib.hid hK
    clear hb hz hK HA HZ0
    cases gk with
    | succ g =>
      have hk9 : (k : Int) ≤ 9 := by omega
      have HNM := Lib.hid (rname_lit k wr h1 (by omega))
      have hnl := name_len (k : Int)
      have HBG := Lib.hid (rbegins_any s (nameL (k : Int)) wr (by omega) (by omega))
      cases hbg : beginsL s (nameL (k : Int)) with
      | false =>
        have HN2 : Hid ((K = 0 ∧ ∀ j : Nat, 1 ≤ j → j < k + 1 → beginsL s (nameL (j : Int)) = false) ∨ K = kindL s) := Lib.hid (HKK.out.imp (fun h => ⟨h.1, fun j hj1 hj2 => by
          by_cases hjk : j = k
          · subst hjk
            exact hbg
          · exact h.2 j hj1 (by omega)⟩) id)
        rw [hbg] at HBG
        clear hbg
        generalize nameL (k : Int) = nm at *
        go_wp2_with fail
        refine Calls.mono HNM.out ?_
        rintro e w1 ⟨rfl, rfl⟩
        go_wp2_with fail
        refine Calls.mono HBG.out ?_
        rintro e w1 ⟨rfl, hb1⟩
        have HB1 := Lib.hid (HB.out.trans (hb1.mono HB.out.size))
        have HZ1 := Lib.hid (HZ.out.later hb1)
        clear hb1
        go_wp2_with fail
        go_roundg g
        case measure => omega
        case rel => exact ⟨HB1.out, HZ1.out, k + 1, K, rfl, by simp, by omega, by omega, HN2.out⟩
      | true =>
        have HK2 := Lib.hid (kind_begins h1 (by omega) hbg)
        rw [hbg] at HBG
        clear hbg
        generalize nameL (k : Int) = nm at *
        go_wp2_with fail
        refine Calls.mono HNM.out ?_
        rintro e w1 ⟨rfl, rfl⟩
        go_wp2_with fail
        refine Calls.mono HBG.out ?_
        rintro e w1 ⟨rfl, hb1⟩
        have HB1 := Lib.hid (HB.out.trans (hb1.mono HB.out.size))
        have HZ1 := Lib.hid (HZ.out.later hb1)
        clear hb1
        go_wp2_with fail
        go_roundg g
        case measure => omega
        case rel => exact ⟨HB1.out, HZ1.out, k + 1, (k : Int), rfl, by simp, by omega, by omega, .inr HK2.out.symm⟩
    | zero =>
      obtain rfl : k = 10 := by omega
      have HK : K = kindL s := by
        rcases HKK.out with ⟨h0, hn⟩ | h
        · rw [h0, kind_zero hn]
        · exact h
      rw [show ((10 : Nat) : Int) = 10 from rfl]
      generalize wr = W1 at *
      clear HKK hkg h1
      rw [h] at HK
      subst HK
      have h4l : 4 ≤ s.length := (kind_range s).2.2 (by omega)
      have h4i : (4 : Int) ≤ (s.length : Int) := by omega
      have hex := ext_drop s 4 s.length rfl
      by_cases hd : s.drop 4 = []
      · have HE := Lib.hid (HEN.out hd)
        clear HEN HEC
        have h5i : ¬ ((4 : Int) < (s.length : Int)) := by
          have : s.length ≤ 4 := List.drop_eq_nil_iff.1 hd
          omega
        rw [hd] at hex
        clear hr h hd
        have HZX := HZ
        have HBX := HB
        have z0 := HZX.out.c0
        have y0 := HZX.out.fz 0
        have z1 := HZX.out.c1
        have y1 := HZX.out.fz 1
        have z2 := HZX.out.c2
        have y2 := HZX.out.fz 2
        have z3 := HZX.out.c3
        have y3 := HZX.out.fz 3
        have z4 := HZX.out.c4
        have y4 := HZX.out.fz 4
        have z5 := HZX.out.c5
        have y5 := HZX.out.fz 5
        have hltz := HZX.out.lt
        go_wp2_with fail
        have hk := (HZX.out.set6 zeroV).alloc (.cells #[.int .i64 1, .string ⟨#[]⟩, .bool false, .string ⟨#[]⟩, .string ⟨#[]⟩, .int .i64 0] 27)
        have k0 := hk.c0
        have k1 := hk.c1
        have k2 := hk.c2
        have k3 := hk.c3
        have k4 := hk.c4
        have k5 := hk.c5
        simp only [Go.Proofs.YtkbhmkofflcpjaaGreatDoor.set6, zeroV] at k0 k1 k2 k3 k4 k5
        have hb6 := below_set6 HBX.out (Nat.le_refl _) zeroV
        refine bodyPost_ret (v := .tuple #[vbV zeroV, .int .i64 8]) (by simp [results, Tryz.results23, go_sem, k0, k1, k2, k3, k4, k5, vbV, vbCells, zeroV]) rfl ⟨pv_no HE.out, hb6.alloc hb6.size _⟩
      · have HE := Lib.hid (HEC.out hd)
        clear HEN HEC
        have h5l : 4 < s.length := by
          have : ¬ s.length ≤ 4 := fun e => hd (List.drop_eq_nil_iff.2 e)
          omega
        have h5i : (4 : Int) < (s.length : Int) := by omega
        have hB : 4 < (⟨s.toArray⟩ : ByteArray).size := h5l
        have h32 : s[4] = 32 := by
          have h1 := (rest_head hd).symm.trans hr
          have h2 : (s.drop 4).head? = some 32 := by simpa using h1
          rw [List.head?_drop, List.getElem?_eq_getElem h5l] at h2
          simpa using h2
        have hc4 : ((((⟨s.toArray⟩ : ByteArray)[4]'hB).toNat : Int) != 32) = false := by
          rw [show (⟨s.toArray⟩ : ByteArray)[4]'hB = 32 from h32]
          rfl
        have hR : s.drop 4 = 32 :: s.drop 5 := by rw [drop_at' h5l, h32]
        have hx1 : (⟨(s.drop 4).toArray⟩ : ByteArray).extract 1 (s.drop 4).length = ⟨(s.drop 5).toArray⟩ := by
          rw [ext_drop (s.drop 4) 1 _ rfl, List.drop_drop]
        have hRl : (1 : Int) ≤ (((s.drop 4).length : Nat) : Int) := by rw [hR]; simp; omega
        have hne := ne_empty hd
        have hn2 : (s.drop 4 == []) = false := by
          rw [beq_eq_false_iff_ne]
          exact hd
        have hxl : (s.drop 5).length ≤ 3000 := by simp; omega
        have HR5 := Lib.hid hR
        clear h32 hR hr hd h
        have HL := Lib.hid (fun W => rlower_any (s.drop 5) W (by omega))
        have hbg := bg_new w W1 1 HZ.out HB.out
        have HG1 := Lib.hid hbg
        have hll : (lowL (s.drop 5)).length ≤ 3000 := by rw [low_len']; exact hxl
        clear hbg
        generalize s.drop 4 = R at *
        generalize lowL (s.drop 5) = y at *
        generalize s.drop 5 = x at *
        go_wp2_with fail
        refine Calls.mono (HL.out _) ?_
        rintro e w3 ⟨rfl, hb⟩
        have hg3 := HG1.out.later hb
        have u1 := hg3.v.c1
        have t1 := hg3.v.fz 1
        have hlt3 := hg3.v.lt
        have hg4 := hg3.set1 y
        have HVX := Lib.hid hg4.v
        have HZX := Lib.hid hg4.z
        have HBX := Lib.hid hg4.b
        clear hb hg3 hg4 HG1
        have HVB := Lib.hid (fun W => rverb_any ⟨1, y, false, [], [], 0⟩ W ⟨by show y.length ≤ 10000; omega, by simp, by simp⟩)
        have v0 := HVX.out.c0
        have v1 := HVX.out.c1
        have v2 := HVX.out.c2
        have v3 := HVX.out.c3
        have v4 := HVX.out.c4
        have v5 := HVX.out.c5
        cases hval : validV ⟨1, y, false, [], [], 0⟩ with
        | true =>
          rw [hval] at HVB
          have HR := Lib.hid (pv_good HE.out hval)
          clear hval
          go_wp2_with fail
          refine Calls.mono (show _ from HVB.out _) ?_
          rintro e w9 ⟨rfl, hb⟩
          have HV9 := Lib.hid (HVX.out.later hb)
          have HZ9 := Lib.hid (HZX.out.later hb)
          have HB9 := Lib.hid (HBX.out.trans (hb.mono HBX.out.size))
          clear hb HVX HZX HBX
          clear v0 v1 v2 v3 v4 v5
          have HVX := HV9
          have HZX := HZ9
          have HBX := HB9
          clear HV9 HZ9 HB9
          have v0 := HVX.out.c0
          have v1 := HVX.out.c1
          have v2 := HVX.out.c2
          have v3 := HVX.out.c3
          have v4 := HVX.out.c4
          have v5 := HVX.out.c5
          have z0 := HZX.out.c0
          have y0 := HZX.out.fz 0
          have z1 := HZX.out.c1
          have y1 := HZX.out.fz 1
          have z2 := HZX.out.c2
          have y2 := HZX.out.fz 2
          have z3 := HZX.out.c3
          have y3 := HZX.out.fz 3
          have z4 := HZX.out.c4
          have y4 := HZX.out.fz 4
          have z5 := HZX.out.c5
          have y5 := HZX.out.fz 5
          go_wp2_with fail
          have hk := HZX.out.set6 ⟨1, y, false, [], [], 0⟩
          have k0 := hk.c0
          have k1 := hk.c1
          have k2 := hk.c2
          have k3 := hk.c3
          have k4 := hk.c4
          have k5 := hk.c5
          simp only [Go.Proofs.YtkbhmkofflcpjaaGreatDoor.set6] at k0 k1 k2 k3 k4 k5
          refine bodyPost_ret (v := .tuple #[vbV ⟨1, y, false, [], [], 0⟩, .int .i64 0]) (by simp [results, Tryz.results23, go_sem, k0, k1, k2, k3, k4, k5, vbV, vbCells]) rfl ⟨HR.out, below_set6 HBX.out (Nat.le_refl _) ⟨1, y, false, [], [], 0⟩⟩
        | false =>
          rw [hval] at HVB
          have HR := Lib.hid (pv_bad HE.out hval)
          clear hval
          go_wp2_with fail
          refine Calls.mono (show _ from HVB.out _) ?_
          rintro e w9 ⟨rfl, hb⟩
          have HV9 := Lib.hid (HVX.out.later hb)
          have HZ9 := Lib.hid (HZX.out.later hb)
          have HB9 := Lib.hid (HBX.out.trans (hb.mono HBX.out.size))
          clear hb HVX HZX HBX
          clear v0 v1 v2 v3 v4 v5
          have HVX := HV9
          have HZX := HZ9
          have HBX := HB9
          clear HV9 HZ9 HB9
          have z0 := HZX.out.c0
          have y0 := HZX.out.fz 0
          have z1 := HZX.out.c1
          have y1 := HZX.out.fz 1
          have z2 := HZX.out.c2
          have y2 := HZX.out.fz 2
          have z3 := HZX.out.c3
          have y3 := HZX.out.fz 3
          have z4 := HZX.out.c4
          have y4 := HZX.out.fz 4
          have z5 := HZX.out.c5
          have y5 := HZX.out.fz 5
          go_wp2_with fail
          have hk := HZX.out.set6 zeroV
          have k0 := hk.c0
          have k1 := hk.c1
          have k2 := hk.c2
          have k3 := hk.c3
          have k4 := hk.c4
          have k5 := hk.c5
          simp only [Go.Proofs.YtkbhmkofflcpjaaGreatDoor.set6, zeroV] at k0 k1 k2 k3 k4 k5
          refine bodyPost_ret (v := .tuple #[vbV zeroV, .int .i64 8]) (by simp [results, Tryz.results23, go_sem, k0, k1, k2, k3, k4, k5, vbV, vbCells, zeroV]) rfl ⟨HR.out, below_set6 HBX.out (Nat.le_refl _) zeroV⟩

set_option maxHeartbeats 4000000 in
theorem pv_helo2 (s : List UInt8) (w : World) (hs : s.length ≤ 3000) (hr : restOk s = true) (h : kindL s = 2) :
    Calls Tryz.prog 23 #[.string ⟨s.toArray⟩] w fun e w' => e = pvE (readV s) ∧ Below w.heap.size w w' := by
  have HA := Lib.hid ((Below.refl _ w).alloc (Nat.le_refl _) (.cells #[.int .i64 0, .string ⟨#[]⟩, .bool false, .string ⟨#[]⟩, .string ⟨#[]⟩, .int .i64 0] 27))
  have HZ0 := Lib.hid (VAt.new w zeroV)
  have HEN := Lib.hid (show s.drop 4 = [] → readV s = (zeroV, 8) from fun hd => by
    unfold readV
    rw [if_neg (read_pass (by omega) hr), if_pos (by omega), if_pos hd])
  have HEC := Lib.hid (show s.drop 4 ≠ [] → readV s = outV ⟨2, lowL (s.drop 5), false, [], [], 0⟩ from fun hd => by
    unfold readV
    rw [if_neg (read_pass (by omega) hr), if_pos (by omega), if_neg hd, h])
  go_enter Tryz.func23, Tryz.ntmps23
  go_wp2_with fail
  go_loopg [4, 5] 9 (fun g s4 s5 wx => Below w.heap.size w wx ∧ VAt wx w.heap.size zeroV ∧ ∃ (k : Nat) (K : Int), s4 = .int .i64 K ∧ s5 = .int .i64 k ∧ k + g = 10 ∧ 1 ≤ k ∧ ((K = 0 ∧ ∀ j : Nat, 1 ≤ j → j < k → beginsL s (nameL (j : Int)) = false) ∨ K = kindL s))
  case atStart => exact ⟨HA.out, HZ0.out, 1, 0, rfl, rfl, by omega, by omega, .inl ⟨rfl, fun j h1 h2 => by omega⟩⟩
  case round =>
    obtain ⟨hb, hz, k, K, rfl, rfl, hkg, h1, hK⟩ := hrel
    have HB := Lib.hid hb
    have HZ := Lib.hid hz
    have HKK := Lib.hid hK
    clear hb hz hK HA HZ0
    cases gk with
    | succ g =>
      have hk9 : (k : Int) ≤ 9 := by omega
      have HNM := Lib.hid (rname_lit k wr h1 (by omega))
      have hnl := name_len (k : Int)
      have HBG := Lib.hid (rbegins_any s (nameL (k : Int)) wr (by omega) (by omega))
      cases hbg : beginsL s (nameL (k : Int)) with
      | false =>
        have HN2 : Hid ((K = 0 ∧ ∀ j : Nat, 1 ≤ j → j < k + 1 → beginsL s (nameL (j : Int)) = false) ∨ K = kindL s) := Lib.hid (HKK.out.imp (fun h => ⟨h.1, fun j hj1 hj2 => by
          by_cases hjk : j = k
          · subst hjk
            exact hbg
          · exact h.2 j hj1 (by omega)⟩) id)
        rw [hbg] at HBG
        clear hbg
        generalize nameL (k : Int) = nm at *
        go_wp2_with fail
        refine Calls.mono HNM.out ?_
        rintro e w1 ⟨rfl, rfl⟩
        go_wp2_with fail
        refine Calls.mono HBG.out ?_
        rintro e w1 ⟨rfl, hb1⟩
        have HB1 := Lib.hid (HB.out.trans (hb1.mono HB.out.size))
        have HZ1 := Lib.hid (HZ.out.later hb1)
        clear hb1
        go_wp2_with fail
        go_roundg g
        case measure => omega
        case rel => exact ⟨HB1.out, HZ1.out, k + 1, K, rfl, by simp, by omega, by omega, HN2.out⟩
      | true =>
        have HK2 := Lib.hid (kind_begins h1 (by omega) hbg)
        rw [hbg] at HBG
        clear hbg
        generalize nameL (k : Int) = nm at *
        go_wp2_with fail
        refine Calls.mono HNM.out ?_
        rintro e w1 ⟨rfl, rfl⟩
        go_wp2_with fail
        refine Calls.mono HBG.out ?_
        rintro e w1 ⟨rfl, hb1⟩
        have HB1 := Lib.hid (HB.out.trans (hb1.mono HB.out.size))
        have HZ1 := Lib.hid (HZ.out.later hb1)
        clear hb1
        go_wp2_with fail
        go_roundg g
        case measure => omega
        case rel => exact ⟨HB1.out, HZ1.out, k + 1, (k : Int), rfl, by simp, by omega, by omega, .inr HK2.out.symm⟩
    | zero =>
      obtain rfl : k = 10 := by omega
      have HK : K = kindL s := by
        rcases HKK.out with ⟨h0, hn⟩ | h
        · rw [h0, kind_zero hn]
        · exact h
      rw [show ((10 : Nat) : Int) = 10 from rfl]
      generalize wr = W1 at *
      clear HKK hkg h1
      rw [h] at HK
      subst HK
      have h4l : 4 ≤ s.length := (kind_range s).2.2 (by omega)
      have h4i : (4 : Int) ≤ (s.length : Int) := by omega
      have hex := ext_drop s 4 s.length rfl
      by_cases hd : s.drop 4 = []
      · have HE := Lib.hid (HEN.out hd)
        clear HEN HEC
        have h5i : ¬ ((4 : Int) < (s.length : Int)) := by
          have : s.length ≤ 4 := List.drop_eq_nil_iff.1 hd
          omega
        rw [hd] at hex
        clear hr h hd
        have HZX := HZ
        have HBX := HB
        have z0 := HZX.out.c0
        have y0 := HZX.out.fz 0
        have z1 := HZX.out.c1
        have y1 := HZX.out.fz 1
        have z2 := HZX.out.c2
        have y2 := HZX.out.fz 2
        have z3 := HZX.out.c3
        have y3 := HZX.out.fz 3
        have z4 := HZX.out.c4
        have y4 := HZX.out.fz 4
        have z5 := HZX.out.c5
        have y5 := HZX.out.fz 5
        have hltz := HZX.out.lt
        go_wp2_with fail
        have hk := (HZX.out.set6 zeroV).alloc (.cells #[.int .i64 2, .string ⟨#[]⟩, .bool false, .string ⟨#[]⟩, .string ⟨#[]⟩, .int .i64 0] 27)
        have k0 := hk.c0
        have k1 := hk.c1
        have k2 := hk.c2
        have k3 := hk.c3
        have k4 := hk.c4
        have k5 := hk.c5
        simp only [Go.Proofs.YtkbhmkofflcpjaaGreatDoor.set6, zeroV] at k0 k1 k2 k3 k4 k5
        have hb6 := below_set6 HBX.out (Nat.le_refl _) zeroV
        refine bodyPost_ret (v := .tuple #[vbV zeroV, .int .i64 8]) (by simp [results, Tryz.results23, go_sem, k0, k1, k2, k3, k4, k5, vbV, vbCells, zeroV]) rfl ⟨pv_no HE.out, hb6.alloc hb6.size _⟩
      · have HE := Lib.hid (HEC.out hd)
        clear HEN HEC
        have h5l : 4 < s.length := by
          have : ¬ s.length ≤ 4 := fun e => hd (List.drop_eq_nil_iff.2 e)
          omega
        have h5i : (4 : Int) < (s.length : Int) := by omega
        have hB : 4 < (⟨s.toArray⟩ : ByteArray).size := h5l
        have h32 : s[4] = 32 := by
          have h1 := (rest_head hd).symm.trans hr
          have h2 : (s.drop 4).head? = some 32 := by simpa using h1
          rw [List.head?_drop, List.getElem?_eq_getElem h5l] at h2
          simpa using h2
        have hc4 : ((((⟨s.toArray⟩ : ByteArray)[4]'hB).toNat : Int) != 32) = false := by
          rw [show (⟨s.toArray⟩ : ByteArray)[4]'hB = 32 from h32]
          rfl
        have hR : s.drop 4 = 32 :: s.drop 5 := by rw [drop_at' h5l, h32]
        have hx1 : (⟨(s.drop 4).toArray⟩ : ByteArray).extract 1 (s.drop 4).length = ⟨(s.drop 5).toArray⟩ := by
          rw [ext_drop (s.drop 4) 1 _ rfl, List.drop_drop]
        have hRl : (1 : Int) ≤ (((s.drop 4).length : Nat) : Int) := by rw [hR]; simp; omega
        have hne := ne_empty hd
        have hn2 : (s.drop 4 == []) = false := by
          rw [beq_eq_false_iff_ne]
          exact hd
        have hxl : (s.drop 5).length ≤ 3000 := by simp; omega
        have HR5 := Lib.hid hR
        clear h32 hR hr hd h
        have HL := Lib.hid (fun W => rlower_any (s.drop 5) W (by omega))
        have hbg := bg_new w W1 2 HZ.out HB.out
        have HG1 := Lib.hid hbg
        have hll : (lowL (s.drop 5)).length ≤ 3000 := by rw [low_len']; exact hxl
        clear hbg
        generalize s.drop 4 = R at *
        generalize lowL (s.drop 5) = y at *
        generalize s.drop 5 = x at *
        go_wp2_with fail
        refine Calls.mono (HL.out _) ?_
        rintro e w3 ⟨rfl, hb⟩
        have hg3 := HG1.out.later hb
        have u1 := hg3.v.c1
        have t1 := hg3.v.fz 1
        have hlt3 := hg3.v.lt
        have hg4 := hg3.set1 y
        have HVX := Lib.hid hg4.v
        have HZX := Lib.hid hg4.z
        have HBX := Lib.hid hg4.b
        clear hb hg3 hg4 HG1
        have HVB := Lib.hid (fun W => rverb_any ⟨2, y, false, [], [], 0⟩ W ⟨by show y.length ≤ 10000; omega, by simp, by simp⟩)
        have v0 := HVX.out.c0
        have v1 := HVX.out.c1
        have v2 := HVX.out.c2
        have v3 := HVX.out.c3
        have v4 := HVX.out.c4
        have v5 := HVX.out.c5
        cases hval : validV ⟨2, y, false, [], [], 0⟩ with
        | true =>
          rw [hval] at HVB
          have HR := Lib.hid (pv_good HE.out hval)
          clear hval
          go_wp2_with fail
          refine Calls.mono (show _ from HVB.out _) ?_
          rintro e w9 ⟨rfl, hb⟩
          have HV9 := Lib.hid (HVX.out.later hb)
          have HZ9 := Lib.hid (HZX.out.later hb)
          have HB9 := Lib.hid (HBX.out.trans (hb.mono HBX.out.size))
          clear hb HVX HZX HBX
          clear v0 v1 v2 v3 v4 v5
          have HVX := HV9
          have HZX := HZ9
          have HBX := HB9
          clear HV9 HZ9 HB9
          have v0 := HVX.out.c0
          have v1 := HVX.out.c1
          have v2 := HVX.out.c2
          have v3 := HVX.out.c3
          have v4 := HVX.out.c4
          have v5 := HVX.out.c5
          have z0 := HZX.out.c0
          have y0 := HZX.out.fz 0
          have z1 := HZX.out.c1
          have y1 := HZX.out.fz 1
          have z2 := HZX.out.c2
          have y2 := HZX.out.fz 2
          have z3 := HZX.out.c3
          have y3 := HZX.out.fz 3
          have z4 := HZX.out.c4
          have y4 := HZX.out.fz 4
          have z5 := HZX.out.c5
          have y5 := HZX.out.fz 5
          go_wp2_with fail
          have hk := HZX.out.set6 ⟨2, y, false, [], [], 0⟩
          have k0 := hk.c0
          have k1 := hk.c1
          have k2 := hk.c2
          have k3 := hk.c3
          have k4 := hk.c4
          have k5 := hk.c5
          simp only [Go.Proofs.YtkbhmkofflcpjaaGreatDoor.set6] at k0 k1 k2 k3 k4 k5
          refine bodyPost_ret (v := .tuple #[vbV ⟨2, y, false, [], [], 0⟩, .int .i64 0]) (by simp [results, Tryz.results23, go_sem, k0, k1, k2, k3, k4, k5, vbV, vbCells]) rfl ⟨HR.out, below_set6 HBX.out (Nat.le_refl _) ⟨2, y, false, [], [], 0⟩⟩
        | false =>
          rw [hval] at HVB
          have HR := Lib.hid (pv_bad HE.out hval)
          clear hval
          go_wp2_with fail
          refine Calls.mono (show _ from HVB.out _) ?_
          rintro e w9 ⟨rfl, hb⟩
          have HV9 := Lib.hid (HVX.out.later hb)
          have HZ9 := Lib.hid (HZX.out.later hb)
          have HB9 := Lib.hid (HBX.out.trans (hb.mono HBX.out.size))
          clear hb HVX HZX HBX
          clear v0 v1 v2 v3 v4 v5
          have HVX := HV9
          have HZX := HZ9
          have HBX := HB9
          clear HV9 HZ9 HB9
          have z0 := HZX.out.c0
          have y0 := HZX.out.fz 0
          have z1 := HZX.out.c1
          have y1 := HZX.out.fz 1
          have z2 := HZX.out.c2
          have y2 := HZX.out.fz 2
          have z3 := HZX.out.c3
          have y3 := HZX.out.fz 3
          have z4 := HZX.out.c4
          have y4 := HZX.out.fz 4
          have z5 := HZX.out.c5
          have y5 := HZX.out.fz 5
          go_wp2_with fail
          have hk := HZX.out.set6 zeroV
          have k0 := hk.c0
          have k1 := hk.c1
          have k2 := hk.c2
          have k3 := hk.c3
          have k4 := hk.c4
          have k5 := hk.c5
          simp only [Go.Proofs.YtkbhmkofflcpjaaGreatDoor.set6, zeroV] at k0 k1 k2 k3 k4 k5
          refine bodyPost_ret (v := .tuple #[vbV zeroV, .int .i64 8]) (by simp [results, Tryz.results23, go_sem, k0, k1, k2, k3, k4, k5, vbV, vbCells, zeroV]) rfl ⟨HR.out, below_set6 HBX.out (Nat.le_refl _) zeroV⟩

set_option maxHeartbeats 4000000 in
theorem pv_noop (s : List UInt8) (w : World) (hs : s.length ≤ 3000) (hr : restOk s = true) (h : kindL s = 7) :
    Calls Tryz.prog 23 #[.string ⟨s.toArray⟩] w fun e w' => e = pvE (readV s) ∧ Below w.heap.size w w' := by
  have HA := Lib.hid ((Below.refl _ w).alloc (Nat.le_refl _) (.cells #[.int .i64 0, .string ⟨#[]⟩, .bool false, .string ⟨#[]⟩, .string ⟨#[]⟩, .int .i64 0] 27))
  have HZ0 := Lib.hid (VAt.new w zeroV)
  have HEQ := Lib.hid (show readV s = if s.drop 4 = [32] then (zeroV, 8) else outV ⟨7, s.drop 5, false, [], [], 0⟩ by
    unfold readV
    rw [if_neg (read_pass (by omega) hr), if_neg (by omega), if_pos (by omega), h])
  have HEN := Lib.hid (show s.drop 4 = [] → readV s = outV ⟨7, [], false, [], [], 0⟩ from fun hd => by
    rw [HEQ.out, hd, if_neg (by simp)]
    rw [show s.drop 5 = [] by rw [show s.drop 5 = (s.drop 4).drop 1 by rw [List.drop_drop], hd]; rfl])
  have HEC := Lib.hid (show s.drop 4 ≠ [] → True from fun _ => trivial)
  go_enter Tryz.func23, Tryz.ntmps23
  go_wp2_with fail
  go_loopg [4, 5] 9 (fun g s4 s5 wx => Below w.heap.size w wx ∧ VAt wx w.heap.size zeroV ∧ ∃ (k : Nat) (K : Int), s4 = .int .i64 K ∧ s5 = .int .i64 k ∧ k + g = 10 ∧ 1 ≤ k ∧ ((K = 0 ∧ ∀ j : Nat, 1 ≤ j → j < k → beginsL s (nameL (j : Int)) = false) ∨ K = kindL s))
  case atStart => exact ⟨HA.out, HZ0.out, 1, 0, rfl, rfl, by omega, by omega, .inl ⟨rfl, fun j h1 h2 => by omega⟩⟩
  case round =>
    obtain ⟨hb, hz, k, K, rfl, rfl, hkg, h1, hK⟩ := hrel
    have HB := Lib.hid hb
    have HZ := Lib.hid hz
    have HKK := Lib.hid hK
    clear hb hz hK HA HZ0
    cases gk with
    | succ g =>
      have hk9 : (k : Int) ≤ 9 := by omega
      have HNM := Lib.hid (rname_lit k wr h1 (by omega))
      have hnl := name_len (k : Int)
      have HBG := Lib.hid (rbegins_any s (nameL (k : Int)) wr (by omega) (by omega))
      cases hbg : beginsL s (nameL (k : Int)) with
      | false =>
        have HN2 : Hid ((K = 0 ∧ ∀ j : Nat, 1 ≤ j → j < k + 1 → beginsL s (nameL (j : Int)) = false) ∨ K = kindL s) := Lib.hid (HKK.out.imp (fun h => ⟨h.1, fun j hj1 hj2 => by
          by_cases hjk : j = k
          · subst hjk
            exact hbg
          · exact h.2 j hj1 (by omega)⟩) id)
        rw [hbg] at HBG
        clear hbg
        generalize nameL (k : Int) = nm at *
        go_wp2_with fail
        refine Calls.mono HNM.out ?_
        rintro e w1 ⟨rfl, rfl⟩
        go_wp2_with fail
        refine Calls.mono HBG.out ?_
        rintro e w1 ⟨rfl, hb1⟩
        have HB1 := Lib.hid (HB.out.trans (hb1.mono HB.out.size))
        have HZ1 := Lib.hid (HZ.out.later hb1)
        clear hb1
        go_wp2_with fail
        go_roundg g
        case measure => omega
        case rel => exact ⟨HB1.out, HZ1.out, k + 1, K, rfl, by simp, by omega, by omega, HN2.out⟩
      | true =>
        have HK2 := Lib.hid (kind_begins h1 (by omega) hbg)
        rw [hbg] at HBG
        clear hbg
        generalize nameL (k : Int) = nm at *
        go_wp2_with fail
        refine Calls.mono HNM.out ?_
        rintro e w1 ⟨rfl, rfl⟩
        go_wp2_with fail
        refine Calls.mono HBG.out ?_
        rintro e w1 ⟨rfl, hb1⟩
        have HB1 := Lib.hid (HB.out.trans (hb1.mono HB.out.size))
        have HZ1 := Lib.hid (HZ.out.later hb1)
        clear hb1
        go_wp2_with fail
        go_roundg g
        case measure => omega
        case rel => exact ⟨HB1.out, HZ1.out, k + 1, (k : Int), rfl, by simp, by omega, by omega, .inr HK2.out.symm⟩
    | zero =>
      obtain rfl : k = 10 := by omega
      have HK : K = kindL s := by
        rcases HKK.out with ⟨h0, hn⟩ | h
        · rw [h0, kind_zero hn]
        · exact h
      rw [show ((10 : Nat) : Int) = 10 from rfl]
      generalize wr = W1 at *
      clear HKK hkg h1
      rw [h] at HK
      subst HK
      have h4l : 4 ≤ s.length := (kind_range s).2.2 (by omega)
      have h4i : (4 : Int) ≤ (s.length : Int) := by omega
      have hex := ext_drop s 4 s.length rfl
      by_cases hd : s.drop 4 = []
      · have HE := Lib.hid (HEN.out hd)
        clear HEN HEC
        have h5i : ¬ ((4 : Int) < (s.length : Int)) := by
          have : s.length ≤ 4 := List.drop_eq_nil_iff.1 hd
          omega
        rw [hd] at hex
        clear hr h hd
        clear HEQ
        have hbg := bg_new w W1 7 HZ.out HB.out
        have HVX := Lib.hid hbg.v
        have HZX := Lib.hid hbg.z
        have HBX := Lib.hid hbg.b
        clear hbg
        have HVB := Lib.hid (fun W => rverb_any ⟨7, [], false, [], [], 0⟩ W ⟨by simp, by simp, by simp⟩)
        have v0 := HVX.out.c0
        have v1 := HVX.out.c1
        have v2 := HVX.out.c2
        have v3 := HVX.out.c3
        have v4 := HVX.out.c4
        have v5 := HVX.out.c5
        cases hval : validV ⟨7, [], false, [], [], 0⟩ with
        | true =>
          rw [hval] at HVB
          have HR := Lib.hid (pv_good HE.out hval)
          clear hval
          go_wp2_with fail
          refine Calls.mono (show _ from HVB.out _) ?_
          rintro e w9 ⟨rfl, hb⟩
          have HV9 := Lib.hid (HVX.out.later hb)
          have HZ9 := Lib.hid (HZX.out.later hb)
          have HB9 := Lib.hid (HBX.out.trans (hb.mono HBX.out.size))
          clear hb HVX HZX HBX
          clear v0 v1 v2 v3 v4 v5
          have HVX := HV9
          have HZX := HZ9
          have HBX := HB9
          clear HV9 HZ9 HB9
          have v0 := HVX.out.c0
          have v1 := HVX.out.c1
          have v2 := HVX.out.c2
          have v3 := HVX.out.c3
          have v4 := HVX.out.c4
          have v5 := HVX.out.c5
          have z0 := HZX.out.c0
          have y0 := HZX.out.fz 0
          have z1 := HZX.out.c1
          have y1 := HZX.out.fz 1
          have z2 := HZX.out.c2
          have y2 := HZX.out.fz 2
          have z3 := HZX.out.c3
          have y3 := HZX.out.fz 3
          have z4 := HZX.out.c4
          have y4 := HZX.out.fz 4
          have z5 := HZX.out.c5
          have y5 := HZX.out.fz 5
          go_wp2_with fail
          have hk := HZX.out.set6 ⟨7, [], false, [], [], 0⟩
          have k0 := hk.c0
          have k1 := hk.c1
          have k2 := hk.c2
          have k3 := hk.c3
          have k4 := hk.c4
          have k5 := hk.c5
          simp only [Go.Proofs.YtkbhmkofflcpjaaGreatDoor.set6] at k0 k1 k2 k3 k4 k5
          refine bodyPost_ret (v := .tuple #[vbV ⟨7, [], false, [], [], 0⟩, .int .i64 0]) (by simp [results, Tryz.results23, go_sem, k0, k1, k2, k3, k4, k5, vbV, vbCells]) rfl ⟨HR.out, below_set6 HBX.out (Nat.le_refl _) ⟨7, [], false, [], [], 0⟩⟩
        | false =>
          rw [hval] at HVB
          have HR := Lib.hid (pv_bad HE.out hval)
          clear hval
          go_wp2_with fail
          refine Calls.mono (show _ from HVB.out _) ?_
          rintro e w9 ⟨rfl, hb⟩
          have HV9 := Lib.hid (HVX.out.later hb)
          have HZ9 := Lib.hid (HZX.out.later hb)
          have HB9 := Lib.hid (HBX.out.trans (hb.mono HBX.out.size))
          clear hb HVX HZX HBX
          clear v0 v1 v2 v3 v4 v5
          have HVX := HV9
          have HZX := HZ9
          have HBX := HB9
          clear HV9 HZ9 HB9
          have z0 := HZX.out.c0
          have y0 := HZX.out.fz 0
          have z1 := HZX.out.c1
          have y1 := HZX.out.fz 1
          have z2 := HZX.out.c2
          have y2 := HZX.out.fz 2
          have z3 := HZX.out.c3
          have y3 := HZX.out.fz 3
          have z4 := HZX.out.c4
          have y4 := HZX.out.fz 4
          have z5 := HZX.out.c5
          have y5 := HZX.out.fz 5
          go_wp2_with fail
          have hk := HZX.out.set6 zeroV
          have k0 := hk.c0
          have k1 := hk.c1
          have k2 := hk.c2
          have k3 := hk.c3
          have k4 := hk.c4
          have k5 := hk.c5
          simp only [Go.Proofs.YtkbhmkofflcpjaaGreatDoor.set6, zeroV] at k0 k1 k2 k3 k4 k5
          refine bodyPost_ret (v := .tuple #[vbV zeroV, .int .i64 8]) (by simp [results, Tryz.results23, go_sem, k0, k1, k2, k3, k4, k5, vbV, vbCells, zeroV]) rfl ⟨HR.out, below_set6 HBX.out (Nat.le_refl _) zeroV⟩
      · have HE := Lib.hid (HEC.out hd)
        clear HEN HEC
        have h5l : 4 < s.length := by
          have : ¬ s.length ≤ 4 := fun e => hd (List.drop_eq_nil_iff.2 e)
          omega
        have h5i : (4 : Int) < (s.length : Int) := by omega
        have hB : 4 < (⟨s.toArray⟩ : ByteArray).size := h5l
        have h32 : s[4] = 32 := by
          have h1 := (rest_head hd).symm.trans hr
          have h2 : (s.drop 4).head? = some 32 := by simpa using h1
          rw [List.head?_drop, List.getElem?_eq_getElem h5l] at h2
          simpa using h2
        have hc4 : ((((⟨s.toArray⟩ : ByteArray)[4]'hB).toNat : Int) != 32) = false := by
          rw [show (⟨s.toArray⟩ : ByteArray)[4]'hB = 32 from h32]
          rfl
        have hR : s.drop 4 = 32 :: s.drop 5 := by rw [drop_at' h5l, h32]
        have hx1 : (⟨(s.drop 4).toArray⟩ : ByteArray).extract 1 (s.drop 4).length = ⟨(s.drop 5).toArray⟩ := by
          rw [ext_drop (s.drop 4) 1 _ rfl, List.drop_drop]
        have hRl : (1 : Int) ≤ (((s.drop 4).length : Nat) : Int) := by rw [hR]; simp; omega
        have hne := ne_empty hd
        have hn2 : (s.drop 4 == []) = false := by
          rw [beq_eq_false_iff_ne]
          exact hd
        have hxl : (s.drop 5).length ≤ 3000 := by simp; omega
        have HR5 := Lib.hid hR
        clear h32 hR hr hd h
        clear HE
        by_cases hq : s.drop 4 = [32]
        · have HE := Lib.hid (HEQ.out.trans (if_pos hq))
          have HZX := HZ
          have HBX := HB
          have hx0 : s.drop 5 = [] := by
            have := HR5.out
            rw [hq] at this
            simpa using this.symm
          rw [hx0, hq] at hx1
          rw [hq] at hex hRl hne hn2
          clear hq hx0 HR5 HEQ
          have z0 := HZX.out.c0
          have y0 := HZX.out.fz 0
          have z1 := HZX.out.c1
          have y1 := HZX.out.fz 1
          have z2 := HZX.out.c2
          have y2 := HZX.out.fz 2
          have z3 := HZX.out.c3
          have y3 := HZX.out.fz 3
          have z4 := HZX.out.c4
          have y4 := HZX.out.fz 4
          have z5 := HZX.out.c5
          have y5 := HZX.out.fz 5
          have hltz := HZX.out.lt
          go_wp2_with fail
          have hk := (HZX.out.set6 zeroV).alloc (.cells #[.int .i64 7, .string ByteArray.empty, .bool false, .string ⟨#[]⟩, .string ⟨#[]⟩, .int .i64 0] 27)
          have k0 := hk.c0
          have k1 := hk.c1
          have k2 := hk.c2
          have k3 := hk.c3
          have k4 := hk.c4
          have k5 := hk.c5
          simp only [Go.Proofs.YtkbhmkofflcpjaaGreatDoor.set6, zeroV] at k0 k1 k2 k3 k4 k5
          have hb6 := below_set6 HBX.out (Nat.le_refl _) zeroV
          refine bodyPost_ret (v := .tuple #[vbV zeroV, .int .i64 8]) (by simp [results, Tryz.results23, go_sem, k0, k1, k2, k3, k4, k5, vbV, vbCells, zeroV]) rfl ⟨pv_no HE.out, hb6.alloc hb6.size _⟩
        · have HE := Lib.hid (HEQ.out.trans (if_neg hq))
          have hnq : (s.drop 4 == [32]) = false := by
            rw [beq_eq_false_iff_ne]
            exact hq
          clear hq HR5 HEQ
          generalize s.drop 4 = R at *
          generalize s.drop 5 = x at *
          have hbg := HB.out.alloc HB.out.size (.cells #[.int .i64 7, .string ⟨x.toArray⟩, .bool false, .string ⟨#[]⟩, .string ⟨#[]⟩, .int .i64 0] 27)
          have HVX := Lib.hid (VAt.new W1 ⟨7, x, false, [], [], 0⟩)
          have HZX := Lib.hid (HZ.out.alloc (.cells #[.int .i64 7, .string ⟨x.toArray⟩, .bool false, .string ⟨#[]⟩, .string ⟨#[]⟩, .int .i64 0] 27))
          have HBX := Lib.hid hbg
          clear hbg
          have HVB := Lib.hid (fun W => rverb_any ⟨7, x, false, [], [], 0⟩ W ⟨by show x.length ≤ 10000; omega, by simp, by simp⟩)
          have v0 := HVX.out.c0
          have v1 := HVX.out.c1
          have v2 := HVX.out.c2
          have v3 := HVX.out.c3
          have v4 := HVX.out.c4
          have v5 := HVX.out.c5
          cases hval : validV ⟨7, x, false, [], [], 0⟩ with
          | true =>
            rw [hval] at HVB
            have HR := Lib.hid (pv_good HE.out hval)
            clear hval
            go_wp2_with fail
            refine Calls.mono (show _ from HVB.out _) ?_
            rintro e w9 ⟨rfl, hb⟩
            have HV9 := Lib.hid (HVX.out.later hb)
            have HZ9 := Lib.hid (HZX.out.later hb)
            have HB9 := Lib.hid (HBX.out.trans (hb.mono HBX.out.size))
            clear hb HVX HZX HBX
            clear v0 v1 v2 v3 v4 v5
            have HVX := HV9
            have HZX := HZ9
            have HBX := HB9
            clear HV9 HZ9 HB9
            have v0 := HVX.out.c0
            have v1 := HVX.out.c1
            have v2 := HVX.out.c2
            have v3 := HVX.out.c3
            have v4 := HVX.out.c4
            have v5 := HVX.out.c5
            have z0 := HZX.out.c0
            have y0 := HZX.out.fz 0
            have z1 := HZX.out.c1
            have y1 := HZX.out.fz 1
            have z2 := HZX.out.c2
            have y2 := HZX.out.fz 2
            have z3 := HZX.out.c3
            have y3 := HZX.out.fz 3
            have z4 := HZX.out.c4
            have y4 := HZX.out.fz 4
            have z5 := HZX.out.c5
            have y5 := HZX.out.fz 5
            go_wp2_with fail
            have hk := HZX.out.set6 ⟨7, x, false, [], [], 0⟩
            have k0 := hk.c0
            have k1 := hk.c1
            have k2 := hk.c2
            have k3 := hk.c3
            have k4 := hk.c4
            have k5 := hk.c5
            simp only [Go.Proofs.YtkbhmkofflcpjaaGreatDoor.set6] at k0 k1 k2 k3 k4 k5
            refine bodyPost_ret (v := .tuple #[vbV ⟨7, x, false, [], [], 0⟩, .int .i64 0]) (by simp [results, Tryz.results23, go_sem, k0, k1, k2, k3, k4, k5, vbV, vbCells]) rfl ⟨HR.out, below_set6 HBX.out (Nat.le_refl _) ⟨7, x, false, [], [], 0⟩⟩
          | false =>
            rw [hval] at HVB
            have HR := Lib.hid (pv_bad HE.out hval)
            clear hval
            go_wp2_with fail
            refine Calls.mono (show _ from HVB.out _) ?_
            rintro e w9 ⟨rfl, hb⟩
            have HV9 := Lib.hid (HVX.out.later hb)
            have HZ9 := Lib.hid (HZX.out.later hb)
            have HB9 := Lib.hid (HBX.out.trans (hb.mono HBX.out.size))
            clear hb HVX HZX HBX
            clear v0 v1 v2 v3 v4 v5
            have HVX := HV9
            have HZX := HZ9
            have HBX := HB9
            clear HV9 HZ9 HB9
            have z0 := HZX.out.c0
            have y0 := HZX.out.fz 0
            have z1 := HZX.out.c1
            have y1 := HZX.out.fz 1
            have z2 := HZX.out.c2
            have y2 := HZX.out.fz 2
            have z3 := HZX.out.c3
            have y3 := HZX.out.fz 3
            have z4 := HZX.out.c4
            have y4 := HZX.out.fz 4
            have z5 := HZX.out.c5
            have y5 := HZX.out.fz 5
            go_wp2_with fail
            have hk := HZX.out.set6 zeroV
            have k0 := hk.c0
            have k1 := hk.c1
            have k2 := hk.c2
            have k3 := hk.c3
            have k4 := hk.c4
            have k5 := hk.c5
            simp only [Go.Proofs.YtkbhmkofflcpjaaGreatDoor.set6, zeroV] at k0 k1 k2 k3 k4 k5
            refine bodyPost_ret (v := .tuple #[vbV zeroV, .int .i64 8]) (by simp [results, Tryz.results23, go_sem, k0, k1, k2, k3, k4, k5, vbV, vbCells, zeroV]) rfl ⟨HR.out, below_set6 HBX.out (Nat.le_refl _) zeroV⟩

set_option maxHeartbeats 4000000 in
theorem pv_vrfy (s : List UInt8) (w : World) (hs : s.length ≤ 3000) (hr : restOk s = true) (h : kindL s = 9) :
    Calls Tryz.prog 23 #[.string ⟨s.toArray⟩] w fun e w' => e = pvE (readV s) ∧ Below w.heap.size w w' := by
  have HA := Lib.hid ((Below.refl _ w).alloc (Nat.le_refl _) (.cells #[.int .i64 0, .string ⟨#[]⟩, .bool false, .string ⟨#[]⟩, .string ⟨#[]⟩, .int .i64 0] 27))
  have HZ0 := Lib.hid (VAt.new w zeroV)
  have HEQ := Lib.hid (show readV s = if s.drop 4 = [32] then (zeroV, 8) else outV ⟨9, s.drop 5, false, [], [], 0⟩ by
    unfold readV
    rw [if_neg (read_pass (by omega) hr), if_neg (by omega), if_pos (by omega), h])
  have HEN := Lib.hid (show s.drop 4 = [] → readV s = outV ⟨9, [], false, [], [], 0⟩ from fun hd => by
    rw [HEQ.out, hd, if_neg (by simp)]
    rw [show s.drop 5 = [] by rw [show s.drop 5 = (s.drop 4).drop 1 by rw [List.drop_drop], hd]; rfl])
  have HEC := Lib.hid (show s.drop 4 ≠ [] → True from fun _ => trivial)
  go_enter Tryz.func23, Tryz.ntmps23
  go_wp2_with fail
  go_loopg [4, 5] 9 (fun g s4 s5 wx => Below w.heap.size w wx ∧ VAt wx w.heap.size zeroV ∧ ∃ (k : Nat) (K : Int), s4 = .int .i64 K ∧ s5 = .int .i64 k ∧ k + g = 10 ∧ 1 ≤ k ∧ ((K = 0 ∧ ∀ j : Nat, 1 ≤ j → j < k → beginsL s (nameL (j : Int)) = false) ∨ K = kindL s))
  case atStart => exact ⟨HA.out, HZ0.out, 1, 0, rfl, rfl, by omega, by omega, .inl ⟨rfl, fun j h1 h2 => by omega⟩⟩
  case round =>
    obtain ⟨hb, hz, k, K, rfl, rfl, hkg, h1, hK⟩ := hrel
    have HB := Lib.hid hb
    have HZ := Lib.hid hz
    have HKK := Lib.hid hK
    clear hb hz hK HA HZ0
    cases gk with
    | succ g =>
      have hk9 : (k : Int) ≤ 9 := by omega
      have HNM := Lib.hid (rname_lit k wr h1 (by omega))
      have hnl := name_len (k : Int)
      have HBG := Lib.hid (rbegins_any s (nameL (k : Int)) wr (by omega) (by omega))
      cases hbg : beginsL s (nameL (k : Int)) with
      | false =>
        have HN2 : Hid ((K = 0 ∧ ∀ j : Nat, 1 ≤ j → j < k + 1 → beginsL s (nameL (j : Int)) = false) ∨ K = kindL s) := Lib.hid (HKK.out.imp (fun h => ⟨h.1, fun j hj1 hj2 => by
          by_cases hjk : j = k
          · subst hjk
            exact hbg
          · exact h.2 j hj1 (by omega)⟩) id)
        rw [hbg] at HBG
        clear hbg
        generalize nameL (k : Int) = nm at *
        go_wp2_with fail
        refine Calls.mono HNM.out ?_
        rintro e w1 ⟨rfl, rfl⟩
        go_wp2_with fail
        refine Calls.mono HBG.out ?_
        rintro e w1 ⟨rfl, hb1⟩
        have HB1 := Lib.hid (HB.out.trans (hb1.mono HB.out.size))
        have HZ1 := Lib.hid (HZ.out.later hb1)
        clear hb1
        go_wp2_with fail
        go_roundg g
        case measure => omega
        case rel => exact ⟨HB1.out, HZ1.out, k + 1, K, rfl, by simp, by omega, by omega, HN2.out⟩
      | true =>
        have HK2 := Lib.hid (kind_begins h1 (by omega) hbg)
        rw [hbg] at HBG
        clear hbg
        generalize nameL (k : Int) = nm at *
        go_wp2_with fail
        refine Calls.mono HNM.out ?_
        rintro e w1 ⟨rfl, rfl⟩
        go_wp2_with fail
        refine Calls.mono HBG.out ?_
        rintro e w1 ⟨rfl, hb1⟩
        have HB1 := Lib.hid (HB.out.trans (hb1.mono HB.out.size))
        have HZ1 := Lib.hid (HZ.out.later hb1)
        clear hb1
        go_wp2_with fail
        go_roundg g
        case measure => omega
        case rel => exact ⟨HB1.out, HZ1.out, k + 1, (k : Int), rfl, by simp, by omega, by omega, .inr HK2.out.symm⟩
    | zero =>
      obtain rfl : k = 10 := by omega
      have HK : K = kindL s := by
        rcases HKK.out with ⟨h0, hn⟩ | h
        · rw [h0, kind_zero hn]
        · exact h
      rw [show ((10 : Nat) : Int) = 10 from rfl]
      generalize wr = W1 at *
      clear HKK hkg h1
      rw [h] at HK
      subst HK
      have h4l : 4 ≤ s.length := (kind_range s).2.2 (by omega)
      have h4i : (4 : Int) ≤ (s.length : Int) := by omega
      have hex := ext_drop s 4 s.length rfl
      by_cases hd : s.drop 4 = []
      · have HE := Lib.hid (HEN.out hd)
        clear HEN HEC
        have h5i : ¬ ((4 : Int) < (s.length : Int)) := by
          have : s.length ≤ 4 := List.drop_eq_nil_iff.1 hd
          omega
        rw [hd] at hex
        clear hr h hd
        clear HEQ
        have hbg := bg_new w W1 9 HZ.out HB.out
        have HVX := Lib.hid hbg.v
        have HZX := Lib.hid hbg.z
        have HBX := Lib.hid hbg.b
        clear hbg
        have HVB := Lib.hid (fun W => rverb_any ⟨9, [], false, [], [], 0⟩ W ⟨by simp, by simp, by simp⟩)
        have v0 := HVX.out.c0
        have v1 := HVX.out.c1
        have v2 := HVX.out.c2
        have v3 := HVX.out.c3
        have v4 := HVX.out.c4
        have v5 := HVX.out.c5
        cases hval : validV ⟨9, [], false, [], [], 0⟩ with
        | true =>
          rw [hval] at HVB
          have HR := Lib.hid (pv_good HE.out hval)
          clear hval
          go_wp2_with fail
          refine Calls.mono (show _ from HVB.out _) ?_
          rintro e w9 ⟨rfl, hb⟩
          have HV9 := Lib.hid (HVX.out.later hb)
          have HZ9 := Lib.hid (HZX.out.later hb)
          have HB9 := Lib.hid (HBX.out.trans (hb.mono HBX.out.size))
          clear hb HVX HZX HBX
          clear v0 v1 v2 v3 v4 v5
          have HVX := HV9
          have HZX := HZ9
          have HBX := HB9
          clear HV9 HZ9 HB9
          have v0 := HVX.out.c0
          have v1 := HVX.out.c1
          have v2 := HVX.out.c2
          have v3 := HVX.out.c3
          have v4 := HVX.out.c4
          have v5 := HVX.out.c5
          have z0 := HZX.out.c0
          have y0 := HZX.out.fz 0
          have z1 := HZX.out.c1
          have y1 := HZX.out.fz 1
          have z2 := HZX.out.c2
          have y2 := HZX.out.fz 2
          have z3 := HZX.out.c3
          have y3 := HZX.out.fz 3
          have z4 := HZX.out.c4
          have y4 := HZX.out.fz 4
          have z5 := HZX.out.c5
          have y5 := HZX.out.fz 5
          go_wp2_with fail
          have hk := HZX.out.set6 ⟨9, [], false, [], [], 0⟩
          have k0 := hk.c0
          have k1 := hk.c1
          have k2 := hk.c2
          have k3 := hk.c3
          have k4 := hk.c4
          have k5 := hk.c5
          simp only [Go.Proofs.YtkbhmkofflcpjaaGreatDoor.set6] at k0 k1 k2 k3 k4 k5
          refine bodyPost_ret (v := .tuple #[vbV ⟨9, [], false, [], [], 0⟩, .int .i64 0]) (by simp [results, Tryz.results23, go_sem, k0, k1, k2, k3, k4, k5, vbV, vbCells]) rfl ⟨HR.out, below_set6 HBX.out (Nat.le_refl _) ⟨9, [], false, [], [], 0⟩⟩
        | false =>
          rw [hval] at HVB
          have HR := Lib.hid (pv_bad HE.out hval)
          clear hval
          go_wp2_with fail
          refine Calls.mono (show _ from HVB.out _) ?_
          rintro e w9 ⟨rfl, hb⟩
          have HV9 := Lib.hid (HVX.out.later hb)
          have HZ9 := Lib.hid (HZX.out.later hb)
          have HB9 := Lib.hid (HBX.out.trans (hb.mono HBX.out.size))
          clear hb HVX HZX HBX
          clear v0 v1 v2 v3 v4 v5
          have HVX := HV9
          have HZX := HZ9
          have HBX := HB9
          clear HV9 HZ9 HB9
          have z0 := HZX.out.c0
          have y0 := HZX.out.fz 0
          have z1 := HZX.out.c1
          have y1 := HZX.out.fz 1
          have z2 := HZX.out.c2
          have y2 := HZX.out.fz 2
          have z3 := HZX.out.c3
          have y3 := HZX.out.fz 3
          have z4 := HZX.out.c4
          have y4 := HZX.out.fz 4
          have z5 := HZX.out.c5
          have y5 := HZX.out.fz 5
          go_wp2_with fail
          have hk := HZX.out.set6 zeroV
          have k0 := hk.c0
          have k1 := hk.c1
          have k2 := hk.c2
          have k3 := hk.c3
          have k4 := hk.c4
          have k5 := hk.c5
          simp only [Go.Proofs.YtkbhmkofflcpjaaGreatDoor.set6, zeroV] at k0 k1 k2 k3 k4 k5
          refine bodyPost_ret (v := .tuple #[vbV zeroV, .int .i64 8]) (by simp [results, Tryz.results23, go_sem, k0, k1, k2, k3, k4, k5, vbV, vbCells, zeroV]) rfl ⟨HR.out, below_set6 HBX.out (Nat.le_refl _) zeroV⟩
      · have HE := Lib.hid (HEC.out hd)
        clear HEN HEC
        have h5l : 4 < s.length := by
          have : ¬ s.length ≤ 4 := fun e => hd (List.drop_eq_nil_iff.2 e)
          omega
        have h5i : (4 : Int) < (s.length : Int) := by omega
        have hB : 4 < (⟨s.toArray⟩ : ByteArray).size := h5l
        have h32 : s[4] = 32 := by
          have h1 := (rest_head hd).symm.trans hr
          have h2 : (s.drop 4).head? = some 32 := by simpa using h1
          rw [List.head?_drop, List.getElem?_eq_getElem h5l] at h2
          simpa using h2
        have hc4 : ((((⟨s.toArray⟩ : ByteArray)[4]'hB).toNat : Int) != 32) = false := by
          rw [show (⟨s.toArray⟩ : ByteArray)[4]'hB = 32 from h32]
          rfl
        have hR : s.drop 4 = 32 :: s.drop 5 := by rw [drop_at' h5l, h32]
        have hx1 : (⟨(s.drop 4).toArray⟩ : ByteArray).extract 1 (s.drop 4).length = ⟨(s.drop 5).toArray⟩ := by
          rw [ext_drop (s.drop 4) 1 _ rfl, List.drop_drop]
        have hRl : (1 : Int) ≤ (((s.drop 4).length : Nat) : Int) := by rw [hR]; simp; omega
        have hne := ne_empty hd
        have hn2 : (s.drop 4 == []) = false := by
          rw [beq_eq_false_iff_ne]
          exact hd
        have hxl : (s.drop 5).length ≤ 3000 := by simp; omega
        have HR5 := Lib.hid hR
        clear h32 hR hr hd h
        clear HE
        by_cases hq : s.drop 4 = [32]
        · have HE := Lib.hid (HEQ.out.trans (if_pos hq))
          have HZX := HZ
          have HBX := HB
          have hx0 : s.drop 5 = [] := by
            have := HR5.out
            rw [hq] at this
            simpa using this.symm
          rw [hx0, hq] at hx1
          rw [hq] at hex hRl hne hn2
          clear hq hx0 HR5 HEQ
          have z0 := HZX.out.c0
          have y0 := HZX.out.fz 0
          have z1 := HZX.out.c1
          have y1 := HZX.out.fz 1
          have z2 := HZX.out.c2
          have y2 := HZX.out.fz 2
          have z3 := HZX.out.c3
          have y3 := HZX.out.fz 3
          have z4 := HZX.out.c4
          have y4 := HZX.out.fz 4
          have z5 := HZX.out.c5
          have y5 := HZX.out.fz 5
          have hltz := HZX.out.lt
          go_wp2_with fail
          have hk := (HZX.out.set6 zeroV).alloc (.cells #[.int .i64 9, .string ByteArray.empty, .bool false, .string ⟨#[]⟩, .string ⟨#[]⟩, .int .i64 0] 27)
          have k0 := hk.c0
          have k1 := hk.c1
          have k2 := hk.c2
          have k3 := hk.c3
          have k4 := hk.c4
          have k5 := hk.c5
          simp only [Go.Proofs.YtkbhmkofflcpjaaGreatDoor.set6, zeroV] at k0 k1 k2 k3 k4 k5
          have hb6 := below_set6 HBX.out (Nat.le_refl _) zeroV
          refine bodyPost_ret (v := .tuple #[vbV zeroV, .int .i64 8]) (by simp [results, Tryz.results23, go_sem, k0, k1, k2, k3, k4, k5, vbV, vbCells, zeroV]) rfl ⟨pv_no HE.out, hb6.alloc hb6.size _⟩
        · have HE := Lib.hid (HEQ.out.trans (if_neg hq))
          have hnq : (s.drop 4 == [32]) = false := by
            rw [beq_eq_false_iff_ne]
            exact hq
          clear hq HR5 HEQ
          generalize s.drop 4 = R at *
          generalize s.drop 5 = x at *
          have hbg := HB.out.alloc HB.out.size (.cells #[.int .i64 9, .string ⟨x.toArray⟩, .bool false, .string ⟨#[]⟩, .string ⟨#[]⟩, .int .i64 0] 27)
          have HVX := Lib.hid (VAt.new W1 ⟨9, x, false, [], [], 0⟩)
          have HZX := Lib.hid (HZ.out.alloc (.cells #[.int .i64 9, .string ⟨x.toArray⟩, .bool false, .string ⟨#[]⟩, .string ⟨#[]⟩, .int .i64 0] 27))
          have HBX := Lib.hid hbg
          clear hbg
          have HVB := Lib.hid (fun W => rverb_any ⟨9, x, false, [], [], 0⟩ W ⟨by show x.length ≤ 10000; omega, by simp, by simp⟩)
          have v0 := HVX.out.c0
          have v1 := HVX.out.c1
          have v2 := HVX.out.c2
          have v3 := HVX.out.c3
          have v4 := HVX.out.c4
          have v5 := HVX.out.c5
          cases hval : validV ⟨9, x, false, [], [], 0⟩ with
          | true =>
            rw [hval] at HVB
            have HR := Lib.hid (pv_good HE.out hval)
            clear hval
            go_wp2_with fail
            refine Calls.mono (show _ from HVB.out _) ?_
            rintro e w9 ⟨rfl, hb⟩
            have HV9 := Lib.hid (HVX.out.later hb)
            have HZ9 := Lib.hid (HZX.out.later hb)
            have HB9 := Lib.hid (HBX.out.trans (hb.mono HBX.out.size))
            clear hb HVX HZX HBX
            clear v0 v1 v2 v3 v4 v5
            have HVX := HV9
            have HZX := HZ9
            have HBX := HB9
            clear HV9 HZ9 HB9
            have v0 := HVX.out.c0
            have v1 := HVX.out.c1
            have v2 := HVX.out.c2
            have v3 := HVX.out.c3
            have v4 := HVX.out.c4
            have v5 := HVX.out.c5
            have z0 := HZX.out.c0
            have y0 := HZX.out.fz 0
            have z1 := HZX.out.c1
            have y1 := HZX.out.fz 1
            have z2 := HZX.out.c2
            have y2 := HZX.out.fz 2
            have z3 := HZX.out.c3
            have y3 := HZX.out.fz 3
            have z4 := HZX.out.c4
            have y4 := HZX.out.fz 4
            have z5 := HZX.out.c5
            have y5 := HZX.out.fz 5
            go_wp2_with fail
            have hk := HZX.out.set6 ⟨9, x, false, [], [], 0⟩
            have k0 := hk.c0
            have k1 := hk.c1
            have k2 := hk.c2
            have k3 := hk.c3
            have k4 := hk.c4
            have k5 := hk.c5
            simp only [Go.Proofs.YtkbhmkofflcpjaaGreatDoor.set6] at k0 k1 k2 k3 k4 k5
            refine bodyPost_ret (v := .tuple #[vbV ⟨9, x, false, [], [], 0⟩, .int .i64 0]) (by simp [results, Tryz.results23, go_sem, k0, k1, k2, k3, k4, k5, vbV, vbCells]) rfl ⟨HR.out, below_set6 HBX.out (Nat.le_refl _) ⟨9, x, false, [], [], 0⟩⟩
          | false =>
            rw [hval] at HVB
            have HR := Lib.hid (pv_bad HE.out hval)
            clear hval
            go_wp2_with fail
            refine Calls.mono (show _ from HVB.out _) ?_
            rintro e w9 ⟨rfl, hb⟩
            have HV9 := Lib.hid (HVX.out.later hb)
            have HZ9 := Lib.hid (HZX.out.later hb)
            have HB9 := Lib.hid (HBX.out.trans (hb.mono HBX.out.size))
            clear hb HVX HZX HBX
            clear v0 v1 v2 v3 v4 v5
            have HVX := HV9
            have HZX := HZ9
            have HBX := HB9
            clear HV9 HZ9 HB9
            have z0 := HZX.out.c0
            have y0 := HZX.out.fz 0
            have z1 := HZX.out.c1
            have y1 := HZX.out.fz 1
            have z2 := HZX.out.c2
            have y2 := HZX.out.fz 2
            have z3 := HZX.out.c3
            have y3 := HZX.out.fz 3
            have z4 := HZX.out.c4
            have y4 := HZX.out.fz 4
            have z5 := HZX.out.c5
            have y5 := HZX.out.fz 5
            go_wp2_with fail
            have hk := HZX.out.set6 zeroV
            have k0 := hk.c0
            have k1 := hk.c1
            have k2 := hk.c2
            have k3 := hk.c3
            have k4 := hk.c4
            have k5 := hk.c5
            simp only [Go.Proofs.YtkbhmkofflcpjaaGreatDoor.set6, zeroV] at k0 k1 k2 k3 k4 k5
            refine bodyPost_ret (v := .tuple #[vbV zeroV, .int .i64 8]) (by simp [results, Tryz.results23, go_sem, k0, k1, k2, k3, k4, k5, vbV, vbCells, zeroV]) rfl ⟨HR.out, below_set6 HBX.out (Nat.le_refl _) zeroV⟩

set_option maxHeartbeats 4000000 in
theorem pv_bare5 (s : List UInt8) (w : World) (hs : s.length ≤ 3000) (hr : restOk s = true) (h : kindL s = 5) :
    Calls Tryz.prog 23 #[.string ⟨s.toArray⟩] w fun e w' => e = pvE (readV s) ∧ Below w.heap.size w w' := by
  have HA := Lib.hid ((Below.refl _ w).alloc (Nat.le_refl _) (.cells #[.int .i64 0, .string ⟨#[]⟩, .bool false, .string ⟨#[]⟩, .string ⟨#[]⟩, .int .i64 0] 27))
  have HZ0 := Lib.hid (VAt.new w zeroV)
  have HEN := Lib.hid (show s.drop 4 = [] → readV s = outV ⟨5, [], false, [], [], 0⟩ from fun hd => by
    unfold readV
    rw [if_neg (read_pass (by omega) hr), if_neg (by omega), if_neg (by omega), if_neg (by omega), if_neg (by omega), if_pos hd, h])
  have HEC := Lib.hid (show s.drop 4 ≠ [] → readV s = (zeroV, 8) from fun hd => by
    unfold readV
    rw [if_neg (read_pass (by omega) hr), if_neg (by omega), if_neg (by omega), if_neg (by omega), if_neg (by omega), if_neg hd])
  go_enter Tryz.func23, Tryz.ntmps23
  go_wp2_with fail
  go_loopg [4, 5] 9 (fun g s4 s5 wx => Below w.heap.size w wx ∧ VAt wx w.heap.size zeroV ∧ ∃ (k : Nat) (K : Int), s4 = .int .i64 K ∧ s5 = .int .i64 k ∧ k + g = 10 ∧ 1 ≤ k ∧ ((K = 0 ∧ ∀ j : Nat, 1 ≤ j → j < k → beginsL s (nameL (j : Int)) = false) ∨ K = kindL s))
  case atStart => exact ⟨HA.out, HZ0.out, 1, 0, rfl, rfl, by omega, by omega, .inl ⟨rfl, fun j h1 h2 => by omega⟩⟩
  case round =>
    obtain ⟨hb, hz, k, K, rfl, rfl, hkg, h1, hK⟩ := hrel
    have HB := Lib.hid hb
    have HZ := Lib.hid hz
    have HKK := Lib.hid hK
    clear hb hz hK HA HZ0
    cases gk with
    | succ g =>
      have hk9 : (k : Int) ≤ 9 := by omega
      have HNM := Lib.hid (rname_lit k wr h1 (by omega))
      have hnl := name_len (k : Int)
      have HBG := Lib.hid (rbegins_any s (nameL (k : Int)) wr (by omega) (by omega))
      cases hbg : beginsL s (nameL (k : Int)) with
      | false =>
        have HN2 : Hid ((K = 0 ∧ ∀ j : Nat, 1 ≤ j → j < k + 1 → beginsL s (nameL (j : Int)) = false) ∨ K = kindL s) := Lib.hid (HKK.out.imp (fun h => ⟨h.1, fun j hj1 hj2 => by
          by_cases hjk : j = k
          · subst hjk
            exact hbg
          · exact h.2 j hj1 (by omega)⟩) id)
        rw [hbg] at HBG
        clear hbg
        generalize nameL (k : Int) = nm at *
        go_wp2_with fail
        refine Calls.mono HNM.out ?_
        rintro e w1 ⟨rfl, rfl⟩
        go_wp2_with fail
        refine Calls.mono HBG.out ?_
        rintro e w1 ⟨rfl, hb1⟩
        have HB1 := Lib.hid (HB.out.trans (hb1.mono HB.out.size))
        have HZ1 := Lib.hid (HZ.out.later hb1)
        clear hb1
        go_wp2_with fail
        go_roundg g
        case measure => omega
        case rel => exact ⟨HB1.out, HZ1.out, k + 1, K, rfl, by simp, by omega, by omega, HN2.out⟩
      | true =>
        have HK2 := Lib.hid (kind_begins h1 (by omega) hbg)
        rw [hbg] at HBG
        clear hbg
        generalize nameL (k : Int) = nm at *
        go_wp2_with fail
        refine Calls.mono HNM.out ?_
        rintro e w1 ⟨rfl, rfl⟩
        go_wp2_with fail
        refine Calls.mono HBG.out ?_
        rintro e w1 ⟨rfl, hb1⟩
        have HB1 := Lib.hid (HB.out.trans (hb1.mono HB.out.size))
        have HZ1 := Lib.hid (HZ.out.later hb1)
        clear hb1
        go_wp2_with fail
        go_roundg g
        case measure => omega
        case rel => exact ⟨HB1.out, HZ1.out, k + 1, (k : Int), rfl, by simp, by omega, by omega, .inr HK2.out.symm⟩
    | zero =>
      obtain rfl : k = 10 := by omega
      have HK : K = kindL s := by
        rcases HKK.out with ⟨h0, hn⟩ | h
        · rw [h0, kind_zero hn]
        · exact h
      rw [show ((10 : Nat) : Int) = 10 from rfl]
      generalize wr = W1 at *
      clear HKK hkg h1
      rw [h] at HK
      subst HK
      have h4l : 4 ≤ s.length := (kind_range s).2.2 (by omega)
      have h4i : (4 : Int) ≤ (s.length : Int) := by omega
      have hex := ext_drop s 4 s.length rfl
      by_cases hd : s.drop 4 = []
      · have HE := Lib.hid (HEN.out hd)
        clear HEN HEC
        have h5i : ¬ ((4 : Int) < (s.length : Int)) := by
          have : s.length ≤ 4 := List.drop_eq_nil_iff.1 hd
          omega
        rw [hd] at hex
        clear hr h hd
        have hbg := bg_new w W1 5 HZ.out HB.out
        have HVX := Lib.hid hbg.v
        have HZX := Lib.hid hbg.z
        have HBX := Lib.hid hbg.b
        clear hbg
        have HVB := Lib.hid (fun W => rverb_any ⟨5, [], false, [], [], 0⟩ W ⟨by simp, by simp, by simp⟩)
        have v0 := HVX.out.c0
        have v1 := HVX.out.c1
        have v2 := HVX.out.c2
        have v3 := HVX.out.c3
        have v4 := HVX.out.c4
        have v5 := HVX.out.c5
        cases hval : validV ⟨5, [], false, [], [], 0⟩ with
        | true =>
          rw [hval] at HVB
          have HR := Lib.hid (pv_good HE.out hval)
          clear hval
          go_wp2_with fail
          refine Calls.mono (show _ from HVB.out _) ?_
          rintro e w9 ⟨rfl, hb⟩
          have HV9 := Lib.hid (HVX.out.later hb)
          have HZ9 := Lib.hid (HZX.out.later hb)
          have HB9 := Lib.hid (HBX.out.trans (hb.mono HBX.out.size))
          clear hb HVX HZX HBX
          clear v0 v1 v2 v3 v4 v5
          have HVX := HV9
          have HZX := HZ9
          have HBX := HB9
          clear HV9 HZ9 HB9
          have v0 := HVX.out.c0
          have v1 := HVX.out.c1
          have v2 := HVX.out.c2
          have v3 := HVX.out.c3
          have v4 := HVX.out.c4
          have v5 := HVX.out.c5
          have z0 := HZX.out.c0
          have y0 := HZX.out.fz 0
          have z1 := HZX.out.c1
          have y1 := HZX.out.fz 1
          have z2 := HZX.out.c2
          have y2 := HZX.out.fz 2
          have z3 := HZX.out.c3
          have y3 := HZX.out.fz 3
          have z4 := HZX.out.c4
          have y4 := HZX.out.fz 4
          have z5 := HZX.out.c5
          have y5 := HZX.out.fz 5
          go_wp2_with fail
          have hk := HZX.out.set6 ⟨5, [], false, [], [], 0⟩
          have k0 := hk.c0
          have k1 := hk.c1
          have k2 := hk.c2
          have k3 := hk.c3
          have k4 := hk.c4
          have k5 := hk.c5
          simp only [Go.Proofs.YtkbhmkofflcpjaaGreatDoor.set6] at k0 k1 k2 k3 k4 k5
          refine bodyPost_ret (v := .tuple #[vbV ⟨5, [], false, [], [], 0⟩, .int .i64 0]) (by simp [results, Tryz.results23, go_sem, k0, k1, k2, k3, k4, k5, vbV, vbCells]) rfl ⟨HR.out, below_set6 HBX.out (Nat.le_refl _) ⟨5, [], false, [], [], 0⟩⟩
        | false =>
          rw [hval] at HVB
          have HR := Lib.hid (pv_bad HE.out hval)
          clear hval
          go_wp2_with fail
          refine Calls.mono (show _ from HVB.out _) ?_
          rintro e w9 ⟨rfl, hb⟩
          have HV9 := Lib.hid (HVX.out.later hb)
          have HZ9 := Lib.hid (HZX.out.later hb)
          have HB9 := Lib.hid (HBX.out.trans (hb.mono HBX.out.size))
          clear hb HVX HZX HBX
          clear v0 v1 v2 v3 v4 v5
          have HVX := HV9
          have HZX := HZ9
          have HBX := HB9
          clear HV9 HZ9 HB9
          have z0 := HZX.out.c0
          have y0 := HZX.out.fz 0
          have z1 := HZX.out.c1
          have y1 := HZX.out.fz 1
          have z2 := HZX.out.c2
          have y2 := HZX.out.fz 2
          have z3 := HZX.out.c3
          have y3 := HZX.out.fz 3
          have z4 := HZX.out.c4
          have y4 := HZX.out.fz 4
          have z5 := HZX.out.c5
          have y5 := HZX.out.fz 5
          go_wp2_with fail
          have hk := HZX.out.set6 zeroV
          have k0 := hk.c0
          have k1 := hk.c1
          have k2 := hk.c2
          have k3 := hk.c3
          have k4 := hk.c4
          have k5 := hk.c5
          simp only [Go.Proofs.YtkbhmkofflcpjaaGreatDoor.set6, zeroV] at k0 k1 k2 k3 k4 k5
          refine bodyPost_ret (v := .tuple #[vbV zeroV, .int .i64 8]) (by simp [results, Tryz.results23, go_sem, k0, k1, k2, k3, k4, k5, vbV, vbCells, zeroV]) rfl ⟨HR.out, below_set6 HBX.out (Nat.le_refl _) zeroV⟩
      · have HE := Lib.hid (HEC.out hd)
        clear HEN HEC
        have h5l : 4 < s.length := by
          have : ¬ s.length ≤ 4 := fun e => hd (List.drop_eq_nil_iff.2 e)
          omega
        have h5i : (4 : Int) < (s.length : Int) := by omega
        have hB : 4 < (⟨s.toArray⟩ : ByteArray).size := h5l
        have h32 : s[4] = 32 := by
          have h1 := (rest_head hd).symm.trans hr
          have h2 : (s.drop 4).head? = some 32 := by simpa using h1
          rw [List.head?_drop, List.getElem?_eq_getElem h5l] at h2
          simpa using h2
        have hc4 : ((((⟨s.toArray⟩ : ByteArray)[4]'hB).toNat : Int) != 32) = false := by
          rw [show (⟨s.toArray⟩ : ByteArray)[4]'hB = 32 from h32]
          rfl
        have hR : s.drop 4 = 32 :: s.drop 5 := by rw [drop_at' h5l, h32]
        have hx1 : (⟨(s.drop 4).toArray⟩ : ByteArray).extract 1 (s.drop 4).length = ⟨(s.drop 5).toArray⟩ := by
          rw [ext_drop (s.drop 4) 1 _ rfl, List.drop_drop]
        have hRl : (1 : Int) ≤ (((s.drop 4).length : Nat) : Int) := by rw [hR]; simp; omega
        have hne := ne_empty hd
        have hn2 : (s.drop 4 == []) = false := by
          rw [beq_eq_false_iff_ne]
          exact hd
        have hxl : (s.drop 5).length ≤ 3000 := by simp; omega
        have HR5 := Lib.hid hR
        clear h32 hR hr hd h
        have HZX := HZ
        have HBX := HB
        generalize s.drop 4 = R at *
        have z0 := HZX.out.c0
        have y0 := HZX.out.fz 0
        have z1 := HZX.out.c1
        have y1 := HZX.out.fz 1
        have z2 := HZX.out.c2
        have y2 := HZX.out.fz 2
        have z3 := HZX.out.c3
        have y3 := HZX.out.fz 3
        have z4 := HZX.out.c4
        have y4 := HZX.out.fz 4
        have z5 := HZX.out.c5
        have y5 := HZX.out.fz 5
        have hltz := HZX.out.lt
        go_wp2_with fail
        have hk := (HZX.out.set6 zeroV).alloc (.cells #[.int .i64 5, .string ⟨#[]⟩, .bool false, .string ⟨#[]⟩, .string ⟨#[]⟩, .int .i64 0] 27)
        have k0 := hk.c0
        have k1 := hk.c1
        have k2 := hk.c2
        have k3 := hk.c3
        have k4 := hk.c4
        have k5 := hk.c5
        simp only [Go.Proofs.YtkbhmkofflcpjaaGreatDoor.set6, zeroV] at k0 k1 k2 k3 k4 k5
        have hb6 := below_set6 HBX.out (Nat.le_refl _) zeroV
        refine bodyPost_ret (v := .tuple #[vbV zeroV, .int .i64 8]) (by simp [results, Tryz.results23, go_sem, k0, k1, k2, k3, k4, k5, vbV, vbCells, zeroV]) rfl ⟨pv_no HE.out, hb6.alloc hb6.size _⟩

set_option maxHeartbeats 4000000 in
theorem pv_bare6 (s : List UInt8) (w : World) (hs : s.length ≤ 3000) (hr : restOk s = true) (h : kindL s = 6) :
    Calls Tryz.prog 23 #[.string ⟨s.toArray⟩] w fun e w' => e = pvE (readV s) ∧ Below w.heap.size w w' := by
  have HA := Lib.hid ((Below.refl _ w).alloc (Nat.le_refl _) (.cells #[.int .i64 0, .string ⟨#[]⟩, .bool false, .string ⟨#[]⟩, .string ⟨#[]⟩, .int .i64 0] 27))
  have HZ0 := Lib.hid (VAt.new w zeroV)
  have HEN := Lib.hid (show s.drop 4 = [] → readV s = outV ⟨6, [], false, [], [], 0⟩ from fun hd => by
    unfold readV
    rw [if_neg (read_pass (by omega) hr), if_neg (by omega), if_neg (by omega), if_neg (by omega), if_neg (by omega), if_pos hd, h])
  have HEC := Lib.hid (show s.drop 4 ≠ [] → readV s = (zeroV, 8) from fun hd => by
    unfold readV
    rw [if_neg (read_pass (by omega) hr), if_neg (by omega), if_neg (by omega), if_neg (by omega), if_neg (by omega), if_neg hd])
  go_enter Tryz.func23, Tryz.ntmps23
  go_wp2_with fail
  go_loopg [4, 5] 9 (fun g s4 s5 wx => Below w.heap.size w wx ∧ VAt wx w.heap.size zeroV ∧ ∃ (k : Nat) (K : Int), s4 = .int .i64 K ∧ s5 = .int .i64 k ∧ k + g = 10 ∧ 1 ≤ k ∧ ((K = 0 ∧ ∀ j : Nat, 1 ≤ j → j < k → beginsL s (nameL (j : Int)) = false) ∨ K = kindL s))
  case atStart => exact ⟨HA.out, HZ0.out, 1, 0, rfl, rfl, by omega, by omega, .inl ⟨rfl, fun j h1 h2 => by omega⟩⟩
  case round =>
    obtain ⟨hb, hz, k, K, rfl, rfl, hkg, h1, hK⟩ := hrel
    have HB := Lib.hid hb
    have HZ := Lib.hid hz
    have HKK := Lib.hid hK
    clear hb hz hK HA HZ0
    cases gk with
    | succ g =>
      have hk9 : (k : Int) ≤ 9 := by omega
      have HNM := Lib.hid (rname_lit k wr h1 (by omega))
      have hnl := name_len (k : Int)
      have HBG := Lib.hid (rbegins_any s (nameL (k : Int)) wr (by omega) (by omega))
      cases hbg : beginsL s (nameL (k : Int)) with
      | false =>
        have HN2 : Hid ((K = 0 ∧ ∀ j : Nat, 1 ≤ j → j < k + 1 → beginsL s (nameL (j : Int)) = false) ∨ K = kindL s) := Lib.hid (HKK.out.imp (fun h => ⟨h.1, fun j hj1 hj2 => by
          by_cases hjk : j = k
          · subst hjk
            exact hbg
          · exact h.2 j hj1 (by omega)⟩) id)
        rw [hbg] at HBG
        clear hbg
        generalize nameL (k : Int) = nm at *
        go_wp2_with fail
        refine Calls.mono HNM.out ?_
        rintro e w1 ⟨rfl, rfl⟩
        go_wp2_with fail
        refine Calls.mono HBG.out ?_
        rintro e w1 ⟨rfl, hb1⟩
        have HB1 := Lib.hid (HB.out.trans (hb1.mono HB.out.size))
        have HZ1 := Lib.hid (HZ.out.later hb1)
        clear hb1
        go_wp2_with fail
        go_roundg g
        case measure => omega
        case rel => exact ⟨HB1.out, HZ1.out, k + 1, K, rfl, by simp, by omega, by omega, HN2.out⟩
      | true =>
        have HK2 := Lib.hid (kind_begins h1 (by omega) hbg)
        rw [hbg] at HBG
        clear hbg
        generalize nameL (k : Int) = nm at *
        go_wp2_with fail
        refine Calls.mono HNM.out ?_
        rintro e w1 ⟨rfl, rfl⟩
        go_wp2_with fail
        refine Calls.mono HBG.out ?_
        rintro e w1 ⟨rfl, hb1⟩
        have HB1 := Lib.hid (HB.out.trans (hb1.mono HB.out.size))
        have HZ1 := Lib.hid (HZ.out.later hb1)
        clear hb1
        go_wp2_with fail
        go_roundg g
        case measure => omega
        case rel => exact ⟨HB1.out, HZ1.out, k + 1, (k : Int), rfl, by simp, by omega, by omega, .inr HK2.out.symm⟩
    | zero =>
      obtain rfl : k = 10 := by omega
      have HK : K = kindL s := by
        rcases HKK.out with ⟨h0, hn⟩ | h
        · rw [h0, kind_zero hn]
        · exact h
      rw [show ((10 : Nat) : Int) = 10 from rfl]
      generalize wr = W1 at *
      clear HKK hkg h1
      rw [h] at HK
      subst HK
      have h4l : 4 ≤ s.length := (kind_range s).2.2 (by omega)
      have h4i : (4 : Int) ≤ (s.length : Int) := by omega
      have hex := ext_drop s 4 s.length rfl
      by_cases hd : s.drop 4 = []
      · have HE := Lib.hid (HEN.out hd)
        clear HEN HEC
        have h5i : ¬ ((4 : Int) < (s.length : Int)) := by
          have : s.length ≤ 4 := List.drop_eq_nil_iff.1 hd
          omega
        rw [hd] at hex
        clear hr h hd
        have hbg := bg_new w W1 6 HZ.out HB.out
        have HVX := Lib.hid hbg.v
        have HZX := Lib.hid hbg.z
        have HBX := Lib.hid hbg.b
        clear hbg
        have HVB := Lib.hid (fun W => rverb_any ⟨6, [], false, [], [], 0⟩ W ⟨by simp, by simp, by simp⟩)
        have v0 := HVX.out.c0
        have v1 := HVX.out.c1
        have v2 := HVX.out.c2
        have v3 := HVX.out.c3
        have v4 := HVX.out.c4
        have v5 := HVX.out.c5
        cases hval : validV ⟨6, [], false, [], [], 0⟩ with
        | true =>
          rw [hval] at HVB
          have HR := Lib.hid (pv_good HE.out hval)
          clear hval
          go_wp2_with fail
          refine Calls.mono (show _ from HVB.out _) ?_
          rintro e w9 ⟨rfl, hb⟩
          have HV9 := Lib.hid (HVX.out.later hb)
          have HZ9 := Lib.hid (HZX.out.later hb)
          have HB9 := Lib.hid (HBX.out.trans (hb.mono HBX.out.size))
          clear hb HVX HZX HBX
          clear v0 v1 v2 v3 v4 v5
          have HVX := HV9
          have HZX := HZ9
          have HBX := HB9
          clear HV9 HZ9 HB9
          have v0 := HVX.out.c0
          have v1 := HVX.out.c1
          have v2 := HVX.out.c2
          have v3 := HVX.out.c3
          have v4 := HVX.out.c4
          have v5 := HVX.out.c5
          have z0 := HZX.out.c0
          have y0 := HZX.out.fz 0
          have z1 := HZX.out.c1
          have y1 := HZX.out.fz 1
          have z2 := HZX.out.c2
          have y2 := HZX.out.fz 2
          have z3 := HZX.out.c3
          have y3 := HZX.out.fz 3
          have z4 := HZX.out.c4
          have y4 := HZX.out.fz 4
          have z5 := HZX.out.c5
          have y5 := HZX.out.fz 5
          go_wp2_with fail
          have hk := HZX.out.set6 ⟨6, [], false, [], [], 0⟩
          have k0 := hk.c0
          have k1 := hk.c1
          have k2 := hk.c2
          have k3 := hk.c3
          have k4 := hk.c4
          have k5 := hk.c5
          simp only [Go.Proofs.YtkbhmkofflcpjaaGreatDoor.set6] at k0 k1 k2 k3 k4 k5
          refine bodyPost_ret (v := .tuple #[vbV ⟨6, [], false, [], [], 0⟩, .int .i64 0]) (by simp [results, Tryz.results23, go_sem, k0, k1, k2, k3, k4, k5, vbV, vbCells]) rfl ⟨HR.out, below_set6 HBX.out (Nat.le_refl _) ⟨6, [], false, [], [], 0⟩⟩
        | false =>
          rw [hval] at HVB
          have HR := Lib.hid (pv_bad HE.out hval)
          clear hval
          go_wp2_with fail
          refine Calls.mono (show _ from HVB.out _) ?_
          rintro e w9 ⟨rfl, hb⟩
          have HV9 := Lib.hid (HVX.out.later hb)
          have HZ9 := Lib.hid (HZX.out.later hb)
          have HB9 := Lib.hid (HBX.out.trans (hb.mono HBX.out.size))
          clear hb HVX HZX HBX
          clear v0 v1 v2 v3 v4 v5
          have HVX := HV9
          have HZX := HZ9
          have HBX := HB9
          clear HV9 HZ9 HB9
          have z0 := HZX.out.c0
          have y0 := HZX.out.fz 0
          have z1 := HZX.out.c1
          have y1 := HZX.out.fz 1
          have z2 := HZX.out.c2
          have y2 := HZX.out.fz 2
          have z3 := HZX.out.c3
          have y3 := HZX.out.fz 3
          have z4 := HZX.out.c4
          have y4 := HZX.out.fz 4
          have z5 := HZX.out.c5
          have y5 := HZX.out.fz 5
          go_wp2_with fail
          have hk := HZX.out.set6 zeroV
          have k0 := hk.c0
          have k1 := hk.c1
          have k2 := hk.c2
          have k3 := hk.c3
          have k4 := hk.c4
          have k5 := hk.c5
          simp only [Go.Proofs.YtkbhmkofflcpjaaGreatDoor.set6, zeroV] at k0 k1 k2 k3 k4 k5
          refine bodyPost_ret (v := .tuple #[vbV zeroV, .int .i64 8]) (by simp [results, Tryz.results23, go_sem, k0, k1, k2, k3, k4, k5, vbV, vbCells, zeroV]) rfl ⟨HR.out, below_set6 HBX.out (Nat.le_refl _) zeroV⟩
      · have HE := Lib.hid (HEC.out hd)
        clear HEN HEC
        have h5l : 4 < s.length := by
          have : ¬ s.length ≤ 4 := fun e => hd (List.drop_eq_nil_iff.2 e)
          omega
        have h5i : (4 : Int) < (s.length : Int) := by omega
        have hB : 4 < (⟨s.toArray⟩ : ByteArray).size := h5l
        have h32 : s[4] = 32 := by
          have h1 := (rest_head hd).symm.trans hr
          have h2 : (s.drop 4).head? = some 32 := by simpa using h1
          rw [List.head?_drop, List.getElem?_eq_getElem h5l] at h2
          simpa using h2
        have hc4 : ((((⟨s.toArray⟩ : ByteArray)[4]'hB).toNat : Int) != 32) = false := by
          rw [show (⟨s.toArray⟩ : ByteArray)[4]'hB = 32 from h32]
          rfl
        have hR : s.drop 4 = 32 :: s.drop 5 := by rw [drop_at' h5l, h32]
        have hx1 : (⟨(s.drop 4).toArray⟩ : ByteArray).extract 1 (s.drop 4).length = ⟨(s.drop 5).toArray⟩ := by
          rw [ext_drop (s.drop 4) 1 _ rfl, List.drop_drop]
        have hRl : (1 : Int) ≤ (((s.drop 4).length : Nat) : Int) := by rw [hR]; simp; omega
        have hne := ne_empty hd
        have hn2 : (s.drop 4 == []) = false := by
          rw [beq_eq_false_iff_ne]
          exact hd
        have hxl : (s.drop 5).length ≤ 3000 := by simp; omega
        have HR5 := Lib.hid hR
        clear h32 hR hr hd h
        have HZX := HZ
        have HBX := HB
        generalize s.drop 4 = R at *
        have z0 := HZX.out.c0
        have y0 := HZX.out.fz 0
        have z1 := HZX.out.c1
        have y1 := HZX.out.fz 1
        have z2 := HZX.out.c2
        have y2 := HZX.out.fz 2
        have z3 := HZX.out.c3
        have y3 := HZX.out.fz 3
        have z4 := HZX.out.c4
        have y4 := HZX.out.fz 4
        have z5 := HZX.out.c5
        have y5 := HZX.out.fz 5
        have hltz := HZX.out.lt
        go_wp2_with fail
        have hk := (HZX.out.set6 zeroV).alloc (.cells #[.int .i64 6, .string ⟨#[]⟩, .bool false, .string ⟨#[]⟩, .string ⟨#[]⟩, .int .i64 0] 27)
        have k0 := hk.c0
        have k1 := hk.c1
        have k2 := hk.c2
        have k3 := hk.c3
        have k4 := hk.c4
        have k5 := hk.c5
        simp only [Go.Proofs.YtkbhmkofflcpjaaGreatDoor.set6, zeroV] at k0 k1 k2 k3 k4 k5
        have hb6 := below_set6 HBX.out (Nat.le_refl _) zeroV
        refine bodyPost_ret (v := .tuple #[vbV zeroV, .int .i64 8]) (by simp [results, Tryz.results23, go_sem, k0, k1, k2, k3, k4, k5, vbV, vbCells, zeroV]) rfl ⟨pv_no HE.out, hb6.alloc hb6.size _⟩

set_option maxHeartbeats 4000000 in
theorem pv_bare8 (s : List UInt8) (w : World) (hs : s.length ≤ 3000) (hr : restOk s = true) (h : kindL s = 8) :
    Calls Tryz.prog 23 #[.string ⟨s.toArray⟩] w fun e w' => e = pvE (readV s) ∧ Below w.heap.size w w' := by
  have HA := Lib.hid ((Below.refl _ w).alloc (Nat.le_refl _) (.cells #[.int .i64 0, .string ⟨#[]⟩, .bool false, .string ⟨#[]⟩, .string ⟨#[]⟩, .int .i64 0] 27))
  have HZ0 := Lib.hid (VAt.new w zeroV)
  have HEN := Lib.hid (show s.drop 4 = [] → readV s = outV ⟨8, [], false, [], [], 0⟩ from fun hd => by
    unfold readV
    rw [if_neg (read_pass (by omega) hr), if_neg (by omega), if_neg (by omega), if_neg (by omega), if_neg (by omega), if_pos hd, h])
  have HEC := Lib.hid (show s.drop 4 ≠ [] → readV s = (zeroV, 8) from fun hd => by
    unfold readV
    rw [if_neg (read_pass (by omega) hr), if_neg (by omega), if_neg (by omega), if_neg (by omega), if_neg (by omega), if_neg hd])
  go_enter Tryz.func23, Tryz.ntmps23
  go_wp2_with fail
  go_loopg [4, 5] 9 (fun g s4 s5 wx => Below w.heap.size w wx ∧ VAt wx w.heap.size zeroV ∧ ∃ (k : Nat) (K : Int), s4 = .int .i64 K ∧ s5 = .int .i64 k ∧ k + g = 10 ∧ 1 ≤ k ∧ ((K = 0 ∧ ∀ j : Nat, 1 ≤ j → j < k → beginsL s (nameL (j : Int)) = false) ∨ K = kindL s))
  case atStart => exact ⟨HA.out, HZ0.out, 1, 0, rfl, rfl, by omega, by omega, .inl ⟨rfl, fun j h1 h2 => by omega⟩⟩
  case round =>
    obtain ⟨hb, hz, k, K, rfl, rfl, hkg, h1, hK⟩ := hrel
    have HB := Lib.hid hb
    have HZ := Lib.hid hz
    have HKK := Lib.hid hK
    clear hb hz hK HA HZ0
    cases gk with
    | succ g =>
      have hk9 : (k : Int) ≤ 9 := by omega
      have HNM := Lib.hid (rname_lit k wr h1 (by omega))
      have hnl := name_len (k : Int)
      have HBG := Lib.hid (rbegins_any s (nameL (k : Int)) wr (by omega) (by omega))
      cases hbg : beginsL s (nameL (k : Int)) with
      | false =>
        have HN2 : Hid ((K = 0 ∧ ∀ j : Nat, 1 ≤ j → j < k + 1 → beginsL s (nameL (j : Int)) = false) ∨ K = kindL s) := Lib.hid (HKK.out.imp (fun h => ⟨h.1, fun j hj1 hj2 => by
          by_cases hjk : j = k
          · subst hjk
            exact hbg
          · exact h.2 j hj1 (by omega)⟩) id)
        rw [hbg] at HBG
        clear hbg
        generalize nameL (k : Int) = nm at *
        go_wp2_with fail
        refine Calls.mono HNM.out ?_
        rintro e w1 ⟨rfl, rfl⟩
        go_wp2_with fail
        refine Calls.mono HBG.out ?_
        rintro e w1 ⟨rfl, hb1⟩
        have HB1 := Lib.hid (HB.out.trans (hb1.mono HB.out.size))
        have HZ1 := Lib.hid (HZ.out.later hb1)
        clear hb1
        go_wp2_with fail
        go_roundg g
        case measure => omega
        case rel => exact ⟨HB1.out, HZ1.out, k + 1, K, rfl, by simp, by omega, by omega, HN2.out⟩
      | true =>
        have HK2 := Lib.hid (kind_begins h1 (by omega) hbg)
        rw [hbg] at HBG
        clear hbg
        generalize nameL (k : Int) = nm at *
        go_wp2_with fail
        refine Calls.mono HNM.out ?_
        rintro e w1 ⟨rfl, rfl⟩
        go_wp2_with fail
        refine Calls.mono HBG.out ?_
        rintro e w1 ⟨rfl, hb1⟩
        have HB1 := Lib.hid (HB.out.trans (hb1.mono HB.out.size))
        have HZ1 := Lib.hid (HZ.out.later hb1)
        clear hb1
        go_wp2_with fail
        go_roundg g
        case measure => omega
        case rel => exact ⟨HB1.out, HZ1.out, k + 1, (k : Int), rfl, by simp, by omega, by omega, .inr HK2.out.symm⟩
    | zero =>
      obtain rfl : k = 10 := by omega
      have HK : K = kindL s := by
        rcases HKK.out with ⟨h0, hn⟩ | h
        · rw [h0, kind_zero hn]
        · exact h
      rw [show ((10 : Nat) : Int) = 10 from rfl]
      generalize wr = W1 at *
      clear HKK hkg h1
      rw [h] at HK
      subst HK
      have h4l : 4 ≤ s.length := (kind_range s).2.2 (by omega)
      have h4i : (4 : Int) ≤ (s.length : Int) := by omega
      have hex := ext_drop s 4 s.length rfl
      by_cases hd : s.drop 4 = []
      · have HE := Lib.hid (HEN.out hd)
        clear HEN HEC
        have h5i : ¬ ((4 : Int) < (s.length : Int)) := by
          have : s.length ≤ 4 := List.drop_eq_nil_iff.1 hd
          omega
        rw [hd] at hex
        clear hr h hd
        have hbg := bg_new w W1 8 HZ.out HB.out
        have HVX := Lib.hid hbg.v
        have HZX := Lib.hid hbg.z
        have HBX := Lib.hid hbg.b
        clear hbg
        have HVB := Lib.hid (fun W => rverb_any ⟨8, [], false, [], [], 0⟩ W ⟨by simp, by simp, by simp⟩)
        have v0 := HVX.out.c0
        have v1 := HVX.out.c1
        have v2 := HVX.out.c2
        have v3 := HVX.out.c3
        have v4 := HVX.out.c4
        have v5 := HVX.out.c5
        cases hval : validV ⟨8, [], false, [], [], 0⟩ with
        | true =>
          rw [hval] at HVB
          have HR := Lib.hid (pv_good HE.out hval)
          clear hval
          go_wp2_with fail
          refine Calls.mono (show _ from HVB.out _) ?_
          rintro e w9 ⟨rfl, hb⟩
          have HV9 := Lib.hid (HVX.out.later hb)
          have HZ9 := Lib.hid (HZX.out.later hb)
          have HB9 := Lib.hid (HBX.out.trans (hb.mono HBX.out.size))
          clear hb HVX HZX HBX
          clear v0 v1 v2 v3 v4 v5
          have HVX := HV9
          have HZX := HZ9
          have HBX := HB9
          clear HV9 HZ9 HB9
          have v0 := HVX.out.c0
          have v1 := HVX.out.c1
          have v2 := HVX.out.c2
          have v3 := HVX.out.c3
          have v4 := HVX.out.c4
          have v5 := HVX.out.c5
          have z0 := HZX.out.c0
          have y0 := HZX.out.fz 0
          have z1 := HZX.out.c1
          have y1 := HZX.out.fz 1
          have z2 := HZX.out.c2
          have y2 := HZX.out.fz 2
          have z3 := HZX.out.c3
          have y3 := HZX.out.fz 3
          have z4 := HZX.out.c4
          have y4 := HZX.out.fz 4
          have z5 := HZX.out.c5
          have y5 := HZX.out.fz 5
          go_wp2_with fail
          have hk := HZX.out.set6 ⟨8, [], false, [], [], 0⟩
          have k0 := hk.c0
          have k1 := hk.c1
          have k2 := hk.c2
          have k3 := hk.c3
          have k4 := hk.c4
          have k5 := hk.c5
          simp only [Go.Proofs.YtkbhmkofflcpjaaGreatDoor.set6] at k0 k1 k2 k3 k4 k5
          refine bodyPost_ret (v := .tuple #[vbV ⟨8, [], false, [], [], 0⟩, .int .i64 0]) (by simp [results, Tryz.results23, go_sem, k0, k1, k2, k3, k4, k5, vbV, vbCells]) rfl ⟨HR.out, below_set6 HBX.out (Nat.le_refl _) ⟨8, [], false, [], [], 0⟩⟩
        | false =>
          rw [hval] at HVB
          have HR := Lib.hid (pv_bad HE.out hval)
          clear hval
          go_wp2_with fail
          refine Calls.mono (show _ from HVB.out _) ?_
          rintro e w9 ⟨rfl, hb⟩
          have HV9 := Lib.hid (HVX.out.later hb)
          have HZ9 := Lib.hid (HZX.out.later hb)
          have HB9 := Lib.hid (HBX.out.trans (hb.mono HBX.out.size))
          clear hb HVX HZX HBX
          clear v0 v1 v2 v3 v4 v5
          have HVX := HV9
          have HZX := HZ9
          have HBX := HB9
          clear HV9 HZ9 HB9
          have z0 := HZX.out.c0
          have y0 := HZX.out.fz 0
          have z1 := HZX.out.c1
          have y1 := HZX.out.fz 1
          have z2 := HZX.out.c2
          have y2 := HZX.out.fz 2
          have z3 := HZX.out.c3
          have y3 := HZX.out.fz 3
          have z4 := HZX.out.c4
          have y4 := HZX.out.fz 4
          have z5 := HZX.out.c5
          have y5 := HZX.out.fz 5
          go_wp2_with fail
          have hk := HZX.out.set6 zeroV
          have k0 := hk.c0
          have k1 := hk.c1
          have k2 := hk.c2
          have k3 := hk.c3
          have k4 := hk.c4
          have k5 := hk.c5
          simp only [Go.Proofs.YtkbhmkofflcpjaaGreatDoor.set6, zeroV] at k0 k1 k2 k3 k4 k5
          refine bodyPost_ret (v := .tuple #[vbV zeroV, .int .i64 8]) (by simp [results, Tryz.results23, go_sem, k0, k1, k2, k3, k4, k5, vbV, vbCells, zeroV]) rfl ⟨HR.out, below_set6 HBX.out (Nat.le_refl _) zeroV⟩
      · have HE := Lib.hid (HEC.out hd)
        clear HEN HEC
        have h5l : 4 < s.length := by
          have : ¬ s.length ≤ 4 := fun e => hd (List.drop_eq_nil_iff.2 e)
          omega
        have h5i : (4 : Int) < (s.length : Int) := by omega
        have hB : 4 < (⟨s.toArray⟩ : ByteArray).size := h5l
        have h32 : s[4] = 32 := by
          have h1 := (rest_head hd).symm.trans hr
          have h2 : (s.drop 4).head? = some 32 := by simpa using h1
          rw [List.head?_drop, List.getElem?_eq_getElem h5l] at h2
          simpa using h2
        have hc4 : ((((⟨s.toArray⟩ : ByteArray)[4]'hB).toNat : Int) != 32) = false := by
          rw [show (⟨s.toArray⟩ : ByteArray)[4]'hB = 32 from h32]
          rfl
        have hR : s.drop 4 = 32 :: s.drop 5 := by rw [drop_at' h5l, h32]
        have hx1 : (⟨(s.drop 4).toArray⟩ : ByteArray).extract 1 (s.drop 4).length = ⟨(s.drop 5).toArray⟩ := by
          rw [ext_drop (s.drop 4) 1 _ rfl, List.drop_drop]
        have hRl : (1 : Int) ≤ (((s.drop 4).length : Nat) : Int) := by rw [hR]; simp; omega
        have hne := ne_empty hd
        have hn2 : (s.drop 4 == []) = false := by
          rw [beq_eq_false_iff_ne]
          exact hd
        have hxl : (s.drop 5).length ≤ 3000 := by simp; omega
        have HR5 := Lib.hid hR
        clear h32 hR hr hd h
        have HZX := HZ
        have HBX := HB
        generalize s.drop 4 = R at *
        have z0 := HZX.out.c0
        have y0 := HZX.out.fz 0
        have z1 := HZX.out.c1
        have y1 := HZX.out.fz 1
        have z2 := HZX.out.c2
        have y2 := HZX.out.fz 2
        have z3 := HZX.out.c3
        have y3 := HZX.out.fz 3
        have z4 := HZX.out.c4
        have y4 := HZX.out.fz 4
        have z5 := HZX.out.c5
        have y5 := HZX.out.fz 5
        have hltz := HZX.out.lt
        go_wp2_with fail
        have hk := (HZX.out.set6 zeroV).alloc (.cells #[.int .i64 8, .string ⟨#[]⟩, .bool false, .string ⟨#[]⟩, .string ⟨#[]⟩, .int .i64 0] 27)
        have k0 := hk.c0
        have k1 := hk.c1
        have k2 := hk.c2
        have k3 := hk.c3
        have k4 := hk.c4
        have k5 := hk.c5
        simp only [Go.Proofs.YtkbhmkofflcpjaaGreatDoor.set6, zeroV] at k0 k1 k2 k3 k4 k5
        have hb6 := below_set6 HBX.out (Nat.le_refl _) zeroV
        refine bodyPost_ret (v := .tuple #[vbV zeroV, .int .i64 8]) (by simp [results, Tryz.results23, go_sem, k0, k1, k2, k3, k4, k5, vbV, vbCells, zeroV]) rfl ⟨pv_no HE.out, hb6.alloc hb6.size _⟩
end Go.Proofs.YtkbhmkofflcpjaaGreatDoor

/-
  The page's ParseVerb, walked: MAIL and RCPT; every line.
  Conditions: as each theorem states them.
-/
import Derived.Test.YtkbhmkofflcpjaaGreatDoorWG
namespace Go.Proofs.YtkbhmkofflcpjaaGreatDoor
open Go.RowKit

theorem read_mail3 {s : List UInt8} (hr : restOk s = true) (h : kindL s = 3) : readV s = if beginsL (s.drop 4) [32, 70, 82, 79, 77, 58] then mailL (blankL ((s.drop 4).drop 6)) else (zeroV, 8) := by
  unfold readV
  rw [if_neg (read_pass (by omega) hr), if_neg (by rw [h]; decide), if_neg (by rw [h]; decide), if_pos h, List.drop_drop]
theorem read_rcpt4 {s : List UInt8} (hr : restOk s = true) (h : kindL s = 4) : readV s = if beginsL (s.drop 4) [32, 84, 79, 58] then rcptL (blankL ((s.drop 4).drop 4)) else (zeroV, 8) := by
  unfold readV
  rw [if_neg (read_pass (by omega) hr), if_neg (by rw [h]; decide), if_neg (by rw [h]; decide), if_neg (by rw [h]; decide), if_pos h, List.drop_drop]
theorem mail_nopath {r : List UInt8} (h : pathL (r.take (peL false r)) = none) : mailL r = (zeroV, 8) := by
  unfold mailL
  rw [h]
  rfl
theorem mail_notail {r : List UInt8} {o : Option (List UInt8 × List UInt8)} (h : pathL (r.take (peL false r)) = some o) (ht : tailL (r.drop (peL false r)) = none) : mailL r = (zeroV, 8) := by
  unfold mailL
  rw [h, ht]
  cases o <;> rfl
theorem mail_some {r : List UInt8} {o : Option (List UInt8 × List UInt8)} {z : Int} (h : pathL (r.take (peL false r)) = some o) (ht : tailL (r.drop (peL false r)) = some z) : mailL r = outV ⟨3, [], pNull (some o), (pBox (some o)).1, (pBox (some o)).2, z⟩ := by
  unfold mailL
  rw [h, ht]
  cases o <;> rfl
theorem rcpt_nopath {r : List UInt8} (h : pathL r = none) : rcptL r = (zeroV, 8) := by
  unfold rcptL
  rw [h]
  rfl
theorem rcpt_some {r : List UInt8} {o : Option (List UInt8 × List UInt8)} (h : pathL r = some o) : rcptL r = outV ⟨4, [], pNull (some o), (pBox (some o)).1, (pBox (some o)).2, 0⟩ := by
  unfold rcptL
  rw [h]
  cases o <;> rfl
theorem pe_le (r : List UInt8) : peL false r ≤ r.length := by
  obtain ⟨h1, h2⟩ := cut_pe r.length false r (Nat.le_refl _)
  cases hc : cutL false r with
  | none => rw [h2 hc]; exact Nat.le_refl _
  | some m =>
    obtain ⟨a, b⟩ := h1 m hc
    omega
theorem box_len {p : List UInt8} {o : Option (List UInt8 × List UInt8)} (h : pathL p = some o) : (pBox (some o)).1.length ≤ p.length ∧ (pBox (some o)).2.length ≤ p.length := by
  have := path_len h
  cases o with
  | none => simp [pBox]
  | some q =>
    obtain ⟨l, d⟩ := q
    simp [pBox] at this ⊢
    omega
theorem path_nil : pathL [] = none := rfl

set_option maxHeartbeats 4000000 in
set_option maxRecDepth 100000 in
theorem pv_rcpt (s : List UInt8) (w : World) (hs : s.length ≤ 3000) (hr : restOk s = true) (h : kindL s = 4) :
    Calls Tryz.prog 23 #[.string ⟨s.toArray⟩] w fun e w' => e = pvE (readV s) ∧ Below w.heap.size w w' := by
  have HA := Lib.hid ((Below.refl _ w).alloc (Nat.le_refl _) (.cells #[.int .i64 0, .string ⟨#[]⟩, .bool false, .string ⟨#[]⟩, .string ⟨#[]⟩, .int .i64 0] 27))
  have HZ0 := Lib.hid (VAt.new w zeroV)
  have HRD := Lib.hid (read_rcpt4 hr h)
  go_enter Tryz.func23, Tryz.ntmps23
  go_wp2_with fail
  go_loopg [4, 5] 9 (fun g s4 s5 wx => Below w.heap.size w wx ∧ VAt wx w.heap.size zeroV ∧ ∃ (k : Nat) (K : Int), s4 = .int .i64 K ∧ s5 = .int .i64 k ∧ k + g = 10 ∧ 1 ≤ k ∧ ((K = 0 ∧ ∀ j : Nat, 1 ≤ j → j < k → beginsL s (nameL (j : Int)) = false) ∨ K = kindL s))
  case atStart => exact ⟨HA.out, HZ0.out, 1, 0, rfl, rfl, by omega, by omega, .inl ⟨rfl, fun j h1 h2 => by omega⟩⟩
  case round =>
    obtain ⟨hb, hz, k, K, rfl, rfl, hkg, h1, hK⟩ := hrel
    have HB := Lib.hid hb
    have HZ := Lib.hid hz
    have HKK := Lib.hid hK
    clear hb hz hK HA HZ0
    cases gk with
    | succ g =>
      have hk9 : (k : Int) ≤ 9 := by omega
      have HNM := Lib.hid (rname_lit k wr h1 (by omega))
      have hnl := name_len (k : Int)
      have HBG := Lib.hid (rbegins_any s (nameL (k : Int)) wr (by omega) (by omega))
      cases hbg : beginsL s (nameL (k : Int)) with
      | false =>
        have HN2 : Hid ((K = 0 ∧ ∀ j : Nat, 1 ≤ j → j < k + 1 → beginsL s (nameL (j : Int)) = false) ∨ K = kindL s) := Lib.hid (HKK.out.imp (fun h => ⟨h.1, fun j hj1 hj2 => by
          by_cases hjk : j = k
          · subst hjk
            exact hbg
          · exact h.2 j hj1 (by omega)⟩) id)
        rw [hbg] at HBG
        clear hbg
        generalize nameL (k : Int) = nm at *
        go_wp2_with fail
        refine Calls.mono HNM.out ?_
        rintro e w1 ⟨rfl, rfl⟩
        go_wp2_with fail
        refine Calls.mono HBG.out ?_
        rintro e w1 ⟨rfl, hb1⟩
        have HB1 := Lib.hid (HB.out.trans (hb1.mono HB.out.size))
        have HZ1 := Lib.hid (HZ.out.later hb1)
        clear hb1
        go_wp2_with fail
        go_roundg g
        case measure => omega
        case rel => exact ⟨HB1.out, HZ1.out, k + 1, K, rfl, by simp, by omega, by omega, HN2.out⟩
      | true =>
        have HK2 := Lib.hid (kind_begins h1 (by omega) hbg)
        rw [hbg] at HBG
        clear hbg
        generalize nameL (k : Int) = nm at *
        go_wp2_with fail
        refine Calls.mono HNM.out ?_
        rintro e w1 ⟨rfl, rfl⟩
        go_wp2_with fail
        refine Calls.mono HBG.out ?_
        rintro e w1 ⟨rfl, hb1⟩
        have HB1 := Lib.hid (HB.out.trans (hb1.mono HB.out.size))
        have HZ1 := Lib.hid (HZ.out.later hb1)
        clear hb1
        go_wp2_with fail
        go_roundg g
        case measure => omega
        case rel => exact ⟨HB1.out, HZ1.out, k + 1, (k : Int), rfl, by simp, by omega, by omega, .inr HK2.out.symm⟩
    | zero =>
      obtain rfl : k = 10 := by omega
      have HK : K = kindL s := by
        rcases HKK.out with ⟨h0, hn⟩ | h
        · rw [h0, kind_zero hn]
        · exact h
      rw [show ((10 : Nat) : Int) = 10 from rfl]
      generalize wr = W1 at *
      clear HKK hkg h1
      rw [h] at HK
      subst HK
      have h4l : 4 ≤ s.length := (kind_range s).2.2 (by omega)
      have h4i : (4 : Int) ≤ (s.length : Int) := by omega
      have hex := ext_drop s 4 s.length rfl
      have hbg := bg_new w W1 4 HZ.out HB.out
      have HG1 := Lib.hid hbg
      clear hbg
      by_cases hd : s.drop 4 = []
      · have HER := Lib.hid (show readV s = (zeroV, 8) by rw [HRD.out, hd]; rfl)
        have h5i : ¬ ((4 : Int) < (s.length : Int)) := by
          have : s.length ≤ 4 := List.drop_eq_nil_iff.1 hd
          omega
        have HBG := Lib.hid (fun W => rbegins_any [] [32, 84, 79, 58] W (by simp) (by decide))
        rw [show beginsL [] [32, 84, 79, 58] = false from rfl] at HBG
        rw [hd] at hex
        clear hr h hd HRD
        go_wp2_with fail
        refine Calls.mono (show _ from HBG.out _) ?_
        rintro e w2 ⟨rfl, hb⟩
        have hg2 := HG1.out.later hb
        have HVX := Lib.hid hg2.v
        have HZX := Lib.hid hg2.z
        have HBX := Lib.hid hg2.b
        clear hb hg2
        have z0 := HZX.out.c0
        have y0 := HZX.out.fz 0
        have z1 := HZX.out.c1
        have y1 := HZX.out.fz 1
        have z2 := HZX.out.c2
        have y2 := HZX.out.fz 2
        have z3 := HZX.out.c3
        have y3 := HZX.out.fz 3
        have z4 := HZX.out.c4
        have y4 := HZX.out.fz 4
        have z5 := HZX.out.c5
        have y5 := HZX.out.fz 5
        go_wp2_with fail
        have hk := HZX.out.set6 zeroV
        have k0 := hk.c0
        have k1 := hk.c1
        have k2 := hk.c2
        have k3 := hk.c3
        have k4 := hk.c4
        have k5 := hk.c5
        simp only [Go.Proofs.YtkbhmkofflcpjaaGreatDoor.set6, zeroV] at k0 k1 k2 k3 k4 k5
        refine bodyPost_ret (v := .tuple #[vbV zeroV, .int .i64 8]) (by simp [results, Tryz.results23, go_sem, k0, k1, k2, k3, k4, k5, vbV, vbCells, zeroV]) rfl ⟨pv_no HER.out, below_set6 HBX.out (Nat.le_refl _) zeroV⟩
      · have hRs : (s.drop 4).length ≤ 3000 := by simp; omega
        have h5l : 4 < s.length := by
          have : ¬ s.length ≤ 4 := fun e => hd (List.drop_eq_nil_iff.2 e)
          omega
        have h5i : (4 : Int) < (s.length : Int) := by omega
        have hB : 4 < (⟨s.toArray⟩ : ByteArray).size := h5l
        have h32 : s[4] = 32 := by
          have h1 := (rest_head hd).symm.trans hr
          have h2 : (s.drop 4).head? = some 32 := by simpa using h1
          rw [List.head?_drop, List.getElem?_eq_getElem h5l] at h2
          simpa using h2
        have hc4 : ((((⟨s.toArray⟩ : ByteArray)[4]'hB).toNat : Int) != 32) = false := by
          rw [show (⟨s.toArray⟩ : ByteArray)[4]'hB = 32 from h32]
          rfl
        have hR : s.drop 4 = 32 :: s.drop 5 := by rw [drop_at' h5l, h32]
        have hx1 : (⟨(s.drop 4).toArray⟩ : ByteArray).extract 1 (s.drop 4).length = ⟨(s.drop 5).toArray⟩ := by
          rw [ext_drop (s.drop 4) 1 _ rfl, List.drop_drop]
        have hRl : (1 : Int) ≤ (((s.drop 4).length : Nat) : Int) := by rw [hR]; simp; omega
        have hne := ne_empty hd
        have hn2 : (s.drop 4 == []) = false := by
          rw [beq_eq_false_iff_ne]
          exact hd
        have hxl : (s.drop 5).length ≤ 3000 := by simp; omega
        have HR5 := Lib.hid hR
        clear h32 hR hr hd h
        have HBG := Lib.hid (fun W => rbegins_any (s.drop 4) [32, 84, 79, 58] W (by omega) (by decide))
        clear hx1 hRl hne hn2 hxl HR5
        generalize s.drop 4 = R at *
        cases hbg : beginsL R [32, 84, 79, 58] with
        | false =>
          rw [hbg] at HBG HRD
          have HER := Lib.hid (show readV s = (zeroV, 8) from HRD.out)
          clear hbg HRD
          go_wp2_with fail
          refine Calls.mono (show _ from HBG.out _) ?_
          rintro e w2 ⟨rfl, hb⟩
          have hg2 := HG1.out.later hb
          have HVX := Lib.hid hg2.v
          have HZX := Lib.hid hg2.z
          have HBX := Lib.hid hg2.b
          clear hb hg2
          have z0 := HZX.out.c0
          have y0 := HZX.out.fz 0
          have z1 := HZX.out.c1
          have y1 := HZX.out.fz 1
          have z2 := HZX.out.c2
          have y2 := HZX.out.fz 2
          have z3 := HZX.out.c3
          have y3 := HZX.out.fz 3
          have z4 := HZX.out.c4
          have y4 := HZX.out.fz 4
          have z5 := HZX.out.c5
          have y5 := HZX.out.fz 5
          go_wp2_with fail
          have hk := HZX.out.set6 zeroV
          have k0 := hk.c0
          have k1 := hk.c1
          have k2 := hk.c2
          have k3 := hk.c3
          have k4 := hk.c4
          have k5 := hk.c5
          simp only [Go.Proofs.YtkbhmkofflcpjaaGreatDoor.set6, zeroV] at k0 k1 k2 k3 k4 k5
          refine bodyPost_ret (v := .tuple #[vbV zeroV, .int .i64 8]) (by simp [results, Tryz.results23, go_sem, k0, k1, k2, k3, k4, k5, vbV, vbCells, zeroV]) rfl ⟨pv_no HER.out, below_set6 HBX.out (Nat.le_refl _) zeroV⟩
        | true =>
          have hRl : 4 ≤ R.length := (begins_iff hbg).1
          have hRi : (4 : Int) ≤ (R.length : Int) := by omega
          have hxl := ext_drop R 4 R.length rfl
          rw [hbg] at HBG HRD
          have HE0 := Lib.hid (show readV s = rcptL (blankL (R.drop 4)) from HRD.out)
          have hQl : (R.drop 4).length ≤ 3000 := by simp; omega
          clear hbg HRD
          generalize R.drop 4 = Q at *
          cases hQ : Q with
          | nil =>
            subst hQ
            have HER := Lib.hid (show readV s = (zeroV, 8) from HE0.out)
            have HPT := Lib.hid (show ∀ W, Calls Tryz.prog 40 #[.string ⟨#[]⟩] W fun e w' => e = .returned (.tuple #[.agg #[.string ⟨#[]⟩, .string ⟨#[]⟩], .bool false, .bool false]) ∧ Below W.heap.size W w' from fun W => rpath_any [] W (by simp))
            clear HE0
            go_wp2_with fail
            refine Calls.mono (show _ from HBG.out _) ?_
            rintro e w2 ⟨rfl, hb⟩
            have HG2 := Lib.hid (HG1.out.later hb)
            clear hb
            go_wp2_with fail
            have HG3 := HG2
            refine Calls.mono (show _ from HPT.out _) ?_
            rintro e w4 ⟨rfl, hb⟩
            have hg4 := HG3.out.later hb
            have u3 := hg4.v.c3
            have t3 := hg4.v.fz 3
            have u4 := hg4.v.c4
            have t4 := hg4.v.fz 4
            have u2 := hg4.v.c2
            have t2 := hg4.v.fz 2
            have hlt4 := hg4.v.lt
            have hg5 := ((hg4.set3 []).set4 []).set2 false
            have HVX := Lib.hid hg5.v
            have HZX := Lib.hid hg5.z
            have HBX := Lib.hid hg5.b
            clear hb hg4 hg5
            have z0 := HZX.out.c0
            have y0 := HZX.out.fz 0
            have z1 := HZX.out.c1
            have y1 := HZX.out.fz 1
            have z2 := HZX.out.c2
            have y2 := HZX.out.fz 2
            have z3 := HZX.out.c3
            have y3 := HZX.out.fz 3
            have z4 := HZX.out.c4
            have y4 := HZX.out.fz 4
            have z5 := HZX.out.c5
            have y5 := HZX.out.fz 5
            go_wp2_with fail
            have hk := HZX.out.set6 zeroV
            have k0 := hk.c0
            have k1 := hk.c1
            have k2 := hk.c2
            have k3 := hk.c3
            have k4 := hk.c4
            have k5 := hk.c5
            simp only [Go.Proofs.YtkbhmkofflcpjaaGreatDoor.set6, zeroV] at k0 k1 k2 k3 k4 k5
            refine bodyPost_ret (v := .tuple #[vbV zeroV, .int .i64 8]) (by simp [results, Tryz.results23, go_sem, k0, k1, k2, k3, k4, k5, vbV, vbCells, zeroV]) rfl ⟨pv_no HER.out, below_set6 HBX.out (Nat.le_refl _) zeroV⟩
          | cons c q' =>
            have h0 : Q ≠ [] := by rw [hQ]; exact List.cons_ne_nil _ _
            have hB0 : 0 < (⟨Q.toArray⟩ : ByteArray).size := List.length_pos_iff.2 h0
            have hqi : (0 : Int) < (Q.length : Int) := by have := List.length_pos_iff.2 h0; omega
            have hq1 : (1 : Int) ≤ (Q.length : Int) := by omega
            have hneq := ne_empty h0
            have hnq2 : (Q == []) = false := by
              rw [beq_eq_false_iff_ne]
              exact h0
            obtain ⟨b, hb⟩ : ∃ b, ((((⟨Q.toArray⟩ : ByteArray)[0]'hB0).toNat : Int) == 32) = b := ⟨_, rfl⟩
            have hbk : blankL Q = if b then Q.drop 1 else Q := by
              have hh : Q.head? = some ((⟨Q.toArray⟩ : ByteArray)[0]'hB0) := head_eq hB0
              unfold blankL
              rw [hh, ← hb]
              by_cases h32 : (⟨Q.toArray⟩ : ByteArray)[0]'hB0 = 32
              · rw [h32, if_pos rfl]
                rfl
              · rw [if_neg (fun e => h32 (Option.some.inj e)), show ((((⟨Q.toArray⟩ : ByteArray)[0]'hB0).toNat : Int) == 32) = false from byte_ne (d := 32) h32]
                rfl
            have hx1 := ext_drop Q 1 Q.length rfl
            have hrl : (blankL Q).length ≤ 3000 := Nat.le_trans (blank_len Q) hQl
            clear hQ h0
            have HBK := Lib.hid hbk
            clear hbk
            generalize blankL Q = r at *
            go_wp2_with fail
            refine Calls.mono (show _ from HBG.out _) ?_
            rintro e w2 ⟨rfl, hb2⟩
            have HG2 := Lib.hid (HG1.out.later hb2)
            clear hb2
            have HE := HE0
            clear HE0
            go_upto_if 80 with (fail)
            go_cut [7] (fun rv wc => wc = w2 ∧ rv = .string ⟨r.toArray⟩)
            case first =>
              cases b with
              | true =>
                have HR := Lib.hid (show Q.tail = r from (List.drop_one (l := Q)).symm.trans HBK.out.symm)
                go_wp2_with fail
                go_meet
                case rel => exact ⟨rfl, by rw [HR.out]⟩
              | false =>
                have HR := Lib.hid (show Q = r from HBK.out.symm)
                go_wp2_with fail
                go_meet
                case rel => exact ⟨rfl, by rw [HR.out]⟩
            case rest =>
              obtain ⟨rfl, rfl⟩ := hcut
              clear hb hx1 hneq hnq2 hqi hq1 HBK
              have HNP := Lib.hid (fun h => HE.out.trans (rcpt_nopath (r := r) h))
              have HSM := Lib.hid (fun o h => HE.out.trans (rcpt_some (r := r) (o := o) h))
              clear HE
              have hxt : (⟨r.toArray⟩ : ByteArray).extract 0 r.length = ⟨r.toArray⟩ := by rw [ext_eq]; simp
              have HPT := Lib.hid (fun W => rpath_any r W (by omega))
              cases hp : pathL r with
              | none =>
                have HER := Lib.hid (HNP.out hp)
                rw [hp] at HPT
                have HPT2 := Lib.hid (show ∀ W, Calls Tryz.prog 40 #[.string ⟨r.toArray⟩] W fun e w' => e = .returned (.tuple #[.agg #[.string ⟨#[]⟩, .string ⟨#[]⟩], .bool false, .bool false]) ∧ Below W.heap.size W w' from HPT.out)
                clear hp HPT
                go_wp2_with fail
                refine Calls.mono (show _ from HPT2.out _) ?_
                rintro e w4 ⟨rfl, hb⟩
                have hg4 := HG2.out.later hb
                have u3 := hg4.v.c3
                have t3 := hg4.v.fz 3
                have u4 := hg4.v.c4
                have t4 := hg4.v.fz 4
                have u2 := hg4.v.c2
                have t2 := hg4.v.fz 2
                have hlt4 := hg4.v.lt
                have hg5 := ((hg4.set3 []).set4 []).set2 false
                have HVX := Lib.hid hg5.v
                have HZX := Lib.hid hg5.z
                have HBX := Lib.hid hg5.b
                clear hb hg4 hg5
                have z0 := HZX.out.c0
                have y0 := HZX.out.fz 0
                have z1 := HZX.out.c1
                have y1 := HZX.out.fz 1
                have z2 := HZX.out.c2
                have y2 := HZX.out.fz 2
                have z3 := HZX.out.c3
                have y3 := HZX.out.fz 3
                have z4 := HZX.out.c4
                have y4 := HZX.out.fz 4
                have z5 := HZX.out.c5
                have y5 := HZX.out.fz 5
                go_wp2_with fail
                have hk := HZX.out.set6 zeroV
                have k0 := hk.c0
                have k1 := hk.c1
                have k2 := hk.c2
                have k3 := hk.c3
                have k4 := hk.c4
                have k5 := hk.c5
                simp only [Go.Proofs.YtkbhmkofflcpjaaGreatDoor.set6, zeroV] at k0 k1 k2 k3 k4 k5
                refine bodyPost_ret (v := .tuple #[vbV zeroV, .int .i64 8]) (by simp [results, Tryz.results23, go_sem, k0, k1, k2, k3, k4, k5, vbV, vbCells, zeroV]) rfl ⟨pv_no HER.out, below_set6 HBX.out (Nat.le_refl _) zeroV⟩
              | some o =>
                have hbl := box_len hp
                have hpl : r.length ≤ 3000 := by omega
                rw [hp] at HPT
                have HPT2 := Lib.hid (show ∀ W, Calls Tryz.prog 40 #[.string ⟨r.toArray⟩] W fun e w' => e = .returned (.tuple #[.agg #[.string ⟨(pBox (some o)).1.toArray⟩, .string ⟨(pBox (some o)).2.toArray⟩], .bool (pNull (some o)), .bool true]) ∧ Below W.heap.size W w' from HPT.out)
                clear HPT
                have HE := Lib.hid (HSM.out o hp)
                clear hp HSM HNP
                obtain ⟨hbl1, hbl2⟩ := hbl
                have hs1 : (pBox (some o)).1.length ≤ 10000 := by omega
                have hs2 : (pBox (some o)).2.length ≤ 10000 := by omega
                clear hbl1 hbl2 hpl
                generalize (pBox (some o)).1 = l at *
                generalize (pBox (some o)).2 = d at *
                generalize pNull (some o) = x at *
                go_wp2_with fail
                refine Calls.mono (show _ from HPT2.out _) ?_
                rintro e w4 ⟨rfl, hb⟩
                have hg4 := HG2.out.later hb
                have u3 := hg4.v.c3
                have t3 := hg4.v.fz 3
                have u4 := hg4.v.c4
                have t4 := hg4.v.fz 4
                have u2 := hg4.v.c2
                have t2 := hg4.v.fz 2
                have hlt4 := hg4.v.lt
                have hg5 := ((hg4.set3 l).set4 d).set2 x
                have HVX := Lib.hid hg5.v
                have HZX := Lib.hid hg5.z
                have HBX := Lib.hid hg5.b
                clear hb hg4 hg5
                have HVB := Lib.hid (fun W => rverb_any ⟨4, [], x, l, d, 0⟩ W ⟨by simp, hs1, hs2⟩)
                have v0 := HVX.out.c0
                have v1 := HVX.out.c1
                have v2 := HVX.out.c2
                have v3 := HVX.out.c3
                have v4 := HVX.out.c4
                have v5 := HVX.out.c5
                cases hval : validV ⟨4, [], x, l, d, 0⟩ with
                | true =>
                  rw [hval] at HVB
                  have HR := Lib.hid (pv_good HE.out hval)
                  clear hval
                  go_wp2_with fail
                  refine Calls.mono (show _ from HVB.out _) ?_
                  rintro e w9 ⟨rfl, hb⟩
                  have HV9 := Lib.hid (HVX.out.later hb)
                  have HZ9 := Lib.hid (HZX.out.later hb)
                  have HB9 := Lib.hid (HBX.out.trans (hb.mono HBX.out.size))
                  clear hb HVX HZX HBX
                  clear v0 v1 v2 v3 v4 v5
                  have HVX := HV9
                  have HZX := HZ9
                  have HBX := HB9
                  clear HV9 HZ9 HB9
                  have v0 := HVX.out.c0
                  have v1 := HVX.out.c1
                  have v2 := HVX.out.c2
                  have v3 := HVX.out.c3
                  have v4 := HVX.out.c4
                  have v5 := HVX.out.c5
                  have z0 := HZX.out.c0
                  have y0 := HZX.out.fz 0
                  have z1 := HZX.out.c1
                  have y1 := HZX.out.fz 1
                  have z2 := HZX.out.c2
                  have y2 := HZX.out.fz 2
                  have z3 := HZX.out.c3
                  have y3 := HZX.out.fz 3
                  have z4 := HZX.out.c4
                  have y4 := HZX.out.fz 4
                  have z5 := HZX.out.c5
                  have y5 := HZX.out.fz 5
                  go_wp2_with fail
                  have hk := HZX.out.set6 ⟨4, [], x, l, d, 0⟩
                  have k0 := hk.c0
                  have k1 := hk.c1
                  have k2 := hk.c2
                  have k3 := hk.c3
                  have k4 := hk.c4
                  have k5 := hk.c5
                  simp only [Go.Proofs.YtkbhmkofflcpjaaGreatDoor.set6] at k0 k1 k2 k3 k4 k5
                  refine bodyPost_ret (v := .tuple #[vbV ⟨4, [], x, l, d, 0⟩, .int .i64 0]) (by simp [results, Tryz.results23, go_sem, k0, k1, k2, k3, k4, k5, vbV, vbCells]) rfl ⟨HR.out, below_set6 HBX.out (Nat.le_refl _) ⟨4, [], x, l, d, 0⟩⟩
                | false =>
                  rw [hval] at HVB
                  have HR := Lib.hid (pv_bad HE.out hval)
                  clear hval
                  go_wp2_with fail
                  refine Calls.mono (show _ from HVB.out _) ?_
                  rintro e w9 ⟨rfl, hb⟩
                  have HV9 := Lib.hid (HVX.out.later hb)
                  have HZ9 := Lib.hid (HZX.out.later hb)
                  have HB9 := Lib.hid (HBX.out.trans (hb.mono HBX.out.size))
                  clear hb HVX HZX HBX
                  clear v0 v1 v2 v3 v4 v5
                  have HVX := HV9
                  have HZX := HZ9
                  have HBX := HB9
                  clear HV9 HZ9 HB9
                  have z0 := HZX.out.c0
                  have y0 := HZX.out.fz 0
                  have z1 := HZX.out.c1
                  have y1 := HZX.out.fz 1
                  have z2 := HZX.out.c2
                  have y2 := HZX.out.fz 2
                  have z3 := HZX.out.c3
                  have y3 := HZX.out.fz 3
                  have z4 := HZX.out.c4
                  have y4 := HZX.out.fz 4
                  have z5 := HZX.out.c5
                  have y5 := HZX.out.fz 5
                  go_wp2_with fail
                  have hk := HZX.out.set6 zeroV
                  have k0 := hk.c0
                  have k1 := hk.c1
                  have k2 := hk.c2
                  have k3 := hk.c3
                  have k4 := hk.c4
                  have k5 := hk.c5
                  simp only [Go.Proofs.YtkbhmkofflcpjaaGreatDoor.set6, zeroV] at k0 k1 k2 k3 k4 k5
                  refine bodyPost_ret (v := .tuple #[vbV zeroV, .int .i64 8]) (by simp [results, Tryz.results23, go_sem, k0, k1, k2, k3, k4, k5, vbV, vbCells, zeroV]) rfl ⟨HR.out, below_set6 HBX.out (Nat.le_refl _) zeroV⟩

set_option maxHeartbeats 4000000 in
set_option maxRecDepth 100000 in
theorem pv_mail (s : List UInt8) (w : World) (hs : s.length ≤ 3000) (hr : restOk s = true) (h : kindL s = 3) :
    Calls Tryz.prog 23 #[.string ⟨s.toArray⟩] w fun e w' => e = pvE (readV s) ∧ Below w.heap.size w w' := by
  have HA := Lib.hid ((Below.refl _ w).alloc (Nat.le_refl _) (.cells #[.int .i64 0, .string ⟨#[]⟩, .bool false, .string ⟨#[]⟩, .string ⟨#[]⟩, .int .i64 0] 27))
  have HZ0 := Lib.hid (VAt.new w zeroV)
  have HRD := Lib.hid (read_mail3 hr h)
  go_enter Tryz.func23, Tryz.ntmps23
  go_wp2_with fail
  go_loopg [4, 5] 9 (fun g s4 s5 wx => Below w.heap.size w wx ∧ VAt wx w.heap.size zeroV ∧ ∃ (k : Nat) (K : Int), s4 = .int .i64 K ∧ s5 = .int .i64 k ∧ k + g = 10 ∧ 1 ≤ k ∧ ((K = 0 ∧ ∀ j : Nat, 1 ≤ j → j < k → beginsL s (nameL (j : Int)) = false) ∨ K = kindL s))
  case atStart => exact ⟨HA.out, HZ0.out, 1, 0, rfl, rfl, by omega, by omega, .inl ⟨rfl, fun j h1 h2 => by omega⟩⟩
  case round =>
    obtain ⟨hb, hz, k, K, rfl, rfl, hkg, h1, hK⟩ := hrel
    have HB := Lib.hid hb
    have HZ := Lib.hid hz
    have HKK := Lib.hid hK
    clear hb hz hK HA HZ0
    cases gk with
    | succ g =>
      have hk9 : (k : Int) ≤ 9 := by omega
      have HNM := Lib.hid (rname_lit k wr h1 (by omega))
      have hnl := name_len (k : Int)
      have HBG := Lib.hid (rbegins_any s (nameL (k : Int)) wr (by omega) (by omega))
      cases hbg : beginsL s (nameL (k : Int)) with
      | false =>
        have HN2 : Hid ((K = 0 ∧ ∀ j : Nat, 1 ≤ j → j < k + 1 → beginsL s (nameL (j : Int)) = false) ∨ K = kindL s) := Lib.hid (HKK.out.imp (fun h => ⟨h.1, fun j hj1 hj2 => by
          by_cases hjk : j = k
          · subst hjk
            exact hbg
          · exact h.2 j hj1 (by omega)⟩) id)
        rw [hbg] at HBG
        clear hbg
        generalize nameL (k : Int) = nm at *
        go_wp2_with fail
        refine Calls.mono HNM.out ?_
        rintro e w1 ⟨rfl, rfl⟩
        go_wp2_with fail
        refine Calls.mono HBG.out ?_
        rintro e w1 ⟨rfl, hb1⟩
        have HB1 := Lib.hid (HB.out.trans (hb1.mono HB.out.size))
        have HZ1 := Lib.hid (HZ.out.later hb1)
        clear hb1
        go_wp2_with fail
        go_roundg g
        case measure => omega
        case rel => exact ⟨HB1.out, HZ1.out, k + 1, K, rfl, by simp, by omega, by omega, HN2.out⟩
      | true =>
        have HK2 := Lib.hid (kind_begins h1 (by omega) hbg)
        rw [hbg] at HBG
        clear hbg
        generalize nameL (k : Int) = nm at *
        go_wp2_with fail
        refine Calls.mono HNM.out ?_
        rintro e w1 ⟨rfl, rfl⟩
        go_wp2_with fail
        refine Calls.mono HBG.out ?_
        rintro e w1 ⟨rfl, hb1⟩
        have HB1 := Lib.hid (HB.out.trans (hb1.mono HB.out.size))
        have HZ1 := Lib.hid (HZ.out.later hb1)
        clear hb1
        go_wp2_with fail
        go_roundg g
        case measure => omega
        case rel => exact ⟨HB1.out, HZ1.out, k + 1, (k : Int), rfl, by simp, by omega, by omega, .inr HK2.out.symm⟩
    | zero =>
      obtain rfl : k = 10 := by omega
      have HK : K = kindL s := by
        rcases HKK.out with ⟨h0, hn⟩ | h
        · rw [h0, kind_zero hn]
        · exact h
      rw [show ((10 : Nat) : Int) = 10 from rfl]
      generalize wr = W1 at *
      clear HKK hkg h1
      rw [h] at HK
      subst HK
      have h4l : 4 ≤ s.length := (kind_range s).2.2 (by omega)
      have h4i : (4 : Int) ≤ (s.length : Int) := by omega
      have hex := ext_drop s 4 s.length rfl
      have hbg := bg_new w W1 3 HZ.out HB.out
      have HG1 := Lib.hid hbg
      clear hbg
      by_cases hd : s.drop 4 = []
      · have HER := Lib.hid (show readV s = (zeroV, 8) by rw [HRD.out, hd]; rfl)
        have h5i : ¬ ((4 : Int) < (s.length : Int)) := by
          have : s.length ≤ 4 := List.drop_eq_nil_iff.1 hd
          omega
        have HBG := Lib.hid (fun W => rbegins_any [] [32, 70, 82, 79, 77, 58] W (by simp) (by decide))
        rw [show beginsL [] [32, 70, 82, 79, 77, 58] = false from rfl] at HBG
        rw [hd] at hex
        clear hr h hd HRD
        go_wp2_with fail
        refine Calls.mono (show _ from HBG.out _) ?_
        rintro e w2 ⟨rfl, hb⟩
        have hg2 := HG1.out.later hb
        have HVX := Lib.hid hg2.v
        have HZX := Lib.hid hg2.z
        have HBX := Lib.hid hg2.b
        clear hb hg2
        have z0 := HZX.out.c0
        have y0 := HZX.out.fz 0
        have z1 := HZX.out.c1
        have y1 := HZX.out.fz 1
        have z2 := HZX.out.c2
        have y2 := HZX.out.fz 2
        have z3 := HZX.out.c3
        have y3 := HZX.out.fz 3
        have z4 := HZX.out.c4
        have y4 := HZX.out.fz 4
        have z5 := HZX.out.c5
        have y5 := HZX.out.fz 5
        go_wp2_with fail
        have hk := HZX.out.set6 zeroV
        have k0 := hk.c0
        have k1 := hk.c1
        have k2 := hk.c2
        have k3 := hk.c3
        have k4 := hk.c4
        have k5 := hk.c5
        simp only [Go.Proofs.YtkbhmkofflcpjaaGreatDoor.set6, zeroV] at k0 k1 k2 k3 k4 k5
        refine bodyPost_ret (v := .tuple #[vbV zeroV, .int .i64 8]) (by simp [results, Tryz.results23, go_sem, k0, k1, k2, k3, k4, k5, vbV, vbCells, zeroV]) rfl ⟨pv_no HER.out, below_set6 HBX.out (Nat.le_refl _) zeroV⟩
      · have hRs : (s.drop 4).length ≤ 3000 := by simp; omega
        have h5l : 4 < s.length := by
          have : ¬ s.length ≤ 4 := fun e => hd (List.drop_eq_nil_iff.2 e)
          omega
        have h5i : (4 : Int) < (s.length : Int) := by omega
        have hB : 4 < (⟨s.toArray⟩ : ByteArray).size := h5l
        have h32 : s[4] = 32 := by
          have h1 := (rest_head hd).symm.trans hr
          have h2 : (s.drop 4).head? = some 32 := by simpa using h1
          rw [List.head?_drop, List.getElem?_eq_getElem h5l] at h2
          simpa using h2
        have hc4 : ((((⟨s.toArray⟩ : ByteArray)[4]'hB).toNat : Int) != 32) = false := by
          rw [show (⟨s.toArray⟩ : ByteArray)[4]'hB = 32 from h32]
          rfl
        have hR : s.drop 4 = 32 :: s.drop 5 := by rw [drop_at' h5l, h32]
        have hx1 : (⟨(s.drop 4).toArray⟩ : ByteArray).extract 1 (s.drop 4).length = ⟨(s.drop 5).toArray⟩ := by
          rw [ext_drop (s.drop 4) 1 _ rfl, List.drop_drop]
        have hRl : (1 : Int) ≤ (((s.drop 4).length : Nat) : Int) := by rw [hR]; simp; omega
        have hne := ne_empty hd
        have hn2 : (s.drop 4 == []) = false := by
          rw [beq_eq_false_iff_ne]
          exact hd
        have hxl : (s.drop 5).length ≤ 3000 := by simp; omega
        have HR5 := Lib.hid hR
        clear h32 hR hr hd h
        have HBG := Lib.hid (fun W => rbegins_any (s.drop 4) [32, 70, 82, 79, 77, 58] W (by omega) (by decide))
        clear hx1 hRl hne hn2 hxl HR5
        generalize s.drop 4 = R at *
        cases hbg : beginsL R [32, 70, 82, 79, 77, 58] with
        | false =>
          rw [hbg] at HBG HRD
          have HER := Lib.hid (show readV s = (zeroV, 8) from HRD.out)
          clear hbg HRD
          go_wp2_with fail
          refine Calls.mono (show _ from HBG.out _) ?_
          rintro e w2 ⟨rfl, hb⟩
          have hg2 := HG1.out.later hb
          have HVX := Lib.hid hg2.v
          have HZX := Lib.hid hg2.z
          have HBX := Lib.hid hg2.b
          clear hb hg2
          have z0 := HZX.out.c0
          have y0 := HZX.out.fz 0
          have z1 := HZX.out.c1
          have y1 := HZX.out.fz 1
          have z2 := HZX.out.c2
          have y2 := HZX.out.fz 2
          have z3 := HZX.out.c3
          have y3 := HZX.out.fz 3
          have z4 := HZX.out.c4
          have y4 := HZX.out.fz 4
          have z5 := HZX.out.c5
          have y5 := HZX.out.fz 5
          go_wp2_with fail
          have hk := HZX.out.set6 zeroV
          have k0 := hk.c0
          have k1 := hk.c1
          have k2 := hk.c2
          have k3 := hk.c3
          have k4 := hk.c4
          have k5 := hk.c5
          simp only [Go.Proofs.YtkbhmkofflcpjaaGreatDoor.set6, zeroV] at k0 k1 k2 k3 k4 k5
          refine bodyPost_ret (v := .tuple #[vbV zeroV, .int .i64 8]) (by simp [results, Tryz.results23, go_sem, k0, k1, k2, k3, k4, k5, vbV, vbCells, zeroV]) rfl ⟨pv_no HER.out, below_set6 HBX.out (Nat.le_refl _) zeroV⟩
        | true =>
          have hRl : 6 ≤ R.length := (begins_iff hbg).1
          have hRi : (6 : Int) ≤ (R.length : Int) := by omega
          have hxl := ext_drop R 6 R.length rfl
          rw [hbg] at HBG HRD
          have HE0 := Lib.hid (show readV s = mailL (blankL (R.drop 6)) from HRD.out)
          have hQl : (R.drop 6).length ≤ 3000 := by simp; omega
          clear hbg HRD
          generalize R.drop 6 = Q at *
          cases hQ : Q with
          | nil =>
            subst hQ
            have HER := Lib.hid (show readV s = (zeroV, 8) from HE0.out)
            have HPE := Lib.hid (show ∀ W, Calls Tryz.prog 39 #[.string ⟨#[]⟩] W fun e w' => e = .returned (.int .i64 0) ∧ W = w' from fun W => rpathEnd_any [] W (by simp))
            have HPT := Lib.hid (show ∀ W, Calls Tryz.prog 40 #[.string ⟨#[]⟩] W fun e w' => e = .returned (.tuple #[.agg #[.string ⟨#[]⟩, .string ⟨#[]⟩], .bool false, .bool false]) ∧ Below W.heap.size W w' from fun W => rpath_any [] W (by simp))
            clear HE0
            go_wp2_with fail
            refine Calls.mono (show _ from HBG.out _) ?_
            rintro e w2 ⟨rfl, hb⟩
            have HG2 := Lib.hid (HG1.out.later hb)
            clear hb
            go_wp2_with fail
            refine Calls.mono (show _ from HPE.out _) ?_
            rintro e w3 ⟨rfl, rfl⟩
            have hg2 := HG2.out
            have u5 := hg2.v.c5
            have t5 := hg2.v.fz 5
            have hlt5 := hg2.v.lt
            have hg3 := hg2.set5 (-1)
            have HG3 := Lib.hid hg3
            clear hg2 hg3
            go_wp2_with fail
            refine Calls.mono (show _ from HPT.out _) ?_
            rintro e w4 ⟨rfl, hb⟩
            have hg4 := HG3.out.later hb
            have u3 := hg4.v.c3
            have t3 := hg4.v.fz 3
            have u4 := hg4.v.c4
            have t4 := hg4.v.fz 4
            have u2 := hg4.v.c2
            have t2 := hg4.v.fz 2
            have hlt4 := hg4.v.lt
            have hg5 := ((hg4.set3 []).set4 []).set2 false
            have HVX := Lib.hid hg5.v
            have HZX := Lib.hid hg5.z
            have HBX := Lib.hid hg5.b
            clear hb hg4 hg5
            have z0 := HZX.out.c0
            have y0 := HZX.out.fz 0
            have z1 := HZX.out.c1
            have y1 := HZX.out.fz 1
            have z2 := HZX.out.c2
            have y2 := HZX.out.fz 2
            have z3 := HZX.out.c3
            have y3 := HZX.out.fz 3
            have z4 := HZX.out.c4
            have y4 := HZX.out.fz 4
            have z5 := HZX.out.c5
            have y5 := HZX.out.fz 5
            go_wp2_with fail
            have hk := HZX.out.set6 zeroV
            have k0 := hk.c0
            have k1 := hk.c1
            have k2 := hk.c2
            have k3 := hk.c3
            have k4 := hk.c4
            have k5 := hk.c5
            simp only [Go.Proofs.YtkbhmkofflcpjaaGreatDoor.set6, zeroV] at k0 k1 k2 k3 k4 k5
            refine bodyPost_ret (v := .tuple #[vbV zeroV, .int .i64 8]) (by simp [results, Tryz.results23, go_sem, k0, k1, k2, k3, k4, k5, vbV, vbCells, zeroV]) rfl ⟨pv_no HER.out, below_set6 HBX.out (Nat.le_refl _) zeroV⟩
          | cons c q' =>
            have h0 : Q ≠ [] := by rw [hQ]; exact List.cons_ne_nil _ _
            have hB0 : 0 < (⟨Q.toArray⟩ : ByteArray).size := List.length_pos_iff.2 h0
            have hqi : (0 : Int) < (Q.length : Int) := by have := List.length_pos_iff.2 h0; omega
            have hq1 : (1 : Int) ≤ (Q.length : Int) := by omega
            have hneq := ne_empty h0
            have hnq2 : (Q == []) = false := by
              rw [beq_eq_false_iff_ne]
              exact h0
            obtain ⟨b, hb⟩ : ∃ b, ((((⟨Q.toArray⟩ : ByteArray)[0]'hB0).toNat : Int) == 32) = b := ⟨_, rfl⟩
            have hbk : blankL Q = if b then Q.drop 1 else Q := by
              have hh : Q.head? = some ((⟨Q.toArray⟩ : ByteArray)[0]'hB0) := head_eq hB0
              unfold blankL
              rw [hh, ← hb]
              by_cases h32 : (⟨Q.toArray⟩ : ByteArray)[0]'hB0 = 32
              · rw [h32, if_pos rfl]
                rfl
              · rw [if_neg (fun e => h32 (Option.some.inj e)), show ((((⟨Q.toArray⟩ : ByteArray)[0]'hB0).toNat : Int) == 32) = false from byte_ne (d := 32) h32]
                rfl
            have hx1 := ext_drop Q 1 Q.length rfl
            have hrl : (blankL Q).length ≤ 3000 := Nat.le_trans (blank_len Q) hQl
            clear hQ h0
            have HBK := Lib.hid hbk
            clear hbk
            generalize blankL Q = r at *
            go_wp2_with fail
            refine Calls.mono (show _ from HBG.out _) ?_
            rintro e w2 ⟨rfl, hb2⟩
            have HG2 := Lib.hid (HG1.out.later hb2)
            clear hb2
            have HE := HE0
            clear HE0
            go_upto_if 80 with (fail)
            go_cut [7] (fun rv wc => wc = w2 ∧ rv = .string ⟨r.toArray⟩)
            case first =>
              cases b with
              | true =>
                have HR := Lib.hid (show Q.tail = r from (List.drop_one (l := Q)).symm.trans HBK.out.symm)
                go_wp2_with fail
                go_meet
                case rel => exact ⟨rfl, by rw [HR.out]⟩
              | false =>
                have HR := Lib.hid (show Q = r from HBK.out.symm)
                go_wp2_with fail
                go_meet
                case rel => exact ⟨rfl, by rw [HR.out]⟩
            case rest =>
              obtain ⟨rfl, rfl⟩ := hcut
              clear hb hx1 hneq hnq2 hqi hq1 HBK
              obtain ⟨n, hn⟩ : ∃ n, peL false r = n := ⟨_, rfl⟩
              have hnl : n ≤ r.length := by rw [← hn]; exact pe_le r
              have HPE := Lib.hid (fun W => rpathEnd_any r W (by omega))
              rw [hn] at HPE
              have HNP := Lib.hid (fun h => HE.out.trans (mail_nopath (r := r) h))
              have HNT := Lib.hid (fun o h ht => HE.out.trans (mail_notail (r := r) (o := o) h ht))
              have HSM := Lib.hid (fun o z h ht => HE.out.trans (mail_some (r := r) (o := o) (z := z) h ht))
              rw [hn] at HNP HNT HSM
              clear hn HE
              have hni : (n : Int) ≤ (r.length : Int) := by omega
              have hn0 : (0 : Int) ≤ (n : Int) := by omega
              have hxt : (⟨r.toArray⟩ : ByteArray).extract 0 n = ⟨(r.take n).toArray⟩ := by rw [ext_eq]; rfl
              have hxd := ext_drop r n r.length rfl
              have HPT := Lib.hid (fun W => rpath_any (r.take n) W (by simp; omega))
              cases hp : pathL (r.take n) with
              | none =>
                have HER := Lib.hid (HNP.out hp)
                rw [hp] at HPT
                have HPT2 := Lib.hid (show ∀ W, Calls Tryz.prog 40 #[.string ⟨(r.take n).toArray⟩] W fun e w' => e = .returned (.tuple #[.agg #[.string ⟨#[]⟩, .string ⟨#[]⟩], .bool false, .bool false]) ∧ Below W.heap.size W w' from HPT.out)
                clear hp HPT
                go_wp2_with fail
                refine Calls.mono (HPE.out _) ?_
                rintro e w3 ⟨rfl, rfl⟩
                have hg2 := HG2.out
                have u5 := hg2.v.c5
                have t5 := hg2.v.fz 5
                have hlt5 := hg2.v.lt
                have hg3 := hg2.set5 (-1)
                have HG3 := Lib.hid hg3
                clear hg2 hg3
                go_wp2_with fail
                refine Calls.mono (show _ from HPT2.out _) ?_
                rintro e w4 ⟨rfl, hb⟩
                have hg4 := HG3.out.later hb
                have u3 := hg4.v.c3
                have t3 := hg4.v.fz 3
                have u4 := hg4.v.c4
                have t4 := hg4.v.fz 4
                have u2 := hg4.v.c2
                have t2 := hg4.v.fz 2
                have hlt4 := hg4.v.lt
                have hg5 := ((hg4.set3 []).set4 []).set2 false
                have HVX := Lib.hid hg5.v
                have HZX := Lib.hid hg5.z
                have HBX := Lib.hid hg5.b
                clear hb hg4 hg5
                have z0 := HZX.out.c0
                have y0 := HZX.out.fz 0
                have z1 := HZX.out.c1
                have y1 := HZX.out.fz 1
                have z2 := HZX.out.c2
                have y2 := HZX.out.fz 2
                have z3 := HZX.out.c3
                have y3 := HZX.out.fz 3
                have z4 := HZX.out.c4
                have y4 := HZX.out.fz 4
                have z5 := HZX.out.c5
                have y5 := HZX.out.fz 5
                go_wp2_with fail
                have hk := HZX.out.set6 zeroV
                have k0 := hk.c0
                have k1 := hk.c1
                have k2 := hk.c2
                have k3 := hk.c3
                have k4 := hk.c4
                have k5 := hk.c5
                simp only [Go.Proofs.YtkbhmkofflcpjaaGreatDoor.set6, zeroV] at k0 k1 k2 k3 k4 k5
                refine bodyPost_ret (v := .tuple #[vbV zeroV, .int .i64 8]) (by simp [results, Tryz.results23, go_sem, k0, k1, k2, k3, k4, k5, vbV, vbCells, zeroV]) rfl ⟨pv_no HER.out, below_set6 HBX.out (Nat.le_refl _) zeroV⟩
              | some o =>
                have hbl := box_len hp
                have hpl : (r.take n).length ≤ 3000 := by simp; omega
                rw [hp] at HPT
                have HPT2 := Lib.hid (show ∀ W, Calls Tryz.prog 40 #[.string ⟨(r.take n).toArray⟩] W fun e w' => e = .returned (.tuple #[.agg #[.string ⟨(pBox (some o)).1.toArray⟩, .string ⟨(pBox (some o)).2.toArray⟩], .bool (pNull (some o)), .bool true]) ∧ Below W.heap.size W w' from HPT.out)
                clear HPT
                have HNT1 := Lib.hid (fun ht => HNT.out o hp ht)
                have HSM1 := Lib.hid (fun z ht => HSM.out o z hp ht)
                clear hp HNT HSM HNP
                obtain ⟨hbl1, hbl2⟩ := hbl
                have hs1 : (pBox (some o)).1.length ≤ 10000 := by omega
                have hs2 : (pBox (some o)).2.length ≤ 10000 := by omega
                clear hbl1 hbl2 hpl
                generalize (pBox (some o)).1 = l at *
                generalize (pBox (some o)).2 = d at *
                generalize pNull (some o) = x at *
                have htl : (r.drop n).length = r.length - n := by simp
                by_cases hT : r.drop n = []
                · have HE := Lib.hid (HSM1.out (-1) (by rw [hT]; rfl))
                  have hnlt : ¬ ((n : Int) < (r.length : Int)) := by
                    have : r.length ≤ n := List.drop_eq_nil_iff.1 hT
                    omega
                  clear hT HNT1 HSM1
                  go_wp2_with fail
                  refine Calls.mono (HPE.out _) ?_
                  rintro e w3 ⟨rfl, rfl⟩
                  have hg2 := HG2.out
                  have u5 := hg2.v.c5
                  have t5 := hg2.v.fz 5
                  have hlt5 := hg2.v.lt
                  have hg3 := hg2.set5 (-1)
                  have HG3 := Lib.hid hg3
                  clear hg2 hg3
                  go_wp2_with fail
                  refine Calls.mono (show _ from HPT2.out _) ?_
                  rintro e w4 ⟨rfl, hb⟩
                  have hg4 := HG3.out.later hb
                  have u3 := hg4.v.c3
                  have t3 := hg4.v.fz 3
                  have u4 := hg4.v.c4
                  have t4 := hg4.v.fz 4
                  have u2 := hg4.v.c2
                  have t2 := hg4.v.fz 2
                  have hlt4 := hg4.v.lt
                  have hg5 := ((hg4.set3 l).set4 d).set2 x
                  have HVX := Lib.hid hg5.v
                  have HZX := Lib.hid hg5.z
                  have HBX := Lib.hid hg5.b
                  clear hb hg4 hg5
                  have HVB := Lib.hid (fun W => rverb_any ⟨3, [], x, l, d, -1⟩ W ⟨by simp, hs1, hs2⟩)
                  have v0 := HVX.out.c0
                  have v1 := HVX.out.c1
                  have v2 := HVX.out.c2
                  have v3 := HVX.out.c3
                  have v4 := HVX.out.c4
                  have v5 := HVX.out.c5
                  cases hval : validV ⟨3, [], x, l, d, -1⟩ with
                  | true =>
                    rw [hval] at HVB
                    have HR := Lib.hid (pv_good HE.out hval)
                    clear hval
                    go_wp2_with fail
                    refine Calls.mono (show _ from HVB.out _) ?_
                    rintro e w9 ⟨rfl, hb⟩
                    have HV9 := Lib.hid (HVX.out.later hb)
                    have HZ9 := Lib.hid (HZX.out.later hb)
                    have HB9 := Lib.hid (HBX.out.trans (hb.mono HBX.out.size))
                    clear hb HVX HZX HBX
                    clear v0 v1 v2 v3 v4 v5
                    have HVX := HV9
                    have HZX := HZ9
                    have HBX := HB9
                    clear HV9 HZ9 HB9
                    have v0 := HVX.out.c0
                    have v1 := HVX.out.c1
                    have v2 := HVX.out.c2
                    have v3 := HVX.out.c3
                    have v4 := HVX.out.c4
                    have v5 := HVX.out.c5
                    have z0 := HZX.out.c0
                    have y0 := HZX.out.fz 0
                    have z1 := HZX.out.c1
                    have y1 := HZX.out.fz 1
                    have z2 := HZX.out.c2
                    have y2 := HZX.out.fz 2
                    have z3 := HZX.out.c3
                    have y3 := HZX.out.fz 3
                    have z4 := HZX.out.c4
                    have y4 := HZX.out.fz 4
                    have z5 := HZX.out.c5
                    have y5 := HZX.out.fz 5
                    go_wp2_with fail
                    have hk := HZX.out.set6 ⟨3, [], x, l, d, -1⟩
                    have k0 := hk.c0
                    have k1 := hk.c1
                    have k2 := hk.c2
                    have k3 := hk.c3
                    have k4 := hk.c4
                    have k5 := hk.c5
                    simp only [Go.Proofs.YtkbhmkofflcpjaaGreatDoor.set6] at k0 k1 k2 k3 k4 k5
                    refine bodyPost_ret (v := .tuple #[vbV ⟨3, [], x, l, d, -1⟩, .int .i64 0]) (by simp [results, Tryz.results23, go_sem, k0, k1, k2, k3, k4, k5, vbV, vbCells]) rfl ⟨HR.out, below_set6 HBX.out (Nat.le_refl _) ⟨3, [], x, l, d, -1⟩⟩
                  | false =>
                    rw [hval] at HVB
                    have HR := Lib.hid (pv_bad HE.out hval)
                    clear hval
                    go_wp2_with fail
                    refine Calls.mono (show _ from HVB.out _) ?_
                    rintro e w9 ⟨rfl, hb⟩
                    have HV9 := Lib.hid (HVX.out.later hb)
                    have HZ9 := Lib.hid (HZX.out.later hb)
                    have HB9 := Lib.hid (HBX.out.trans (hb.mono HBX.out.size))
                    clear hb HVX HZX HBX
                    clear v0 v1 v2 v3 v4 v5
                    have HVX := HV9
                    have HZX := HZ9
                    have HBX := HB9
                    clear HV9 HZ9 HB9
                    have z0 := HZX.out.c0
                    have y0 := HZX.out.fz 0
                    have z1 := HZX.out.c1
                    have y1 := HZX.out.fz 1
                    have z2 := HZX.out.c2
                    have y2 := HZX.out.fz 2
                    have z3 := HZX.out.c3
                    have y3 := HZX.out.fz 3
                    have z4 := HZX.out.c4
                    have y4 := HZX.out.fz 4
                    have z5 := HZX.out.c5
                    have y5 := HZX.out.fz 5
                    go_wp2_with fail
                    have hk := HZX.out.set6 zeroV
                    have k0 := hk.c0
                    have k1 := hk.c1
                    have k2 := hk.c2
                    have k3 := hk.c3
                    have k4 := hk.c4
                    have k5 := hk.c5
                    simp only [Go.Proofs.YtkbhmkofflcpjaaGreatDoor.set6, zeroV] at k0 k1 k2 k3 k4 k5
                    refine bodyPost_ret (v := .tuple #[vbV zeroV, .int .i64 8]) (by simp [results, Tryz.results23, go_sem, k0, k1, k2, k3, k4, k5, vbV, vbCells, zeroV]) rfl ⟨HR.out, below_set6 HBX.out (Nat.le_refl _) zeroV⟩
                · have hnlt : (n : Int) < (r.length : Int) := by
                    have : ¬ r.length ≤ n := fun e => hT (List.drop_eq_nil_iff.2 e)
                    omega
                  have HBS := Lib.hid (fun W => rbegins_any (r.drop n) [32, 83, 73, 90, 69, 61] W (by simp; omega) (by decide))
                  cases hbs : beginsL (r.drop n) [32, 83, 73, 90, 69, 61] with
                  | false =>
                    have HER := Lib.hid (HNT1.out (by rw [tailL, if_neg hT, hbs]; rfl))
                    rw [hbs] at HBS
                    clear hbs hT HNT1 HSM1
                    generalize r.drop n = T at *
                    go_wp2_with fail
                    refine Calls.mono (HPE.out _) ?_
                    rintro e w3 ⟨rfl, rfl⟩
                    have hg2 := HG2.out
                    have u5 := hg2.v.c5
                    have t5 := hg2.v.fz 5
                    have hlt5 := hg2.v.lt
                    have hg3 := hg2.set5 (-1)
                    have HG3 := Lib.hid hg3
                    clear hg2 hg3
                    go_wp2_with fail
                    refine Calls.mono (show _ from HPT2.out _) ?_
                    rintro e w4 ⟨rfl, hb⟩
                    have hg4 := HG3.out.later hb
                    have u3 := hg4.v.c3
                    have t3 := hg4.v.fz 3
                    have u4 := hg4.v.c4
                    have t4 := hg4.v.fz 4
                    have u2 := hg4.v.c2
                    have t2 := hg4.v.fz 2
                    have hlt4 := hg4.v.lt
                    have hg5 := ((hg4.set3 l).set4 d).set2 x
                    have HG5 := Lib.hid hg5
                    clear hb hg4 hg5
                    go_wp2_with fail
                    refine Calls.mono (show _ from HBS.out _) ?_
                    rintro e w5 ⟨rfl, hb⟩
                    have hg6 := HG5.out.later hb
                    have HVX := Lib.hid hg6.v
                    have HZX := Lib.hid hg6.z
                    have HBX := Lib.hid hg6.b
                    clear hb hg6
                    have z0 := HZX.out.c0
                    have y0 := HZX.out.fz 0
                    have z1 := HZX.out.c1
                    have y1 := HZX.out.fz 1
                    have z2 := HZX.out.c2
                    have y2 := HZX.out.fz 2
                    have z3 := HZX.out.c3
                    have y3 := HZX.out.fz 3
                    have z4 := HZX.out.c4
                    have y4 := HZX.out.fz 4
                    have z5 := HZX.out.c5
                    have y5 := HZX.out.fz 5
                    go_wp2_with fail
                    have hk := HZX.out.set6 zeroV
                    have k0 := hk.c0
                    have k1 := hk.c1
                    have k2 := hk.c2
                    have k3 := hk.c3
                    have k4 := hk.c4
                    have k5 := hk.c5
                    simp only [Go.Proofs.YtkbhmkofflcpjaaGreatDoor.set6, zeroV] at k0 k1 k2 k3 k4 k5
                    refine bodyPost_ret (v := .tuple #[vbV zeroV, .int .i64 8]) (by simp [results, Tryz.results23, go_sem, k0, k1, k2, k3, k4, k5, vbV, vbCells, zeroV]) rfl ⟨pv_no HER.out, below_set6 HBX.out (Nat.le_refl _) zeroV⟩
                  | true =>
                    have h6 := (begins_iff hbs).1
                    have h6l : n + 6 ≤ r.length := by simp at h6; omega
                    have h6i : ((n : Int) + 6) ≤ (r.length : Int) := by omega
                    have h60 : (0 : Int) ≤ (n : Int) + 6 := by omega
                    have hw6 : IntKind.i64.wrap ((n : Int) + 6) = (n : Int) + 6 := IntWalk.i64_in _ (by omega)
                    have ht6 : ((n : Int) + 6).toNat = n + 6 := by omega
                    have hx6 := ext_drop r (n + 6) r.length rfl
                    have HSZ := Lib.hid (fun W => rsize_any (r.drop (n + 6)) W (by simp; omega))
                    have HTL := Lib.hid (show tailL (r.drop n) = (sizeL (r.drop (n + 6))).map fun k => (k : Int) by
                      rw [tailL, if_neg hT, hbs, if_pos rfl, List.drop_drop])
                    rw [hbs] at HBS
                    clear hbs hT h6
                    cases hsz : sizeL (r.drop (n + 6)) with
                    | none =>
                      have HER := Lib.hid (HNT1.out (by rw [HTL.out, hsz]; rfl))
                      rw [hsz] at HSZ
                      clear hsz HTL HNT1 HSM1
                      generalize r.drop n = T at *
                      generalize szV (r.drop (n + 6)) = sv at *
                      generalize r.drop (n + 6) = U at *
                      go_wp2_with fail
                      refine Calls.mono (HPE.out _) ?_
                      rintro e w3 ⟨rfl, rfl⟩
                      have hg2 := HG2.out
                      have u5 := hg2.v.c5
                      have t5 := hg2.v.fz 5
                      have hlt5 := hg2.v.lt
                      have hg3 := hg2.set5 (-1)
                      have HG3 := Lib.hid hg3
                      clear hg2 hg3
                      go_wp2_with fail
                      refine Calls.mono (show _ from HPT2.out _) ?_
                      rintro e w4 ⟨rfl, hb⟩
                      have hg4 := HG3.out.later hb
                      have u3 := hg4.v.c3
                      have t3 := hg4.v.fz 3
                      have u4 := hg4.v.c4
                      have t4 := hg4.v.fz 4
                      have u2 := hg4.v.c2
                      have t2 := hg4.v.fz 2
                      have hlt4 := hg4.v.lt
                      have hg5 := ((hg4.set3 l).set4 d).set2 x
                      have HG5 := Lib.hid hg5
                      clear hb hg4 hg5
                      go_wp2_with fail
                      refine Calls.mono (show _ from HBS.out _) ?_
                      rintro e w5 ⟨rfl, hb⟩
                      have HG6 := Lib.hid (HG5.out.later hb)
                      clear hb
                      go_wp2_with fail
                      refine Calls.mono (show _ from HSZ.out _) ?_
                      rintro e w6 ⟨rfl, rfl⟩
                      have hg6 := HG6.out
                      have u5 := hg6.v.c5
                      have t5 := hg6.v.fz 5
                      have hlt6 := hg6.v.lt
                      have hg7 := hg6.set5 sv
                      have HVX := Lib.hid hg7.v
                      have HZX := Lib.hid hg7.z
                      have HBX := Lib.hid hg7.b
                      clear hg6 hg7
                      have z0 := HZX.out.c0
                      have y0 := HZX.out.fz 0
                      have z1 := HZX.out.c1
                      have y1 := HZX.out.fz 1
                      have z2 := HZX.out.c2
                      have y2 := HZX.out.fz 2
                      have z3 := HZX.out.c3
                      have y3 := HZX.out.fz 3
                      have z4 := HZX.out.c4
                      have y4 := HZX.out.fz 4
                      have z5 := HZX.out.c5
                      have y5 := HZX.out.fz 5
                      go_wp2_with fail
                      have hk := HZX.out.set6 zeroV
                      have k0 := hk.c0
                      have k1 := hk.c1
                      have k2 := hk.c2
                      have k3 := hk.c3
                      have k4 := hk.c4
                      have k5 := hk.c5
                      simp only [Go.Proofs.YtkbhmkofflcpjaaGreatDoor.set6, zeroV] at k0 k1 k2 k3 k4 k5
                      refine bodyPost_ret (v := .tuple #[vbV zeroV, .int .i64 8]) (by simp [results, Tryz.results23, go_sem, k0, k1, k2, k3, k4, k5, vbV, vbCells, zeroV]) rfl ⟨pv_no HER.out, below_set6 HBX.out (Nat.le_refl _) zeroV⟩
                    | some m =>
                      have HE := Lib.hid (HSM1.out (m : Int) (by rw [HTL.out, hsz]; rfl))
                      have hsv := sz_some hsz
                      rw [hsz, hsv] at HSZ
                      clear hsz HTL HNT1 HSM1 hsv
                      generalize r.drop n = T at *
                      generalize r.drop (n + 6) = U at *
                      go_wp2_with fail
                      refine Calls.mono (HPE.out _) ?_
                      rintro e w3 ⟨rfl, rfl⟩
                      have hg2 := HG2.out
                      have u5 := hg2.v.c5
                      have t5 := hg2.v.fz 5
                      have hlt5 := hg2.v.lt
                      have hg3 := hg2.set5 (-1)
                      have HG3 := Lib.hid hg3
                      clear hg2 hg3
                      go_wp2_with fail
                      refine Calls.mono (show _ from HPT2.out _) ?_
                      rintro e w4 ⟨rfl, hb⟩
                      have hg4 := HG3.out.later hb
                      have u3 := hg4.v.c3
                      have t3 := hg4.v.fz 3
                      have u4 := hg4.v.c4
                      have t4 := hg4.v.fz 4
                      have u2 := hg4.v.c2
                      have t2 := hg4.v.fz 2
                      have hlt4 := hg4.v.lt
                      have hg5 := ((hg4.set3 l).set4 d).set2 x
                      have HG5 := Lib.hid hg5
                      clear hb hg4 hg5
                      go_wp2_with fail
                      refine Calls.mono (show _ from HBS.out _) ?_
                      rintro e w5 ⟨rfl, hb⟩
                      have HG6 := Lib.hid (HG5.out.later hb)
                      clear hb
                      go_wp2_with fail
                      refine Calls.mono (show _ from HSZ.out _) ?_
                      rintro e w6 ⟨rfl, rfl⟩
                      have hg6 := HG6.out
                      have u5 := hg6.v.c5
                      have t5 := hg6.v.fz 5
                      have hlt6 := hg6.v.lt
                      have hg7 := hg6.set5 (m : Int)
                      have HVX := Lib.hid hg7.v
                      have HZX := Lib.hid hg7.z
                      have HBX := Lib.hid hg7.b
                      clear hg6 hg7
                      have HVB := Lib.hid (fun W => rverb_any ⟨3, [], x, l, d, (m : Int)⟩ W ⟨by simp, hs1, hs2⟩)
                      have v0 := HVX.out.c0
                      have v1 := HVX.out.c1
                      have v2 := HVX.out.c2
                      have v3 := HVX.out.c3
                      have v4 := HVX.out.c4
                      have v5 := HVX.out.c5
                      cases hval : validV ⟨3, [], x, l, d, (m : Int)⟩ with
                      | true =>
                        rw [hval] at HVB
                        have HR := Lib.hid (pv_good HE.out hval)
                        clear hval
                        go_wp2_with fail
                        refine Calls.mono (show _ from HVB.out _) ?_
                        rintro e w9 ⟨rfl, hb⟩
                        have HV9 := Lib.hid (HVX.out.later hb)
                        have HZ9 := Lib.hid (HZX.out.later hb)
                        have HB9 := Lib.hid (HBX.out.trans (hb.mono HBX.out.size))
                        clear hb HVX HZX HBX
                        clear v0 v1 v2 v3 v4 v5
                        have HVX := HV9
                        have HZX := HZ9
                        have HBX := HB9
                        clear HV9 HZ9 HB9
                        have v0 := HVX.out.c0
                        have v1 := HVX.out.c1
                        have v2 := HVX.out.c2
                        have v3 := HVX.out.c3
                        have v4 := HVX.out.c4
                        have v5 := HVX.out.c5
                        have z0 := HZX.out.c0
                        have y0 := HZX.out.fz 0
                        have z1 := HZX.out.c1
                        have y1 := HZX.out.fz 1
                        have z2 := HZX.out.c2
                        have y2 := HZX.out.fz 2
                        have z3 := HZX.out.c3
                        have y3 := HZX.out.fz 3
                        have z4 := HZX.out.c4
                        have y4 := HZX.out.fz 4
                        have z5 := HZX.out.c5
                        have y5 := HZX.out.fz 5
                        go_wp2_with fail
                        have hk := HZX.out.set6 ⟨3, [], x, l, d, (m : Int)⟩
                        have k0 := hk.c0
                        have k1 := hk.c1
                        have k2 := hk.c2
                        have k3 := hk.c3
                        have k4 := hk.c4
                        have k5 := hk.c5
                        simp only [Go.Proofs.YtkbhmkofflcpjaaGreatDoor.set6] at k0 k1 k2 k3 k4 k5
                        refine bodyPost_ret (v := .tuple #[vbV ⟨3, [], x, l, d, (m : Int)⟩, .int .i64 0]) (by simp [results, Tryz.results23, go_sem, k0, k1, k2, k3, k4, k5, vbV, vbCells]) rfl ⟨HR.out, below_set6 HBX.out (Nat.le_refl _) ⟨3, [], x, l, d, (m : Int)⟩⟩
                      | false =>
                        rw [hval] at HVB
                        have HR := Lib.hid (pv_bad HE.out hval)
                        clear hval
                        go_wp2_with fail
                        refine Calls.mono (show _ from HVB.out _) ?_
                        rintro e w9 ⟨rfl, hb⟩
                        have HV9 := Lib.hid (HVX.out.later hb)
                        have HZ9 := Lib.hid (HZX.out.later hb)
                        have HB9 := Lib.hid (HBX.out.trans (hb.mono HBX.out.size))
                        clear hb HVX HZX HBX
                        clear v0 v1 v2 v3 v4 v5
                        have HVX := HV9
                        have HZX := HZ9
                        have HBX := HB9
                        clear HV9 HZ9 HB9
                        have z0 := HZX.out.c0
                        have y0 := HZX.out.fz 0
                        have z1 := HZX.out.c1
                        have y1 := HZX.out.fz 1
                        have z2 := HZX.out.c2
                        have y2 := HZX.out.fz 2
                        have z3 := HZX.out.c3
                        have y3 := HZX.out.fz 3
                        have z4 := HZX.out.c4
                        have y4 := HZX.out.fz 4
                        have z5 := HZX.out.c5
                        have y5 := HZX.out.fz 5
                        go_wp2_with fail
                        have hk := HZX.out.set6 zeroV
                        have k0 := hk.c0
                        have k1 := hk.c1
                        have k2 := hk.c2
                        have k3 := hk.c3
                        have k4 := hk.c4
                        have k5 := hk.c5
                        simp only [Go.Proofs.YtkbhmkofflcpjaaGreatDoor.set6, zeroV] at k0 k1 k2 k3 k4 k5
                        refine bodyPost_ret (v := .tuple #[vbV zeroV, .int .i64 8]) (by simp [results, Tryz.results23, go_sem, k0, k1, k2, k3, k4, k5, vbV, vbCells, zeroV]) rfl ⟨HR.out, below_set6 HBX.out (Nat.le_refl _) zeroV⟩

/-- ParseVerb. -/
theorem parseVerb_any (s : List UInt8) (w : World) (hs : s.length ≤ 3000) :
    Calls Tryz.prog 23 #[.string ⟨s.toArray⟩] w fun e w' => e = pvE (readV s) ∧ Below w.heap.size w w' := by
  by_cases h : kindL s = 0 ∨ restOk s = false
  · exact pv_none s w hs h
  · simp only [not_or, Bool.not_eq_false] at h
    obtain ⟨hk, hr⟩ := h
    have h9 := kind_range s
    have : kindL s = 1 ∨ kindL s = 2 ∨ kindL s = 3 ∨ kindL s = 4 ∨ kindL s = 5 ∨ kindL s = 6 ∨ kindL s = 7 ∨ kindL s = 8 ∨ kindL s = 9 := by omega
    rcases this with h | h | h | h | h | h | h | h | h
    · exact pv_helo1 s w hs hr h
    · exact pv_helo2 s w hs hr h
    · exact pv_mail s w hs hr h
    · exact pv_rcpt s w hs hr h
    · exact pv_bare5 s w hs hr h
    · exact pv_bare6 s w hs hr h
    · exact pv_noop s w hs hr h
    · exact pv_bare8 s w hs hr h
    · exact pv_vrfy s w hs hr h
end Go.Proofs.YtkbhmkofflcpjaaGreatDoor

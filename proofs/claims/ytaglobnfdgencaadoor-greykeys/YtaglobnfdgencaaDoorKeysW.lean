/-
  GreyKeys: the law's walk.
  Conditions: as each theorem states them: the library's table of powers of ten is as its initialiser lays it.
-/
import Derived.Test.YtaglobnfdgencaaDoorKB
namespace Go.Proofs.YtaglobnfdgencaaDoor
open Go.RowKit

theorem str_list (s : ByteArray) : ∃ l : List UInt8, s = ⟨l.toArray⟩ ∧ s.size = l.length :=
  ⟨s.data.toList, by rw [Array.toArray_toList], by rw [Array.length_toList]; rfl⟩
set_option maxHeartbeats 8000000 in
set_option maxRecDepth 100000 in
theorem keys_any (l : List Ac) (v : Value) (w : World) (hl : AcsAt w v l) (ht : Tab w) (hpos : 0 < w.heap.size) :
    Calls Tryd.prog 3 #[v] w fun e w' => e = .returned (.bool true) ∧ Below w.heap.size w w' := by
  have HL := Lib.hid hl
  obtain ⟨A, c, rfl, hlc⟩ := hl.slice
  have HT := Lib.hid ht
  have HP := Lib.hid hpos
  have HWK := Lib.hid (fun W => wakes_any W)
  have HNM := Lib.hid (fun x W => num_any x W)
  clear hl ht hpos
  go_enter Tryd.func3, Tryd.ntmps3
  go_wp2_with fail
  go_loopw [3] (fun iv wr => ∃ i : Nat, iv = .int .i64 i ∧ i ≤ l.length ∧ i ≤ 40 ∧ Below w.heap.size w wr) (fun iv _ => 41 - (intOf iv).toNat)
  case atStart => exact ⟨0, rfl, Nat.zero_le _, Nat.zero_le _, Below.refl _ _⟩
  case round =>
    obtain ⟨i, rfl, hil, hi40, hb⟩ := hrel
    have HB := Lib.hid hb
    clear hb
    by_cases hin : i < l.length ∧ i < 40
    · have hlti : (i : Int) < (l.length : Int) := by omega
      have h40i : (i : Int) < 40 := by omega
      have HIN := Lib.hid hin
      obtain ⟨b, o, hA, hbw0, qa⟩ := HL.out.at (i := i) hin.1 rfl (Below.refl _ w)
      subst hA
      generalize l[i]'hin.1 = x at *
      obtain ⟨kl, hkl, hks⟩ := str_list x.k
      have q0 := qa.c0
      rw [hkl] at q0
      have CC := Lib.hid (show w.cell? ⟨b, o + i * 3, none⟩ = some (.string ⟨kl.toArray⟩) ∧ w.cell? ⟨b, o + i * 3 + 1, none⟩ = some (.int .i64 x.n) from ⟨q0, qa.c1⟩)
      have HZN := Lib.hid qa.nb
      have HBL := Lib.hid hbw0
      have hbl : b < wr.heap.size := Nat.lt_of_lt_of_le hbw0 HB.out.size
      have c0 := (HB.out.cell (p := ⟨b, o + i * 3, none⟩) HBL.out).trans CC.out.1
      clear qa hin hkl hks q0 hbw0
      generalize x.n = z at *
      clear x
      by_cases hbig : (2000 : Int) < (kl.length : Int)
      · go_wp2_with fail
        go_ret
        exact ⟨rfl, HB.out⟩
      · have hbd : decide ((2000 : Int) < (kl.length : Int)) = false := decide_eq_false hbig
        have HK2 := Lib.hid (show kl.length ≤ 2000 by omega)
        clear hbig
        go_upto_region 6 with (fail)
        clear c0 hbl hbd
        go_wp2_with fail
        go_loopw [4, 5, 6, 7, 8, 9, 10] (fun kv _ _ _ _ _ _ w2 => ∃ k : Nat, kv = .int .i64 k ∧ k ≤ 2 ∧ Below w.heap.size w w2) (fun kv _ _ _ _ _ _ _ => 3 - (intOf kv).toNat)
        case atStart => exact ⟨0, rfl, Nat.zero_le _, HB.out⟩
        case round =>
          obtain ⟨k, rfl, hk2, hb⟩ := hrel
          have HB2 := Lib.hid hb
          have hbw : b < wr.heap.size := Nat.lt_of_lt_of_le HBL.out hb.size
          have c0 := (hb.cell (p := ⟨b, o + i * 3, none⟩) HBL.out).trans CC.out.1
          have c1 := (hb.cell (p := ⟨b, o + i * 3 + 1, none⟩) HBL.out).trans CC.out.2
          clear hb
          by_cases hk : k < 2
          · have hklt : (k : Int) < 2 := by omega
            go_upto_if 38 with (fail)
            go_cut [5, 6] (fun fv tv wc => ∃ f t : List UInt8, fv = .string ⟨f.toArray⟩ ∧ tv = .string ⟨t.toArray⟩ ∧ f.length ≤ 2000 ∧ t.length ≤ 2000 ∧ Below w.heap.size w wc)
            case first =>
              by_cases hk1 : k = 1
              · have hq : ((k : Int) == 1) = true := by rw [hk1]; rfl
                have hq' : (k == 1) = true := by rw [hk1]; rfl
                clear hk1
                go_wp2_with fail
                go_quiet (fail)
                go_wp2_with fail
                go_meet
                case rel => exact ⟨[97], kl, rfl, rfl, by simp, HK2.out, below_drewN HB2.out nq⟩
              · have hq : ((k : Int) == 1) = false := by rw [beq_eq_false_iff_ne]; omega
                have hq' : (k == 1) = false := by rw [beq_eq_false_iff_ne]; omega
                clear hk1
                go_wp2_with fail
                go_meet
                case rel => exact ⟨kl, [98], rfl, rfl, HK2.out, by simp, HB2.out⟩
            case rest =>
              obtain ⟨f, t, rfl, rfl, hf, hT, hbc⟩ := hcut
              have HF := Lib.hid hf
              have HTT := Lib.hid hT
              have HBC := Lib.hid hbc
              have hbw2 : b < wc.heap.size := Nat.lt_of_lt_of_le HBL.out hbc.size
              have HKT := Lib.hid (key_tells z f t wc (HT.out.keep hbc HP.out) HZN.out hf hT (Nat.lt_of_lt_of_le HP.out hbc.size))
              have d1 := (hbc.cell (p := ⟨b, o + i * 3 + 1, none⟩) HBL.out).trans CC.out.2
              clear hf hT hbc c0 c1 hbw
              go_wp2_with fail
              refine Calls.mono HKT.out ?_
              rintro e v1 ⟨rfl, hb1⟩
              have HB3 := Lib.hid (HBC.out.trans (hb1.mono HBC.out.size))
              have hbw3 : b < v1.heap.size := Nat.lt_of_lt_of_le HBL.out HB3.out.size
              have e1 := (HB3.out.cell (p := ⟨b, o + i * 3 + 1, none⟩) HBL.out).trans CC.out.2
              have HRK := Lib.hid (rKey_any z f t v1 HZN.out HF.out HTT.out)
              clear hb1 d1 hbw2
              go_wp2_with fail
              refine Calls.mono HRK.out ?_
              rintro e v2 ⟨pv, rfl, ⟨s, rfl, hs⟩, hb2⟩
              have HB4 := Lib.hid (HB3.out.trans (hb2.mono HB3.out.size))
              have HSS := Lib.hid hs
              clear hb2 hs e1 hbw3
              have HOK := Lib.hid (show outK z f t = if mayK z f t then keyT z.toNat f t else [] from rfl)
              generalize outK z f t = ok at *
              cases hm : mayK z f t with
              | true =>
                rw [hm] at HOK HSS
                obtain rfl := HSS.out rfl
                have hok : ok = keyT z.toNat f t := HOK.out
                rw [← hok]
                have hne : ((⟨ok.toArray⟩ : ByteArray).toList == (⟨ok.toArray⟩ : ByteArray).toList) = true := beq_self_eq_true _
                rw [show errN true = 0 from rfl]
                clear hok HOK HSS hm
                generalize (⟨ok.toArray⟩ : ByteArray) = ko at *
                go_wp2_with fail
                refine Calls.mono (HNM.out _ _) ?_
                rintro e w' ⟨rfl, he⟩
                have he := he.symm
                subst he
                go_wp2_with fail
                refine ⟨⟨k + 1, by go_num, by omega, HB4.out⟩, by simp [intOf]; omega⟩
              | false =>
                rw [show errN false = 1 from rfl]
                clear HOK HSS hm
                go_wp2_with fail
                refine Calls.mono (HNM.out _ _) ?_
                rintro e w' ⟨rfl, he⟩
                have he := he.symm
                subst he
                go_wp2_with fail
                refine Calls.mono (HNM.out _ _) ?_
                rintro e w' ⟨rfl, he⟩
                have he := he.symm
                subst he
                go_wp2_with fail
                refine ⟨⟨k + 1, by go_num, by omega, HB4.out⟩, by simp [intOf]; omega⟩
          · have hklt : ¬ ((k : Int) < 2) := by omega
            clear c0 c1
            go_wp2_with fail
            refine ⟨⟨i + 1, by go_num, by have := HIN.out.1; omega, by have := HIN.out.2; omega, HB2.out⟩, by simp [intOf]; omega⟩
    · by_cases hlt : i < l.length
      · have hlti : (i : Int) < (l.length : Int) := by omega
        have h40i : decide ((i : Int) < 40) = false := decide_eq_false (by omega)
        have h40j : decide (i < 40) = false := decide_eq_false (by omega)
        go_wp2_with fail
        refine Calls.mono (HWK.out _) ?_
        rintro e v1 ⟨rfl, hb1⟩
        have HB1 := Lib.hid (HB.out.trans (hb1.mono HB.out.size))
        clear hb1
        go_wp2_with fail
        go_ret
        exact ⟨rfl, HB1.out⟩
      · have hlti : ¬ ((i : Int) < (l.length : Int)) := by omega
        go_wp2_with fail
        refine Calls.mono (HWK.out _) ?_
        rintro e v1 ⟨rfl, hb1⟩
        have HB1 := Lib.hid (HB.out.trans (hb1.mono HB.out.size))
        clear hb1
        go_wp2_with fail
        go_ret
        exact ⟨rfl, HB1.out⟩
end Go.Proofs.YtaglobnfdgencaaDoor

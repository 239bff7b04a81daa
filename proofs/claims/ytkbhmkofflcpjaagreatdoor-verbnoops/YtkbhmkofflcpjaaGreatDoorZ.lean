/-
  The page's Local, May, Text and Lower, walked.
  Conditions: as each theorem states them.
-/
import Derived.Test.YtkbhmkofflcpjaaGreatDoorY
namespace Go.Proofs.YtkbhmkofflcpjaaGreatDoor
open Go.RowKit

theorem pg_short {s : List UInt8} (h : ¬ s.length ≤ 64) : localL s = false := by simp [localL, h]
theorem pg_plain {s : List UInt8} (h0 : s.isEmpty = false) (h : s.length ≤ 64) (hq : (s.head? == some 34) = false) : localL s = plainL s := by
  rw [← pg_local, pgLocal, h0, decide_eq_true h, if_neg (by simpa using hq)]
  rfl
theorem pg_none {s : List UInt8} (hq : (s.head? == some 34) = true) (hr : rdL s = none) : localL s = false := by
  rw [← pg_local, pgLocal, if_pos (by simpa using hq), hr, Bool.and_false]
theorem pg_some {s x : List UInt8} {n : Nat} (h0 : s.isEmpty = false) (h : s.length ≤ 64) (hq : (s.head? == some 34) = true) (hr : rdL s = some (x, s.drop n)) (hn : n ≤ s.length) : localL s = (decide (n = s.length) && !plainL x && quoteL x == s) := by
  rw [← pg_local, pgLocal, h0, decide_eq_true h, if_pos (by simpa using hq), hr]
  have : (s.drop n).isEmpty = decide (n = s.length) := by
    rw [Bool.eq_iff_iff, List.isEmpty_iff, List.drop_eq_nil_iff, decide_eq_true_eq]
    omega
  simp only [this]
  rfl

set_option maxHeartbeats 2000000 in
set_option maxRecDepth 100000 in
theorem rlocal_any (s : List UInt8) (w : World) (hs : s.length ≤ 10000) :
    Calls Tryz.prog 45 #[.string ⟨s.toArray⟩] w fun e w' => e = .returned (.bool (localL s)) ∧ Below w.heap.size w w' := by
  cases hs0 : s with
  | nil =>
    go_enter Tryz.func45, Tryz.ntmps45
    go_wp2_with fail
    go_ret
    exact ⟨rfl, Below.refl _ _⟩
  | cons c0 t0 =>
    have h0 : s ≠ [] := by rw [hs0]; exact List.cons_ne_nil _ _
    rw [← hs0]
    clear hs0
    have hne := ne_empty h0
    have hp0 := List.length_pos_iff.2 h0
    have hi0 : (0 : Int) < (s.length : Int) := by omega
    have hi1 : ¬ ((s.length : Int) < 1) := by omega
    have hB0 : 0 < (⟨s.toArray⟩ : ByteArray).size := hp0
    have HHD := Lib.hid (head_eq hB0)
    clear h0
    by_cases h64 : s.length ≤ 64
    · have h64i : ¬ ((64 : Int) < (s.length : Int)) := by omega
      cases hq : (s.head? == some 34) with
      | false =>
        have hne34 : ((⟨s.toArray⟩ : ByteArray)[0]'hB0) ≠ 34 := by
          rw [HHD.out] at hq
          simpa using hq
        have hb : ((((⟨s.toArray⟩ : ByteArray)[0]'hB0).toNat : Int) != 34) = true := byte_bne (n := 34) (by decide) hne34
        have HE := Lib.hid (pg_plain hne h64 hq)
        have HP := Lib.hid (plain_any s w hs)
        clear hq hne34
        go_enter Tryz.func45, Tryz.ntmps45
        go_wp2_with fail
        refine Calls.mono HP.out ?_
        rintro e w1 ⟨rfl, hb1⟩
        have HB := Lib.hid hb1
        clear hb1
        go_wp2_with fail
        go_ret
        exact ⟨ret_bool HE.out.symm, HB.out⟩
      | true =>
        have heq : ((⟨s.toArray⟩ : ByteArray)[0]'hB0) = 34 := by
          have := hq
          rw [HHD.out] at this
          simpa using this
        have hb : ((((⟨s.toArray⟩ : ByteArray)[0]'hB0).toNat : Int) != 34) = false := by rw [heq]; rfl
        have HI := Lib.hid (inner_any s w hs hq)
        have HQ := Lib.hid hq
        clear heq hq
        go_enter Tryz.func45, Tryz.ntmps45
        go_wp2_with fail
        refine Calls.mono HI.out ?_
        rintro e w1 ⟨⟨x, n, hr, hn, hx, rfl⟩ | ⟨hr, rfl⟩, hb1⟩
        · have HE := Lib.hid (pg_some hne h64 HQ.out hr hn)
          have HB := Lib.hid hb1
          have HP := Lib.hid (plain_any x w1 (by omega))
          have HQT := Lib.hid (fun W => quote_any x W (by omega))
          clear hr hb1
          by_cases hnl : n = s.length
          · have hnb : ((n : Int) == (s.length : Int)) = true := beq_iff_eq.2 (by omega)
            have HE1 := Lib.hid (HE.out.trans (by rw [decide_eq_true hnl, Bool.true_and]) : localL s = (!plainL x && quoteL x == s))
            clear hnl
            go_wp2_with fail
            refine Calls.mono HP.out ?_
            rintro e w2 ⟨rfl, hb2⟩
            have HB2 := Lib.hid (HB.out.trans (hb2.mono HB.out.size))
            clear hb2
            cases hpl : plainL x with
            | true =>
              have HE2 := Lib.hid (HE1.out.trans (by rw [hpl]; rfl) : localL s = false)
              clear hpl
              go_wp2_with fail
              go_ret
              exact ⟨ret_bool HE2.out.symm, HB2.out⟩
            | false =>
              have HE2 := Lib.hid (HE1.out.trans (by rw [hpl]; rfl) : localL s = (quoteL x == s))
              clear hpl
              go_wp2_with fail
              refine Calls.mono (HQT.out _) ?_
              rintro e w3 ⟨rfl, rfl⟩
              go_wp2_with fail
              go_ret
              exact ⟨ret_bool HE2.out.symm, HB2.out⟩
          · have hnb : ((n : Int) == (s.length : Int)) = false := beq_eq_false_iff_ne.2 (by omega)
            have HE1 := Lib.hid (HE.out.trans (by rw [decide_eq_false hnl]; rfl) : localL s = false)
            clear hnl
            go_wp2_with fail
            go_ret
            exact ⟨ret_bool HE1.out.symm, HB.out⟩
        · have HE := Lib.hid (pg_none HQ.out hr)
          have HB := Lib.hid hb1
          clear hr hb1
          go_wp2_with fail
          go_ret
          exact ⟨ret_bool HE.out.symm, HB.out⟩
    · have h64i : (64 : Int) < (s.length : Int) := by omega
      have HE := Lib.hid (pg_short h64)
      go_enter Tryz.func45, Tryz.ntmps45
      go_wp2_with fail
      go_ret
      exact ⟨ret_bool HE.out.symm, Below.refl _ _⟩

set_option maxHeartbeats 1000000 in
theorem may_any (l d : List UInt8) (w : World) (hl : l.length ≤ 10000) (hd : d.length ≤ 10000) :
    Calls Tryz.prog 27 #[.agg #[.string ⟨l.toArray⟩, .string ⟨d.toArray⟩]] w fun e w' => e = .returned (.bool (boxL l d)) ∧ Below w.heap.size w w' := by
  have HA := Lib.hid ((Below.refl _ w).alloc (Nat.le_refl _) (.cells #[.string ⟨l.toArray⟩, .string ⟨d.toArray⟩] 25))
  have HM := Lib.hid (MAt.new w l d)
  have HL := Lib.hid (fun W => rlocal_any l W hl)
  have HD := Lib.hid (fun W => rdomain_any d W hd)
  go_enter Tryz.func27, Tryz.ntmps27
  go_wp2_with fail
  refine Calls.mono (HL.out _) ?_
  rintro e w1 ⟨rfl, hb⟩
  have HB := Lib.hid (HA.out.trans (hb.mono (by simp)))
  have c1 := (HM.out.later hb).c1
  clear hb
  cases h1 : localL l with
  | false =>
    have HE := Lib.hid (show boxL l d = false by simp [boxL, h1])
    clear h1
    go_wp2_with fail
    go_ret
    exact ⟨ret_bool HE.out.symm, HB.out⟩
  | true =>
    have HE := Lib.hid (show boxL l d = domL d by simp [boxL, h1])
    clear h1
    go_wp2_with fail
    refine Calls.mono (HD.out _) ?_
    rintro e w2 ⟨rfl, hb2⟩
    have HB2 := Lib.hid (HB.out.trans (hb2.mono HB.out.size))
    clear hb2
    go_wp2_with fail
    go_ret
    exact ⟨ret_bool HE.out.symm, HB2.out⟩

theorem rtext_any (l d : List UInt8) (w : World) (hl : l.length ≤ 10000) (hd : d.length ≤ 10000) :
    Calls Tryz.prog 30 #[.agg #[.string ⟨l.toArray⟩, .string ⟨d.toArray⟩]] w fun e w' => e = .returned (.string ⟨(l ++ 64 :: d).toArray⟩) ∧ Below w.heap.size w w' := by
  have HA := Lib.hid ((Below.refl _ w).alloc (Nat.le_refl _) (.cells #[.string ⟨l.toArray⟩, .string ⟨d.toArray⟩] 25))
  have hadd1 := fun w => add_str l [64] w (by simp; omega)
  have hadd2 := fun w => add_str (l ++ [64]) d w (by simp; omega)
  go_enter Tryz.func30, Tryz.ntmps30
  go_wp2_with fail
  go_ret
  exact ⟨ret_str (by simp), HA.out⟩

theorem cap_add2 {c : UInt8} (h : capB c = true) : ((lowC c).toNat : Int) = (c.toNat : Int) + 32 := by
  rw [cap_add h]; omega

set_option maxHeartbeats 1000000 in
set_option maxRecDepth 100000 in
theorem rlower_any (s : List UInt8) (w : World) (hs : s.length ≤ 100000) :
    Calls Tryz.prog 38 #[.string ⟨s.toArray⟩] w fun e w' => e = .returned (.string ⟨(lowL s).toArray⟩) ∧ Below w.heap.size w w' := by
  obtain ⟨c, W1, hcv, hrow, hbel, hsz⟩ := made_bytes (P := Tryz.prog) w 9 59 5 s Tryz.underlying9 Tryz.underlying59 Tryz.underlying5 hs
  have HR := Lib.hid hrow
  have HB := Lib.hid hbel
  clear hrow hbel hsz
  go_enter Tryz.func38, Tryz.ntmps38
  go_wp2_with fail
  go_loopw [4] (fun i wr => ∃ j : Nat, j ≤ s.length ∧ i = .int .i64 j ∧ ByteRow wr w.heap.size 5 (.slice (some ⟨w.heap.size, 0, none⟩) s.length c) (lowTo s j) ∧ Below w.heap.size w wr) (fun i _ => s.length - (intOf i).toNat)
  case atStart => exact ⟨0, Nat.zero_le _, rfl, by rw [lowTo_zero]; exact HR.out, HB.out⟩
  case round =>
    obtain ⟨j, hj, rfl, hr, hb⟩ := hrel
    have HRW := Lib.hid hr
    have HBW := Lib.hid hb
    clear hr hb hcv
    by_cases hlt : j < s.length
    · have hl' : j < (lowTo s j).length := by rw [lowTo_len]; exact hlt
      have hc : wr.cell? ⟨w.heap.size, j, none⟩ = some (.int .u8 (s[j].toNat : Int)) := by
        rw [HRW.out.cellAt hl', lowTo_at hlt hl']
      have hz : wr.frozen? ⟨w.heap.size, j, none⟩ = false := HRW.out.frozenAt hl'
      have HN := Lib.hid (HRW.out.set j (lowC s[j]))
      rw [lowTo_succ hlt] at HN
      have HSM := Lib.hid (fun h => lowTo_same hlt h)
      have hci : (s[j].toNat : Int) < 256 := by have := UInt8.toNat_lt s[j]; omega
      generalize hx : s[j] = x at *
      clear hx hl'
      by_cases h1 : (65 : Int) ≤ (x.toNat : Int)
      · by_cases h2 : (x.toNat : Int) ≤ 90
        · have HQ := Lib.hid (cap_add2 (c := x) (by simp [capB]; omega))
          go_wp2_with fail
          refine ⟨⟨j + 1, by omega, by go_num, ?_, ?_⟩, by simp [intOf]; omega⟩
          · have := HN.out
            rw [byteCell, HQ.out] at this
            exact this
          · exact HBW.out.setCell (p := ⟨w.heap.size, j, none⟩) (Nat.le_refl _) _
        · have HQ := Lib.hid (low_same (c := x) (by simp [capB]; omega))
          go_wp2_with fail
          refine ⟨⟨j + 1, by omega, by go_num, ?_, HBW.out⟩, by simp [intOf]; omega⟩
          rw [HSM.out HQ.out]
          exact HRW.out
      · have HQ := Lib.hid (low_same (c := x) (by simp [capB]; omega))
        go_wp2_with fail
        refine ⟨⟨j + 1, by omega, by go_num, ?_, HBW.out⟩, by simp [intOf]; omega⟩
        rw [HSM.out HQ.out]
        exact HRW.out
    · obtain rfl : j = s.length := by omega
      have hcb : (convert 59 9 (.slice (some ⟨w.heap.size, 0, none⟩) s.length c)).run Tryz.prog wr = .ok (.string ⟨(lowL s).toArray⟩) wr := by
        have h := run_convert_bytes_back (P := Tryz.prog) wr 59 9 5 ⟨w.heap.size, 0, none⟩ c (lowTo s s.length) Tryz.underlying59 Tryz.underlying5 Tryz.underlying9 (fun k hk => by
          rw [Addr.add_lit, Nat.zero_add]
          exact HRW.out.cellAt hk)
        rw [lowTo_len, lowTo_all] at h
        exact h
      go_wp2_with fail
      go_ret
      exact ⟨rfl, HBW.out⟩
end Go.Proofs.YtkbhmkofflcpjaaGreatDoor

/-
  lower of package addr, walked: small letters for capital ones, nothing else turned.
  Conditions: as the theorem states them.
-/
import Derived.Test.YtkbhmkofflcpjaaGreatDoorF
import Derived.Test.YtkbhmkofflcpjaaGreatDoorR
namespace Go.Proofs.YtkbhmkofflcpjaaGreatDoor
open Go.RowKit

/-- The bytes behind j rounds. -/
def lowTo (s : List UInt8) (j : Nat) : List UInt8 := lowL (s.take j) ++ s.drop j
theorem lowTo_len (s : List UInt8) (j : Nat) : (lowTo s j).length = s.length := by simp [lowTo, lowL]; omega
theorem lowTo_at {s : List UInt8} {j : Nat} (h : j < s.length) (h' : j < (lowTo s j).length) : (lowTo s j)[j] = s[j] := by
  have e : (lowL (s.take j)).length = j := by simp [lowL]; omega
  simp only [lowTo]
  rw [List.getElem_append_right (by omega)]
  simp [e]
theorem lowTo_succ {s : List UInt8} {j : Nat} (h : j < s.length) : (lowTo s j).set j (lowC s[j]) = lowTo s (j + 1) := by
  have e : (lowL (s.take j)).length = j := by simp [lowL]; omega
  unfold lowTo
  rw [List.set_append_right _ _ (by omega), e, Nat.sub_self, List.drop_eq_getElem_cons h, List.set_cons_zero, take_snoc h]
  unfold lowL
  rw [List.map_append, List.append_assoc]
  rfl
theorem lowTo_same {s : List UInt8} {j : Nat} (h : j < s.length) (hc : lowC s[j] = s[j]) : lowTo s (j + 1) = lowTo s j := by
  unfold lowTo
  rw [take_snoc h, List.drop_eq_getElem_cons h]
  unfold lowL
  rw [List.map_append, List.append_assoc, List.map_cons, hc]
  rfl
theorem lowTo_zero (s : List UInt8) : lowTo s 0 = s := by simp [lowTo, lowL]
theorem lowTo_all (s : List UInt8) : lowTo s s.length = lowL s := by simp [lowTo]
theorem cap_add {c : UInt8} (h : capB c = true) : ((lowC c).toNat : Int) = (c.toNat : Int) - 65 + 97 := by
  have h1 : 65 ≤ c.toNat ∧ c.toNat ≤ 90 := by simpa [capB] using h
  rw [lowC, if_pos h, UInt8.toNat_add]
  show (((c.toNat + 32) % 256 : Nat) : Int) = _
  omega

set_option maxHeartbeats 1000000 in
set_option maxRecDepth 100000 in
theorem lower_any (s : List UInt8) (w : World) (hs : s.length ≤ 100000) :
    Calls Tryz.prog 99 #[.string ⟨s.toArray⟩] w fun e w' => e = .returned (.string ⟨(lowL s).toArray⟩) ∧ Below w.heap.size w w' := by
  obtain ⟨c, W1, hcv, hrow, hbel, hsz⟩ := made_bytes (P := Tryz.prog) w 9 59 5 s Tryz.underlying9 Tryz.underlying59 Tryz.underlying5 hs
  have HR := Lib.hid hrow
  have HB := Lib.hid hbel
  have HZ := Lib.hid hsz
  clear hrow hbel hsz
  go_enter Tryz.func99, Tryz.ntmps99
  go_wp2_with fail
  go_loopw [10] (fun i wr => ∃ j : Nat, j ≤ s.length ∧ i = .int .i64 j ∧ ByteRow wr w.heap.size 5 (.slice (some ⟨w.heap.size, 0, none⟩) s.length c) (lowTo s j) ∧ Below w.heap.size w wr) (fun i _ => s.length - (intOf i).toNat)
  case atStart => exact ⟨0, Nat.zero_le _, rfl, by rw [lowTo_zero]; exact HR.out, HB.out⟩
  case round =>
    obtain ⟨j, hj, rfl, hr, hb⟩ := hrel
    have HRW := Lib.hid hr
    have HBW := Lib.hid hb
    clear hr hb hcv
    by_cases hlt : j < s.length
    · have hl' : j < (lowTo s j).length := by rw [lowTo_len]; exact hlt
      have hc : wr.cell? ⟨w.heap.size, j, none⟩ = some (.int .u8 (s[j].toNat : Int)) := by
        rw [HRW.out.cellAt hl', lowTo_at hlt hl']
      have hz : wr.frozen? ⟨w.heap.size, j, none⟩ = false := HRW.out.frozenAt hl'
      have HN := Lib.hid (HRW.out.set j (lowC s[j]))
      rw [lowTo_succ hlt] at HN
      have HSM := Lib.hid (fun h => lowTo_same hlt h)
      have hci : (s[j].toNat : Int) < 256 := by have := UInt8.toNat_lt s[j]; omega
      generalize hx : s[j] = x at *
      have HX := Lib.hid hx
      clear hx hl'
      go_wp2_with fail
      refine (isCapital_any x _).mono ?_
      rintro e w1 ⟨rfl, rfl⟩
      cases hq : capB x with
      | true =>
        have hq1 : 65 ≤ x.toNat ∧ x.toNat ≤ 90 := by simpa [capB] using hq
        have hq2 : (65 : Int) ≤ (x.toNat : Int) := by omega
        have hq3 : (x.toNat : Int) ≤ 90 := by omega
        have HQ := Lib.hid (cap_add hq)
        clear hq hq1
        go_wp2_with fail
        refine ⟨⟨j + 1, by omega, by go_num, ?_, ?_⟩, by simp [intOf]; omega⟩
        · have := HN.out
          rw [byteCell, HQ.out] at this
          exact this
        · exact HBW.out.setCell (p := ⟨w.heap.size, j, none⟩) (Nat.le_refl _) _
      | false =>
        have HQ := Lib.hid (low_same hq)
        clear hq
        go_wp2_with fail
        refine ⟨⟨j + 1, by omega, by go_num, ?_, HBW.out⟩, by simp [intOf]; omega⟩
        rw [HSM.out HQ.out]
        exact HRW.out
    · obtain rfl : j = s.length := by omega
      have hcb : (convert 59 9 (.slice (some ⟨w.heap.size, 0, none⟩) s.length c)).run Tryz.prog wr = .ok (.string ⟨(lowL s).toArray⟩) wr := by
        have h := run_convert_bytes_back (P := Tryz.prog) wr 59 9 5 ⟨w.heap.size, 0, none⟩ c (lowTo s s.length) Tryz.underlying59 Tryz.underlying5 Tryz.underlying9 (fun k hk => by
          rw [Addr.add_lit, Nat.zero_add]
          exact HRW.out.cellAt hk)
        rw [lowTo_len, lowTo_all] at h
        exact h
      go_wp2_with fail
      go_ret
      exact ⟨rfl, HBW.out⟩
end Go.Proofs.YtkbhmkofflcpjaaGreatDoor

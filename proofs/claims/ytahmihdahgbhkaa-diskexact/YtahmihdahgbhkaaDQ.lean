/-
  Package disk's read and Read, walked.
  Conditions: as each theorem states them.
-/
import Derived.Test.YtahmihdahgbhkaaDO
namespace Go.Proofs.Ytahmihdahgbhkaa
open Go.RowKit

/-- Bytes of a file, or an error. -/
def readD (d : Dk) (n a k : Int) : List UInt8 × Int :=
  if d.p.isNone then ([], 10) else if fileOk n then if 0 ≤ k then if inB a 0 (d.f n.toNat).now.length && decide (k ≤ ((d.f n.toNat).now.length : Int) - a) then (((d.f n.toNat).now.drop a.toNat).take k.toNat, 0) else ([], 2) else ([], 1) else ([], 1)
/-- A part of bytes. -/
theorem RB.part {w : World} {g n c a k : Nat} {b : List UInt8} (h : RB w (.slice (some ⟨g, 0, none⟩) n c) b) (hk : a + k ≤ b.length) {A : Option Addr} (hA : (if c = a then some (⟨g, 0, none⟩ : Addr) else some ⟨g, a, none⟩) = A) :
    RB w (.slice A k (c - a)) ((b.drop a).take k) := by
  obtain ⟨A', c', hv, h1, h2, h3⟩ := h
  injection hv with e1 e2 e3
  subst e1 e3
  have hlen : ((b.drop a).take k).length = k := by simp; omega
  refine ⟨A, c - a, by rw [hlen], by rw [hlen]; omega, by omega, fun hne => ?_⟩
  have hpos : 0 < k := by
    apply Nat.pos_of_ne_zero
    rintro rfl
    exact hne rfl
  rw [if_neg (by omega)] at hA
  obtain ⟨b1, o1, e1, hlt1, hc⟩ := h3 (fun e => by rw [e] at hk; simp at hk; omega)
  injection e1 with e1
  injection e1 with e1 e2
  subst e1 e2
  refine ⟨g, a, hA.symm, hlt1, fun j u hu => ?_⟩
  rw [← bc_take, ← bc_drop, List.getElem?_take] at hu
  split at hu
  · rw [List.getElem?_drop] at hu
    have := hc (a + j) u hu
    rwa [Nat.zero_add] at this
  · cases hu
theorem demand_any (q : Bool) (n : Int) (hn : n ≠ 0) (w : World) : Calls Try.prog 55 #[.bool q, .int .i64 n] w fun e w' => e = endE (dem q n) ∧ w' = w := by
  cases q with
  | true => exact demand_ok n w
  | false => rw [show endE (dem false n) = wrongK n from endE_no hn]; exact demand_no n w

set_option maxHeartbeats 4000000 in
set_option maxRecDepth 100000 in
theorem read_any (w : World) (ρ : Ro) (B p : Nat) (x : DkV) (d : Dk) (h : KAt w ρ B p x d) (n a k : Int) :
    Calls Try.prog 43 #[.pointer (some ⟨p, 0, none⟩), .int .i64 n, .int .i64 a, .int .i64 k] w fun e w' =>
      if (readD d n a k).2 = 0 then ∃ u, e = .returned u ∧ BR w' w.heap.size u (readD d n a k).1 ∧ Below w.heap.size w w' else e = wrongK (readD d n a k).2 ∧ w' = w := by
  have HF := Lib.hid (file_any w p x.off n h.cOff h.lt)
  have hoff := h.off_eq
  have HO := Lib.hid (fun n W => demand_ok n W)
  have HN := Lib.hid (fun n W => demand_no n W)
  cases hq : d.p.isNone with
  | true =>
    rw [hq] at hoff
    rw [hoff, show endF p true n = wrongK 10 from rfl] at HF
    rw [show readD d n a k = ([], 10) from if_pos hq]
    simp only [show ¬ ((10 : Int) = 0) by decide, if_false]
    clear h
    go_enter Try.func43, Try.ntmps43
    go_wp2_with fail
    refine Calls.mono HF.out ?_
    rintro e w' ⟨rfl, he⟩
    have he := he.symm
    subst he
    exact ⟨rfl, rfl, rfl⟩
  | false =>
    rw [hq] at hoff
    rw [hoff] at HF
    cases hf : fileOk n with
    | false =>
      rw [show endF p false n = wrongK 1 by unfold endF; rw [hf]; rfl] at HF
      rw [show readD d n a k = ([], 1) by unfold readD; rw [hq, hf]; rfl]
      simp only [show ¬ ((1 : Int) = 0) by decide, if_false]
      clear h
      go_enter Try.func43, Try.ntmps43
      go_wp2_with fail
      refine Calls.mono HF.out ?_
      rintro e w' ⟨rfl, he⟩
      have he := he.symm
      subst he
      exact ⟨rfl, rfl, rfl⟩
    | true =>
      rw [show endF p false n = .returned (.pointer (some ⟨p, n.toNat * 3, none⟩)) by unfold endF; rw [hf]; rfl] at HF
      obtain ⟨h2', hni⟩ := file_nat hf
      obtain ⟨N, hN⟩ : ∃ N, n.toNat = N := ⟨_, rfl⟩
      have hrd : readD d n a k = if 0 ≤ k then if inB a 0 (d.f N).now.length && decide (k ≤ ((d.f N).now.length : Int) - a) then (((d.f N).now.drop a.toNat).take k.toNat, 0) else ([], 2) else ([], 1) := by unfold readD; rw [hq, hf, hN]; rfl
      rw [hN] at h2' HF
      have cN := h.cN h2'
      have hbl := h.lt
      by_cases hk : 0 ≤ k
      · rw [if_pos hk] at hrd
        have hnl4 := h.nowLen h2'
        have HW := Lib.hid (fun W => within_any a 0 (d.f N).now.length W)
        have hrow := (h.now N h2').br
        cases hc : inB a 0 (d.f N).now.length with
        | false =>
          rw [hc] at hrd HW
          rw [show readD d n a k = ([], 2) from hrd]
          simp only [show ¬ ((2 : Int) = 0) by decide, if_false]
          obtain ⟨nA, nc, hnv, _, _⟩ := hrow.slice
          rw [hnv] at cN
          clear h hrow hc hnl4
          go_enter Try.func43, Try.ntmps43
          go_wp2_with fail
          refine Calls.mono HF.out ?_
          rintro e w' ⟨rfl, he⟩
          have he := he.symm
          subst he
          go_wp2_with fail
          refine Calls.mono (HO.out _ _) ?_
          rintro e w' ⟨rfl, he⟩
          have he := he.symm
          subst he
          go_wp2_with fail
          refine Calls.mono (HW.out _) ?_
          rintro e w' ⟨rfl, he⟩
          have he := he.symm
          subst he
          go_wp2_with fail
          refine Calls.mono (HN.out _ _) ?_
          rintro e w' ⟨rfl, he⟩
          have he := he.symm
          subst he
          exact ⟨rfl, rfl, rfl⟩
        | true =>
          rw [hc] at hrd HW
          obtain ⟨k1, k2⟩ := inB_iff.1 hc
          obtain ⟨K, hK⟩ : ∃ K : Nat, a = (K : Int) := ⟨a.toNat, by omega⟩
          obtain ⟨M, hM⟩ : ∃ M : Nat, k = (M : Int) := ⟨k.toNat, by omega⟩
          subst hK hM
          have hw1 : IntKind.i64.wrap (((d.f N).now.length : Int) - (K : Int)) = ((d.f N).now.length : Int) - (K : Int) := wrap_id (by omega) (by omega)
          by_cases hlim : (M : Int) ≤ ((d.f N).now.length : Int) - (K : Int)
          · have hw2 : IntKind.i64.wrap ((K : Int) + (M : Int)) = (K : Int) + (M : Int) := wrap_id (by omega) (by omega)
            rw [decide_eq_true hlim] at hrd
            rw [show readD d n K M = (((d.f N).now.drop K).take M, 0) from hrd]
            simp only [if_true]
            rcases hrow.form with ⟨hv, hl0⟩ | ⟨g, cap, hv, hg, hlt, hlc, hcm⟩
            · rw [hv] at cN
              rw [hl0] at hlim k2 hw1 HW ⊢
              obtain rfl : K = 0 := by simpa using k2
              obtain rfl : M = 0 := by simpa using hlim
              have HCL := Lib.hid (clone_any [] _ w (RB.nil w) (by simp))
              clear h hrow hc hnl4 hrd
              go_enter Try.func43, Try.ntmps43
              go_wp2_with fail
              refine Calls.mono HF.out ?_
              rintro e w' ⟨rfl, he⟩
              have he := he.symm
              subst he
              go_wp2_with fail
              refine Calls.mono (HO.out _ _) ?_
              rintro e w' ⟨rfl, he⟩
              have he := he.symm
              subst he
              go_wp2_with fail
              refine Calls.mono (HW.out _) ?_
              rintro e w' ⟨rfl, he⟩
              have he := he.symm
              subst he
              go_wp2_with fail
              refine Calls.mono (HO.out _ _) ?_
              rintro e w' ⟨rfl, he⟩
              have he := he.symm
              subst he
              go_wp2_with fail
              refine Calls.mono HCL.out ?_
              rintro e w2 ⟨u, rfl, hu, hb⟩
              have HU := Lib.hid hu
              have HB := Lib.hid hb
              clear hu hb
              go_wp2_with fail
              go_ret
              exact ⟨_, rfl, HU.out, HB.out⟩
            · rw [hv] at cN
              have hcm2 : cap < 9223372036854775808 := by unfold maxLen at hcm; omega
              have hrb := hrow.rb
              rw [hv] at hrb
              obtain ⟨A, hA⟩ : ∃ A : Option Addr, (if cap = K then some (⟨g, 0, none⟩ : Addr) else some ⟨g, K, none⟩) = A := ⟨_, rfl⟩
              have HCL := Lib.hid (clone_any _ _ w (hrb.part (k := M) (by omega) hA) (by simp; omega))
              have b1 : (K : Int) ≤ (K : Int) + (M : Int) := by omega
              have b2 : (K : Int) + (M : Int) ≤ (cap : Int) := by omega
              have b3 : (K : Int) ≤ (cap : Int) := by omega
              have b4 : (0 : Int) ≤ (K : Int) + (M : Int) := by omega
              have b5 : ((K : Int) + (M : Int)).toNat - K = M := by omega
              have b6 : ((K : Int) + (M : Int)).toNat = K + M := by omega
              have b7 : K + M - K = M := by omega
              clear h hrow hc hnl4 hrd hrb
              go_enter Try.func43, Try.ntmps43
              go_wp2_with fail
              refine Calls.mono HF.out ?_
              rintro e w' ⟨rfl, he⟩
              have he := he.symm
              subst he
              go_wp2_with fail
              refine Calls.mono (HO.out _ _) ?_
              rintro e w' ⟨rfl, he⟩
              have he := he.symm
              subst he
              go_wp2_with fail
              refine Calls.mono (HW.out _) ?_
              rintro e w' ⟨rfl, he⟩
              have he := he.symm
              subst he
              go_wp2_with fail
              refine Calls.mono (HO.out _ _) ?_
              rintro e w' ⟨rfl, he⟩
              have he := he.symm
              subst he
              go_wp2_with fail
              refine Calls.mono HCL.out ?_
              rintro e w2 ⟨u, rfl, hu, hb⟩
              have HU := Lib.hid hu
              have HB := Lib.hid hb
              clear hu hb
              go_wp2_with fail
              go_ret
              exact ⟨_, rfl, HU.out, HB.out⟩
          · have hlimf : decide ((M : Int) ≤ ((d.f N).now.length : Int) - (K : Int)) = false := decide_eq_false hlim
            rw [hlimf] at hrd
            rw [show readD d n K M = ([], 2) from hrd]
            simp only [show ¬ ((2 : Int) = 0) by decide, if_false]
            obtain ⟨nA, nc, hnv, _, _⟩ := hrow.slice
            rw [hnv] at cN
            clear h hrow hc hnl4
            go_enter Try.func43, Try.ntmps43
            go_wp2_with fail
            refine Calls.mono HF.out ?_
            rintro e w' ⟨rfl, he⟩
            have he := he.symm
            subst he
            go_wp2_with fail
            refine Calls.mono (HO.out _ _) ?_
            rintro e w' ⟨rfl, he⟩
            have he := he.symm
            subst he
            go_wp2_with fail
            refine Calls.mono (HW.out _) ?_
            rintro e w' ⟨rfl, he⟩
            have he := he.symm
            subst he
            go_wp2_with fail
            refine Calls.mono (HN.out _ _) ?_
            rintro e w' ⟨rfl, he⟩
            have he := he.symm
            subst he
            exact ⟨rfl, rfl, rfl⟩
      · rw [if_neg hk] at hrd
        have hkd : decide (0 ≤ k) = false := decide_eq_false hk
        rw [show readD d n a k = ([], 1) from hrd]
        simp only [show ¬ ((1 : Int) = 0) by decide, if_false]
        clear h
        go_enter Try.func43, Try.ntmps43
        go_wp2_with fail
        refine Calls.mono HF.out ?_
        rintro e w' ⟨rfl, he⟩
        have he := he.symm
        subst he
        go_wp2_with fail
        refine Calls.mono (HN.out _ _) ?_
        rintro e w' ⟨rfl, he⟩
        have he := he.symm
        subst he
        exact ⟨rfl, rfl, rfl⟩
end Go.Proofs.Ytahmihdahgbhkaa

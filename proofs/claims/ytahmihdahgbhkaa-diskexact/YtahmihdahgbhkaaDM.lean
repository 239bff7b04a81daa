/-
  Package disk's sync of a disk, its write, walked.
  Conditions: as each theorem states them.
-/
import Derived.Test.YtahmihdahgbhkaaDL
namespace Go.Proofs.Ytahmihdahgbhkaa
open Go.RowKit

/-- A new row, whose block serves r from now on. -/
theorem fresh_tag {w w2 : World} {ρ : Ro} {B r : Nat} {u : Value} {l : List UInt8} (hr : RoOk ρ B w) (hB : B ≤ w.heap.size) (hb : Below w.heap.size w w2) (hu : BR w2 w.heap.size u l) :
    ∃ ρ', Step [] ρ ρ' w w2 ∧ RoOk ρ' B w2 ∧ ∀ k, u.ownBlock = some k → ρ' k = r := by
  have hS : Step [] ρ ρ w w2 := Step.of hb
  cases h : u.ownBlock with
  | none => exact ⟨ρ, hS, hr.later hb.size, fun k hk => by cases hk⟩
  | some g =>
    have hl := hu.lt g h
    exact ⟨tagR ρ g r, hS.tag hl.1, (hr.later hb.size).tag (Nat.le_trans hB hl.1) hl.2, fun k hk => by injection hk with hk; rw [← hk]; exact tagR_at _ _ _⟩

set_option maxHeartbeats 4000000 in
set_option maxRecDepth 100000 in
theorem dsync_any (w : World) (ρ : Ro) (B p : Nat) (x : DkV) (d : Dk) (h : KAt w ρ B p x d) (hr : RoOk ρ B w) (hB : B ≤ w.heap.size) (n : Int) :
    Calls Try.prog 49 #[.pointer (some ⟨p, 0, none⟩), .int .i64 n] w fun e w' => e = endE (syD d n).2 ∧ OpK SK w ρ B p (syD d n).1 w' := by
  have HC := Lib.hid (count_any w ρ B p x d h)
  have HR := Lib.hid hr
  unfold syD
  clear h hr
  go_enter Try.func49, Try.ntmps49
  go_wp2_with fail
  refine Calls.mono HC.out ?_
  rintro e w1 ⟨rfl, hs1, x1, hk1⟩
  have HS1 := Lib.hid (hs1.mono (T := SK) (by simp [SK]))
  have HR1 := Lib.hid (HR.out.later hs1.kept.size)
  have HK1 := Lib.hid hk1
  have hb1 : B ≤ w1.heap.size := Nat.le_trans hB hs1.kept.size
  have HF := Lib.hid (file_any w1 p x1.off n hk1.cOff hk1.lt)
  have hoff := hk1.off_eq
  simp only at hoff
  cases hq : (tickP d.p).isNone with
  | true =>
    rw [hq] at hoff
    rw [hoff, show endF p true n = wrongK 10 from rfl] at HF
    have HP := Lib.hid (OpK.of hk1 HS1.out HR1.out)
    have HE := Lib.hid (actD_off (n := n) (lim := fun _ => true) (g := syG) hq)
    clear hs1 hk1 HC
    go_wp2_with fail
    refine Calls.mono HF.out ?_
    rintro e w' ⟨rfl, he⟩
    have he := he.symm
    subst he
    exact ⟨rfl, by rw [HE.out]; rfl, by rw [HE.out]; exact HP.out⟩
  | false =>
    rw [hq] at hoff
    rw [hoff] at HF
    cases hf : fileOk n with
    | false =>
      rw [show endF p false n = wrongK 1 by unfold endF; rw [hf]; rfl] at HF
      have HP := Lib.hid (OpK.of hk1 HS1.out HR1.out)
      have HE := Lib.hid (actD_form (lim := fun _ => true) (g := syG) hq hf)
      clear hs1 hk1 HC
      go_wp2_with fail
      refine Calls.mono HF.out ?_
      rintro e w' ⟨rfl, he⟩
      have he := he.symm
      subst he
      exact ⟨rfl, by rw [HE.out]; rfl, by rw [HE.out]; exact HP.out⟩
    | true =>
      rw [show endF p false n = .returned (.pointer (some ⟨p, n.toNat * 3, none⟩)) by unfold endF; rw [hf]; rfl] at HF
      obtain ⟨h2, hni⟩ := file_nat hf
      obtain ⟨N, hN⟩ : ∃ N, n.toNat = N := ⟨_, rfl⟩
      rw [hN] at h2 hni HF
      have hbl := hk1.lt
      have HE := Lib.hid (actD_ok (lim := fun _ => true) (g := syG) hq hf rfl)
      rw [hN] at HE
      have HD := Lib.hid (fsync_any w1 ρ B p N x1 ⟨d.f, tickP d.p⟩ hk1 HR1.out h2 hb1)
      clear hs1 hk1 HC
      go_wp2_with fail
      refine Calls.mono HF.out ?_
      rintro e w' ⟨rfl, he⟩
      have he := he.symm
      subst he
      go_wp2_with fail
      refine Calls.mono HD.out ?_
      rintro e w2 ⟨rfl, hop⟩
      have HOP := Lib.hid (OpK.after (hop.mono (T := SK) (fun r hr => by
        simp only [List.mem_cons, List.not_mem_nil, or_false] at hr
        exact SK_mem (by omega) (by omega))) HS1.out)
      clear hop HD
      go_wp2_with fail
      go_end0
      rw [HE.out]
      exact ⟨rfl, HOP.out⟩
set_option maxHeartbeats 4000000 in
set_option maxRecDepth 100000 in
theorem write_any (w : World) (ρ : Ro) (B p : Nat) (x : DkV) (d : Dk) (h : KAt w ρ B p x d) (hr : RoOk ρ B w) (hB : B ≤ w.heap.size) (n a : Int) (b : List UInt8) (bv : Value) (hbv : RB w bv b) (HBR : ∀ k, bv.ownBlock = some k → ρ k ∉ [2]) (hl : ∀ m, (d.f m).done.length < 1000000) :
    Calls Try.prog 53 #[.pointer (some ⟨p, 0, none⟩), .int .i64 n, .int .i64 a, bv] w fun e w' => e = endE (wrD d n a b).2 ∧ OpK SK w ρ B p (wrD d n a b).1 w' := by
  have HC := Lib.hid (count_any w ρ B p x d h)
  have HR := Lib.hid hr
  have HBV := Lib.hid hbv
  obtain ⟨bA, bcp, rfl, hbl0, hbc⟩ := hbv.slice
  clear hbv
  unfold wrD
  clear h hr
  go_enter Try.func53, Try.ntmps53
  go_wp2_with fail
  refine Calls.mono HC.out ?_
  rintro e w1 ⟨rfl, hs1, x1, hk1⟩
  have HB1 := Lib.hid (show RB w1 (.slice bA b.length bcp) b from HBV.out.heap hs1.kept.size fun k hk hlt => hs1.kept.block k hlt (HBR k hk))
  have HS1 := Lib.hid (hs1.mono (T := SK) (by simp [SK]))
  have HR1 := Lib.hid (HR.out.later hs1.kept.size)
  have HK1 := Lib.hid hk1
  have hb1 : B ≤ w1.heap.size := Nat.le_trans hB hs1.kept.size
  have HF := Lib.hid (file_any w1 p x1.off n hk1.cOff hk1.lt)
  have hoff := hk1.off_eq
  simp only at hoff
  cases hq : (tickP d.p).isNone with
  | true =>
    rw [hq] at hoff
    rw [hoff, show endF p true n = wrongK 10 from rfl] at HF
    have HP := Lib.hid (OpK.of hk1 HS1.out HR1.out)
    have HE := Lib.hid (actD_off (n := n) (lim := wrL a b) (g := wrG a b) hq)
    clear hs1 hk1 HC
    go_wp2_with fail
    refine Calls.mono HF.out ?_
    rintro e w' ⟨rfl, he⟩
    have he := he.symm
    subst he
    exact ⟨rfl, by rw [HE.out]; rfl, by rw [HE.out]; exact HP.out⟩
  | false =>
    rw [hq] at hoff
    rw [hoff] at HF
    cases hf : fileOk n with
    | false =>
      rw [show endF p false n = wrongK 1 by unfold endF; rw [hf]; rfl] at HF
      have HP := Lib.hid (OpK.of hk1 HS1.out HR1.out)
      have HE := Lib.hid (actD_form (lim := wrL a b) (g := wrG a b) hq hf)
      clear hs1 hk1 HC
      go_wp2_with fail
      refine Calls.mono HF.out ?_
      rintro e w' ⟨rfl, he⟩
      have he := he.symm
      subst he
      exact ⟨rfl, by rw [HE.out]; rfl, by rw [HE.out]; exact HP.out⟩
    | true =>
      rw [show endF p false n = .returned (.pointer (some ⟨p, n.toNat * 3, none⟩)) by unfold endF; rw [hf]; rfl] at HF
      obtain ⟨h2, hni⟩ := file_nat hf
      obtain ⟨N, hN⟩ : ∃ N, n.toNat = N := ⟨_, rfl⟩
      rw [hN] at h2 hni HF
      have cN := hk1.cN h2
      obtain ⟨nA, nc, hnv, _, _⟩ := (hk1.now N h2).br.slice
      rw [hnv] at cN
      have hnl := len_in _ (hk1.nowLen h2)
      simp only at hnl cN hnv
      have hbl := hk1.lt
      have HW := Lib.hid (fun W => within_any a 0 (d.f N).now.length W)
      cases hc : inB a 0 (d.f N).now.length with
      | false =>
        rw [hc] at HW
        have HP := Lib.hid (OpK.of hk1 HS1.out HR1.out)
        have HE := Lib.hid (actD_limit (lim := wrL a b) (g := wrG a b) hq hf (by rw [hN]; exact by unfold wrL; rw [hc]; rfl))
        have HN := Lib.hid (fun n W => demand_no n W)
        clear hs1 hk1 HC hc
        go_wp2_with fail
        refine Calls.mono HF.out ?_
        rintro e w' ⟨rfl, he⟩
        have he := he.symm
        subst he
        go_wp2_with fail
        refine Calls.mono (HW.out _) ?_
        rintro e w' ⟨rfl, he⟩
        have he := he.symm
        subst he
        go_wp2_with fail
        refine Calls.mono (HN.out _ _) ?_
        rintro e w' ⟨rfl, he⟩
        have he := he.symm
        subst he
        exact ⟨rfl, by rw [HE.out]; rfl, by rw [HE.out]; exact HP.out⟩
      | true =>
        rw [hc] at HW
        obtain ⟨k1, k2⟩ := inB_iff.1 hc
        obtain ⟨K, hK⟩ : ∃ K : Nat, a = (K : Int) := ⟨a.toNat, by omega⟩
        subst hK
        have hnl4 := hk1.nowLen h2
        simp only at hnl4
        have hw1 : IntKind.i64.wrap (4194304 - (K : Int)) = 4194304 - (K : Int) := wrap_id (by omega) (by omega)
        have hbl2 : (b.length : Int) < 9223372036854775808 := by omega
        by_cases hlim : (b.length : Int) ≤ 4194304 - (K : Int)
        · have HE := Lib.hid (actD_ok (lim := wrL (K : Int) b) (g := wrG (K : Int) b) hq hf (by rw [hN]; unfold wrL; rw [hc, decide_eq_true hlim]; rfl))
          rw [hN] at HE
          have HO := Lib.hid (fun n W => demand_ok n W)
          have HCL := Lib.hid (clone_any b _ w1 HB1.out (by omega))
          have HK1 := Lib.hid hk1
          clear hs1 hk1 HC hc
          go_wp2_with fail
          refine Calls.mono HF.out ?_
          rintro e w' ⟨rfl, he⟩
          have he := he.symm
          subst he
          go_wp2_with fail
          refine Calls.mono (HW.out _) ?_
          rintro e w' ⟨rfl, he⟩
          have he := he.symm
          subst he
          go_wp2_with fail
          refine Calls.mono (HO.out _ _) ?_
          rintro e w' ⟨rfl, he⟩
          have he := he.symm
          subst he
          go_wp2_with fail
          refine Calls.mono HCL.out ?_
          rintro e w2 ⟨u, rfl, hu, hb2⟩
          obtain ⟨ρ2, hst2, hro2, hut⟩ := fresh_tag (r := 1) HR1.out hb1 hb2 hu
          have HST2 := Lib.hid (hst2.mono (T := SK) (by simp))
          have hk2 := HK1.out.step hst2 (by simp)
          have HD := Lib.hid (do_any w2 ρ2 B p N x1 ⟨d.f, tickP d.p⟩ hk2 hro2 h2 ⟨K, some b⟩ u (Nat.le_trans hb1 hb2.size) ⟨fun e => (nomatch e), fun b' e => (Option.some.inj e) ▸ ⟨hu.mono (Nat.zero_le _), by omega⟩⟩ hut ⟨by simpa using k2, fun b' e => (Option.some.inj e) ▸ (by omega : K + b.length ≤ 4194304)⟩ (hl N))
          obtain ⟨uA, uc, rfl, _, _⟩ := hu.slice
          have hbl3 : p < w2.heap.size := Nat.lt_of_lt_of_le hbl hb2.size
          clear hu hb2 hst2 hro2 hut hk2
          go_wp2_with fail
          refine Calls.mono HD.out ?_
          rintro e w3 ⟨rfl, hop⟩
          have HOP := Lib.hid (OpK.after (OpK.after (hop.mono (T := SK) (fun r hr => by
            simp only [List.mem_cons, List.not_mem_nil, or_false] at hr
            exact SK_mem (by omega) (by omega))) HST2.out) HS1.out)
          clear hop HD
          go_wp2_with fail
          go_end0
          rw [HE.out]
          exact ⟨rfl, HOP.out⟩
        · have hlimf : decide ((b.length : Int) ≤ 4194304 - (K : Int)) = false := decide_eq_false hlim
          have HP := Lib.hid (OpK.of hk1 HS1.out HR1.out)
          have HE := Lib.hid (actD_limit (lim := wrL (K : Int) b) (g := wrG (K : Int) b) hq hf (by rw [hN]; exact by unfold wrL; rw [hc, hlimf]; rfl))
          have HN := Lib.hid (fun n W => demand_no n W)
          clear hs1 hk1 HC hc
          go_wp2_with fail
          refine Calls.mono HF.out ?_
          rintro e w' ⟨rfl, he⟩
          have he := he.symm
          subst he
          go_wp2_with fail
          refine Calls.mono (HW.out _) ?_
          rintro e w' ⟨rfl, he⟩
          have he := he.symm
          subst he
          go_wp2_with fail
          refine Calls.mono (HN.out _ _) ?_
          rintro e w' ⟨rfl, he⟩
          have he := he.symm
          subst he
          exact ⟨rfl, by rw [HE.out]; rfl, by rw [HE.out]; exact HP.out⟩
end Go.Proofs.Ytahmihdahgbhkaa

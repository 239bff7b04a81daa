/-
  Package disk's count, do and sync, walked.
  Conditions: as each theorem states them.
-/
import Derived.Test.YtahmihdahgbhkaaDH
namespace Go.Proofs.Ytahmihdahgbhkaa
open Go.RowKit

/-- The disk with another power. -/
theorem KAt.power {w w' : World} {ρ : Ro} {B p : Nat} {x : DkV} {d : Dk} (h : KAt w ρ B p x d) {off : Bool} {calls : Int} {q : Pw} (hb : Blk w' p (cellsK { x with off := off, calls := calls }) 85) (hs : Step [2] ρ ρ w w')
    (hp : pwK off calls = q) (h0 : 0 ≤ calls) (h1 : calls < 9223372036854775808) : KAt w' ρ B p { x with off := off, calls := calls } ⟨d.f, q⟩ where
  blk := hb
  ro := h.ro
  now := fun n hn => (h.now n hn).step hs (by simp; omega)
  kept := fun n hn => (h.kept n hn).step hs (by simp; omega)
  list := fun n hn => (h.list n hn).step hs (by simp; omega) (by simp)
  done := h.done
  len := h.len
  fit := h.fit
  pw := hp
  calls0 := h0
  calls1 := h1
/-- What a call has made of a disk of the package. -/
def OpK (S : List Nat) (w : World) (ρ : Ro) (B p : Nat) (d : Dk) (w' : World) : Prop := ∃ ρ', Step S ρ ρ' w w' ∧ RoOk ρ' B w' ∧ ∃ x, KAt w' ρ' B p x d
theorem set_off (w : World) (p : Nat) (x : DkV) (b : Bool) (h : Blk w p (cellsK x) 85) : Blk (w.setCell ⟨p, 9, none⟩ (.bool b)) p (cellsK { x with off := b }) 85 := h.set 9 _
theorem set_calls (w : World) (p : Nat) (x : DkV) (n : Int) (h : Blk w p (cellsK x) 85) : Blk (w.setCell ⟨p, 10, none⟩ (.int .i64 n)) p (cellsK { x with calls := n }) 85 := h.set 10 _
set_option maxHeartbeats 2000000 in
theorem count_any (w : World) (ρ : Ro) (B p : Nat) (x : DkV) (d : Dk) (h : KAt w ρ B p x d) :
    Calls Try.prog 58 #[.pointer (some ⟨p, 0, none⟩)] w fun e w' => e = .returned (.tuple #[]) ∧ Step [2] ρ ρ w w' ∧ ∃ x', KAt w' ρ B p x' ⟨d.f, tickP d.p⟩ := by
  have HK := Lib.hid h
  have h9 := h.cOff
  have h10 := h.cCalls
  have z9 := h.blk.fz 9
  have z10 := h.blk.fz 10
  have k0 := h.calls0
  have k1 := h.calls1
  have HP := Lib.hid h.pw
  by_cases c0 : x.calls = 0
  · clear h
    rw [c0] at h10
    go_enter Try.func58, Try.ntmps58
    go_wp2_with fail
    refine bodyPost_ret (results_none rfl _ _ _) rfl ?_
    refine ⟨rfl, Step.refl, x, ?_⟩
    have e : tickP d.p = d.p := by
      rw [← HP.out, c0]
      cases x.off <;> rfl
    rw [e]
    exact HK.out
  · have hw1 : IntKind.i64.wrap (x.calls - 1) = x.calls - 1 := wrap_id (by omega) (by omega)
    by_cases c1 : x.calls = 1
    · have HS1 := Lib.hid (set_calls w p x (x.calls - 1) h.blk)
      have HS2 := Lib.hid (set_off _ p _ true HS1.out)
      have HST := Lib.hid (show Step [2] ρ ρ w ((w.setCell ⟨p, 10, none⟩ (.int .i64 (x.calls - 1))).setCell ⟨p, 9, none⟩ (.bool true)) from
        (Step.refl.setCell ⟨p, 10, none⟩ (.inr (by rw [show ρ p = 2 from h.ro]; simp)) _).setCell ⟨p, 9, none⟩ (.inr (by rw [show ρ p = 2 from h.ro]; simp)) _)
      have g10 := HS1.out.c 10 (u := .int .i64 (x.calls - 1)) rfl
      have zz9 := HS1.out.fz 9
      have c2 : x.calls - 1 = 0 := by omega
      rw [c2] at HS1 HS2 HST g10 zz9 hw1
      clear h
      go_enter Try.func58, Try.ntmps58
      go_wp2_with fail
      go_end0
      refine ⟨rfl, HST.out, _, HK.out.power HS2.out HST.out ?_ (by decide) (by decide)⟩
      rw [← HP.out, c1]
      cases x.off <;> rfl
    · have HS1 := Lib.hid (set_calls w p x (x.calls - 1) h.blk)
      have HST := Lib.hid (show Step [2] ρ ρ w (w.setCell ⟨p, 10, none⟩ (.int .i64 (x.calls - 1))) from
        Step.refl.setCell ⟨p, 10, none⟩ (.inr (by rw [show ρ p = 2 from h.ro]; simp)) _)
      have g10 := HS1.out.c 10 (u := .int .i64 (x.calls - 1)) rfl
      have c2 : ¬ (x.calls - 1 = 0) := by omega
      clear h
      go_enter Try.func58, Try.ntmps58
      go_wp2_with fail
      go_end0
      refine ⟨rfl, HST.out, _, HK.out.power HS1.out HST.out ?_ (by omega) (by omega)⟩
      rw [← HP.out]
      unfold pwK
      rw [if_neg c0, if_neg c2]
      cases x.off with
      | true => rfl
      | false =>
        obtain ⟨k, hk⟩ : ∃ k : Nat, x.calls = (k : Int) + 1 + 1 := ⟨(x.calls - 2).toNat, by omega⟩
        rw [hk]
        simp only [Bool.false_eq_true, if_false]
        rw [show ((k : Int) + 1 + 1 - 1).toNat = k + 1 by omega, show ((k : Int) + 1 + 1 - 1 - 1).toNat = k by omega]
        rfl
end Go.Proofs.Ytahmihdahgbhkaa

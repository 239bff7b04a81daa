/-
  bytes.Clone, and the statements' own writing over bytes, walked.
  Conditions: as each theorem states them.
-/
import Derived.Test.YtahmihdahgbhkaaDB
import Derived.Lib.SliceRun
namespace Go.Proofs.Ytahmihdahgbhkaa
open Go.RowKit

theorem own_zero (w : World) : BR (w.alloc (.cells #[] 5)) w.heap.size (.slice (some ⟨w.heap.size, 0, none⟩) 0 0) [] :=
  World.ownsRow_lit w #[] 0 (Nat.le_refl _) (Nat.zero_le _) rfl
set_option maxHeartbeats 2000000 in
set_option maxRecDepth 100000 in
theorem clone_any (l : List UInt8) (v : Value) (w : World) (h : RB w v l) (h2 : l.length ≤ 10000000) :
    Calls Try.prog 56 #[v] w fun e w' => ∃ u, e = .returned u ∧ BR w' w.heap.size u l ∧ Below w.heap.size w w' := by
  have HU := Lib.hid h
  obtain ⟨A, c, rfl, hll, _⟩ := h.slice
  have hnil : ∀ (a : Option Addr) (W : World), (binOp .eql 37 (.slice a l.length c) (.slice none 0 0)).run Try.prog W = .ok (.bool a.isNone) W := fun a W => Lib.run_eql_slice_nil W 37 5 a l.length c 0 0 Try.underlying37
  obtain ⟨A', c', hv, _, _, hne⟩ := h
  cases A with
  | none =>
    have : l = [] := by
      refine Classical.byContradiction fun hn => ?_
      obtain ⟨b, o, hA, _⟩ := hne hn
      injection hv with hv
      rw [← hv] at hA
      cases hA
    have HL := Lib.hid this
    clear hne hv this
    have hnil := hnil none
    go_enter Try.func56, Try.ntmps56
    go_wp2_with fail
    go_ret
    refine ⟨_, rfl, ?_, Below.refl _ _⟩
    rw [HL.out]
    exact BR.nil _ _
  | some a =>
    clear hne hv
    have HZ := Lib.hid (own_zero w)
    have HRB := Lib.hid (HU.out.later ((Below.refl w.heap.size w).alloc (Nat.le_refl _) (.cells #[] 5)))
    have HB := Lib.hid ((Below.refl w.heap.size w).alloc (Nat.le_refl _) (.cells #[] 5))
    go_enter Try.func56, Try.ntmps56
    go_wp2_with (at_builtin; refine wpList_append_b _ _ _ w.heap.size (.slice (some ⟨w.heap.size, 0, none⟩) 0 0) _ [] l rfl rfl rfl rfl HZ.out HRB.out (by simp) (by simp; omega) ?_)
    intro u w2 hrow2 hgrow _
    have HB2 := Lib.hid (HB.out.grown hgrow (by simp) (fun k hk => (BR.lt HZ.out k hk).1))
    have HR2 := Lib.hid hrow2
    clear hrow2 hgrow
    go_wp2_with fail
    go_ret
    exact ⟨_, rfl, HR2.out, HB2.out⟩
end Go.Proofs.Ytahmihdahgbhkaa

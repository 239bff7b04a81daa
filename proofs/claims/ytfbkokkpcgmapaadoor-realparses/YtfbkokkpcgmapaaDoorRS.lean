/-
  Package real's Parse, walked: it answers the float whose text it is given, or none.
  Conditions: as each theorem states them: the library's tables and errors are as they are laid, and the text is not too long.
-/
import Derived.Test.YtfbkokkpcgmapaaDoorRR
namespace Go.Proofs.YtfbkokkpcgmapaaDoor
open Go.RowKit

/-- How Parse ends. -/
def endP : Option Nat → Ending
  | some x => .returned (.tuple #[.float .f64 x, .int .i64 0])
  | none => .returned (.tuple #[.float .f64 0, .int .i64 8])

set_option maxHeartbeats 4000000 in
set_option maxRecDepth 100000 in
theorem fParse_any (s : List UInt8) (w : World) (hT : Tabs w) (hE : Errs w) (hs : s.length ≤ 10000) :
    Calls Tryd.prog 29 #[.string ⟨s.toArray⟩] w fun e w' => e = endP (progL s) ∧ Below w.heap.size w w' := by
  by_cases k0 : s = [110, 97, 110]
  · subst k0
    have HQ := Lib.hid (show progL [110, 97, 110] = some 9221120237041090561 by decide)
    have HN := Lib.hid (fun W => nan_any W)
    go_enter Tryd.func29, Tryd.ntmps29
    go_wp2_with fail
    refine Calls.mono (HN.out _) ?_
    rintro e w' ⟨rfl, rfl⟩
    go_wp2_with fail
    go_ret2
    exact ⟨by rw [HQ.out]; rfl, Below.refl _ _⟩
  by_cases k1 : s = [45, 105, 110, 102]
  · subst k1
    have HQ := Lib.hid (show progL [45, 105, 110, 102] = some 18442240474082181120 by decide)
    have HN := Lib.hid (fun W => inf_minus W)
    go_enter Tryd.func29, Tryd.ntmps29
    go_wp2_with fail
    refine Calls.mono (HN.out _) ?_
    rintro e w' ⟨rfl, rfl⟩
    go_wp2_with fail
    go_ret2
    exact ⟨by rw [HQ.out]; rfl, Below.refl _ _⟩
  by_cases k2 : s = [45, 48]
  · subst k2
    have HQ := Lib.hid (show progL [45, 48] = some 9223372036854775808 by decide)
    have hff : ∀ w, (callFunc 42 #[.int .u64 9223372036854775808]).run Tryd.prog w = .ok (.value (.float .f64 9223372036854775808)) w := fun w => run_from 9223372036854775808 w
    go_enter Tryd.func29, Tryd.ntmps29
    go_wp2_with fail
    go_ret2
    exact ⟨by rw [HQ.out]; rfl, Below.refl _ _⟩
  by_cases k3 : s = [48]
  · subst k3
    have HQ := Lib.hid (show progL [48] = some 0 by decide)
    go_enter Tryd.func29, Tryd.ntmps29
    go_wp2_with fail
    go_ret2
    exact ⟨by rw [HQ.out]; rfl, Below.refl _ _⟩
  by_cases k4 : s = [43, 105, 110, 102]
  · subst k4
    have HQ := Lib.hid (show progL [43, 105, 110, 102] = some 9218868437227405312 by decide)
    have HN := Lib.hid (fun W => inf_plus W)
    go_enter Tryd.func29, Tryd.ntmps29
    go_wp2_with fail
    refine Calls.mono (HN.out _) ?_
    rintro e w' ⟨rfl, rfl⟩
    go_wp2_with fail
    go_ret2
    exact ⟨by rw [HQ.out]; rfl, Below.refl _ _⟩
  have e0 : (s == [110, 97, 110]) = false := beq_eq_false_iff_ne.2 k0
  have e1 : (s == [45, 105, 110, 102]) = false := beq_eq_false_iff_ne.2 k1
  have e2 : (s == [45, 48]) = false := beq_eq_false_iff_ne.2 k2
  have e3 : (s == [48]) = false := beq_eq_false_iff_ne.2 k3
  have e4 : (s == [43, 105, 110, 102]) = false := beq_eq_false_iff_ne.2 k4
  have HPG := Lib.hid (show progL s = (readL s).bind fun x => if textF x = s then some x else none by unfold progL; rw [if_neg k0, if_neg k1, if_neg k2, if_neg k3, if_neg k4])
  have HR := Lib.hid (readProduct_any s w hE hs)
  have HT := Lib.hid hT
  clear hE hs hT k0 k1 k2 k3 k4
  cases hr : readL s with
  | none =>
    rw [hr] at HPG HR
    clear hr
    go_enter Tryd.func29, Tryd.ntmps29
    go_wp2_with fail
    refine Calls.mono HR.out ?_
    rintro e w1 ⟨rfl, hb⟩
    have HB := Lib.hid hb
    clear hb
    unfold endR
    go_wp2_with fail
    go_ret2
    exact ⟨by rw [HPG.out]; rfl, HB.out⟩
  | some x =>
    have hx := (read_lt hr).1
    rw [hr] at HPG HR
    clear hr
    go_enter Tryd.func29, Tryd.ntmps29
    go_wp2_with fail
    refine Calls.mono HR.out ?_
    rintro e w1 ⟨rfl, hb⟩
    have HB := Lib.hid hb
    have hsz := hb.size
    have HX := Lib.hid (fText_any x w1 (HT.out.keep hb) hx)
    clear hb HT
    unfold endR
    by_cases hc : textF x = s
    · have HQ := Lib.hid (show progL s = some x by rw [HPG.out]; simp only [Option.bind_some]; rw [if_pos hc])
      have hcb : (s != s) = false := by simp
      rw [hc] at HX
      clear hc HPG hx
      go_wp2_with fail
      refine Calls.mono HX.out ?_
      rintro e w2 ⟨rfl, hb⟩
      have HB2 := Lib.hid (HB.out.trans (hb.mono hsz))
      clear hb
      go_wp2_with fail
      go_ret2
      exact ⟨by rw [HQ.out]; rfl, HB2.out⟩
    · have HQ := Lib.hid (show progL s = none by rw [HPG.out]; simp only [Option.bind_some]; rw [if_neg hc])
      have hcb : (textF x != s) = true := bne_iff_ne.2 hc
      have hcb2 : (textF x == s) = false := beq_eq_false_iff_ne.2 hc
      clear HPG hx
      generalize textF x = tx at *
      clear hc
      go_wp2_with fail
      refine Calls.mono HX.out ?_
      rintro e w2 ⟨rfl, hb⟩
      have HB2 := Lib.hid (HB.out.trans (hb.mono hsz))
      clear hb
      go_wp2_with fail
      go_ret2
      exact ⟨by rw [HQ.out]; rfl, HB2.out⟩
end Go.Proofs.YtfbkokkpcgmapaaDoor

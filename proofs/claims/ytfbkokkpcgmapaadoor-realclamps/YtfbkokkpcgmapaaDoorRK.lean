/-
  A float within two: package real's Clamp and the page's, walked.
  Conditions: as each theorem states them: a word is below 2 to the 64.
-/
import Derived.Test.YtfbkokkpcgmapaaDoorRD
namespace Go.Proofs.YtfbkokkpcgmapaaDoor
open Go.RowKit

set_option maxRecDepth 100000 in
theorem fClamp_any (x lo hi : Nat) (w : World) (hx : x < 18446744073709551616) (hlo : lo < 18446744073709551616) (hhi : hi < 18446744073709551616) : Calls Tryd.prog 26 #[.float .f64 x, .float .f64 lo, .float .f64 hi] w fun e w' => e = .returned (.float .f64 (clampF x lo hi)) ∧ w' = w := by
  have HC1 := Lib.hid (fun W => fCmp_any x lo W hx hlo)
  have HC2 := Lib.hid (fun W => fCmp_any lo hi W hlo hhi)
  have HC3 := Lib.hid (fun W => fCmp_any x hi W hx hhi)
  have HNN := Lib.hid (fun W => nan_any W)
  have HNx := Lib.hid (fun W => isNaN_any x W)
  have HNlo := Lib.hid (fun W => isNaN_any lo W)
  have HNhi := Lib.hid (fun W => isNaN_any hi W)
  have HE := Lib.hid (show clampF x lo hi = if nanF x || nanF lo || nanF hi then 9221120237041090561 else if cmpF x lo < 0 ∨ 0 < cmpF lo hi then lo else if 0 < cmpF x hi then hi else x from rfl)
  clear hx hlo hhi
  generalize cmpF x lo = c1 at *
  generalize cmpF lo hi = c2 at *
  generalize cmpF x hi = c3 at *
  cases nx : nanF x with
  | true =>
    rw [nx] at HE HNx
    go_enter Tryd.func26, Tryd.ntmps26
    go_wp2_with fail
    refine Calls.mono (HNx.out _) ?_
    rintro e w' ⟨rfl, rfl⟩
    go_wp2_with fail
    refine Calls.mono (HNN.out _) ?_
    rintro e w' ⟨rfl, rfl⟩
    go_wp2_with fail
    go_ret
    exact ⟨by rw [HE.out]; rfl, rfl⟩
  | false =>
    rw [nx] at HE HNx
    cases nl : nanF lo with
    | true =>
      rw [nl] at HE HNlo
      go_enter Tryd.func26, Tryd.ntmps26
      go_wp2_with fail
      refine Calls.mono (HNx.out _) ?_
      rintro e w' ⟨rfl, rfl⟩
      go_wp2_with fail
      refine Calls.mono (HNlo.out _) ?_
      rintro e w' ⟨rfl, rfl⟩
      go_wp2_with fail
      refine Calls.mono (HNN.out _) ?_
      rintro e w' ⟨rfl, rfl⟩
      go_wp2_with fail
      go_ret
      exact ⟨by rw [HE.out]; rfl, rfl⟩
    | false =>
      rw [nl] at HE HNlo
      cases nh : nanF hi with
      | true =>
        rw [nh] at HE HNhi
        go_enter Tryd.func26, Tryd.ntmps26
        go_wp2_with fail
        refine Calls.mono (HNx.out _) ?_
        rintro e w' ⟨rfl, rfl⟩
        go_wp2_with fail
        refine Calls.mono (HNlo.out _) ?_
        rintro e w' ⟨rfl, rfl⟩
        go_wp2_with fail
        refine Calls.mono (HNhi.out _) ?_
        rintro e w' ⟨rfl, rfl⟩
        go_wp2_with fail
        refine Calls.mono (HNN.out _) ?_
        rintro e w' ⟨rfl, rfl⟩
        go_wp2_with fail
        go_ret
        exact ⟨by rw [HE.out]; rfl, rfl⟩
      | false =>
        rw [nh] at HE HNhi
        by_cases h1 : c1 < 0
        · have HF := Lib.hid (show clampF x lo hi = lo by rw [HE.out, if_neg (by decide), if_pos (.inl h1)])
          go_enter Tryd.func26, Tryd.ntmps26
          go_wp2_with fail
          refine Calls.mono (HNx.out _) ?_
          rintro e w' ⟨rfl, rfl⟩
          go_wp2_with fail
          refine Calls.mono (HNlo.out _) ?_
          rintro e w' ⟨rfl, rfl⟩
          go_wp2_with fail
          refine Calls.mono (HNhi.out _) ?_
          rintro e w' ⟨rfl, rfl⟩
          go_wp2_with fail
          refine Calls.mono (HC1.out _) ?_
          rintro e w' ⟨rfl, rfl⟩
          go_wp2_with fail
          go_ret
          exact ⟨by rw [HF.out]; rfl, rfl⟩
        · have h1d : decide (c1 < 0) = false := decide_eq_false h1
          by_cases h2 : 0 < c2
          · have HF := Lib.hid (show clampF x lo hi = lo by rw [HE.out, if_neg (by decide), if_pos (.inr h2)])
            go_enter Tryd.func26, Tryd.ntmps26
            go_wp2_with fail
            refine Calls.mono (HNx.out _) ?_
            rintro e w' ⟨rfl, rfl⟩
            go_wp2_with fail
            refine Calls.mono (HNlo.out _) ?_
            rintro e w' ⟨rfl, rfl⟩
            go_wp2_with fail
            refine Calls.mono (HNhi.out _) ?_
            rintro e w' ⟨rfl, rfl⟩
            go_wp2_with fail
            refine Calls.mono (HC1.out _) ?_
            rintro e w' ⟨rfl, rfl⟩
            go_wp2_with fail
            refine Calls.mono (HC2.out _) ?_
            rintro e w' ⟨rfl, rfl⟩
            go_wp2_with fail
            go_ret
            exact ⟨by rw [HF.out]; rfl, rfl⟩
          · have h2d : decide (0 < c2) = false := decide_eq_false h2
            by_cases h3 : 0 < c3
            · have HF := Lib.hid (show clampF x lo hi = hi by rw [HE.out, if_neg (by decide), if_neg (fun h => h.elim h1 h2), if_pos h3])
              go_enter Tryd.func26, Tryd.ntmps26
              go_wp2_with fail
              refine Calls.mono (HNx.out _) ?_
              rintro e w' ⟨rfl, rfl⟩
              go_wp2_with fail
              refine Calls.mono (HNlo.out _) ?_
              rintro e w' ⟨rfl, rfl⟩
              go_wp2_with fail
              refine Calls.mono (HNhi.out _) ?_
              rintro e w' ⟨rfl, rfl⟩
              go_wp2_with fail
              refine Calls.mono (HC1.out _) ?_
              rintro e w' ⟨rfl, rfl⟩
              go_wp2_with fail
              refine Calls.mono (HC2.out _) ?_
              rintro e w' ⟨rfl, rfl⟩
              go_wp2_with fail
              refine Calls.mono (HC3.out _) ?_
              rintro e w' ⟨rfl, rfl⟩
              go_wp2_with fail
              go_ret
              exact ⟨by rw [HF.out]; rfl, rfl⟩
            · have h3d : decide (0 < c3) = false := decide_eq_false h3
              have HF := Lib.hid (show clampF x lo hi = x by rw [HE.out, if_neg (by decide), if_neg (fun h => h.elim h1 h2), if_neg h3])
              go_enter Tryd.func26, Tryd.ntmps26
              go_wp2_with fail
              refine Calls.mono (HNx.out _) ?_
              rintro e w' ⟨rfl, rfl⟩
              go_wp2_with fail
              refine Calls.mono (HNlo.out _) ?_
              rintro e w' ⟨rfl, rfl⟩
              go_wp2_with fail
              refine Calls.mono (HNhi.out _) ?_
              rintro e w' ⟨rfl, rfl⟩
              go_wp2_with fail
              refine Calls.mono (HC1.out _) ?_
              rintro e w' ⟨rfl, rfl⟩
              go_wp2_with fail
              refine Calls.mono (HC2.out _) ?_
              rintro e w' ⟨rfl, rfl⟩
              go_wp2_with fail
              refine Calls.mono (HC3.out _) ?_
              rintro e w' ⟨rfl, rfl⟩
              go_wp2_with fail
              go_ret
              exact ⟨by rw [HF.out]; rfl, rfl⟩
set_option maxRecDepth 100000 in
theorem rClamp_any (x lo hi : Nat) (w : World) (hx : x < 18446744073709551616) (hlo : lo < 18446744073709551616) (hhi : hi < 18446744073709551616) : Calls Tryd.prog 27 #[.float .f64 x, .float .f64 lo, .float .f64 hi] w fun e w' => e = .returned (.float .f64 (clampF x lo hi)) ∧ w' = w := by
  have HC1 := Lib.hid (fun W => rCmp_any x lo W hx hlo)
  have HC2 := Lib.hid (fun W => rCmp_any lo hi W hlo hhi)
  have HC3 := Lib.hid (fun W => rCmp_any x hi W hx hhi)
  have HNN := Lib.hid (fun W => nan_any W)
  have hNx := ord_ne x
  have hNlo := ord_ne lo
  have hNhi := ord_ne hi
  have HE := Lib.hid (show clampF x lo hi = if nanF x || nanF lo || nanF hi then 9221120237041090561 else if cmpF x lo < 0 ∨ 0 < cmpF lo hi then lo else if 0 < cmpF x hi then hi else x from rfl)
  clear hx hlo hhi
  generalize cmpF x lo = c1 at *
  generalize cmpF lo hi = c2 at *
  generalize cmpF x hi = c3 at *
  cases nx : nanF x with
  | true =>
    rw [nx] at HE hNx
    go_enter Tryd.func27, Tryd.ntmps27
    go_wp2_with fail
    refine Calls.mono (HNN.out _) ?_
    rintro e w' ⟨rfl, rfl⟩
    go_wp2_with fail
    go_ret
    exact ⟨by rw [HE.out]; rfl, rfl⟩
  | false =>
    rw [nx] at HE hNx
    cases nl : nanF lo with
    | true =>
      rw [nl] at HE hNlo
      go_enter Tryd.func27, Tryd.ntmps27
      go_wp2_with fail
      refine Calls.mono (HNN.out _) ?_
      rintro e w' ⟨rfl, rfl⟩
      go_wp2_with fail
      go_ret
      exact ⟨by rw [HE.out]; rfl, rfl⟩
    | false =>
      rw [nl] at HE hNlo
      cases nh : nanF hi with
      | true =>
        rw [nh] at HE hNhi
        go_enter Tryd.func27, Tryd.ntmps27
        go_wp2_with fail
        refine Calls.mono (HNN.out _) ?_
        rintro e w' ⟨rfl, rfl⟩
        go_wp2_with fail
        go_ret
        exact ⟨by rw [HE.out]; rfl, rfl⟩
      | false =>
        rw [nh] at HE hNhi
        by_cases h1 : c1 < 0
        · have HF := Lib.hid (show clampF x lo hi = lo by rw [HE.out, if_neg (by decide), if_pos (.inl h1)])
          go_enter Tryd.func27, Tryd.ntmps27
          go_wp2_with fail
          refine Calls.mono (HC1.out _) ?_
          rintro e w' ⟨rfl, rfl⟩
          go_wp2_with fail
          go_ret
          exact ⟨by rw [HF.out]; rfl, rfl⟩
        · have h1d : decide (c1 < 0) = false := decide_eq_false h1
          by_cases h2 : 0 < c2
          · have HF := Lib.hid (show clampF x lo hi = lo by rw [HE.out, if_neg (by decide), if_pos (.inr h2)])
            go_enter Tryd.func27, Tryd.ntmps27
            go_wp2_with fail
            refine Calls.mono (HC1.out _) ?_
            rintro e w' ⟨rfl, rfl⟩
            go_wp2_with fail
            refine Calls.mono (HC2.out _) ?_
            rintro e w' ⟨rfl, rfl⟩
            go_wp2_with fail
            go_ret
            exact ⟨by rw [HF.out]; rfl, rfl⟩
          · have h2d : decide (0 < c2) = false := decide_eq_false h2
            by_cases h3 : 0 < c3
            · have HF := Lib.hid (show clampF x lo hi = hi by rw [HE.out, if_neg (by decide), if_neg (fun h => h.elim h1 h2), if_pos h3])
              go_enter Tryd.func27, Tryd.ntmps27
              go_wp2_with fail
              refine Calls.mono (HC1.out _) ?_
              rintro e w' ⟨rfl, rfl⟩
              go_wp2_with fail
              refine Calls.mono (HC2.out _) ?_
              rintro e w' ⟨rfl, rfl⟩
              go_wp2_with fail
              refine Calls.mono (HC3.out _) ?_
              rintro e w' ⟨rfl, rfl⟩
              go_wp2_with fail
              go_ret
              exact ⟨by rw [HF.out]; rfl, rfl⟩
            · have h3d : decide (0 < c3) = false := decide_eq_false h3
              have HF := Lib.hid (show clampF x lo hi = x by rw [HE.out, if_neg (by decide), if_neg (fun h => h.elim h1 h2), if_neg h3])
              go_enter Tryd.func27, Tryd.ntmps27
              go_wp2_with fail
              refine Calls.mono (HC1.out _) ?_
              rintro e w' ⟨rfl, rfl⟩
              go_wp2_with fail
              refine Calls.mono (HC2.out _) ?_
              rintro e w' ⟨rfl, rfl⟩
              go_wp2_with fail
              refine Calls.mono (HC3.out _) ?_
              rintro e w' ⟨rfl, rfl⟩
              go_wp2_with fail
              go_ret
              exact ⟨by rw [HF.out]; rfl, rfl⟩
end Go.Proofs.YtfbkokkpcgmapaaDoor

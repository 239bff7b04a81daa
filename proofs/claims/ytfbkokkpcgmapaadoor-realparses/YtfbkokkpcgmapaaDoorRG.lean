/-
  What keeps the statements awake (the order of the two zeros, the text of six), walked; texts of given floats by reckoning.
  Conditions: as each theorem states them: the library's two tables are as their initialisers lay them.
-/
import Derived.Test.YtfbkokkpcgmapaaDoorRF
namespace Go.Proofs.YtfbkokkpcgmapaaDoor
open Go.RowKit

/-- Decimal digits by reckoning. -/
def decN : Nat → Nat → List UInt8
  | 0, u => [UInt8.ofNat (48 + u)]
  | f + 1, u => if u < 10 then [UInt8.ofNat (48 + u)] else decN f (u / 10) ++ [UInt8.ofNat (48 + u % 10)]
theorem dec_comp : ∀ (f u : Nat), u < 10 ^ (f + 1) → Lib.decDigits u = decN f u := by
  intro f
  induction f with
  | zero => intro u h; rw [Lib.decDigits, dif_pos (by simpa using h)]; rfl
  | succ f ih =>
    intro u h
    rw [Lib.decDigits, decN]
    split
    · rfl
    · rw [ih (u / 10) (by rw [Nat.pow_succ] at h; omega)]
def itoaN (z : Int) : List UInt8 := if z < 0 then 45 :: decN 7 z.natAbs else decN 7 z.toNat
theorem itoa_comp {z : Int} (h1 : -1000000 ≤ z) (h2 : z ≤ 1000000) : Lib.itoa z = itoaN z := by
  unfold Lib.itoa itoaN
  split
  · rw [dec_comp 7 _ (by omega)]
  · rw [dec_comp 7 _ (by omega)]
def textN (a : Nat) : List UInt8 :=
  if nanF a then [110, 97, 110]
  else if a % 9223372036854775808 = 9218868437227405312 then (if negF a then [45, 105, 110, 102] else [43, 105, 110, 102])
  else if a % 9223372036854775808 = 0 then (if negF a then [45, 48] else [48])
  else if negF a then 45 :: (decN 15 (oddM (a % 9223372036854775808)) ++ 112 :: itoaN (oddE (a % 9223372036854775808))) else decN 15 (oddM (a % 9223372036854775808)) ++ 112 :: itoaN (oddE (a % 9223372036854775808))
theorem text_comp (a : Nat) : textF a = textN a := by
  unfold textF textN
  split
  · rfl
  split
  · rfl
  split
  · rfl
  rename_i hn h1 h2
  have hn' : ¬ (9218868437227405312 < a % 9223372036854775808) := fun h => hn (decide_eq_true h)
  have hin := oddE_in (r := a % 9223372036854775808) (by omega) (by omega)
  have hod := odd_spec (r := a % 9223372036854775808) (by omega)
  unfold bodyF
  rw [dec_comp 15 _ (by omega), itoa_comp (by omega) (by omega)]

theorem copysign_zero (w : World) : Calls Tryd.prog 44 #[.float .f64 0, .float .f64 13830554455654793216] w fun e w' => e = .returned (.float .f64 9223372036854775808) ∧ w' = w := by
  have hf0 : ∀ w, (callFunc 25 #[.float .f64 0]).run Tryd.prog w = .ok (.value (.int .u64 0)) w := fun w => run_bits 0 w
  have hf1 : ∀ w, (callFunc 25 #[.float .f64 13830554455654793216]).run Tryd.prog w = .ok (.value (.int .u64 13830554455654793216)) w := fun w => run_bits 13830554455654793216 w
  have hf2 : ∀ w, (callFunc 42 #[.int .u64 9223372036854775808]).run Tryd.prog w = .ok (.value (.float .f64 9223372036854775808)) w := fun w => run_from 9223372036854775808 w
  have h1 : bits .andNot .u64 0 9223372036854775808 = 0 := by decide +kernel
  have h2 : bits .and .u64 13830554455654793216 9223372036854775808 = 9223372036854775808 := by decide +kernel
  have h3 : bits .or .u64 0 9223372036854775808 = 9223372036854775808 := by decide +kernel
  go_enter Tryd.func44, Tryd.ntmps44
  go_wp2_with fail
  go_ret
  exact ⟨rfl, rfl⟩

theorem wakes_any (w : World) (hT : Tabs w) : Calls Tryd.prog 17 #[] w fun e w' => e = .returned (.bool true) ∧ Below w.heap.size w w' := by
  have HS := Lib.hid (fun W => copysign_zero W)
  have HC := Lib.hid (fun W => fCmp_any 9223372036854775808 0 W (by decide) (by decide))
  rw [show cmpF 9223372036854775808 0 = -1 by decide] at HC
  have HX := Lib.hid (fText_any 4618441417868443648 w hT (by decide))
  rw [show textF 4618441417868443648 = [51, 112, 49] by rw [text_comp]; decide] at HX
  clear hT
  go_enter Tryd.func17, Tryd.ntmps17
  go_wp2_with fail
  refine Calls.mono (HS.out _) ?_
  rintro e w' ⟨rfl, rfl⟩
  go_wp2_with fail
  refine Calls.mono (HC.out _) ?_
  rintro e w' ⟨rfl, rfl⟩
  go_wp2_with fail
  refine Calls.mono HX.out ?_
  rintro e w1 ⟨rfl, hb⟩
  have HB := Lib.hid hb
  clear hb
  go_wp2_with fail
  go_ret
  exact ⟨rfl, HB.out⟩
end Go.Proofs.YtfbkokkpcgmapaaDoor

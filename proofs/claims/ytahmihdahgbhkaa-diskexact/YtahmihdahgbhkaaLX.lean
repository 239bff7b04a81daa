/-
  The pieces of DiskExact's body, by their place in it.
  No condition.
-/
import Derived.Test.YtahmihdahgbhkaaRU
namespace Go.Proofs.Ytahmihdahgbhkaa
open Go.RowKit

/-- A piece of code, by the way to it. -/
def codeAt : Code → List Nat → Code
  | c, [] => c
  | .seq a _, 0 :: r => codeAt a r
  | .seq _ b, _ :: r => codeAt b r
  | .cond _ a _, 0 :: r => codeAt a r
  | .cond _ _ b, _ :: r => codeAt b r
  | .block _ a, _ :: r => codeAt a r
  | .loop a, _ :: r => codeAt a r
  | .scope a, _ :: r => codeAt a r
  | c, _ => c
/-- A piece of the law's body. -/
noncomputable def exactAt (p : List Nat) : Code := codeAt (Try.f3.body.getD .skip) p
end Go.Proofs.Ytahmihdahgbhkaa

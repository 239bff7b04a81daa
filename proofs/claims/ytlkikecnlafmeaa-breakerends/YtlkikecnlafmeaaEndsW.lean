/-
  BreakerEnds: the statement's own walk.
  Conditions: as the theorem states them: the argument lies in memory.
-/
import Derived.Test.YtlkikecnlafmeaaQP
namespace Go.Proofs.Ytlkikecnlafmeaa
open Go.RowKit

theorem ends_any (b : BR) (sc : Nat) (v : Value) (l : List AR) (w : World) (hsc : sc < 18446744073709551616) (h : AcsAt w v l) :
    Calls Try.prog 6 #[sV b sc v] w fun e w' => e = .returned (.bool true) ∧ Below w.heap.size w w' := by
  have HO := Lib.hid (fun W (hW : Below w.heap.size w W) => only_any b sc v l 5 W hsc (h.later hW))
  obtain ⟨A0, cp, rfl, hll⟩ := h.slice
  have HA := Lib.hid ((Below.refl _ w).alloc (Nat.le_refl _) (.cells #[.int .i64 b.t, .int .i64 b.f, .int .i64 b.u, .float .f64 b.s, .int .i64 b.c, .int .u64 (sc : Int), .slice A0 l.length cp] 30))
  clear h hsc
  unfold sV at *
  go_enter Try.func6, Try.ntmps6
  go_wp2_with fail
  refine Calls.mono (HO.out _ HA.out) ?_
  rintro e w1 ⟨rfl, hb⟩
  have HB := Lib.hid (HA.out.trans (hb.mono HA.out.size))
  clear hb
  go_wp2_with fail
  go_ret
  exact ⟨rfl, HB.out⟩
end Go.Proofs.Ytlkikecnlafmeaa

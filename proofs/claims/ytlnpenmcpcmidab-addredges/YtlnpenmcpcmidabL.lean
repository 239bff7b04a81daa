/-
  Text, Domain and the readers of a local part and of a mailbox, walked.
  Conditions: as each theorem states them.
-/
import Derived.Test.YtlnpenmcpcmidabK
namespace Go.Proofs.Ytlnpenmcpcmidab
open Go.RowKit

theorem add_str (a b : List UInt8) (w : World) (h : a.length + b.length ≤ 1000000) : (Op.stringOp .add ⟨a.toArray⟩ ⟨b.toArray⟩).run Try.prog w = .ok (.string ⟨(a ++ b).toArray⟩) w :=
  run_string_add_lists (P := Try.prog) w a b (by omega) (by omega)

/-- What Text answers. -/
def textL (l d : List UInt8) : List UInt8 := if boxL l d then l ++ 64 :: d else []

theorem ret_si {a b : List UInt8} {n m : Int} (h : a = b) (k : n = m) : Ending.returned (.tuple #[.string ⟨a.toArray⟩, .int .i64 n]) = .returned (.tuple #[.string ⟨b.toArray⟩, .int .i64 m]) := by rw [h, k]

/-- What readDomain comes to. -/
def DomEnd (s : List UInt8) (e : Ending) : Prop :=
  (domL (lowL s) = true ∧ e = .returned (.string ⟨(lowL s).toArray⟩)) ∨ (domL (lowL s) = false ∧ e = wrongE)

theorem low_len (s : List UInt8) : (lowL s).length = s.length := by simp [lowL]

set_option maxHeartbeats 1000000 in
theorem readDomain_any (s : List UInt8) (w : World) (hs : s.length ≤ 100000) :
    Calls Try.prog 30 #[.string ⟨s.toArray⟩] w fun e w' => DomEnd s e ∧ Below w.heap.size w w' := by
  have HL := Lib.hid (lower_any s w hs)
  have HD := Lib.hid (fun W => isDomain_any (lowL s) W (by rw [low_len]; unfold maxLen; omega))
  go_enter Try.func30, Try.ntmps30
  go_wp2_with fail
  refine Calls.mono HL.out ?_
  rintro e w1 ⟨rfl, hb⟩
  have HB := Lib.hid hb
  clear hb
  go_wp2_with fail
  refine Calls.mono (HD.out _) ?_
  rintro e w2 ⟨rfl, n, rfl⟩
  cases h : domL (lowL s) with
  | true =>
    have HE := Lib.hid h
    clear h
    go_wp2_with fail
    go_ret
    exact ⟨.inl ⟨HE.out, rfl⟩, below_drewN HB.out n⟩
  | false =>
    have HE := Lib.hid h
    clear h
    go_wp2_with fail
    exact ⟨rfl, .inr ⟨HE.out, rfl⟩, below_drewN HB.out n⟩

/-- What Domain answers. -/
def domT (s : List UInt8) : List UInt8 := if domL (lowL s) then lowL s else []
def domN (s : List UInt8) : Int := if domL (lowL s) then 0 else 8
end Go.Proofs.Ytlnpenmcpcmidab

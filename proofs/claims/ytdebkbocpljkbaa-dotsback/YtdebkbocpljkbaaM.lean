/-
  IndexRune, walked at this program where the two bytes 13, 10 are searched for a rune beyond ASCII that takes three bytes or more, or for the rune that stands for wrong bytes: it answers that there is none.
  Conditions: as each theorem states them.
-/
import Derived.Test.YtdebkbocpljkbaaL
import Derived.Lib.OthersKept
import Derived.Deep.LoopGhost
import Derived.Laws.Runes
import Derived.WalkMore
import Derived.BigQuiet
import Derived.Deep.RegionWith
import Derived.Laws.Strings3
namespace Go.Proofs.Ytdebkbocpljkbaa
open Go.RowKit

set_option maxHeartbeats 1000000 in
set_option maxRecDepth 1000000 in
theorem indexRune_error (w : World) :
    Calls Try.prog 43 #[.string ⟨#[13, 10]⟩, .int .i32 65533] w fun e w' => e = .returned (.int .i64 (-1)) ∧ Below w.heap.size w w' := by
  go_enter Try.func43, Try.ntmps43
  go_wp2_with fail
  go_loopg [5, 6] 2 (fun g _ _ wx => ∃ i : Nat, i + g = 2 ∧ wx = w.iter ⟨#[13, 10]⟩ i)
  case atStart => exact ⟨0, by omega, rfl⟩
  case round =>
    obtain ⟨i, hig, rfl⟩ := hrel
    match gk, i, hig with
    | 0, 2, _ =>
      have hnx := fun ty => run_next_end (P := Try.prog) w ⟨#[13, 10]⟩ 2 ty (by decide)
      go_wp2
      go_ret
      exact ⟨rfl, (Below.refl _ _).alloc (Nat.le_refl _) _⟩
    | 1, 1, _ =>
      have hnx := fun ty => run_next_ascii (P := Try.prog) w ⟨#[13, 10]⟩ 1 ty (by decide) (by decide)
      go_wp2
      go_roundg 0
      case measure => omega
      case rel => exact ⟨2, rfl, rfl⟩
    | 2, 0, _ =>
      have hnx := fun ty => run_next_ascii (P := Try.prog) w ⟨#[13, 10]⟩ 0 ty (by decide) (by decide)
      go_wp2
      go_roundg 1
      case measure => omega
      case rel => exact ⟨1, rfl, rfl⟩

theorem two_of_size (rs : ByteArray) (h : rs.size = 2) : ∃ a x, rs = ⟨#[a, x]⟩ := by
  have hl : rs.data.toList.length = 2 := by simpa using h
  match hr : rs.data.toList, hl with
  | [a, x], _ => exact ⟨a, x, by rw [← Lib.mk_data rs, hr]⟩

set_option maxHeartbeats 1000000 in
set_option maxRecDepth 1000000 in
theorem indexRune_more (r : Nat) (w : World) (h0 : 128 ≤ r) (h1 : r ≠ 65533) (hv : Lib.validRune r = true) (he : 2 < (Utf8.encode r).size) (he4 : (Utf8.encode r).size ≤ 4) :
    Calls Try.prog 43 #[.string ⟨#[13, 10]⟩, .int .i32 r] w fun e w' => e = .returned (.int .i64 (-1)) ∧ Below w.heap.size w w' := by
  have hlt : ¬ (r : Int) < 128 := by omega
  have hge : (0 : Int) ≤ (r : Int) := by omega
  have hne : ((r : Int) == 65533) = false := beq_eq_false_iff_ne.2 (by omega)
  have hcv : ∀ w, (convert 21 9 (.int .i32 r)).run Try.prog w = .ok (.string (Utf8.encode r)) w := fun w => run_convert_int_string (P := Try.prog) w 21 9 .i32 r (by rw [Try.underlying21]; rfl) Try.underlying9
  generalize Utf8.encode (r : Int) = rs at *
  have hl2 : ¬ ((rs.size : Int) - 1 < 2) := by omega
  go_enter Try.func43, Try.ntmps43
  go_wp2_with (go_at_call 50; refine (Try.utf8_ValidRune _ _).mono ?_; rintro e w' ⟨rfl, rfl⟩; rw [hv])
  go_step3
  go_wp2_with fail
  go_loop [9, 10] (fun i _ => i = .int .i64 ((rs.size : Int) - 1)) (fun _ _ => 0)
  case atStart => rfl
  case round =>
    subst hrel
    go_wp2_with fail
    go_ret
    exact ⟨rfl, Below.refl _ _⟩
end Go.Proofs.Ytdebkbocpljkbaa

/-
  IndexRune, walked at this program where a text of two bytes, the last of them 10, is searched for a rune that takes two bytes: it answers that there is none.
  Conditions: as the theorem states them.
-/
import Derived.Test.YtdebkbocpljkbaaL
import Derived.Test.YtdebkbocpljkbaaM
import Derived.Lib.OthersKept
import Derived.Deep.LoopGhost
import Derived.Laws.Runes
import Derived.WalkMore
import Derived.BigQuiet
import Derived.Deep.RegionWith
import Derived.Laws.Strings3
namespace Go.Proofs.Ytdebkbocpljkbaa
open Go.RowKit

theorem two_lt (a x : UInt8) : 1 < (⟨#[a, x]⟩ : ByteArray).size := by
  show 1 < 2
  omega

theorem two_ne (s : ByteArray) (j : Nat) (hj : j < s.size) (a x : UInt8) (h : s[j].toNat = 10) (hx : 128 ≤ x.toNat) :
    (((s[j].toNat : Nat) : Int) != ((((⟨#[a, x]⟩ : ByteArray)[1]'(two_lt a x)).toNat : Nat) : Int)) = true := by
  have e : ((⟨#[a, x]⟩ : ByteArray)[1]'(two_lt a x)) = x := rfl
  rw [e, h]
  simp
  omega
set_option maxHeartbeats 1000000 in
set_option maxRecDepth 1000000 in
theorem indexRune_two (s : ByteArray) (r : Nat) (a x : UInt8) (w : World) (hs : s.size = 2) (h10 : s[1].toNat = 10) (h0 : 128 ≤ r) (h1 : r ≠ 65533) (hv : Lib.validRune r = true) (he : Utf8.encode r = ⟨#[a, x]⟩) (hx : 128 ≤ x.toNat) :
    Calls Try.prog 43 #[.string s, .int .i32 r] w fun e w' => e = .returned (.int .i64 (-1)) ∧ Below w.heap.size w w' := by
  have hlt : ¬ (r : Int) < 128 := by omega
  have hge : (0 : Int) ≤ (r : Int) := by omega
  have hne : ((r : Int) == 65533) = false := beq_eq_false_iff_ne.2 (by omega)
  have hcv : ∀ w, (convert 21 9 (.int .i32 r)).run Try.prog w = .ok (.string ⟨#[a, x]⟩) w := fun w => by rw [← he]; exact run_convert_int_string (P := Try.prog) w 21 9 .i32 r (by rw [Try.underlying21]; rfl) Try.underlying9
  go_enter Try.func43, Try.ntmps43
  go_wp2_with (go_at_call 50; refine (Try.utf8_ValidRune _ _).mono ?_; rintro e w' ⟨rfl, rfl⟩; rw [hv])
  go_step3
  go_wp2_with fail
  go_loop [9, 10] (fun i _ => ∃ j : Nat, j = 1 ∧ i = .int .i64 j) (fun _ _ => 0)
  case atStart => exact ⟨1, rfl, rfl⟩
  case round =>
    obtain ⟨j, hj, rfl⟩ := hrel
    have hjs : j < s.size := by omega
    have hl1 : (j : Int) < (s.size : Int) := by omega
    have hl2 : (j : Int) + 1 ≤ (s.size : Int) := by omega
    have hxm := two_ne s j hjs a x (by simp only [hj]; exact h10) hx
    have hib : ∀ c, Lib.indexByte (s.extract (j + 1) s.size).data.toList c = -1 := fun c => by
      have : (s.extract (j + 1) s.size).data.toList = [] := by rw [Lib.extract_data]; simp [hs, hj]
      rw [this]; rfl
    have hwz : (0 : Int) ≤ (j : Int) + 1 := by omega
    have hwj : IntKind.i64.wrap ((j : Int) + 1) = (j : Int) + 1 := IntWalk.i64_in _ (by omega)
    clear hj he h10 hs
    go_wp2_with fail
    go_step3
    go_wp2_with fail
    go_quiet (fail)
    go_wp2_with fail
    go_quiet (exact (Try.strings_IndexByte _ _ _).mono (fun _ _ h => ⟨h.1, _, h.2⟩))
    rw [hib]
    go_wp2_with fail
    rw [Exit.noGoto_ret]
    go_wp2
    rw [Exit.noGoto_ret]
    go_wp2
    go_ret
    exact ⟨rfl, ⟨rfl, rfl, rfl, Nat.le_refl _, fun _ _ => rfl⟩⟩
end Go.Proofs.Ytdebkbocpljkbaa

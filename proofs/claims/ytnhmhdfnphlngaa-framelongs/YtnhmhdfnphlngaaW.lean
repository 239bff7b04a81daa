/-
  wakes and heavy of the statements' own text, walked: wakes answers true and turns nothing that was there; heavy tells whether a script is too long.
  Conditions: the library's variable internal/bytealg.MaxLen holds some number.
-/
import Derived.Test.YtnhmhdfnphlngaaH
import Derived.Lib.SlBytesConst
namespace Go.Proofs.Ytnhmhdfnphlngaa
open Go.RowKit

theorem wakes_feed : (Rd.of [97] false).feed [98, 13, 10, 99] = ⟨[99], false, [([97, 98], false)]⟩ := by kernel_rfl

theorem wakes_valid : validL [97] false = true := by decide

theorem ownsRow_shape {w : World} {base size n : Nat} {e : TypeId} {v : Value} {xs : List Value} (h : w.ownsRow base e size v n xs) (hn : 0 < n) : ∃ g cap, v = .slice (some ⟨g, 0, none⟩) n cap := by
  rcases h.2 with ⟨_, h0⟩ | ⟨g, cap, _, hv, _⟩
  · omega
  · exact ⟨g, cap, hv⟩

set_option maxHeartbeats 1000000 in
theorem wakes_any (m : Int) (w : World) (hm : w.cell? ⟨0, 0, none⟩ = some (.int .i64 m)) (h0 : 0 < w.heap.size) :
    Calls Try.prog 11 #[] w fun e w' => e = .returned (.bool true) ∧ Below w.heap.size w w' := by
  have hcc := Lib.run_convert_bytes_const (P := Try.prog) w 26 5 #[.int .u8 98, .int .u8 13, .int .u8 10, .int .u8 99] 4 4 Try.underlying26 Try.underlying5
  have hm' : ∀ o, (w.alloc o).cell? ⟨0, 0, none⟩ = some (.int .i64 m) := fun o => (World.cell?_alloc_lt w o _ h0).trans hm
  go_enter Try.func11, Try.ntmps11
  go_wp2_with fail
  have hfeed := feed_good ⟨#[97]⟩ false [98, 13, 10, 99] m (.slice (some ⟨w.heap.size, 0, none⟩) 4 4) (w.alloc (.cells #[.int .u8 98, .int .u8 13, .int .u8 10, .int .u8 99] 5 (4, 5))) (hm' _) (by simp) (by unfold maxLen; simp [ByteArray.size]) wakes_valid
    ((BytesAt.new w [98, 13, 10, 99] 4 5 (4, 5) (by simp)).mono (by simp)) (by simp)
  rw [wakes_feed] at hfeed
  refine hfeed.mono ?_
  rintro e w1 ⟨lv, rfl, hown, hb⟩
  have hb1 : Below w.heap.size w w1 := ((Below.refl _ _).alloc (Nat.le_refl _) _).trans (hb.mono (by simp))
  obtain ⟨g, cap, rfl⟩ := ownsRow_shape hown (by simp)
  clear hfeed hb hm' hcc
  have c0 : w1.cell? ⟨g, 0, none⟩ = some (.string ⟨#[97, 98]⟩) := hown.cellAt 0 (by simp)
  have hca : ∀ o, (w1.alloc o).cell? ⟨g, 0, none⟩ = some (.string ⟨#[97, 98]⟩) := fun o => (World.cell?_alloc_lt w1 o _ (World.block_lt_of_cell? w1 _ c0)).trans c0
  have hsz := hb1.size
  clear hown
  go_wp2_with (go_at_call 8; refine (num_any _ _).mono ?_; rintro e w' ⟨rfl, rfl⟩)
  go_ret
  exact ⟨rfl, hb1.alloc hsz _⟩

/-- Is a script too long to be played? -/
def heavyB (s : ByteArray) (n : Nat) : Bool := decide (2000 < s.size) || decide (5000 < n)

theorem heavy_any (s : ByteArray) (k : Bool) (A : Option Addr) (n c : Nat) (w : World) (hs : s.size ≤ maxLen) (hn : n ≤ maxLen) :
    Calls Try.prog 7 #[.agg #[.string s, .bool k, .slice A n c]] w fun e w' => e = .returned (.bool (heavyB s n)) ∧ Below w.heap.size w w' := by
  unfold maxLen at hs hn
  have hh : heavyB s n = (decide (2000 < (s.size : Int)) || decide (5000 < (n : Int))) := by
    unfold heavyB
    rw [show decide (2000 < (s.size : Int)) = decide (2000 < s.size) from decide_eq_decide.2 (by omega), show decide (5000 < (n : Int)) = decide (5000 < n) from decide_eq_decide.2 (by omega)]
  rw [hh]
  clear hh
  go_enter Try.func7, Try.ntmps7
  go_wp2
  · go_ret
    exact ⟨rfl, (Below.refl _ _).alloc (Nat.le_refl _) _⟩
  · go_ret
    exact ⟨by simp_all, (Below.refl _ _).alloc (Nat.le_refl _) _⟩
end Go.Proofs.Ytnhmhdfnphlngaa

/-
  valid and open of package frame, walked: valid tells what the document's definition of a framer says; open makes a reader of a framer that may be, and panics with a fault for any other.
  Conditions: the library's variable internal/bytealg.MaxLen holds some number.
-/
import Derived.Test.YtnhmhdfnphlngaaA
import Derived.Test.YtnhmhdfnphlngaaR
import Derived.Test.YtnhmhdfnphlngaaShelf
import Derived.WalkLawsBesides
namespace Go.Proofs.Ytnhmhdfnphlngaa
open Go.RowKit

theorem ret_bool {a b : Bool} (h : a = b) : Ending.returned (.bool a) = .returned (.bool b) := by rw [h]

theorem valid_skip (s : ByteArray) (w : World) :
    Calls Try.prog 27 #[.agg #[.string s, .bool true]] w fun e w' => e = .returned (.bool (validL s.data.toList true)) ∧ w' = w.alloc (.cells #[.string s, .bool true] 25) := by
  go_enter Try.func27, Try.ntmps27
  go_wp2
  · go_ret
    rename_i h
    exact ⟨ret_bool (by rw [Lib.toList_data] at h; simp [validL, h]), rfl⟩
  · go_ret
    refine ⟨ret_bool ?_, rfl⟩
    rw [Lib.toList_data]
    simp [validL]

set_option maxRecDepth 100000 in
theorem valid_not (s : ByteArray) (m : Int) (w : World) (hm : w.cell? ⟨0, 0, none⟩ = some (.int .i64 m)) (h0 : 0 < w.heap.size) (hs : s.size < 512) :
    Calls Try.prog 27 #[.agg #[.string s, .bool false]] w fun e w' => e = .returned (.bool (validL s.data.toList false)) ∧ w' = w.alloc (.cells #[.string s, .bool false] 25) := by
  have hm' : ∀ o, (w.alloc o).cell? ⟨0, 0, none⟩ = some (.int .i64 m) := fun o => (World.cell?_alloc_lt w o _ h0).trans hm
  go_enter Try.func27, Try.ntmps27
  go_wp2_with (go_at_call 31; refine (Try.contains_crlf _ m _ (by omega) (hm' _)).mono ?_; rintro e w' ⟨rfl, rfl⟩)
  go_ret
  refine ⟨ret_bool ?_, rfl⟩
  simp [validL, hs]

set_option maxRecDepth 100000 in
theorem valid_long (s : ByteArray) (w : World) (hs : ¬ s.size < 512) :
    Calls Try.prog 27 #[.agg #[.string s, .bool false]] w fun e w' => e = .returned (.bool (validL s.data.toList false)) ∧ w' = w.alloc (.cells #[.string s, .bool false] 25) := by
  go_enter Try.func27, Try.ntmps27
  go_wp2
  go_ret
  refine ⟨ret_bool ?_, rfl⟩
  simp [validL, hs]

/-- valid, at every framer. -/
theorem valid_any (s : ByteArray) (k : Bool) (m : Int) (w : World) (hm : w.cell? ⟨0, 0, none⟩ = some (.int .i64 m)) (h0 : 0 < w.heap.size) :
    Calls Try.prog 27 #[.agg #[.string s, .bool k]] w fun e w' => e = .returned (.bool (validL s.data.toList k)) ∧ w' = w.alloc (.cells #[.string s, .bool k] 25) := by
  cases k with
  | true => exact valid_skip s w
  | false =>
    by_cases hs : s.size < 512
    · exact valid_not s m w hm h0 hs
    · exact valid_long s w hs

theorem open_bad (s : ByteArray) (k : Bool) (m : Int) (w : World) (hm : w.cell? ⟨0, 0, none⟩ = some (.int .i64 m)) (h0 : 0 < w.heap.size) (hv : validL s.data.toList k = false) :
    Calls Try.prog 20 #[.agg #[.string s, .bool k]] w fun e w' => e = .panicked [{ v := .iface 60 (.agg #[.int .i64 1]), recovered := false }] ∧ Below w.heap.size w w' := by
  have hm' : ∀ o o', ((w.alloc o).alloc o').cell? ⟨0, 0, none⟩ = some (.int .i64 m) := fun o o' => (World.cell?_alloc_lt _ o' _ (by simp)).trans ((World.cell?_alloc_lt w o _ h0).trans hm)
  go_enter Try.func20, Try.ntmps20
  go_wp2_with fail
  refine (valid_any s k m _ (hm' _ _) (by simp)).mono ?_
  rintro e w' ⟨rfl, rfl⟩
  rw [hv]
  clear hv
  go_wp2
  exact ⟨rfl, rfl, (((Below.refl _ _).alloc (Nat.le_refl _) _).alloc (by simp) _).alloc (by simp; omega) _⟩

theorem open_good (s : ByteArray) (k : Bool) (m : Int) (w : World) (hm : w.cell? ⟨0, 0, none⟩ = some (.int .i64 m)) (h0 : 0 < w.heap.size) (hs : s.size ≤ maxLen) (hv : validL s.data.toList k = true) :
    Calls Try.prog 20 #[.agg #[.string s, .bool k]] w fun e w' => ∃ v, e = .returned (.agg #[v, .bool k, .slice none 0 0]) ∧ ByteRow w' w.heap.size 5 v s.data.toList ∧ Below w.heap.size w w' := by
  have hm' : ∀ o o', ((w.alloc o).alloc o').cell? ⟨0, 0, none⟩ = some (.int .i64 m) := fun o o' => (World.cell?_alloc_lt _ o' _ (by simp)).trans ((World.cell?_alloc_lt w o _ h0).trans hm)
  have hcv := fun (w : World) (s : ByteArray) => run_bytes_of_string (P := Try.prog) w 9 26 5 s Try.underlying9 Try.underlying26 Try.underlying5
  go_enter Try.func20, Try.ntmps20
  go_wp2_with fail
  refine (valid_any s k m _ (hm' _ _) (by simp)).mono ?_
  rintro e w' ⟨rfl, rfl⟩
  rw [hv]
  clear hv
  go_wp2
  have hge := grownCap_ge (((w.alloc (Obj.cells #[Value.string s, Value.bool k] 25)).alloc (Obj.cells #[Value.slice none 0 0, Value.bool false, Value.slice none 0 0] 52)).alloc (Obj.cells #[Value.string s, Value.bool k] 25)) s.size 0 5
  have hcm := grownCap_le_maxLen (((w.alloc (Obj.cells #[Value.string s, Value.bool k] 25)).alloc (Obj.cells #[Value.slice none 0 0, Value.bool false, Value.slice none 0 0] 52)).alloc (Obj.cells #[Value.string s, Value.bool k] 25)) s.size 0 5 hs
  generalize grownCap (((w.alloc (Obj.cells #[Value.string s, Value.bool k] 25)).alloc (Obj.cells #[Value.slice none 0 0, Value.bool false, Value.slice none 0 0] 52)).alloc (Obj.cells #[Value.string s, Value.bool k] 25)) s.size 0 5 = c at *
  refine bodyPost_ret (v := .agg #[.slice (some ⟨w.heap.size + 1 + 1 + 1, 0, none⟩) s.size c, .bool k, .slice none 0 0]) (by simp [results, Try.results20, go_sem]) rfl ⟨_, rfl, ?_, ?_⟩
  · exact ByteRow.made _ s c _ (by simp) (by simp; omega) hge hcm
  · exact ((((Below.refl _ _).alloc (Nat.le_refl _) _).alloc (by simp) _).alloc (by simp; omega) _ |>.alloc (by simp; omega) _).drew

end Go.Proofs.Ytnhmhdfnphlngaa

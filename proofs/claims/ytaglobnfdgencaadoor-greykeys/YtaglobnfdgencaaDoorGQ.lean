/-
  Package grey's Check and Ask, at whatever list, key and numbers, walked.
  Conditions: as each theorem states them.
-/
import Derived.Test.YtaglobnfdgencaaDoorGN
namespace Go.Proofs.YtaglobnfdgencaaDoor
open Go.RowKit

theorem enters_Ask_1 (args : Array Value) (w : World) : (callFunc 16 args).run Tryd.prog w = .ok (.enter 16 args) w := enters_of Tryd.func16 (by kernel_rfl) rfl args w
/-- An error's number. -/
def errN (b : Bool) : Int := if b then 0 else 1
theorem CAt.other {w : World} {k : Nat} {v : Value} {t : TypeId} (h : CAt w k v t) {p : Addr} (hp : k ≠ p.block) (u : Value) : CAt (w.setCell p u) k v t := (Below.heap_setCell w p u k hp).trans h
theorem CAt.newAt (w : World) (v : Value) (t : TypeId) (N : Nat) (h : w.heap.size = N) : CAt (w.alloc (.cells #[v] t)) N v t := by rw [← h]; exact CAt.new w v t
theorem GO.other {w : World} {B : Nat} {v : Value} {l : List Gy} (h : GO w B v l) {p : Addr} (hp : p.block < B) (u : Value) : GO (w.setCell p u) B v l :=
  h.blocks fun j o hj hh => by
    rw [Below.heap_setCell _ _ _ _ (by have := (h.lt j hj).1; omega)]
    exact hh
/-- What an asking tells. -/
def outA (l : List Gy) (key : ByteArray) (now wait : Int) : List Gy × Bool := if mayL l key now wait then askL l key now wait else ([], false)
theorem ask1_good (l : List Gy) (key : ByteArray) (now wait : Int) (v : Value) (k0 k1 k2 k3 k4 k5 : Nat) (w : World) (h : GR w v l) (hl : l.length < 1000000) (hm : mayL l key now wait = true)
    (h0 : CAt w k0 v 36) (h1 : CAt w k1 (.string key) 9) (h2 : CAt w k2 (.int .i64 now) 3) (h3 : CAt w k3 (.int .i64 wait) 3) (h4 : CAt w k4 (.slice none 0 0) 36) (h5 : CAt w k5 (.bool false) 4) (hne : k4 ≠ k5) :
    Calls Tryd.prog 16 #[.pointer (some ⟨k0, 0, none⟩), .pointer (some ⟨k1, 0, none⟩), .pointer (some ⟨k2, 0, none⟩), .pointer (some ⟨k3, 0, none⟩), .pointer (some ⟨k4, 0, none⟩), .pointer (some ⟨k5, 0, none⟩)] w fun e w' =>
      e = .returned (.tuple #[]) ∧ But [k4, k5] w.heap.size w w' ∧ ∃ u, CAt w' k4 u 36 ∧ CAt w' k5 (.bool (askL l key now wait).2) 4 ∧ GO w' w.heap.size u (askL l key now wait).1 := by
  have HA := Lib.hid (ask_good l key now wait v w h hl hm)
  obtain ⟨A, c, rfl, _, _⟩ := h.slice
  have c0 := h0.c
  have c1 := h1.c
  have c2 := h2.c
  have c3 := h3.c
  have H4 := Lib.hid h4
  have H5 := Lib.hid h5
  have hl4 := h4.lt
  have hl5 := h5.lt
  clear h h0 h1 h2 h3 h4 h5 hm
  generalize askL l key now wait = r at *
  go_enter Tryd.func16, Tryd.ntmps16
  go_wp2_with fail
  refine Calls.mono HA.out ?_
  rintro e w1 ⟨u, rfl, hg, hb⟩
  have HG := Lib.hid hg
  have HB := Lib.hid hb
  have H41 := Lib.hid (H4.out.later hb)
  have H51 := Lib.hid (H5.out.later hb)
  have d4 := H41.out.c
  have d5 := H51.out.c
  have z4 := H41.out.fz
  have z5 := H51.out.fz
  have hl41 := H41.out.lt
  have hl51 := H51.out.lt
  obtain ⟨A1, C1, rfl, _, _⟩ := hg.slice
  clear hg hb
  go_wp2_with fail
  go_end0
  refine ⟨rfl, ((But.of HB.out).setCell (p := ⟨k4, 0, none⟩) (.inl (by simp)) _).setCell (p := ⟨k5, 0, none⟩) (.inl (by simp)) _, _, (H41.out.set _).other (p := ⟨k5, 0, none⟩) hne _, (H51.out.other (p := ⟨k4, 0, none⟩) (fun e => hne e.symm) _).set _, (HG.out.other (p := ⟨k4, 0, none⟩) hl4 _).other (p := ⟨k5, 0, none⟩) hl5 _⟩
theorem ask1_bad (l : List Gy) (key : ByteArray) (now wait : Int) (v : Value) (k0 k1 k2 k3 k4 k5 : Nat) (w : World) (h : GR w v l) (hl : l.length < 1000000) (hm : mayL l key now wait = false)
    (h0 : CAt w k0 v 36) (h1 : CAt w k1 (.string key) 9) (h2 : CAt w k2 (.int .i64 now) 3) (h3 : CAt w k3 (.int .i64 wait) 3) :
    Calls Tryd.prog 16 #[.pointer (some ⟨k0, 0, none⟩), .pointer (some ⟨k1, 0, none⟩), .pointer (some ⟨k2, 0, none⟩), .pointer (some ⟨k3, 0, none⟩), .pointer (some ⟨k4, 0, none⟩), .pointer (some ⟨k5, 0, none⟩)] w fun e w' =>
      e = wrongK 1 ∧ Below w.heap.size w w' := by
  have HA := Lib.hid (ask_bad l key now wait v w h hl hm)
  obtain ⟨A, c, rfl, _, _⟩ := h.slice
  have c0 := h0.c
  have c1 := h1.c
  have c2 := h2.c
  have c3 := h3.c
  clear h h0 h1 h2 h3 hm
  go_enter Tryd.func16, Tryd.ntmps16
  go_wp2_with fail
  refine Calls.mono HA.out ?_
  rintro e w1 ⟨rfl, hb⟩
  exact ⟨rfl, rfl, hb⟩

set_option maxHeartbeats 1000000 in
theorem ask_any (l : List Gy) (key : ByteArray) (now wait : Int) (v : Value) (w : World) (h : GR w v l) (hl : l.length < 1000000) :
    Calls Tryd.prog 12 #[v, .string key, .int .i64 now, .int .i64 wait] w fun e w' => ∃ u, e = .returned (.tuple #[u, .bool (outA l key now wait).2, .int .i64 (errN (mayL l key now wait))]) ∧ GO w' w.heap.size u (outA l key now wait).1 ∧ Below w.heap.size w w' := by
  obtain ⟨W, hW⟩ : ∃ W, (((((w.alloc (.cells #[v] 36)).alloc (.cells #[.string key] 9)).alloc (.cells #[.int .i64 now] 3)).alloc (.cells #[.int .i64 wait] 3)).alloc (.cells #[.slice none 0 0] 36)).alloc (.cells #[.bool false] 4) = W := ⟨_, rfl⟩
  have hsz : W.heap.size = w.heap.size + 1 + 1 + 1 + 1 + 1 + 1 := by rw [← hW]; simp
  have K0 := Lib.hid (show CAt W w.heap.size v 36 by rw [← hW]; exact (((((CAt.new w _ _).alloc _).alloc _).alloc _).alloc _).alloc _)
  have K1 := Lib.hid (show CAt W (w.heap.size + 1) (.string key) 9 by rw [← hW]; exact ((((CAt.newAt _ _ _ _ (by simp)).alloc _).alloc _).alloc _).alloc _)
  have K2 := Lib.hid (show CAt W (w.heap.size + 1 + 1) (.int .i64 now) 3 by rw [← hW]; exact (((CAt.newAt _ _ _ _ (by simp)).alloc _).alloc _).alloc _)
  have K3 := Lib.hid (show CAt W (w.heap.size + 1 + 1 + 1) (.int .i64 wait) 3 by rw [← hW]; exact ((CAt.newAt _ _ _ _ (by simp)).alloc _).alloc _)
  have K4 := Lib.hid (show CAt W (w.heap.size + 1 + 1 + 1 + 1) (.slice none 0 0) 36 by rw [← hW]; exact (CAt.newAt _ _ _ _ (by simp)).alloc _)
  have K5 := Lib.hid (show CAt W (w.heap.size + 1 + 1 + 1 + 1 + 1) (.bool false) 4 by rw [← hW]; exact CAt.newAt _ _ _ _ (by simp))
  have HA := Lib.hid (show Below w.heap.size w W by
    rw [← hW]
    exact ((((((Below.refl _ w).alloc (Nat.le_refl _) _).alloc (by simp) _).alloc (by simp; omega) _).alloc (by simp; omega) _).alloc (by simp; omega) _).alloc (by simp; omega) _)
  have hmf : ∀ (fn : Fn) (first cap : Array Value) (w : World), (Instr.makeFunc fn first cap).run Tryd.prog w = .ok (.func fn first cap) w := fun _ _ _ _ => rfl
  have hV : Below w.heap.size w (W.alloc (.cells #[.int .i64 0] 25)) := HA.out.alloc HA.out.size _
  have HC : Hid (Calls Tryd.prog 8 #[.func (.func 16) #[] #[.pointer (some ⟨w.heap.size, 0, none⟩), .pointer (some ⟨w.heap.size + 1, 0, none⟩), .pointer (some ⟨w.heap.size + 1 + 1, 0, none⟩), .pointer (some ⟨w.heap.size + 1 + 1 + 1, 0, none⟩), .pointer (some ⟨w.heap.size + 1 + 1 + 1 + 1, 0, none⟩), .pointer (some ⟨w.heap.size + 1 + 1 + 1 + 1 + 1, 0, none⟩)]] W fun e w' =>
      e = .returned (.int .i64 (errN (mayL l key now wait))) ∧ Below w.heap.size w w' ∧ ∃ u, CAt w' (w.heap.size + 1 + 1 + 1 + 1) u 36 ∧ CAt w' (w.heap.size + 1 + 1 + 1 + 1 + 1) (.bool (outA l key now wait).2) 4 ∧ GO w' w.heap.size u (outA l key now wait).1) := by
    unfold outA
    cases hm : mayL l key now wait with
    | true =>
      have g1 := ask1_good l key now wait v _ _ _ _ _ _ (W.alloc (.cells #[.int .i64 0] 25)) (h.later hV) hl hm (K0.out.alloc _) (K1.out.alloc _) (K2.out.alloc _) (K3.out.alloc _) (K4.out.alloc _) (K5.out.alloc _) (by omega)
      rw [if_pos rfl]
      refine (catch_ok 16 _ [w.heap.size + 1 + 1 + 1 + 1, w.heap.size + 1 + 1 + 1 + 1 + 1] W (fun w' => ∃ u, CAt w' (w.heap.size + 1 + 1 + 1 + 1) u 36 ∧ CAt w' (w.heap.size + 1 + 1 + 1 + 1 + 1) (.bool (askL l key now wait).2) 4 ∧ GO w' (W.heap.size + 1) u (askL l key now wait).1) (enters_Ask_1 _) (by simp [hsz]) ?_).mono ?_
      · exact g1.mono fun e w' ⟨a1, a2, a3⟩ => ⟨a1, by simpa using a2, by simpa using a3⟩
      · rintro e w' ⟨rfl, hb, w1, ⟨u, r4, r5, rg⟩, h2⟩
        refine ⟨rfl, HA.out.trans (hb.below (by rw [hsz]; omega) (by simp; omega)), u, (h2 _ (by rw [hsz]; omega)).trans r4, (h2 _ (by rw [hsz]; omega)).trans r5, ?_⟩
        refine GO.mono (rg.blocks fun j o hj hh => ?_) (show w.heap.size ≤ W.heap.size + 1 by omega)
        rw [h2 j (by have := (rg.lt j hj).1; omega)]
        exact hh
    | false =>
      have g1 := ask1_bad l key now wait v _ _ _ _ (w.heap.size + 1 + 1 + 1 + 1) (w.heap.size + 1 + 1 + 1 + 1 + 1) (W.alloc (.cells #[.int .i64 0] 25)) (h.later hV) hl hm (K0.out.alloc _) (K1.out.alloc _) (K2.out.alloc _) (K3.out.alloc _)
      refine (catch_no 16 _ 1 W (enters_Ask_1 _) (g1.mono fun e w' ⟨a1, a2⟩ => ⟨a1, by simpa using a2⟩)).mono ?_
      rintro e w' ⟨rfl, hb⟩
      exact ⟨rfl, HA.out.trans (hb.mono HA.out.size), _, K4.out.later hb, K5.out.later hb, GO.nil _ _⟩
  obtain ⟨A, c, rfl, _, _⟩ := h.slice
  clear hV hsz h K0 K1 K2 K3 K4 K5
  generalize errN (mayL l key now wait) = n at *
  generalize outA l key now wait = r at *
  have HW := Lib.hid hW
  clear hW
  go_enter Tryd.func12, Tryd.ntmps12
  go_wp2_with fail
  rw [HW.out]
  refine Calls.mono HC.out ?_
  rintro e w1 ⟨rfl, hb, u, r4, r5, rg⟩
  have HB := Lib.hid hb
  have HG := Lib.hid rg
  obtain ⟨A1, C1, rfl, _, _⟩ := rg.slice
  have d4 := r4.c
  have d5 := r5.c
  clear hb rg r4 r5
  go_wp2_with fail
  go_quiet (fail)
  go_wp2_with fail
  go_ret3
  exact ⟨_, rfl, GO.blocks HG.out (fun _ _ _ h => h), below_drewN HB.out nq⟩
end Go.Proofs.YtaglobnfdgencaaDoor

/-
  Path of package addr and the statements' own small functions, walked.
  Conditions: as each theorem states them.
-/
import Derived.Test.YtkbhmkofflcpjaaGreatDoorN
namespace Go.Proofs.YtkbhmkofflcpjaaGreatDoor
open Go.RowKit

theorem catchP_good (s : List UInt8) (w : World) (hs : s.length ≤ 10000) (hr : (pathL s).isSome = true) :
    Calls Tryz.prog 84 #[.func (.func 96) #[] #[.pointer (some ⟨w.heap.size, 0, none⟩), .pointer (some ⟨w.heap.size + 1, 0, none⟩), .pointer (some ⟨w.heap.size + 2, 0, none⟩)]] (made4 s w) fun e w' =>
      e = .returned (.int .i64 0) ∧ MAt w' (w.heap.size + 1) (pBox (pathL s)).1 (pBox (pathL s)).2 ∧ BAt w' (w.heap.size + 2) (pNull (pathL s)) ∧ Below w.heap.size w w' := by
  have hsz := made4_size s w
  have h := path1_good s [] [] false w.heap.size (w.heap.size + 1) (w.heap.size + 2) ((made4 s w).alloc (.cells #[.int .i64 0] 32)) ((made4_0 s w).alloc _) ((made4_1 s w).alloc _) ((made4_2 s w).alloc _) (by omega) hs hr
  rw [World.size_alloc] at h
  refine (catch_ok 96 _ [w.heap.size + 1, w.heap.size + 2] (made4 s w) (fun w' => MAt w' (w.heap.size + 1) (pBox (pathL s)).1 (pBox (pathL s)).2 ∧ BAt w' (w.heap.size + 2) (pNull (pathL s))) (enters_Path_1 _) (by simp [hsz]) h).mono ?_
  rintro e w' ⟨rfl, hb, w1, ⟨h1, h2⟩, hk⟩
  exact ⟨rfl, (hk _ (by omega)).trans h1, (hk _ (by omega)).trans h2, (made4_below s w).trans (hb.below (by omega) (by simp))⟩

theorem catchP_bad (s : List UInt8) (w : World) (hs : s.length ≤ 10000) (hr : pathL s = none) :
    Calls Tryz.prog 84 #[.func (.func 96) #[] #[.pointer (some ⟨w.heap.size, 0, none⟩), .pointer (some ⟨w.heap.size + 1, 0, none⟩), .pointer (some ⟨w.heap.size + 2, 0, none⟩)]] (made4 s w) fun e w' =>
      e = .returned (.int .i64 8) ∧ MAt w' (w.heap.size + 1) [] [] ∧ BAt w' (w.heap.size + 2) false ∧ Below w.heap.size w w' := by
  have hsz := made4_size s w
  have h := path1_bad s w.heap.size (w.heap.size + 1) (w.heap.size + 2) ((made4 s w).alloc (.cells #[.int .i64 0] 32)) ((made4_0 s w).alloc _) hs hr
  rw [World.size_alloc] at h
  refine (catch_no 96 _ 8 (made4 s w) (enters_Path_1 _) h).mono ?_
  rintro e w' ⟨rfl, hb⟩
  exact ⟨rfl, (made4_1 s w).later hb, (made4_2 s w).later hb, (made4_below s w).trans (hb.mono (by omega))⟩

/-- What Path answers, whole. -/
def pathV (o : Option (Option (List UInt8 × List UInt8))) : Value := .tuple #[.agg #[.string ⟨(pBox o).1.toArray⟩, .string ⟨(pBox o).2.toArray⟩], .bool (pNull o), .int .i64 (pErr o)]

set_option maxHeartbeats 1000000 in
theorem path_any (s : List UInt8) (w : World) (hs : s.length ≤ 10000) :
    Calls Tryz.prog 80 #[.string ⟨s.toArray⟩] w fun e w' => e = .returned (pathV (pathL s)) ∧ Below w.heap.size w w' := by
  have hmf : ∀ (fn : Fn) (first cap : Array Value) (w : World), (Instr.makeFunc fn first cap).run Tryz.prog w = .ok (.func fn first cap) w := fun _ _ _ _ => rfl
  cases hr : pathL s with
  | some p =>
    have HC := Lib.hid (catchP_good s w hs (by rw [hr]; rfl))
    rw [hr] at HC
    have HE := Lib.hid (show pErr (some p) = 0 from rfl)
    have HV := Lib.hid (show pathV (some p) = .tuple #[.agg #[.string ⟨(pBox (some p)).1.toArray⟩, .string ⟨(pBox (some p)).2.toArray⟩], .bool (pNull (some p)), .int .i64 0] from rfl)
    clear hr
    generalize pathV (some p) = V at *
    generalize (pBox (some p)).1 = l at *
    generalize (pBox (some p)).2 = d at *
    generalize pNull (some p) = x at *
    go_enter Tryz.func80, Tryz.ntmps80
    go_wp2_with fail
    refine Calls.mono (show _ from HC.out) ?_
    rintro e w1 ⟨rfl, h1, h2, hb⟩
    have HB := Lib.hid hb
    have HM := Lib.hid h1
    have HN := Lib.hid h2
    have c0 := h1.c0
    have c1 := h1.c1
    have k0 := h2.c
    have z0 := h1.fz 0
    have z1 := h1.fz 1
    have z2 := h2.fz
    clear hb h1 h2 HC
    go_wp2_with fail
    go_region
    all_goals
      go_wp2_with fail
      have hm := (HM.out.set l d).other (p := ⟨w.heap.size + 2, 0, none⟩) (by simp) (.bool x)
      have hn := ((HN.out.other (p := ⟨w.heap.size + 1, 0, none⟩) (by simp) (.string ⟨l.toArray⟩)).other (p := ⟨w.heap.size + 1, 1, none⟩) (by simp) (.string ⟨d.toArray⟩)).set x
      have f0 := hm.c0
      have f1 := hm.c1
      have f2 := hn.c
      refine bodyPost_ret (v := .tuple #[.agg #[.string ⟨l.toArray⟩, .string ⟨d.toArray⟩], .bool x, .int .i64 0]) (by simp [results, Tryz.results80, go_sem, f0, f1, f2]) rfl ⟨by rw [HV.out], ?_⟩
      exact (((HB.out.setCell (p := ⟨w.heap.size + 1, 0, none⟩) (Nat.le_succ _) _).setCell (p := ⟨w.heap.size + 1, 1, none⟩) (Nat.le_succ _) _).setCell (p := ⟨w.heap.size + 2, 0, none⟩) (Nat.le_add_right _ _) _).drew
  | none =>
    have HC := Lib.hid (catchP_bad s w hs hr)
    have HV := Lib.hid (show pathV none = .tuple #[.agg #[.string ⟨#[]⟩, .string ⟨#[]⟩], .bool false, .int .i64 8] from rfl)
    clear hr
    generalize pathV none = V at *
    go_enter Tryz.func80, Tryz.ntmps80
    go_wp2_with fail
    refine Calls.mono (show _ from HC.out) ?_
    rintro e w1 ⟨rfl, h1, h2, hb⟩
    have HB := Lib.hid hb
    have HM := Lib.hid h1
    have HN := Lib.hid h2
    have c0 := h1.c0
    have c1 := h1.c1
    have k0 := h2.c
    have z0 := h1.fz 0
    have z1 := h1.fz 1
    have z2 := h2.fz
    clear hb h1 h2 HC
    go_wp2_with fail
    have hm := (HM.out.set [] []).other (p := ⟨w.heap.size + 2, 0, none⟩) (by simp) (.bool false)
    have hn := ((HN.out.other (p := ⟨w.heap.size + 1, 0, none⟩) (by simp) (.string ⟨#[]⟩)).other (p := ⟨w.heap.size + 1, 1, none⟩) (by simp) (.string ⟨#[]⟩)).set false
    have f0 := hm.c0
    have f1 := hm.c1
    have f2 := hn.c
    refine bodyPost_ret (v := .tuple #[.agg #[.string ⟨#[]⟩, .string ⟨#[]⟩], .bool false, .int .i64 8]) (by simp [results, Tryz.results80, go_sem, f0, f1, f2]) rfl ⟨by rw [HV.out], ?_⟩
    exact ((HB.out.setCell (p := ⟨w.heap.size + 1, 0, none⟩) (Nat.le_succ _) _).setCell (p := ⟨w.heap.size + 1, 1, none⟩) (Nat.le_succ _) _).setCell (p := ⟨w.heap.size + 2, 0, none⟩) (Nat.le_add_right _ _) _

end Go.Proofs.YtkbhmkofflcpjaaGreatDoor

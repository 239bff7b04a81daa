/-
  Text, Domain and the readers of a local part and of a mailbox, walked.
  Conditions: as each theorem states them.
-/
import Derived.Test.YtkbhmkofflcpjaaGreatDoorK
namespace Go.Proofs.YtkbhmkofflcpjaaGreatDoor
open Go.RowKit

theorem add_str (a b : List UInt8) (w : World) (h : a.length + b.length ≤ 1000000) : (Op.stringOp .add ⟨a.toArray⟩ ⟨b.toArray⟩).run Tryz.prog w = .ok (.string ⟨(a ++ b).toArray⟩) w :=
  run_string_add_lists (P := Tryz.prog) w a b (by omega) (by omega)

/-- What Text answers. -/
def textL (l d : List UInt8) : List UInt8 := if boxL l d then l ++ 64 :: d else []

theorem ret_si {a b : List UInt8} {n m : Int} (h : a = b) (k : n = m) : Ending.returned (.tuple #[.string ⟨a.toArray⟩, .int .i64 n]) = .returned (.tuple #[.string ⟨b.toArray⟩, .int .i64 m]) := by rw [h, k]

set_option maxHeartbeats 1000000 in
theorem text_any (l d : List UInt8) (w : World) (hl : l.length ≤ 100000) (hd : d.length ≤ 100000) :
    Calls Tryz.prog 75 #[.agg #[.string ⟨l.toArray⟩, .string ⟨d.toArray⟩]] w fun e w' => e = .returned (.tuple #[.string ⟨(textL l d).toArray⟩, .int .i64 (chk (boxL l d))]) ∧ Below w.heap.size w w' := by
  have HA := Lib.hid ((Below.refl _ w).alloc (Nat.le_refl _) (.cells #[.string ⟨l.toArray⟩, .string ⟨d.toArray⟩] 25))
  have HM := Lib.hid (MAt.new w l d)
  have HC := Lib.hid (fun W => check_any l d W hl hd)
  go_enter Tryz.func75, Tryz.ntmps75
  go_wp2_with fail
  refine Calls.mono (HC.out _) ?_
  rintro e w1 ⟨rfl, hb⟩
  have HB := Lib.hid (HA.out.trans (hb.mono (by simp)))
  have c0 := (HM.out.later hb).c0
  have c1 := (HM.out.later hb).c1
  clear hb
  cases h1 : boxL l d with
  | false =>
    have HE := Lib.hid (show textL l d = [] by simp [textL, h1])
    have HF := Lib.hid (show chk (boxL l d) = 1 by rw [h1]; rfl)
    clear h1
    rw [show chk false = 1 from rfl]
    go_wp2_with fail
    go_ret2
    exact ⟨ret_si HE.out.symm HF.out.symm, HB.out⟩
  | true =>
    have HE := Lib.hid (show textL l d = l ++ 64 :: d by simp [textL, h1])
    have HF := Lib.hid (show chk (boxL l d) = 0 by rw [h1]; rfl)
    clear h1
    rw [show chk true = 0 from rfl]
    have hadd1 := fun w => add_str l [64] w (by simp; omega)
    have hadd2 := fun w => add_str (l ++ [64]) d w (by simp; omega)
    go_wp2_with fail
    go_ret2
    exact ⟨ret_si HE.out.symm HF.out.symm, HB.out⟩

/-- What readDomain comes to. -/
def DomEnd (s : List UInt8) (e : Ending) : Prop :=
  (domL (lowL s) = true ∧ e = .returned (.string ⟨(lowL s).toArray⟩)) ∨ (domL (lowL s) = false ∧ e = wrongE)

theorem low_len (s : List UInt8) : (lowL s).length = s.length := by simp [lowL]

set_option maxHeartbeats 1000000 in
theorem readDomain_any (s : List UInt8) (w : World) (hs : s.length ≤ 100000) :
    Calls Tryz.prog 86 #[.string ⟨s.toArray⟩] w fun e w' => DomEnd s e ∧ Below w.heap.size w w' := by
  have HL := Lib.hid (lower_any s w hs)
  have HD := Lib.hid (fun W => isDomain_any (lowL s) W (by rw [low_len]; unfold maxLen; omega))
  go_enter Tryz.func86, Tryz.ntmps86
  go_wp2_with fail
  refine Calls.mono HL.out ?_
  rintro e w1 ⟨rfl, hb⟩
  have HB := Lib.hid hb
  clear hb
  go_wp2_with fail
  refine Calls.mono (HD.out _) ?_
  rintro e w2 ⟨rfl, n, rfl⟩
  cases h : domL (lowL s) with
  | true =>
    have HE := Lib.hid h
    clear h
    go_wp2_with fail
    go_ret
    exact ⟨.inl ⟨HE.out, rfl⟩, below_drewN HB.out n⟩
  | false =>
    have HE := Lib.hid h
    clear h
    go_wp2_with fail
    exact ⟨rfl, .inr ⟨HE.out, rfl⟩, below_drewN HB.out n⟩

theorem enters_Domain_1 (args : Array Value) (w : World) : (callFunc 85 args).run Tryz.prog w = .ok (.enter 85 args) w := enters_of Tryz.func85 (by kernel_rfl) rfl args w

theorem domain1_good (s t : List UInt8) (n m : Nat) (w : World) (hn : SAt w n s) (hm : SAt w m t) (hs : s.length ≤ 100000) (hr : domL (lowL s) = true) :
    Calls Tryz.prog 85 #[.pointer (some ⟨n, 0, none⟩), .pointer (some ⟨m, 0, none⟩)] w fun e w' => e = .returned (.tuple #[]) ∧ But [m] w.heap.size w w' ∧ SAt w' m (lowL s) := by
  have HR := Lib.hid (readDomain_any s w hs)
  have HM := Lib.hid hm
  have HE := Lib.hid hr
  have hc := hn.c
  clear hn hm hr
  go_enter Tryz.func85, Tryz.ntmps85
  go_wp2_with fail
  refine Calls.mono HR.out ?_
  rintro e w1 ⟨⟨he, rfl⟩ | ⟨he, rfl⟩, hb⟩
  · have HB := Lib.hid hb
    have HM1 := Lib.hid (HM.out.later hb)
    have hcm := HM1.out.c
    have hzm := HM1.out.fz
    clear hb he
    go_wp2_with fail
    go_end0
    exact ⟨rfl, (But.of HB.out).setCell (p := ⟨m, 0, none⟩) (.inl (by simp)) _, HM1.out.set (lowL s)⟩
  · rw [HE.out] at he
    cases he

theorem domain1_bad (s : List UInt8) (n m : Nat) (w : World) (hn : SAt w n s) (hs : s.length ≤ 100000) (hr : domL (lowL s) = false) :
    Calls Tryz.prog 85 #[.pointer (some ⟨n, 0, none⟩), .pointer (some ⟨m, 0, none⟩)] w fun e w' => e = .panicked [{ v := .iface 87 (.agg #[.int .i64 8]), recovered := false }] ∧ Below w.heap.size w w' := by
  have HR := Lib.hid (readDomain_any s w hs)
  have HE := Lib.hid hr
  have hc := hn.c
  clear hn hr
  go_enter Tryz.func85, Tryz.ntmps85
  go_wp2_with fail
  refine Calls.mono HR.out ?_
  rintro e w1 ⟨⟨he, rfl⟩ | ⟨he, rfl⟩, hb⟩
  · rw [HE.out] at he
    cases he
  · exact ⟨rfl, rfl, hb⟩

/-- What Domain answers. -/
def domT (s : List UInt8) : List UInt8 := if domL (lowL s) then lowL s else []
def domN (s : List UInt8) : Int := if domL (lowL s) then 0 else 8

set_option maxHeartbeats 1000000 in
theorem domain_any (s : List UInt8) (w : World) (hs : s.length ≤ 100000) :
    Calls Tryz.prog 70 #[.string ⟨s.toArray⟩] w fun e w' => e = .returned (.tuple #[.string ⟨(domT s).toArray⟩, .int .i64 (domN s)]) ∧ Below w.heap.size w w' := by
  have hmf : ∀ (fn : Fn) (first cap : Array Value) (w : World), (Instr.makeFunc fn first cap).run Tryz.prog w = .ok (.func fn first cap) w := fun _ _ _ _ => rfl
  have hsz := made2_size s w
  cases hr : domL (lowL s) with
  | true =>
    have h := domain1_good s [] w.heap.size (w.heap.size + 1) ((made2 s w).alloc (.cells #[.int .i64 0] 32)) ((made2_0 s w).alloc _) ((made2_1 s w).alloc _) hs hr
    rw [World.size_alloc] at h
    have HC := Lib.hid (catch_ok 85 _ [w.heap.size + 1] (made2 s w) (fun w' => SAt w' (w.heap.size + 1) (lowL s)) (enters_Domain_1 _) (by simp [hsz]) h)
    have HE := Lib.hid (show domT s = lowL s by simp [domT, hr])
    have HF := Lib.hid (show domN s = 0 by simp [domN, hr])
    have HZ := Lib.hid hsz
    clear hr h hsz
    go_enter Tryz.func70, Tryz.ntmps70
    go_wp2_with fail
    refine Calls.mono (show _ from HC.out) ?_
    rintro e w1 ⟨rfl, hb, w2, h1, hk⟩
    have hz := HZ.out
    have HB := Lib.hid ((made2_below s w).trans (hb.below (B' := w.heap.size) (by omega) (by simp)))
    have c1 : w1.cell? ⟨w.heap.size + 1, 0, none⟩ = _ := SAt.c (show SAt w1 (w.heap.size + 1) (lowL s) from (hk _ (by omega)).trans h1)
    clear hb h1 hk hz
    go_wp2_with fail
    go_ret2
    exact ⟨ret_si HE.out.symm HF.out.symm, HB.out⟩
  | false =>
    have h := domain1_bad s w.heap.size (w.heap.size + 1) ((made2 s w).alloc (.cells #[.int .i64 0] 32)) ((made2_0 s w).alloc _) hs hr
    rw [World.size_alloc] at h
    have HC := Lib.hid (catch_no 85 _ 8 (made2 s w) (enters_Domain_1 _) h)
    have HE := Lib.hid (show domT s = [] by simp [domT, hr])
    have HF := Lib.hid (show domN s = 8 by simp [domN, hr])
    have HZ := Lib.hid hsz
    clear hr h hsz
    go_enter Tryz.func70, Tryz.ntmps70
    go_wp2_with fail
    refine Calls.mono (show _ from HC.out) ?_
    rintro e w1 ⟨rfl, hb⟩
    have hz := HZ.out
    have HB := Lib.hid ((made2_below s w).trans (hb.mono (by omega)))
    clear hb hz
    go_wp2_with fail
    go_ret2
    exact ⟨ret_si HE.out.symm HF.out.symm, HB.out⟩
end Go.Proofs.YtkbhmkofflcpjaaGreatDoor

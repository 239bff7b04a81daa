/-
  write of package dots and the closures of Stuff, walked: a line comes behind what was sent, with one dot more ahead of it if it begins with a dot, and with its end.
  Conditions: as each theorem states them: the builder is one of the call's own.
-/
import Derived.Test.YtdebkbocpljkbaaC
namespace Go.Proofs.Ytdebkbocpljkbaa
open Go.RowKit

theorem builder_blocks {B b : Nat} {bs : List Value} {w w' : World} (h : Lib.IsBuilderF 40 5 B b bs w)
    (hk : ∀ (j : Nat) (c : Array Value) (t : TypeId) (fz : Nat × Nat), (t = 40 ∨ t = 5) → w.heap[j]? = some (.cells c t fz) → w'.heap[j]? = some (.cells c t fz)) : Lib.IsBuilderF 40 5 B b bs w' := by
  have key : ∀ p, Lib.BuilderAtF 40 5 B b p bs w → Lib.BuilderAtF 40 5 B b p bs w' := by
    rintro p ⟨hB, v, hbk, hown, hne⟩
    refine ⟨hB, v, hk _ _ _ _ (.inl rfl) hbk, ⟨hown.1, ?_⟩, hne⟩
    rcases hown.2 with h0 | ⟨g, cap, cur, fz, hv, hBg, hg, rest⟩
    · exact .inl h0
    · exact .inr ⟨g, cap, cur, fz, hv, hBg, hk _ _ _ _ (.inr rfl) hg, rest⟩
  rcases h with h | h
  · exact .inl (key _ h)
  · exact .inr (key _ h)

theorem builder_below {B b : Nat} {bs : List Value} {w w' : World} (h : Lib.IsBuilderF 40 5 B b bs w) (hb : Below w.heap.size w w') : Lib.IsBuilderF 40 5 B b bs w' :=
  builder_blocks h fun j _ _ _ _ hj => (hb.block j (Array.getElem?_eq_some_iff.1 hj).1).trans hj

theorem hasDot (ln : List UInt8) (w : World) : Calls Try.prog 30 #[.string ⟨ln.toArray⟩, .string ⟨#[46]⟩] w fun e w' => e = .returned (.bool (Lib.hasPrefix ln [46])) ∧ w' = w :=
  Try.strings_HasPrefix ⟨ln.toArray⟩ ⟨#[46]⟩ w

theorem writeL (B b : Nat) (bs l : List UInt8) (w : World) (h : Lib.IsBuilderF 40 5 B b (Lib.byteCells bs) w) (hlen : bs.length + l.length ≤ 100000) (hBw : B ≤ w.heap.size) :
    Calls Try.prog 22 #[.pointer (some ⟨b, 0, none⟩), .string ⟨l.toArray⟩] w fun e w' => e = .returned (.tuple #[.int .i64 l.length, .nilIface]) ∧ Lib.IsBuilderF 40 5 B b (Lib.byteCells (bs ++ l)) w' ∧ Below B w w' ∧ Lib.OthersKept 5 (some b) w w' := by
  have := writeString_any B b (Lib.byteCells bs) ⟨l.toArray⟩ w h (by rw [Lib.byteCells_length]; show bs.length + l.length ≤ _; omega) hBw
  rw [Lib.byteCells_append]
  exact this

set_option maxHeartbeats 1000000 in
theorem write_any (B b : Nat) (bs ln : List UInt8) (w : World) (h : Lib.IsBuilderF 40 5 B b (Lib.byteCells bs) w) (hlen : bs.length + ln.length ≤ 90000) (hBw : B ≤ w.heap.size) :
    Calls Try.prog 21 #[.pointer (some ⟨b, 0, none⟩), .string ⟨ln.toArray⟩] w fun e w' => e = .returned (.tuple #[]) ∧ Lib.IsBuilderF 40 5 B b (Lib.byteCells (bs ++ stuffL [ln])) w' ∧ Below B w w' ∧ Lib.OthersKept 5 (some b) w w' := by
  rw [stuffL_one]
  have HB := Lib.hid h
  clear h
  cases hp : Lib.hasPrefix ln [46] with
  | true =>
    have HP := Lib.hid hp
    clear hp
    go_enter Try.func21, Try.ntmps21
    go_wp2_with fail
    refine (hasDot ln w).mono ?_
    rintro e w0 ⟨rfl, rfl⟩
    rw [HP.out]
    go_wp2_with fail
    refine (writeL B b bs [46] _ HB.out (by simp; omega) hBw).mono ?_
    rintro e w1 ⟨rfl, hi1, hb1, hk1⟩
    have HI1 := Lib.hid hi1
    clear hi1
    have hs1 := hb1.size
    go_wp2_with fail
    refine (writeL B b (bs ++ [46]) ln _ HI1.out (by simp; omega) (by omega)).mono ?_
    rintro e w2 ⟨rfl, hi2, hb2, hk2⟩
    have HI2 := Lib.hid hi2
    clear hi2
    have hs2 := hb2.size
    go_wp2_with fail
    refine (writeL B b (bs ++ [46] ++ ln) [13, 10] _ HI2.out (by simp; omega) (by omega)).mono ?_
    rintro e w3 ⟨rfl, hi3, hb3, hk3⟩
    go_wp2_with fail
    go_end0
    exact ⟨rfl, by simpa using hi3, (hb1.trans hb2).trans hb3, (hk1.trans hk2).trans hk3⟩
  | false =>
    have HP := Lib.hid hp
    clear hp
    go_enter Try.func21, Try.ntmps21
    go_wp2_with fail
    refine (hasDot ln w).mono ?_
    rintro e w0 ⟨rfl, rfl⟩
    rw [HP.out]
    go_wp2_with fail
    refine (writeL B b bs ln _ HB.out (by omega) hBw).mono ?_
    rintro e w2 ⟨rfl, hi2, hb2, hk2⟩
    have HI2 := Lib.hid hi2
    clear hi2
    have hs2 := hb2.size
    go_wp2_with fail
    refine (writeL B b (bs ++ ln) [13, 10] _ HI2.out (by simp; omega) (by omega)).mono ?_
    rintro e w3 ⟨rfl, hi3, hb3, hk3⟩
    go_wp2_with fail
    go_end0
    exact ⟨rfl, by simpa using hi3, hb2.trans hb3, hk2.trans hk3⟩

theorem enter18 (args : Array Value) (w : World) : (callFunc 18 args).run Try.prog w = .ok (.enter 18 args) w := enters_of Try.func18 (by kernel_rfl) rfl args w
theorem enter20 (args : Array Value) (w : World) : (callFunc 20 args).run Try.prog w = .ok (.enter 20 args) w := enters_of Try.func20 (by kernel_rfl) rfl args w

theorem each_stuff (B b : Nat) (bs ln : List UInt8) (w : World) (h : Lib.IsBuilderF 40 5 B b (Lib.byteCells bs) w) (hlen : bs.length + ln.length ≤ 90000) (hBw : B ≤ w.heap.size) :
    Calls Try.prog 20 (#[.string ⟨ln.toArray⟩] ++ #[.pointer (some ⟨b, 0, none⟩)]) w fun e w' => e = .returned (.tuple #[]) ∧ Lib.IsBuilderF 40 5 B b (Lib.byteCells (bs ++ stuffL [ln])) w' ∧ Below B w w' ∧ Lib.OthersKept 5 (some b) w w' := by
  show Calls Try.prog 20 #[.string ⟨ln.toArray⟩, .pointer (some ⟨b, 0, none⟩)] w _
  have HB := Lib.hid h
  clear h
  go_enter Try.func20, Try.ntmps20
  go_wp2_with fail
  refine (write_any B b bs ln _ HB.out hlen hBw).mono ?_
  rintro e w1 ⟨rfl, hi, hb, hk⟩
  go_wp2_with fail
  go_end0
  exact ⟨rfl, hi, hb, hk⟩

/-- What holds while the lines of a text are sent: the builder has them; what lies below is as it was; catch's own cell is as it was. -/
structure Sends (n : Nat) (w0 : World) (rows : List (List UInt8)) (w : World) : Prop where
  built : Lib.IsBuilderF 40 5 (n + 1) (n + 1) (Lib.byteCells (stuffL rows)) w
  below : Below (n + 1) w0 w
  cell : w.heap[n + 2]? = some (.cells #[.int .i64 0] 26 (0, 0))
  size : n + 3 ≤ w.heap.size
  short : (joinL rows).length ≤ 8192

theorem Sends.later {n : Nat} {w0 w w' : World} {rows : List (List UInt8)} (h : Sends n w0 rows w) (hb : Below w.heap.size w w') : Sends n w0 rows w' where
  built := builder_below h.built hb
  below := h.below.trans (hb.mono (by have := h.size; omega))
  cell := (hb.block _ (by have := h.size; omega)).trans h.cell
  size := Nat.le_trans h.size hb.size
  short := h.short

theorem stuff1_any (s : List UInt8) (m : Int) (n : Nat) (w : World) (hm : w.cell? ⟨0, 0, none⟩ = some (.int .i64 m)) (hs : s.length ≤ maxLen) (h : Sends n w [] w) (hc : w.cell? ⟨n, 0, none⟩ = some (.string ⟨s.toArray⟩)) :
    Calls Try.prog 18 #[.pointer (some ⟨n, 0, none⟩), .pointer (some ⟨n + 1, 0, none⟩)] w fun e w' => readEnd (fun rows w' => Sends n w rows w') (textL s) e w' := by
  have hmf : ∀ (fn : Fn) (first cap : Array Value) (w : World), (Instr.makeFunc fn first cap).run Try.prog w = .ok (.func fn first cap) w := fun _ _ _ _ => rfl
  have hR := readLines_any s 20 #[.pointer (some ⟨n + 1, 0, none⟩)] (fun rows w' => Sends n w rows w') w enter20
    (fun _ w' h' => ⟨m, (h'.below.cell (p := ⟨0, 0, none⟩) (Nat.succ_pos n)).trans hm⟩) (fun _ w1 w2 h1 h2 => h1.later h2)
    (fun rows line w1 h1 hcl hj => by
      have hlen := joinL_len rows
      have hsh := h1.short
      have hsz := h1.size
      have hll : line.length ≤ 509 := by
        unfold cleanL at hcl
        simp only [Bool.and_eq_true, decide_eq_true_eq] at hcl
        exact hcl.1
      refine (each_stuff (n + 1) (n + 1) (stuffL rows) line w1 h1.built (by omega) (by omega)).mono ?_
      rintro e w2 ⟨rfl, hi, hb, hk⟩
      have hc2 := hk (n + 2) _ h1.cell (by simp) (by simp)
      exact ⟨rfl, by rw [stuffL_append]; exact hi, h1.below.trans hb, hc2, Nat.le_trans hsz hb.size, hj⟩) h hs
  have H := Lib.hid hR
  cases hr : textL s with
  | none =>
    rw [hr] at H
    clear hR hr
    go_enter Try.func18, Try.ntmps18
    go_wp2_with fail
    refine H.out.mono ?_
    rintro e w1 ⟨rfl, rows, hb⟩
    go_wp2_with fail
    exact ⟨rfl, rfl, rows, hb⟩
  | some rows =>
    rw [hr] at H
    clear hR hr
    go_enter Try.func18, Try.ntmps18
    go_wp2_with fail
    refine H.out.mono ?_
    rintro e w1 ⟨rfl, hb⟩
    go_wp2_with fail
    go_end0
    exact ⟨rfl, hb⟩
end Go.Proofs.Ytdebkbocpljkbaa

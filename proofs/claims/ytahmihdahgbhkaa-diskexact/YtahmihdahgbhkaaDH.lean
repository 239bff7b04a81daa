/-
  A disk of package disk in memory; its file, count, do and sync, walked.
  Conditions: as each theorem states them.
-/
import Derived.Test.YtahmihdahgbhkaaDG
namespace Go.Proofs.Ytahmihdahgbhkaa
open Go.RowKit

/-- What a disk's cells hold. -/
structure DkV where
  N : Nat → Value
  K : Nat → Value
  L : Nat → Value
  C : Nat → List (Ch × Value)
  off : Bool
  calls : Int
def cellsK (x : DkV) : Array Value := #[x.N 0, x.K 0, x.L 0, x.N 1, x.K 1, x.L 1, x.N 2, x.K 2, x.L 2, .bool x.off, .int .i64 x.calls]
def upd {α : Type} (f : Nat → α) (n : Nat) (a : α) : Nat → α := fun m => if m = n then a else f m
theorem upd_at {α : Type} (f : Nat → α) (n : Nat) (a : α) : upd f n a n = a := by simp [upd]
theorem upd_else {α : Type} {f : Nat → α} {n m : Nat} {a : α} (h : m ≠ n) : upd f n a m = f m := by simp [upd, h]
theorem upto2 {n : Nat} (h : n ≤ 2) : n = 0 ∨ n = 1 ∨ n = 2 := by omega
theorem cellsK_N (x : DkV) {n : Nat} (h : n ≤ 2) : (cellsK x)[n * 3]? = some (x.N n) := by rcases upto2 h with rfl | rfl | rfl <;> rfl
theorem cellsK_K (x : DkV) {n : Nat} (h : n ≤ 2) : (cellsK x)[n * 3 + 1]? = some (x.K n) := by rcases upto2 h with rfl | rfl | rfl <;> rfl
theorem cellsK_L (x : DkV) {n : Nat} (h : n ≤ 2) : (cellsK x)[n * 3 + 2]? = some (x.L n) := by rcases upto2 h with rfl | rfl | rfl <;> rfl
theorem cellsK_setN (x : DkV) {n : Nat} (h : n ≤ 2) (u : Value) : (cellsK x).setIfInBounds (n * 3) u = cellsK { x with N := upd x.N n u } := by rcases upto2 h with rfl | rfl | rfl <;> rfl
theorem cellsK_setK (x : DkV) {n : Nat} (h : n ≤ 2) (u : Value) : (cellsK x).setIfInBounds (n * 3 + 1) u = cellsK { x with K := upd x.K n u } := by rcases upto2 h with rfl | rfl | rfl <;> rfl
theorem cellsK_setL (x : DkV) {n : Nat} (h : n ≤ 2) (u : Value) : (cellsK x).setIfInBounds (n * 3 + 2) u = cellsK { x with L := upd x.L n u } := by rcases upto2 h with rfl | rfl | rfl <;> rfl
/-- The power, as a disk of the package keeps it. -/
def pwK (off : Bool) (calls : Int) : Pw := if off then none else if calls = 0 then some none else some (some (calls - 1).toNat)
/-- A disk of package disk. -/
structure KAt (w : World) (ρ : Ro) (B p : Nat) (x : DkV) (d : Dk) : Prop where
  blk : Blk w p (cellsK x) 85
  ro : ρ p = 2
  now : ∀ n, n ≤ 2 → Rw w ρ B (3 + n) (x.N n) (d.f n).now
  kept : ∀ n, n ≤ 2 → Rw w ρ B (6 + n) (x.K n) (d.f n).kept
  list : ∀ n, n ≤ 2 → Lw w ρ B (9 + n) 1 (x.L n) (x.C n)
  done : ∀ n, n ≤ 2 → (x.C n).map Prod.fst = (d.f n).done
  len : ∀ n, n ≤ 2 → (d.f n).kept.length ≤ 4194304
  fit : ∀ n, n ≤ 2 → fitL (d.f n).kept (d.f n).done
  pw : pwK x.off x.calls = d.p
  calls0 : 0 ≤ x.calls
  calls1 : x.calls < 9223372036854775808
theorem ownsRow_mono {w : World} {B B' : Nat} {e : TypeId} {size n : Nat} {v : Value} {xs : List Value} (h : w.ownsRow B e size v n xs) (hb : B' ≤ B) : w.ownsRow B' e size v n xs := by
  obtain ⟨h1, h2⟩ := h
  refine ⟨h1, ?_⟩
  rcases h2 with h2 | ⟨g, cap, cur, hv, hg, r⟩
  · exact .inl h2
  · exact .inr ⟨g, cap, cur, hv, Nat.le_trans hb hg, r⟩
section
variable {w w' : World} {S : List Nat} {ρ ρ' : Ro} {B p n : Nat} {x : DkV} {d : Dk}
theorem KAt.step (h : KAt w ρ B p x d) (hs : Step S ρ ρ' w w') (hS : ∀ r, 1 ≤ r → r ≤ 11 → r ∉ S) : KAt w' ρ' B p x d where
  blk := h.blk.kept hs.kept (by rw [h.ro]; exact hS 2 (by omega) (by omega))
  ro := (hs.same p h.blk.lt).trans h.ro
  now := fun n hn => (h.now n hn).step hs (hS _ (by omega) (by omega))
  kept := fun n hn => (h.kept n hn).step hs (hS _ (by omega) (by omega))
  list := fun n hn => (h.list n hn).step hs (hS _ (by omega) (by omega)) (hS _ (by omega) (by omega))
  done := h.done
  len := h.len
  fit := h.fit
  pw := h.pw
  calls0 := h.calls0
  calls1 := h.calls1
theorem KAt.mono {B' : Nat} (h : KAt w ρ B p x d) (hB : B' ≤ B) : KAt w ρ B' p x d where
  blk := h.blk
  ro := h.ro
  now := fun n hn => ⟨(h.now n hn).br.mono hB, (h.now n hn).ro⟩
  kept := fun n hn => ⟨(h.kept n hn).br.mono hB, (h.kept n hn).ro⟩
  list := fun n hn => ⟨ownsRow_mono (h.list n hn).row hB, (h.list n hn).ro, (h.list n hn).tx⟩
  done := h.done
  len := h.len
  fit := h.fit
  pw := h.pw
  calls0 := h.calls0
  calls1 := h.calls1
theorem KAt.lt (h : KAt w ρ B p x d) : p < w.heap.size := h.blk.lt
theorem KAt.nowLen (h : KAt w ρ B p x d) (hn : n ≤ 2) : (d.f n).now.length ≤ 4194304 := by
  have := fitL_len (h.len n hn) (h.fit n hn) (d.f n).done.length
  rwa [List.take_length] at this
theorem KAt.cN (h : KAt w ρ B p x d) (hn : n ≤ 2) : w.cell? ⟨p, n * 3, none⟩ = some (x.N n) := h.blk.c _ (cellsK_N x hn)
theorem KAt.cK (h : KAt w ρ B p x d) (hn : n ≤ 2) : w.cell? ⟨p, n * 3 + 1, none⟩ = some (x.K n) := h.blk.c _ (cellsK_K x hn)
theorem KAt.cL (h : KAt w ρ B p x d) (hn : n ≤ 2) : w.cell? ⟨p, n * 3 + 2, none⟩ = some (x.L n) := h.blk.c _ (cellsK_L x hn)
theorem KAt.cOff (h : KAt w ρ B p x d) : w.cell? ⟨p, 9, none⟩ = some (.bool x.off) := h.blk.c 9 rfl
theorem KAt.cCalls (h : KAt w ρ B p x d) : w.cell? ⟨p, 10, none⟩ = some (.int .i64 x.calls) := h.blk.c 10 rfl
end

/-- How a file is answered. -/
def endF (p : Nat) (off : Bool) (n : Int) : Ending := if off then wrongK 10 else if fileOk n then .returned (.pointer (some ⟨p, n.toNat * 3, none⟩)) else wrongK 1
set_option maxHeartbeats 2000000 in
theorem file_any (w : World) (p : Nat) (off : Bool) (n : Int) (h9 : w.cell? ⟨p, 9, none⟩ = some (.bool off)) (_hb : p < w.heap.size) :
    Calls Try.prog 41 #[.pointer (some ⟨p, 0, none⟩), .int .i64 n] w fun e w' => e = endF p off n ∧ w' = w := by
  have HN := Lib.hid (fun n W => demand_no n W)
  have HO := Lib.hid (fun n W => demand_ok n W)
  have HW := Lib.hid (fun W => within_any n 0 2 W)
  cases off with
  | true =>
    go_enter Try.func41, Try.ntmps41
    go_wp2_with fail
    refine Calls.mono (HN.out _ _) ?_
    rintro e w' ⟨rfl, he⟩
    have he := he.symm
    subst he
    exact ⟨rfl, rfl, rfl⟩
  | false =>
    by_cases hq : 0 ≤ n ∧ n ≤ 2
    · have HF := Lib.hid (show endF p false n = .returned (.pointer (some ⟨p, n.toNat * 3, none⟩)) from if_pos (fileOk_iff.2 hq))
      rw [inB_iff.2 hq] at HW
      have h3 : n = 0 ∨ n = 1 ∨ n = 2 := by omega
      generalize endF p false n = z at *
      rcases h3 with rfl | rfl | rfl
      all_goals
        go_enter Try.func41, Try.ntmps41
        go_wp2_with fail
        refine Calls.mono (HO.out _ _) ?_
        rintro e w' ⟨rfl, he⟩
        have he := he.symm
        subst he
        go_wp2_with fail
        refine Calls.mono (HW.out _) ?_
        rintro e w' ⟨rfl, he⟩
        have he := he.symm
        subst he
        go_wp2_with fail
        refine Calls.mono (HO.out _ _) ?_
        rintro e w' ⟨rfl, he⟩
        have he := he.symm
        subst he
        go_wp2_with fail
        go_ret
        exact ⟨by rw [HF.out]; rfl, rfl⟩
    · have HF := Lib.hid (show endF p false n = wrongK 1 from if_neg (fun h => hq (fileOk_iff.1 h)))
      rw [inB_not.2 hq] at HW
      generalize endF p false n = z at *
      go_enter Try.func41, Try.ntmps41
      go_wp2_with fail
      refine Calls.mono (HO.out _ _) ?_
      rintro e w' ⟨rfl, he⟩
      have he := he.symm
      subst he
      go_wp2_with fail
      refine Calls.mono (HW.out _) ?_
      rintro e w' ⟨rfl, he⟩
      have he := he.symm
      subst he
      go_wp2_with fail
      refine Calls.mono (HN.out _ _) ?_
      rintro e w' ⟨rfl, he⟩
      have he := he.symm
      subst he
      exact ⟨rfl, HF.out.symm, rfl⟩
end Go.Proofs.Ytahmihdahgbhkaa

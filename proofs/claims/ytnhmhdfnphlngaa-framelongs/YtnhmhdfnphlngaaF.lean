/-
  take of package frame, walked: one byte does to the reader in memory what it does to the reader in the plain mathematics.
  Conditions: as the theorem states them.
-/
import Derived.Test.YtnhmhdfnphlngaaE
namespace Go.Proofs.Ytnhmhdfnphlngaa
open Go.RowKit

theorem take_line (w : World) (B g : Nat) (l : List UInt8) (skip : Bool) (lines : List (List UInt8 × Bool)) (h : RD w B g ⟨l ++ [13], skip, lines⟩) (hl : l.length < 100000) (hn : lines.length < 1000000) :
    Calls Try.prog 23 #[.pointer (some ⟨g, 0, none⟩), .int .u8 10] w fun e w' => e = .returned (.tuple #[]) ∧ RD w' B g ⟨[], false, lines ++ [(l, skip)]⟩ ∧ Kept B g w w' := by
  have hE := Lib.hid (show endsCR (l ++ [13]) = true from by simp [endsCR])
  go_enter Try.func23, Try.ntmps23
  go_wp2_with fail
  refine (ends_any _ B g _ h (by simp; omega)).mono ?_
  rintro e w' ⟨rfl, rfl⟩
  simp only []
  rw [hE.out]
  go_wp2_with fail
  refine (endLine_any _ B g l 13 skip lines h (by omega) hn).mono ?_
  rintro e w1 ⟨rfl, h1, k1⟩
  go_wp2
  refine bodyPost_ret (results_none rfl _ _ _) rfl ?_
  exact ⟨rfl, h1, k1⟩

/-- The reader behind a byte that ends no line. -/
def moreRd (rest : List UInt8) (skip : Bool) (lines : List (List UInt8 × Bool)) (c : UInt8) (ln : Bool) : Rd := if skip || ln then ⟨tailB c, true, lines⟩ else ⟨rest ++ [c], false, lines⟩

theorem moreRd_true (rest : List UInt8) (skip : Bool) (lines : List (List UInt8 × Bool)) (c : UInt8) : moreRd rest skip lines c true = ⟨tailB c, true, lines⟩ := by simp [moreRd]

set_option maxRecDepth 100000 in
/-- What is left of take behind the append: the length is asked, the mark, the line is forgotten. -/
theorem take_more (w : World) (B g : Nat) (rest : List UInt8) (skip : Bool) (lines : List (List UInt8 × Bool)) (c : UInt8) (h : RD w B g ⟨rest, skip, lines⟩) (hl : rest.length < 100000)
    (q ln : Bool) (hb : ((c.toNat : Int) == 10) = q) (hE : q = true → endsCR rest = false) (hlen : decide (512 ≤ rest.length + 1) = ln) :
    Calls Try.prog 23 #[.pointer (some ⟨g, 0, none⟩), .int .u8 (c.toNat : Int)] w fun e w' => e = .returned (.tuple #[]) ∧ RD w' B g (moreRd rest skip lines c ln) ∧ Kept B g w w' := by
  have hRD := h
  obtain ⟨rv, lv, hW, hr⟩ := h
  have hc0 := hW.cell0
  have hz0 := hW.frozen 0
  have hBw := hW.le
  have hW1 := hW.alloc (.cells #[.int .u8 (c.toNat : Int)] 5)
  have hr1 := hr.alloc (.cells #[.int .u8 (c.toNat : Int)] 5)
  have hk1 := (Kept.refl B g w).alloc hBw (.cells #[.int .u8 (c.toNat : Int)] 5)
  obtain ⟨i0, hi0, hz0', hs0, hb0⟩ := info_parts info5
  have hI := Lib.hid hi0
  have hZ := Lib.hid hz0'
  have hS := Lib.hid hs0
  have hB := Lib.hid hb0
  have hne := Lib.hid (hW1.ne hr1)
  have hcc := Lib.hid (show (w.alloc (.cells #[.int .u8 (c.toNat : Int)] 5)).cell? ⟨w.heap.size, 0, none⟩ = some (byteCell c) from by simp [byteCell])
  have HE := Lib.hid hE
  have HL := Lib.hid hlen
  clear hi0 hz0' hs0 hb0 hE hlen
  obtain ⟨gr, cap, rfl, -⟩ := hr.cell
  cases q
  all_goals
    go_enter Try.func23, Try.ntmps23
    go_wp2_with (first | (go_at_call 28; refine (ends_any w B g ⟨rest, skip, lines⟩ hRD (by simp; omega)).mono ?_; rintro e w' ⟨rfl, rfl⟩; rw [show endsCR (Rd.rest ⟨rest, skip, lines⟩) = false from HE.out rfl]) | (at_builtin; refine wpList_append_byte _ rfl (.tmp 16) (.tmp 18) 26 rfl B 5 i0 Try.underlying26 hI.out hZ.out hS.out hB.out _ rest rfl hr1 c ⟨w.heap.size, 0, none⟩ 1 rfl hcc.out hW1.le (by omega) ?_))
    intro v2 w2 hr2 hg2
    have hW2 := hW1.grown hg2 (fun k hk => (hr1.lt k hk).1) hne.out
    have hk2 := hk1.grown hg2 hW1.le (fun k hk => (hr1.lt k hk).1)
    have hc2 := hW2.cell0
    have hz2 := hW2.frozen 0
    obtain ⟨g2, c2, rfl, -⟩ := hr2.cell
    clear hc0 hz0
    have hW3 := hW2.set0 (.slice (some ⟨g2, 0, none⟩) (rest ++ [c]).length c2)
    have hr3 := hW2.rowSet hr2 0 (.slice (some ⟨g2, 0, none⟩) (rest ++ [c]).length c2)
    have hk3 := hk2.set 0 (.slice (some ⟨g2, 0, none⟩) (rest ++ [c]).length c2)
    simp only [List.length_append, List.length_cons, List.length_nil, Nat.zero_add] at *
    have hc3 := hW3.cell0
    have hc31 := hW3.cell1
    have hz31 := hW3.frozen 1
    have hRD3 : RD _ B g ⟨rest ++ [c], skip, lines⟩ := ⟨_, _, hW3, hr3⟩
    cases ln
    · have hlt : ¬ 512 ≤ rest.length + 1 := of_decide_eq_false HL.out
      clear hW1 hr1 hk1 hW hr
      cases skip
      · go_wp2
        go_end0
        exact ⟨rfl, hRD3, hk3⟩
      · go_wp2_with fail
        refine (forget_any _ B g _ c hRD3 (by simp; omega)).mono ?_
        rintro e w' ⟨rfl, h1, k1⟩
        go_wp2
        go_end0
        exact ⟨rfl, h1, hk3.trans k1⟩
    · have hlt : 512 ≤ rest.length + 1 := of_decide_eq_true HL.out
      have hW4 := hW3.set1 true
      have hr4 := hW3.rowSet hr3 1 (.bool true)
      have hRD4 : RD _ B g ⟨rest ++ [c], true, lines⟩ := ⟨_, _, hW4, hr4⟩
      have hc41 := hW4.cell1
      clear hW1 hr1 hk1 hW hr
      go_wp2_with fail
      refine (forget_any _ B g _ c hRD4 (by simp; omega)).mono ?_
      rintro e w' ⟨rfl, h1, k1⟩
      go_wp2
      go_end0
      exact ⟨rfl, by rw [moreRd_true]; exact h1, (hk3.set 1 _).trans k1⟩

/-- take, at every reader and every byte. -/
theorem take_any (w : World) (B g : Nat) (r : Rd) (c : UInt8) (h : RD w B g r) (hl : r.rest.length < 100000) (hn : r.lines.length < 1000000) :
    Calls Try.prog 23 #[.pointer (some ⟨g, 0, none⟩), .int .u8 (c.toNat : Int)] w fun e w' => e = .returned (.tuple #[]) ∧ RD w' B g (r.take c) ∧ Kept B g w w' := by
  obtain ⟨rest, skip, lines⟩ := r
  by_cases hq : c = 10 ∧ endsCR rest = true
  · obtain ⟨rfl, hE⟩ := hq
    obtain ⟨l, rfl⟩ : ∃ l, rest = l ++ [13] := by
      rcases List.eq_nil_or_concat rest with rfl | ⟨l, c, rfl⟩
      · simp [endsCR] at hE
      · rw [List.concat_eq_append] at hE ⊢
        have : c = 13 := by simpa [endsCR] using hE
        exact ⟨l, by rw [this]⟩
    have : Rd.take ⟨l ++ [13], skip, lines⟩ 10 = ⟨[], false, lines ++ [(l, skip)]⟩ := by simp [Rd.take, hE]
    rw [this]
    exact take_line w B g l skip lines h (by simp at hl; omega) hn
  · have : Rd.take ⟨rest, skip, lines⟩ c = moreRd rest skip lines c (decide (512 ≤ rest.length + 1)) := by simp [Rd.take, hq, moreRd]
    rw [this]
    refine take_more w B g rest skip lines c h hl ((c.toNat : Int) == 10) _ rfl (fun e => ?_) rfl
    have h10 : (c.toNat : Int) = 10 := by simpa using e
    have hc : c = 10 := UInt8.toNat_inj.1 (show c.toNat = 10 by omega)
    cases hE : endsCR rest with
    | false => rfl
    | true => exact absurd ⟨hc, hE⟩ hq
end Go.Proofs.Ytnhmhdfnphlngaa

/-
  What the library's tables and the table of names hold, as the walks want it; SimpleFold of package unicode at ASCII and at the long s, walked.
  Conditions: as each theorem states them.
-/
import Derived.Test.YtkbhmkofflcpjaaGreatDoorP
import Derived.WalkKit
import Derived.WalkSpells
import Derived.Lib.Hide
import Derived.Deep.LoopGhost
import Derived.PlainAid
import Derived.Test.YtkbhmkofflcpjaaGreatDoorQ
import Derived.Lib.Fold
import Derived.Lib.Walk
import Derived.Lib.Strings
import Derived.Lib.OthersKept
import Derived.Laws.Strings3
import Derived.Laws.RangeAny
import Derived.WalkMore
import Derived.ScopeJumps
import Derived.Defers
import Derived.Recover
namespace Go.Proofs.YtkbhmkofflcpjaaGreatDoor
open Go.RowKit

/-- What the table of foldings holds for ASCII. -/
def afN (c : Nat) : Nat := if 65 ≤ c ∧ c ≤ 90 then c + 32 else if c = 107 then 8490 else if c = 115 then 383 else if 97 ≤ c ∧ c ≤ 122 then c - 32 else c

/-- The pairs of a listed table. -/
def pairsOf : DataW Unit → List (Int × Int)
  | .slice l _ => l.filterMap fun
    | .agg [.lit (.int .u16 a), .lit (.int .u16 b)] => some (a, b)
    | _ => none
  | _ => []
def coL : List (Int × Int) := pairsOf Rows.laid_unicode_caseOrbit

/-- The table of orbits lies at block b from place o on. -/
structure CoAt (w : World) (b o cap : Nat) : Prop where
  v : w.cell? ⟨2, 0, none⟩ = some (.slice (some ⟨b, o, none⟩) coL.length cap)
  lt : b < w.heap.size
  c : ∀ i (hi : i < coL.length), w.cell? ⟨b, o + i * 2, none⟩ = some (.int .u16 coL[i].1) ∧ w.cell? ⟨b, o + i * 2 + 1, none⟩ = some (.int .u16 coL[i].2)

/-- The tables that reading wants. -/
structure Gl (w : World) : Prop where
  nm : ∀ k : Nat, 1 ≤ k → k ≤ 9 → w.cell? ⟨0, k, none⟩ = some (.string ⟨(nameL (k : Int)).toArray⟩)
  af : ∀ c : Nat, c < 128 → w.cell? ⟨1, c, none⟩ = some (.int .u16 (afN c : Int))
  co : ∃ b o cap, CoAt w b o cap
  ml : ∃ m, w.cell? ⟨4, 0, none⟩ = some (.int .i64 m)
  sz : 10 ≤ w.heap.size

theorem CoAt.keep {w w' : World} {b o cap : Nat} (h : CoAt w b o cap) (h2 : 10 ≤ w.heap.size) (hb : Below w.heap.size w w') : CoAt w' b o cap :=
  ⟨(hb.cell (p := ⟨2, 0, none⟩) (show 2 < _ by omega)).trans h.v, Nat.lt_of_lt_of_le h.lt hb.size, fun i hi =>
    ⟨(hb.cell (p := ⟨b, o + i * 2, none⟩) h.lt).trans (h.c i hi).1, (hb.cell (p := ⟨b, o + i * 2 + 1, none⟩) h.lt).trans (h.c i hi).2⟩⟩
theorem Gl.keep {w w' : World} (h : Gl w) (hb : Below w.heap.size w w') : Gl w' := by
  have hs := h.sz
  refine ⟨fun k h1 h9 => (hb.cell (p := ⟨0, k, none⟩) (show 0 < _ by omega)).trans (h.nm k h1 h9), fun c hc => (hb.cell (p := ⟨1, c, none⟩) (show 1 < _ by omega)).trans (h.af c hc), ?_, ?_, Nat.le_trans hs hb.size⟩
  · obtain ⟨b, o, cap, hc⟩ := h.co
    exact ⟨b, o, cap, hc.keep hs hb⟩
  · obtain ⟨m, hm⟩ := h.ml
    exact ⟨m, (hb.cell (p := ⟨4, 0, none⟩) (show 4 < _ by omega)).trans hm⟩
theorem Gl.alloc {w : World} (h : Gl w) (o : Obj) : Gl (w.alloc o) := h.keep ((Below.refl _ _).alloc (Nat.le_refl _) _)

theorem co_len : coL.length = 94 := by decide +kernel
theorem co_low : ∀ i (hi : i < coL.length), i < 10 → coL[i].1 < 383 := by decide +kernel
theorem co_high : ∀ i (hi : i < coL.length), 10 ≤ i → ¬ coL[i].1 < 383 := by decide +kernel
theorem co_range : ∀ i (hi : i < coL.length), 0 ≤ coL[i].1 ∧ coL[i].1 ≤ 65535 := by decide +kernel
theorem co_ten : ∀ (hi : 10 < coL.length), coL[10] = (383, 83) := by decide +kernel

theorem af_range (c : Nat) (h : c < 128) : (afN c : Int) ≤ 65535 := by
  unfold afN
  repeat' split
  all_goals omega

set_option maxHeartbeats 1000000 in
theorem sf_ascii (c : Nat) (hc : c < 128) (w : World) (h : Gl w) :
    Calls Tryz.prog 114 #[.int .i32 (c : Int)] w fun e w' => e = .returned (.int .i32 (afN c : Int)) ∧ w' = w := by
  have h1 := h.af c hc
  have h2 := af_range c hc
  have h3 : (0 : Int) ≤ (afN c : Int) := Int.natCast_nonneg _
  have h4 : (c : Int) < 128 := by omega
  have h5 : ¬ ((c : Int) < 0) := by omega
  have h6 : ¬ ((1114111 : Int) < (c : Int)) := by omega
  clear h
  go_enter Tryz.func114, Tryz.ntmps114
  go_wp2
  go_ret
  exact ⟨rfl, rfl⟩
end Go.Proofs.YtkbhmkofflcpjaaGreatDoor

namespace Go.Proofs.YtkbhmkofflcpjaaGreatDoor
open Go.RowKit

set_option maxHeartbeats 2000000 in
theorem sf_long (w : World) (h : Gl w) :
    Calls Tryz.prog 114 #[.int .i32 383] w fun e w' => e = .returned (.int .i32 83) ∧ w' = w := by
  obtain ⟨b, o, cap, hco⟩ := h.co
  have hv := hco.v
  rw [co_len] at hv
  have HC := Lib.hid hco.c
  clear h hco
  go_enter Tryz.func114, Tryz.ntmps114
  go_wp2_with fail
  go_loopg [3, 4] 94 (fun g s3 s4 wx => w = wx ∧ ∃ lo hi : Nat, s3 = .int .i64 lo ∧ s4 = .int .i64 hi ∧ lo ≤ 10 ∧ 10 ≤ hi ∧ hi ≤ 94 ∧ hi ≤ lo + g)
  case atStart => exact ⟨rfl, 0, 94, rfl, rfl, by omega, by omega, by omega, by omega⟩
  case round =>
    obtain ⟨rfl, lo, hi, rfl, rfl, h1, h2, h3, h4⟩ := hrel
    by_cases hlt : lo < hi
    · have hi1 : (lo : Int) < (hi : Int) := by omega
      obtain ⟨m, hm⟩ : ∃ m, (lo + hi) / 2 = m := ⟨_, rfl⟩
      have hmi : ((lo : Int) + (hi : Int)) / 2 = (m : Int) := by omega
      have hmb : m < 94 := by omega
      have hml : (m : Int) < 94 := by omega
      have hm0 : (0 : Int) ≤ (m : Int) := by omega
      have hmc : m < coL.length := by rw [co_len]; omega
      have hcm := (HC.out m hmc).1
      have hr := co_range m hmc
      by_cases h10 : m < 10
      · have hx := co_low m hmc h10
        generalize (coL[m]).1 = x at *
        obtain ⟨hr1, hr2⟩ := hr
        go_wp2_with fail
        cases gk with
        | zero => omega
        | succ g =>
          go_roundg g
          case measure => omega
          case rel => exact ⟨rfl, m + 1, hi, by simp, rfl, by omega, by omega, by omega, by omega⟩
      · have hx := co_high m hmc (by omega)
        generalize (coL[m]).1 = x at *
        obtain ⟨hr1, hr2⟩ := hr
        go_wp2_with fail
        cases gk with
        | zero => omega
        | succ g =>
          go_roundg g
          case measure => omega
          case rel => exact ⟨rfl, lo, m, rfl, rfl, by omega, by omega, by omega, by omega⟩
    · obtain rfl : lo = 10 := by omega
      have hi1 : ¬ (((10 : Nat) : Int) < (hi : Int)) := by omega
      have hc10 := HC.out 10 (by rw [co_len]; omega)
      rw [co_ten] at hc10
      obtain ⟨hcf, hct⟩ := hc10
      rw [show ((10 : Nat) : Int) = 10 from rfl] at *
      go_wp2_with fail
      go_ret
      exact ⟨rfl, rfl⟩
end Go.Proofs.YtkbhmkofflcpjaaGreatDoor

namespace Go.Proofs.YtkbhmkofflcpjaaGreatDoor
open Go.RowKit Go.Lib

theorem decode_two (s : ByteArray) (pos : Nat) (h : pos < s.size) (ha : 128 ≤ (s[pos]'h).toNat) (h3 : (Utf8.decode s pos).1 = 383) : 2 ≤ (Utf8.decode s pos).2 := by
  have hn : ¬ (s[pos]'h).toNat < 128 := by omega
  revert h3
  simp only [Utf8.decode, get_at s pos h, hn, if_false]
  repeat' split
  all_goals simp_all [Utf8.runeError]

theorem decode_fit (s : ByteArray) (pos : Nat) (h : pos < s.size) : pos + (Utf8.decode s pos).2 ≤ s.size := by
  simp only [Utf8.decode]
  repeat' split
  all_goals simp_all
  all_goals omega

/-- Where the first byte beyond ASCII stands, the ways part. -/
def FoldJump (s t : ByteArray) (w : World) (a' : Act) (w' : World) : Prop :=
  w' = w ∧ Lib.equalFold s.data.toList t.data.toList = false ∧ ∃ (i : Nat) (hi : i < s.size), 128 ≤ (s[i]'hi).toNat ∧ ∃ u : Nat → Value, a' = { tmps := #[.string s, .string t, u 2, u 3, u 4, .int .i64 i, u 6, u 7, u 8, u 9, u 10, u 11, u 12, u 13, u 14, u 15, u 16, u 17, u 18, u 19, u 20, u 21, u 22, u 23, u 24, u 25, u 26, u 27, u 28, u 29, u 30, u 31, u 32, u 33, u 34, u 35, u 36, u 37, u 38, u 39, u 40, u 41, u 42, u 43, u 44, u 45, u 46, u 47, u 48, u 49, u 50, u 51, u 52, u 53, u 54, u 55, u 56, u 57, u 58, u 59, u 60, u 61, u 62, u 63, u 64, u 65, u 66, u 67, u 68, u 69, u 70, u 71, u 72, u 73, u 74, u 75, u 76, u 77, u 78, u 79, u 80, u 81, u 82, u 83, u 84, u 85, u 86, u 87, u 88, u 89, u 90, u 91, u 92, u 93, u 94, u 95, u 96, u 97, u 98, u 99, u 100, u 101, u 102, u 103, u 104, u 105, u 106, u 107, u 108, u 109, u 110, u 111, u 112, u 113, u 114, u 115, u 116, u 117, u 118, u 119, u 120, u 121, u 122], defers := [] }

theorem frame_gen (v : Array Value) (n : Nat) (h : v.size = n) : v = ((List.range n).map fun k => v.getD k undef).toArray := by
  subst h
  apply Array.ext_getElem?
  intro k
  simp only [List.getElem?_toArray, List.getElem?_map]
  by_cases hk : k < v.size
  · rw [List.getElem?_range hk, Array.getElem?_eq_getElem hk]
    simp [Array.getD, hk]
  · rw [Array.getElem?_eq_none (by omega), List.getElem?_eq_none (by simp; omega)]
    rfl
theorem frame_lit (v : Array Value) (h : v.size = 123) : v = #[v.getD 0 undef, v.getD 1 undef, v.getD 2 undef, v.getD 3 undef, v.getD 4 undef, v.getD 5 undef, v.getD 6 undef, v.getD 7 undef, v.getD 8 undef, v.getD 9 undef, v.getD 10 undef, v.getD 11 undef, v.getD 12 undef, v.getD 13 undef, v.getD 14 undef, v.getD 15 undef, v.getD 16 undef, v.getD 17 undef, v.getD 18 undef, v.getD 19 undef, v.getD 20 undef, v.getD 21 undef, v.getD 22 undef, v.getD 23 undef, v.getD 24 undef, v.getD 25 undef, v.getD 26 undef, v.getD 27 undef, v.getD 28 undef, v.getD 29 undef, v.getD 30 undef, v.getD 31 undef, v.getD 32 undef, v.getD 33 undef, v.getD 34 undef, v.getD 35 undef, v.getD 36 undef, v.getD 37 undef, v.getD 38 undef, v.getD 39 undef, v.getD 40 undef, v.getD 41 undef, v.getD 42 undef, v.getD 43 undef, v.getD 44 undef, v.getD 45 undef, v.getD 46 undef, v.getD 47 undef, v.getD 48 undef, v.getD 49 undef, v.getD 50 undef, v.getD 51 undef, v.getD 52 undef, v.getD 53 undef, v.getD 54 undef, v.getD 55 undef, v.getD 56 undef, v.getD 57 undef, v.getD 58 undef, v.getD 59 undef, v.getD 60 undef, v.getD 61 undef, v.getD 62 undef, v.getD 63 undef, v.getD 64 undef, v.getD 65 undef, v.getD 66 undef, v.getD 67 undef, v.getD 68 undef, v.getD 69 undef, v.getD 70 undef, v.getD 71 undef, v.getD 72 undef, v.getD 73 undef, v.getD 74 undef, v.getD 75 undef, v.getD 76 undef, v.getD 77 undef, v.getD 78 undef, v.getD 79 undef, v.getD 80 undef, v.getD 81 undef, v.getD 82 undef, v.getD 83 undef, v.getD 84 undef, v.getD 85 undef, v.getD 86 undef, v.getD 87 undef, v.getD 88 undef, v.getD 89 undef, v.getD 90 undef, v.getD 91 undef, v.getD 92 undef, v.getD 93 undef, v.getD 94 undef, v.getD 95 undef, v.getD 96 undef, v.getD 97 undef, v.getD 98 undef, v.getD 99 undef, v.getD 100 undef, v.getD 101 undef, v.getD 102 undef, v.getD 103 undef, v.getD 104 undef, v.getD 105 undef, v.getD 106 undef, v.getD 107 undef, v.getD 108 undef, v.getD 109 undef, v.getD 110 undef, v.getD 111 undef, v.getD 112 undef, v.getD 113 undef, v.getD 114 undef, v.getD 115 undef, v.getD 116 undef, v.getD 117 undef, v.getD 118 undef, v.getD 119 undef, v.getD 120 undef, v.getD 121 undef, v.getD 122 undef] := (frame_gen v 123 h).trans rfl
theorem fold_jump (s t : ByteArray) (w : World) (i : Nat) (hi : i < s.size) (hx : 128 ≤ (s[i]'hi).toNat) (hf : Lib.equalFold s.data.toList t.data.toList = false) (v : Array Value) (hv : v.size = 123)
    (h0 : v.getD 0 undef = .string s) (h1 : v.getD 1 undef = .string t) (h5 : v.getD 5 undef = .int .i64 i) : FoldJump s t w { tmps := v, defers := [] } w := by
  refine ⟨rfl, hf, i, hi, hx, fun n => v.getD n undef, ?_⟩
  have := frame_lit v hv
  rw [h0, h1, h5] at this
  exact congrArg (fun x => ({ tmps := x, defers := [] } : Act)) this

theorem af_fin : ∀ y : Fin 128, (y.val = 75 ∨ y.val = 107 ∨ y.val = 115) ∨ (afN y.val < 128 ∧ (afN y.val = y.val ∨ (y.val = 83 ∧ afN y.val = 115) ∨ (y.val ≠ 83 ∧ afN y.val ≠ y.val ∧ afN (afN y.val) = y.val))) := by decide +kernel
theorem af_facts (y : Nat) (h : y < 128) (h1 : y ≠ 75) (h2 : y ≠ 107) (h3 : y ≠ 115) : afN y < 128 ∧ (afN y = y ∨ (y = 83 ∧ afN y = 115) ∨ (y ≠ 83 ∧ afN y ≠ y ∧ afN (afN y) = y)) := by
  rcases af_fin ⟨y, h⟩ with h | h
  · simp only at h
    omega
  · exact h

theorem decodeRune_ascii (y : UInt8) (r : List UInt8) (w : World) (hy : y.toNat < 128) :
    Calls Tryz.prog 113 #[.string ⟨(y :: r).toArray⟩] w fun e w' => e = .returned (.tuple #[.int .i32 (y.toNat : Int), .int .i64 1]) ∧ w' = w := by
  have hB0 : 0 < (⟨(y :: r).toArray⟩ : ByteArray).size := Nat.succ_pos _
  have hx : (⟨(y :: r).toArray⟩ : ByteArray)[0]'hB0 = y := rfl
  have h1 : (y.toNat : Int) < 128 := by omega
  have hne : ((y :: r) == []) = false := rfl
  have hl : 0 < (y :: r).length := Nat.succ_pos _
  have hli : (0 : Int) < ((y :: r).length : Int) := by omega
  have hnn : (y :: r) ≠ [] := List.cons_ne_nil _ _
  generalize y :: r = l at *
  go_enter Tryz.func113, Tryz.ntmps113
  go_wp2
  go_ret2
  exact ⟨rfl, rfl⟩

theorem fold_bad (x y : UInt8) (hx : 128 ≤ x.toNat) (hy : y.toNat < 128) : Lib.foldEq x y = false := decide_eq_false (by omega)

set_option maxHeartbeats 8000000 in
set_option maxRecDepth 1000000 in
theorem fold_any (s t : ByteArray) (w : World) (hl : s.size = t.size) (hs : s.size < 1000)
    (hat : ∀ (j : Nat) b, t.data.toList[j]? = some b → b.toNat < 128 ∧ b.toNat ≠ 75 ∧ b.toNat ≠ 107 ∧ b.toNat ≠ 115) (hg : Gl w) :
    Calls Tryz.prog 93 #[.string s, .string t] w fun e w' => e = .returned (.bool (Lib.equalFold s.data.toList t.data.toList)) ∧ Below w.heap.size w w' := by
  have HT := Lib.hid hat
  have HG := Lib.hid hg
  clear hat hg
  have hM : min (s.size : Int) (t.size : Int) = (s.size : Int) := by omega
  go_enter Tryz.func93, Tryz.ntmps93
  go_wp2
  refine wp_scope_jumps 0 (FoldJump s t w) (fun _ _ => 0) rfl ?_ ?_
  · go_wp2
    go_loopg [5] s.size (fun g s5 wx => w = wx ∧ ∃ i : Nat, i + g = s.size ∧ s5 = .int .i64 i ∧ Lib.equalFold (s.data.toList.drop i) (t.data.toList.drop i) = Lib.equalFold s.data.toList t.data.toList)
    case atStart => exact ⟨rfl, 0, by omega, rfl, rfl⟩
    case round =>
      obtain ⟨rfl, i, hig, rfl, hinv⟩ := hrel
      have HI := Lib.hid hinv
      clear hinv hM
      cases gk with
      | zero =>
        have hiM : ¬ ((i : Int) < (s.size : Int)) := by omega
        obtain rfl : i = s.size := by omega
        have HE := Lib.hid (show Lib.equalFold s.data.toList t.data.toList = true by
          rw [← HI.out, Lib.equalFold_end _ _ (.inl (List.drop_eq_nil_of_le (by rw [← Lib.size_eq]; omega))), List.length_drop, List.length_drop, ← Lib.size_eq, ← Lib.size_eq]
          exact decide_eq_true (by omega))
        have hb : ((s.size : Int) == (t.size : Int)) = true := beq_iff_eq.2 (by omega)
        go_wp2
        simp only [Exit.jump]
        go_ret
        exact ⟨by rw [HE.out]; rfl, Below.refl _ _⟩
      | succ g =>
        have hiM : (i : Int) < (s.size : Int) := by omega
        have hitz : (i : Int) < (t.size : Int) := by omega
        obtain ⟨x, hx⟩ : ∃ x : UInt8, s[i]'(by omega) = x := ⟨_, rfl⟩
        obtain ⟨y, hy⟩ : ∃ y : UInt8, t[i]'(by omega) = y := ⟨_, rfl⟩
        have hxl : s.data.toList[i]? = some x := by rw [← hx]; exact Lib.data_getElem? s i (by omega)
        have hyl : t.data.toList[i]? = some y := by rw [← hy]; exact Lib.data_getElem? t i (by omega)
        have hx255 := x.toNat_lt
        have hy128 : y.toNat < 128 := (HT.out i y hyl).1
        have hor : bits .or .u8 (x.toNat : Int) (y.toNat : Int) = ((x.toNat ||| y.toNat : Nat) : Int) := u8_or_nat _ _ (by omega) (by omega)
        have Hx := Lib.hid (show s.data.toList[i]? = some x ∧ t.data.toList[i]? = some y from ⟨hxl, hyl⟩)
        clear hxl hyl
        by_cases hx128 : x.toNat < 128
        · have hor128 : ¬ ((128 : Int) ≤ ((x.toNat ||| y.toNat : Nat) : Int)) := by have := Nat.or_lt_two_pow (n := 7) hx128 hy128; omega
          go_wp2
          all_goals (try simp only [beq_iff_eq, beq_eq_false_iff_ne, ne_eq] at *)
          all_goals first
            | (go_roundg g
               case measure => omega
               case rel => exact ⟨rfl, i + 1, by omega, by first | rfl | simp, by rw [← HI.out, Lib.drop_at Hx.out.1, Lib.drop_at Hx.out.2, Lib.equalFold_yes _ _ _ _ (decide_eq_true (by omega))]⟩)
            | (simp only [Exit.jump]
               go_ret
               refine ⟨?_, Below.refl _ _⟩
               rw [← HI.out, Lib.drop_at Hx.out.1, Lib.drop_at Hx.out.2, Lib.equalFold_no _ _ _ _ (decide_eq_false (by omega))]
               rfl)
        · have hor128 : ((128 : Int) ≤ ((x.toNat ||| y.toNat : Nat) : Int)) := by have := Nat.left_le_or (n := x.toNat) (m := y.toNat); omega
          have HF := Lib.hid (show Lib.equalFold s.data.toList t.data.toList = false by
            rw [← HI.out, Lib.drop_at Hx.out.1, Lib.drop_at Hx.out.2, Lib.equalFold_no _ _ _ _ (fold_bad x y (by omega) hy128)])
          go_wp2
          go_step3
          exact ⟨rfl, fold_jump s t w i (by omega) (by rw [hx]; omega) HF.out _ rfl rfl rfl rfl⟩
  · rintro a' wz ⟨hwz, hF, i, hi, hx, u, rfl⟩
    obtain rfl := hwz.symm
    have HF := Lib.hid hF
    obtain ⟨sl, rfl⟩ : ∃ l : List UInt8, s = ⟨l.toArray⟩ := ⟨s.data.toList, by rw [Lib.mk_data]⟩
    obtain ⟨tl, rfl⟩ : ∃ l : List UInt8, t = ⟨l.toArray⟩ := ⟨t.data.toList, by rw [Lib.mk_data]⟩
    have e1 : (⟨sl.toArray⟩ : ByteArray).extract i sl.length = ⟨(sl.drop i).toArray⟩ := ext_drop sl i _ rfl
    have e2 : (⟨tl.toArray⟩ : ByteArray).extract i tl.length = ⟨(tl.drop i).toArray⟩ := ext_drop tl i _ rfl
    have hii : (i : Int) ≤ ((⟨sl.toArray⟩ : ByteArray).size : Int) := by omega
    have hit : (i : Int) ≤ ((⟨tl.toArray⟩ : ByteArray).size : Int) := by omega
    have hT2 : ∀ y ∈ tl.drop i, y.toNat < 128 ∧ y.toNat ≠ 75 ∧ y.toNat ≠ 107 ∧ y.toNat ≠ 115 := fun y hy => by
      obtain ⟨j, hj⟩ := List.mem_iff_getElem?.1 (List.mem_of_mem_drop hy)
      exact HT.out j y hj
    have hS2 : (sl.drop i).length = (tl.drop i).length := by
      have : sl.length = tl.length := hl
      simp [this]
    have hS0 : ∀ h : 0 < (⟨(sl.drop i).toArray⟩ : ByteArray).size, 128 ≤ ((⟨(sl.drop i).toArray⟩ : ByteArray)[0]'h).toNat := fun h => by
      have : (⟨(sl.drop i).toArray⟩ : ByteArray)[0]'h = (⟨sl.toArray⟩ : ByteArray)[i]'hi := by
        show (sl.drop i)[0] = sl[i]
        simp
      rw [this]
      exact hx
    have HP : Hid (0 < (sl.drop i).length) := Lib.hid (by
      have : i < sl.length := hi
      simp
      omega)
    have H1 := Lib.hid hT2
    have H2 := Lib.hid hS0
    have H3 := Lib.hid hS2
    have HL := Lib.hid hl
    clear hF hx hT2 hS0 hS2 hl hM hs
    go_wp2
    clear e1 e2 hii hit hi
    generalize sl.drop i = S at *
    generalize tl.drop i = T at *
    clear hwz HT HL
    go_loopg [1] S.length (fun g s1 wx => ∃ (j : Nat) (r : List UInt8), s1 = .string ⟨r.toArray⟩ ∧ S.length ≤ j + g ∧ j ≤ S.length ∧ wx.heap[w.heap.size]? = some (.stringIter ⟨S.toArray⟩ j) ∧ Below w.heap.size w wx ∧ (∀ y ∈ r, y.toNat < 128 ∧ y.toNat ≠ 75 ∧ y.toNat ≠ 107 ∧ y.toNat ≠ 115) ∧ (S.length < j + r.length ∨ (j = 0 ∧ S.length = r.length ∧ 0 < S.length)))
    case atStart => exact ⟨0, T, rfl, by omega, by omega, World.iter_heap w ⟨S.toArray⟩ 0, (Below.refl _ _).alloc (Nat.le_refl _) _, H1.out, .inr ⟨rfl, H3.out, HP.out⟩⟩
    case round =>
      obtain ⟨j, r, rfl, hjg, hjl, hk, hb, hr, hlen⟩ := hrel
      have HK := Lib.hid hk
      have HB := Lib.hid hb
      have HR := Lib.hid hr
      have HLN := Lib.hid hlen
      have HGW := Lib.hid (HG.out.keep hb)
      have hwlt : w.heap.size < wr.heap.size := (Array.getElem?_eq_some_iff.1 hk).1
      clear hk hb hr hlen
      by_cases hj : j < S.length
      · have hjs : j < (⟨S.toArray⟩ : ByteArray).size := hj
        obtain ⟨y, q, rfl⟩ : ∃ y q, r = y :: q := by
          cases r with
          | nil =>
            have := HLN.out
            simp only [List.length_nil] at this
            omega
          | cons y q => exact ⟨y, q, rfl⟩
        have hy := HR.out y List.mem_cons_self
        have hyf := af_facts y.toNat hy.1 hy.2.1 hy.2.2.1 hy.2.2.2
        have HYF := Lib.hid hyf
        have hy128 := hy.1
        have HQ : Hid (∀ z ∈ q, z.toNat < 128 ∧ z.toNat ≠ 75 ∧ z.toNat ≠ 107 ∧ z.toNat ≠ 115) := Lib.hid fun z hz => HR.out z (List.mem_cons_of_mem _ hz)
        have HD := Lib.hid (fun W => decodeRune_ascii y q W hy.1)
        have hcl : ((((y :: q).length : Nat) : Int) == 0) = false := beq_eq_false_iff_ne.2 (by simp; omega)
        have hc1 : (1 : Int) ≤ (((y :: q).length : Nat) : Int) := by simp; omega
        have hex : (⟨(y :: q).toArray⟩ : ByteArray).extract 1 (y :: q).length = ⟨q.toArray⟩ := ext_drop (y :: q) 1 _ rfl
        have hqn : (y :: q).length = q.length + 1 := rfl
        have HLQ := Lib.hid (show S.length < j + (q.length + 1) ∨ (j = 0 ∧ S.length = q.length + 1 ∧ 0 < S.length) from HLN.out)
        have HQN := Lib.hid hqn
        clear hy hyf hqn HLN HR
        generalize hyq : y :: q = yq at *
        clear hyq
        obtain ⟨x, hx⟩ : ∃ x : UInt8, (⟨S.toArray⟩ : ByteArray)[j]'hjs = x := ⟨_, rfl⟩
        cases gk with
        | zero => omega
        | succ g =>
          by_cases hx128 : x.toNat < 128
          · have hnx := fun ty => Lib.run_next_ascii_at (P := Tryz.prog) wr w.heap.size ⟨S.toArray⟩ j ty HK.out hjs (by rw [hx]; exact hx128)
            rw [hx] at hnx
            have HLS := Lib.hid (show S.length < j + (q.length + 1) by
              rcases HLQ.out with h | ⟨h, _⟩
              · exact h
              · subst h
                have := H2.out hjs
                rw [hx] at this
                omega)
            clear hx
            have hb2 := Lib.below_iterAt HB.out (Nat.le_refl _) ⟨S.toArray⟩ (j + 1)
            have HB2 := Lib.hid hb2
            clear hb2
            go_wp2_with fail
            refine Calls.mono (HD.out _) ?_
            rintro e w2 ⟨rfl, rfl⟩
            go_wp2_with fail
            all_goals (try simp only [beq_iff_eq, beq_eq_false_iff_ne, ne_eq] at *)
            all_goals first
              | (go_roundg g
                 case measure => omega
                 case rel => exact ⟨j + 1, q, rfl, by omega, by omega, Lib.iterAt_heap _ _ _ _ _ HK.out, HB2.out, HQ.out, .inl (by have := HLS.out; omega)⟩)
              | (simp only [Exit.jump]
                 go_ret
                 exact ⟨by rw [HF.out]; rfl, HB2.out⟩)
          · have hnx := fun ty => Lib.run_next_any_at (P := Tryz.prog) wr w.heap.size ⟨S.toArray⟩ j ty HK.out hjs
            obtain ⟨hd1, hd2⟩ := decode_high ⟨S.toArray⟩ j hjs (by rw [hx]; omega)
            have HD3 := Lib.hid (decode_two ⟨S.toArray⟩ j hjs (by rw [hx]; omega))
            have HFIT : Hid (j + (Utf8.decode ⟨S.toArray⟩ j).2 ≤ S.length) := Lib.hid (decode_fit ⟨S.toArray⟩ j hjs)
            have hd4 := decode_le ⟨S.toArray⟩ j
            generalize (Utf8.decode ⟨S.toArray⟩ j).1 = c at *
            generalize (Utf8.decode ⟨S.toArray⟩ j).2 = k at *
            clear hx
            have HB2 := Lib.hid (Lib.below_iterAt HB.out (Nat.le_refl _) ⟨S.toArray⟩ (j + k))
            have HKI := Lib.hid (Lib.iterAt_heap _ _ _ _ (j + k) HK.out)
            have HG2 := HG.out.keep HB2.out
            have HSF := Lib.hid (fun c hc => sf_ascii c hc (wr.iterAt w.heap.size ⟨S.toArray⟩ (j + k)) HG2)
            have HSL := Lib.hid (sf_long (wr.iterAt w.heap.size ⟨S.toArray⟩ (j + k)) HG2)
            have hne : ((y.toNat : Int) == (c : Int)) = false := beq_eq_false_iff_ne.2 (by omega)
            have hlt : (y.toNat : Int) < (c : Int) := by omega
            have hge : ¬ ((c : Int) < 128) := by omega
            clear HG2
            go_wp2_with fail
            refine Calls.mono (HD.out _) ?_
            rintro e w2 ⟨rfl, rfl⟩
            go_wp2_with fail
            refine Calls.mono (HSF.out y.toNat hy128) ?_
            rintro e w3 ⟨rfl, rfl⟩
            clear hnx HK HB HGW hwlt
            generalize wr.iterAt w.heap.size ⟨S.toArray⟩ (j + k) = wi at *
            go_wp2_with fail
            go_loopg [13] 3 (fun g' s13 wx => wi = wx ∧ (s13 = .int .i32 (afN y.toNat : Int) ∧ g' = 3 ∨ s13 = .int .i32 (y.toNat : Int) ∨ (y.toNat = 83 ∧ s13 = .int .i32 383 ∧ 1 ≤ g')))
            case atStart => exact ⟨rfl, .inl ⟨rfl, rfl⟩⟩
            case round =>
              obtain ⟨rfl, hv⟩ := hrel
              rcases hv with ⟨rfl, rfl⟩ | rfl | ⟨h83, rfl, hg1⟩
              · obtain ⟨hf1, hf2 | ⟨hf2, hf3⟩ | ⟨hf2, hf3, hf4⟩⟩ := HYF.out
                · rw [hf2]
                  go_wp2_with fail
                  simp only [Exit.jump]
                  go_ret
                  exact ⟨by rw [HF.out]; rfl, HB2.out⟩
                · have HF2 := Lib.hid hf2
                  have hn1 : ((afN y.toNat : Int) != (y.toNat : Int)) = true := bne_iff_ne.2 (by omega)
                  have hn2 : (afN y.toNat : Int) < (c : Int) := by omega
                  have HA2 := Lib.hid (HSF.out (afN y.toNat) hf1)
                  rw [show afN (afN y.toNat) = 383 by rw [hf3]; rfl] at HA2
                  clear hf2 hf3
                  go_wp2_with fail
                  refine Calls.mono HA2.out ?_
                  rintro e w3 ⟨rfl, rfl⟩
                  go_wp2_with fail
                  go_roundg 2
                  case measure => omega
                  case rel => exact ⟨rfl, .inr (.inr ⟨HF2.out, rfl, by omega⟩)⟩
                · have hn1 : ((afN y.toNat : Int) != (y.toNat : Int)) = true := bne_iff_ne.2 (by omega)
                  have hn2 : (afN y.toNat : Int) < (c : Int) := by omega
                  have HA2 := Lib.hid (HSF.out (afN y.toNat) hf1)
                  rw [hf4] at HA2
                  go_wp2_with fail
                  refine Calls.mono HA2.out ?_
                  rintro e w3 ⟨rfl, rfl⟩
                  go_wp2_with fail
                  go_roundg 2
                  case measure => omega
                  case rel => exact ⟨rfl, .inr (.inl rfl)⟩
              · go_wp2_with fail
                simp only [Exit.jump]
                go_ret
                exact ⟨by rw [HF.out]; rfl, HB2.out⟩
              · have hn1 : ((383 : Int) != (y.toNat : Int)) = true := bne_iff_ne.2 (by omega)
                have H83 := Lib.hid h83
                clear h83
                by_cases h383 : (383 : Int) < (c : Int)
                · go_wp2_with fail
                  refine Calls.mono HSL.out ?_
                  rintro e w3 ⟨rfl, rfl⟩
                  go_wp2_with fail
                  go_roundg 0
                  case measure => omega
                  case rel => exact ⟨rfl, .inr (.inl (by rw [H83.out]; rfl))⟩
                · by_cases hce : c = 383
                  · subst hce
                    have h2k := HD3.out rfl
                    go_wp2_with fail
                    go_roundg g
                    case measure => omega
                    case rel => exact ⟨j + k, q, rfl, by omega, HFIT.out, HKI.out, HB2.out, HQ.out, .inl (by have := HLQ.out; omega)⟩
                  · have hc2 : ((383 : Int) == (c : Int)) = false := beq_eq_false_iff_ne.2 (by omega)
                    go_wp2_with fail
                    simp only [Exit.jump]
                    go_ret
                    exact ⟨by rw [HF.out]; rfl, HB2.out⟩
      · have hnx := fun ty => Lib.run_next_end_at (P := Tryz.prog) wr w.heap.size ⟨S.toArray⟩ j ty HK.out hj
        have hrl : 0 < r.length := by
          have := HLN.out
          omega
        have hb0 : ((r.length : Int) == 0) = false := beq_eq_false_iff_ne.2 (by omega)
        go_wp2
        simp only [Exit.jump]
        go_ret
        exact ⟨by rw [HF.out]; rfl, HB.out⟩
end Go.Proofs.YtkbhmkofflcpjaaGreatDoor

namespace Go.Proofs.YtkbhmkofflcpjaaGreatDoor
open Go.RowKit

theorem vcaught_idle (p : Addr) (w : World) :
    CallsD Tryz.prog 54 #[.pointer (some p)] .returning w fun e u' w' => e = .returned (.tuple #[]) ∧ u' = .returning ∧ w' = w := by
  refine callsD_of_wpS Tryz.func54 rfl fun c₀ cs hu => ?_
  apply wpS_seq
  apply wpS_region
  simp [wpOpsS, go_sem, recoverD, hu, Tryz.ntmps54, Exit.thenS]
  rw [caught_frame]
  refine wpS_of_wp ?_
  go_wp2
  cases c₀
  simp_all [bodyPostS, results, Tryz.results54]

theorem vcaught_fault (p : Addr) (x n : Int) (w : World) (hc : w.cell? p = some (.int .i64 x)) (hz : w.frozen? p = false) (hp : p.block < w.heap.size) :
    CallsD Tryz.prog 54 #[.pointer (some p)] (.panicking [{ v := .iface 67 (.agg #[.int .i64 n]), recovered := false }]) w fun e u' w' =>
      e = .returned (.tuple #[]) ∧ u' = .panicking [{ v := .iface 67 (.agg #[.int .i64 n]), recovered := true }] ∧ w' = (w.alloc (.cells #[.int .i64 n] 67)).setCell p (.int .i64 n) := by
  have hta : ∀ (v : Value) (w : World), (Instr.typeAssert (.iface 67 v) 20 67 true).run Tryz.prog w = .ok (.tuple #[v, .bool true]) w := fun _ _ => by kernel_rfl
  have hc' : ∀ o, (w.alloc o).cell? p = some (.int .i64 x) := fun o => (World.cell?_alloc_lt w o p hp).trans hc
  have hz' : ∀ o, (w.alloc o).frozen? p = false := fun o => by
    rw [← hz]
    exact World.frozen?_of_block (Below.heap_alloc w o p.block hp)
  refine callsD_of_wpS Tryz.func54 rfl fun c₀ cs hu => ?_
  apply wpS_seq
  apply wpS_region
  simp [wpOpsS, go_sem, recoverD, hu, Tryz.ntmps54, Exit.thenS]
  rw [caught_frame]
  refine wpS_of_wp ?_
  go_wp2
  exact ⟨rfl, _, rfl, .tuple #[], by simp [results, Tryz.results54, go_sem], rfl, rfl, rfl⟩

/-- catch where the function that it runs returns. -/
theorem vcatch_ret (f : FuncId) (cap : Array Value) (w : World) (R : World → Prop) (hent : ∀ w, (callFunc f cap).run Tryz.prog w = .ok (.enter f cap) w)
    (h : Calls Tryz.prog f cap (w.alloc (.cells #[.int .i64 0] 32)) fun e w' => e = .returned (.tuple #[]) ∧ R w' ∧ w'.heap[w.heap.size]? = some (.cells #[.int .i64 0] 32 (0, 0))) :
    Calls Tryz.prog 34 #[.func (.func f) #[] cap] w fun e w' => e = .returned (.int .i64 0) ∧ ∃ w1, R w1 ∧ w' = w1.setCell ⟨w.heap.size, 0, none⟩ (.int .i64 0) := by
  have hmf : ∀ (fn : Fn) (first cap : Array Value) (w : World), (Instr.makeFunc fn first cap).run Tryz.prog w = .ok (.func fn first cap) w := fun _ _ _ _ => rfl
  have H : Hid (Calls Tryz.prog f cap (w.alloc (.cells #[.int .i64 0] 32)) fun e w' => e = .returned (.tuple #[]) ∧ R w' ∧ w'.heap[w.heap.size]? = some (.cells #[.int .i64 0] 32 (0, 0))) := h
  clear h
  go_enter_defers Tryz.func34, Tryz.ntmps34
  go_wp2_with fail
  refine H.out.mono ?_
  rintro e w1 ⟨rfl, hR, hcell⟩
  have hc : w1.cell? ⟨w.heap.size, 0, none⟩ = some (.int .i64 0) := by simp [World.cell?, hcell]
  have hz : w1.frozen? ⟨w.heap.size, 0, none⟩ = false := by simp [World.frozen?, hcell]
  have HC := (show Hid _ from hcell)
  clear hcell H
  go_wp2
  refine leaves_cons (f := 54) (args := #[.pointer (some ⟨w.heap.size, 0, none⟩)]) (by simp) (by simp [go_sem]) ?_
  refine (vcaught_idle ⟨w.heap.size, 0, none⟩ _).mono ?_
  rintro e u' w'' ⟨rfl, rfl, rfl⟩
  refine ⟨.int .i64 0, ?_, rfl, w1, hR, rfl⟩
  have hc2 : (w1.setCell ⟨w.heap.size, 0, none⟩ (.int .i64 0)).cell? ⟨w.heap.size, 0, none⟩ = some (.int .i64 0) := by
    have h1 := HC.out
    simp only [World.cell?, World.setCell, Array.getElem?_modify, if_true, h1]
    rfl
  simp [results, Tryz.results34, go_sem, hc2]

/-- catch where the function that it runs panics with a fault. -/
theorem vcatch_fault (f : FuncId) (cap : Array Value) (n : Int) (w : World) (R : World → Prop) (hent : ∀ w, (callFunc f cap).run Tryz.prog w = .ok (.enter f cap) w)
    (h : Calls Tryz.prog f cap (w.alloc (.cells #[.int .i64 0] 32)) fun e w' => e = .panicked [{ v := .iface 67 (.agg #[.int .i64 n]), recovered := false }] ∧ R w' ∧ w'.heap[w.heap.size]? = some (.cells #[.int .i64 0] 32 (0, 0))) :
    Calls Tryz.prog 34 #[.func (.func f) #[] cap] w fun e w' => e = .returned (.int .i64 n) ∧ ∃ w1, R w1 ∧ w' = (w1.alloc (.cells #[.int .i64 n] 67)).setCell ⟨w.heap.size, 0, none⟩ (.int .i64 n) := by
  have hmf : ∀ (fn : Fn) (first cap : Array Value) (w : World), (Instr.makeFunc fn first cap).run Tryz.prog w = .ok (.func fn first cap) w := fun _ _ _ _ => rfl
  have H : Hid (Calls Tryz.prog f cap (w.alloc (.cells #[.int .i64 0] 32)) fun e w' => e = .panicked [{ v := .iface 67 (.agg #[.int .i64 n]), recovered := false }] ∧ R w' ∧ w'.heap[w.heap.size]? = some (.cells #[.int .i64 0] 32 (0, 0))) := h
  clear h
  go_enter_defers Tryz.func34, Tryz.ntmps34
  go_wp2_with fail
  refine H.out.mono ?_
  rintro e w1 ⟨rfl, hR, hcell⟩
  have hlt : w.heap.size < w1.heap.size := (Array.getElem?_eq_some_iff.1 hcell).1
  have hc : w1.cell? ⟨w.heap.size, 0, none⟩ = some (.int .i64 0) := by simp [World.cell?, hcell]
  have hz : w1.frozen? ⟨w.heap.size, 0, none⟩ = false := by simp [World.frozen?, hcell]
  have HC := (show Hid _ from hcell)
  clear hcell H
  go_wp2
  refine leaves_cons (f := 54) (args := #[.pointer (some ⟨w.heap.size, 0, none⟩)]) (by simp) (by simp [go_sem]) ?_
  refine (vcaught_fault ⟨w.heap.size, 0, none⟩ 0 n _ hc hz hlt).mono ?_
  rintro e u' w'' ⟨rfl, rfl, rfl⟩
  refine ⟨.int .i64 n, ?_, rfl, w1, hR, rfl⟩
  have hc2 : ((w1.alloc (.cells #[.int .i64 n] 67)).setCell ⟨w.heap.size, 0, none⟩ (.int .i64 n)).cell? ⟨w.heap.size, 0, none⟩ = some (.int .i64 n) := by
    have h1 := HC.out
    have h2 : (w1.alloc (.cells #[.int .i64 n] 67)).heap[w.heap.size]? = some (.cells #[.int .i64 0] 32) := (Below.heap_alloc w1 _ _ hlt).trans h1
    simp only [World.cell?, World.setCell, Array.getElem?_modify, if_true, h2]
    rfl
  simp [results, Tryz.results34, go_sem, hc2]
/-- catch, where the function that it runs returns. -/
theorem vcatch_ok (f : FuncId) (cap : Array Value) (ms : List Nat) (w : World) (R : World → Prop) (hent : ∀ w, (callFunc f cap).run Tryz.prog w = .ok (.enter f cap) w) (hms : ∀ m ∈ ms, m < w.heap.size)
    (h : Calls Tryz.prog f cap (w.alloc (.cells #[.int .i64 0] 32)) fun e w' => e = .returned (.tuple #[]) ∧ But ms (w.heap.size + 1) (w.alloc (.cells #[.int .i64 0] 32)) w' ∧ R w') :
    Calls Tryz.prog 34 #[.func (.func f) #[] cap] w fun e w' => e = .returned (.int .i64 0) ∧ But ms w.heap.size w w' ∧ ∃ w1, R w1 ∧ ∀ k, k < w.heap.size → w'.heap[k]? = w1.heap[k]? := by
  refine (vcatch_ret f cap w (fun w' => But ms (w.heap.size + 1) (w.alloc (.cells #[.int .i64 0] 32)) w' ∧ R w') hent (h.mono ?_)).mono ?_
  · rintro e w' ⟨rfl, hb, hR⟩
    refine ⟨rfl, ⟨hb, hR⟩, ?_⟩
    rw [hb.block w.heap.size (Nat.lt_succ_self _) (fun e => Nat.lt_irrefl _ (hms _ e))]
    exact heap_alloc_new w _
  · rintro e w' ⟨rfl, w1, ⟨hb, hR⟩, rfl⟩
    refine ⟨rfl, ?_, w1, hR, fun k hk => Below.heap_setCell _ _ _ _ (fun e => by subst e; exact Nat.lt_irrefl _ hk)⟩
    have h0 : But ms w.heap.size w (w.alloc (.cells #[.int .i64 0] 32)) := But.of ((Below.refl _ w).alloc (Nat.le_refl _) _)
    exact (h0.trans (hb.mono (Nat.le_succ _))).setCell (p := ⟨w.heap.size, 0, none⟩) (.inr (Nat.le_refl _)) _

/-- catch, where the function that it runs panics with a fault. -/
theorem vcatch_no (f : FuncId) (cap : Array Value) (n : Int) (w : World) (hent : ∀ w, (callFunc f cap).run Tryz.prog w = .ok (.enter f cap) w)
    (h : Calls Tryz.prog f cap (w.alloc (.cells #[.int .i64 0] 32)) fun e w' => e = .panicked [{ v := .iface 67 (.agg #[.int .i64 n]), recovered := false }] ∧ Below (w.heap.size + 1) (w.alloc (.cells #[.int .i64 0] 32)) w') :
    Calls Tryz.prog 34 #[.func (.func f) #[] cap] w fun e w' => e = .returned (.int .i64 n) ∧ Below w.heap.size w w' := by
  refine (vcatch_fault f cap n w (fun w' => Below (w.heap.size + 1) (w.alloc (.cells #[.int .i64 0] 32)) w') hent (h.mono ?_)).mono ?_
  · rintro e w' ⟨rfl, hb⟩
    refine ⟨rfl, hb, ?_⟩
    rw [hb.block w.heap.size (Nat.lt_succ_self _)]
    exact heap_alloc_new w _
  · rintro e w' ⟨rfl, w1, hb, rfl⟩
    refine ⟨rfl, ?_⟩
    have h0 : Below w.heap.size w (w.alloc (.cells #[.int .i64 0] 32)) := (Below.refl _ w).alloc (Nat.le_refl _) _
    have h1 := h0.trans (hb.mono (Nat.le_succ _))
    exact (h1.alloc (Nat.le_trans h0.size hb.size) _).setCell (p := ⟨w.heap.size, 0, none⟩) (Nat.le_refl _) _

end Go.Proofs.YtkbhmkofflcpjaaGreatDoor

namespace Go.Proofs.YtkbhmkofflcpjaaGreatDoor
open Go.RowKit

/-- What a reader of package verb comes to: a value, or the panic with the error n. -/
def wrongV (n : Int) : Ending := .panicked [{ v := .iface 67 (.agg #[.int .i64 n]), recovered := false }]
def endO (o : Option Value) : Ending := match o with | some v => .returned v | none => wrongV 8
def strV (l : List UInt8) : Value := .string ⟨l.toArray⟩

theorem fold_low (x y : UInt8) : Lib.foldEq x y = (lowC x == lowC y) := by
  have hx := x.toNat_lt
  have hy := y.toNat_lt
  have e : ∀ c : UInt8, (lowC c).toNat = if 65 ≤ c.toNat ∧ c.toNat ≤ 90 then c.toNat + 32 else c.toNat := fun c => by
    unfold lowC capB
    by_cases h : 65 ≤ c.toNat ∧ c.toNat ≤ 90
    · rw [if_pos h, decide_eq_true h.1, decide_eq_true h.2, Bool.and_self, if_pos rfl, UInt8.toNat_add]
      show (c.toNat + 32) % 256 = _
      omega
    · rw [if_neg h, if_neg]
      simp only [Bool.and_eq_true, decide_eq_true_eq]
      exact h
  have e2 : (lowC x == lowC y) = decide ((lowC x).toNat = (lowC y).toNat) := by
    rw [Bool.eq_iff_iff, beq_iff_eq, decide_eq_true_eq]
    exact UInt8.toNat_inj.symm
  rw [e2, e, e]
  unfold Lib.foldEq
  apply decide_eq_decide.2
  repeat' split
  all_goals omega
theorem equalFold_low : ∀ (s t : List UInt8), s.length = t.length → Lib.equalFold s t = (lowL s == lowL t) := by
  intro s
  induction s with
  | nil =>
    intro t h
    cases t with
    | nil => rfl
    | cons y t => simp at h
  | cons x s ih =>
    intro t h
    cases t with
    | nil => simp at h
    | cons y t =>
      have e : (lowL (x :: s) == lowL (y :: t)) = ((lowC x == lowC y) && (lowL s == lowL t)) := rfl
      rw [e, ← fold_low]
      cases hf : Lib.foldEq x y with
      | true => rw [Lib.equalFold_yes _ _ _ _ hf, ih t (by simpa using h), Bool.true_and]
      | false => rw [Lib.equalFold_no _ _ _ _ hf, Bool.false_and]

/-- A word that lines are held against. -/
def goodW (wd : List UInt8) : Prop := wd.length ≤ 10 ∧ ∀ y ∈ wd, y.toNat < 128 ∧ y.toNat ≠ 75 ∧ y.toNat ≠ 107 ∧ y.toNat ≠ 115

set_option maxHeartbeats 1000000 in
theorem startsWith_any (s wd : List UInt8) (w : World) (_hs : s.length ≤ 100000) (hw : goodW wd) (hg : Gl w) :
    Calls Tryz.prog 77 #[.string ⟨s.toArray⟩, .string ⟨wd.toArray⟩] w fun e w' => e = .returned (.bool (beginsL s wd)) ∧ Below w.heap.size w w' := by
  by_cases h : wd.length ≤ s.length
  · have hi : (wd.length : Int) ≤ (s.length : Int) := by omega
    have hw1 := hw.1
    have hlt : (s.take wd.length).length = wd.length := by simp; omega
    have HF := fold_any ⟨(s.take wd.length).toArray⟩ ⟨wd.toArray⟩ w hlt (by show (s.take wd.length).length < 1000; omega) (fun j b hj => hw.2 b (List.mem_of_getElem? hj)) hg
    rw [equalFold_low _ _ hlt] at HF
    have HE := Lib.hid (show beginsL s wd = (lowL (s.take wd.length) == lowL wd) by simp [beginsL, h])
    have HF2 := Lib.hid HF
    have hex : (⟨s.toArray⟩ : ByteArray).extract 0 wd.length = ⟨(s.take wd.length).toArray⟩ := by rw [ext_eq]; rfl
    clear HF hw hg h hlt
    go_enter Tryz.func77, Tryz.ntmps77
    go_wp2_with fail
    refine Calls.mono HF2.out ?_
    rintro e w1 ⟨rfl, hb⟩
    have HB := Lib.hid hb
    clear hb
    go_wp2_with fail
    go_ret
    exact ⟨ret_bool HE.out.symm, HB.out⟩
  · have hi : ¬ ((wd.length : Int) ≤ (s.length : Int)) := by omega
    have HE := Lib.hid (show beginsL s wd = false by simp [beginsL, h])
    clear h
    go_enter Tryz.func77, Tryz.ntmps77
    go_wp2_with fail
    go_ret
    exact ⟨ret_bool HE.out.symm, Below.refl _ _⟩

theorem callsGood {f : FuncId} {args : Array Value} {w : World} {v : Value} {o : Option Value} {R : World → Prop} (h : Calls Tryz.prog f args w fun e w' => e = endO o ∧ R w') (ho : o = some v) : Calls Tryz.prog f args w fun e w' => e = .returned v ∧ R w' := by subst ho; exact h
theorem callsBad {f : FuncId} {args : Array Value} {w : World} {o : Option Value} {R : World → Prop} (h : Calls Tryz.prog f args w fun e w' => e = endO o ∧ R w') (ho : o = none) : Calls Tryz.prog f args w fun e w' => e = wrongV 8 ∧ R w' := by subst ho; exact h

def pastL (s wd : List UInt8) : Option (List UInt8) := if beginsL s wd then some (s.drop wd.length) else none
def colonL (s wd : List UInt8) : Option (List UInt8) := (pastL s wd).map blankL

theorem past_len {s wd r : List UInt8} (h : pastL s wd = some r) : r.length ≤ s.length := by
  unfold pastL at h
  split at h
  · cases h; simp
  · cases h
theorem colon_len {s wd r : List UInt8} (h : colonL s wd = some r) : r.length ≤ s.length := by
  unfold colonL at h
  cases hp : pastL s wd with
  | none => rw [hp] at h; cases h
  | some q =>
    rw [hp] at h
    cases h
    exact Nat.le_trans (blank_len q) (past_len hp)

theorem endO_some {o : Option Value} {v : Value} (h : o = some v) : Ending.returned v = endO o := by rw [h]; rfl
theorem endO_none {o : Option Value} (h : o = none) : wrongV 8 = endO o := by rw [h]; rfl

set_option maxHeartbeats 1000000 in
theorem readPast_any (s wd : List UInt8) (w : World) (hs : s.length ≤ 100000) (hw : goodW wd) (hg : Gl w) :
    Calls Tryz.prog 57 #[.string ⟨s.toArray⟩, .string ⟨wd.toArray⟩] w fun e w' => e = endO ((pastL s wd).map strV) ∧ Below w.heap.size w w' := by
  have HS := Lib.hid (startsWith_any s wd w hs hw hg)
  cases h : beginsL s wd with
  | true =>
    have HE := Lib.hid (show (pastL s wd).map strV = some (strV (s.drop wd.length)) by simp [pastL, h])
    have hwl := (begins_iff h).1
    have hi : (wd.length : Int) ≤ (s.length : Int) := by omega
    have hex := ext_drop s wd.length s.length rfl
    rw [h] at HS
    clear h hg hw hwl
    go_enter Tryz.func57, Tryz.ntmps57
    go_wp2_with fail
    refine Calls.mono HS.out ?_
    rintro e w1 ⟨rfl, hb⟩
    have HB := Lib.hid hb
    clear hb
    go_wp2_with fail
    go_ret
    exact ⟨endO_some HE.out, HB.out⟩
  | false =>
    have HE := Lib.hid (show (pastL s wd).map strV = none by simp [pastL, h])
    rw [h] at HS
    clear h hg hw
    go_enter Tryz.func57, Tryz.ntmps57
    go_wp2_with fail
    refine Calls.mono HS.out ?_
    rintro e w1 ⟨rfl, hb⟩
    have HB := Lib.hid hb
    clear hb
    go_wp2_with fail
    exact ⟨rfl, endO_none HE.out, HB.out⟩

theorem trim_blank (r : List UInt8) : Lib.trimPrefix r [32] = blankL r := by
  cases r with
  | nil => rfl
  | cons c t =>
    by_cases h : c = 32
    · subst h; rfl
    · have h1 : ¬ ((c :: t).head? = some 32) := by simpa using h
      rw [blankL, if_neg h1]
      unfold Lib.trimPrefix
      rw [if_neg]
      simp [Lib.hasPrefix, Ne.symm h]

theorem readColon_any (s wd : List UInt8) (w : World) (hs : s.length ≤ 100000) (hw : goodW wd) (hg : Gl w) :
    Calls Tryz.prog 59 #[.string ⟨s.toArray⟩, .string ⟨wd.toArray⟩] w fun e w' => e = endO ((colonL s wd).map strV) ∧ Below w.heap.size w w' := by
  have HP := Lib.hid (readPast_any s wd w hs hw hg)
  cases h : pastL s wd with
  | some r =>
    have HE := Lib.hid (show (colonL s wd).map strV = some (strV (blankL r)) by simp [colonL, h])
    have HT := Lib.hid (fun W => Tryz.strings_TrimPrefix ⟨r.toArray⟩ ⟨#[32]⟩ W)
    have HV := Lib.hid (show (⟨(Lib.trimPrefix r [32]).toArray⟩ : ByteArray) = ⟨(blankL r).toArray⟩ by rw [trim_blank])
    have HP2 := Lib.hid (callsGood HP.out (show (pastL s wd).map strV = some (.string ⟨r.toArray⟩) by rw [h]; rfl))
    clear h hg hw HP
    go_enter Tryz.func59, Tryz.ntmps59
    go_wp2_with fail
    refine Calls.mono HP2.out ?_
    rintro e w1 ⟨rfl, hb⟩
    have HB := Lib.hid hb
    clear hb
    go_wp2_with fail
    refine Calls.mono (HT.out _) ?_
    rintro e w2 ⟨rfl, rfl⟩
    go_wp2_with fail
    go_ret
    exact ⟨(congrArg (fun b => Ending.returned (.string b)) HV.out).trans (endO_some HE.out), HB.out⟩
  | none =>
    have HE := Lib.hid (show (colonL s wd).map strV = none by simp [colonL, h])
    have HP2 := Lib.hid (callsBad HP.out (show (pastL s wd).map strV = none by rw [h]; rfl))
    clear h hg hw HP
    go_enter Tryz.func59, Tryz.ntmps59
    go_wp2_with fail
    refine Calls.mono HP2.out ?_
    rintro e w1 ⟨rfl, hb⟩
    exact ⟨rfl, endO_none HE.out, hb⟩

/-- The domain that a text is. -/
def domO (s : List UInt8) : Option (List UInt8) := if domL (lowL s) then some (lowL s) else none

theorem vreadDomain_any (s : List UInt8) (w : World) (hs : s.length ≤ 100000) :
    Calls Tryz.prog 56 #[.string ⟨s.toArray⟩] w fun e w' => e = endO ((domO s).map strV) ∧ Below w.heap.size w w' := by
  have HD := Lib.hid (domain_any s w hs)
  cases h : domL (lowL s) with
  | true =>
    have HE := Lib.hid (show (domO s).map strV = some (strV (lowL s)) by simp [domO, h])
    have HD2 := Lib.hid (show Calls Tryz.prog 70 #[.string ⟨s.toArray⟩] w fun e w' => e = .returned (.tuple #[.string ⟨(lowL s).toArray⟩, .int .i64 0]) ∧ Below w.heap.size w w' by
      have := HD.out
      rwa [show domT s = lowL s by simp [domT, h], show domN s = 0 by simp [domN, h]] at this)
    clear h HD
    go_enter Tryz.func56, Tryz.ntmps56
    go_wp2_with fail
    refine Calls.mono HD2.out ?_
    rintro e w1 ⟨rfl, hb⟩
    have HB := Lib.hid hb
    clear hb
    go_wp2_with fail
    go_ret
    exact ⟨endO_some HE.out, HB.out⟩
  | false =>
    have HE := Lib.hid (show (domO s).map strV = none by simp [domO, h])
    have HD2 := Lib.hid (show Calls Tryz.prog 70 #[.string ⟨s.toArray⟩] w fun e w' => e = .returned (.tuple #[.string ⟨#[]⟩, .int .i64 8]) ∧ Below w.heap.size w w' by
      have := HD.out
      rwa [show domT s = [] by simp [domT, h], show domN s = 8 by simp [domN, h]] at this)
    clear h HD
    go_enter Tryz.func56, Tryz.ntmps56
    go_wp2_with fail
    refine Calls.mono HD2.out ?_
    rintro e w1 ⟨rfl, hb⟩
    have HB := Lib.hid hb
    clear hb
    go_wp2_with fail
    exact ⟨rfl, endO_none HE.out, HB.out⟩

/-- What a path is, as readPath hands it on. -/
def boxV (o : Option (List UInt8 × List UInt8)) : Value := .tuple #[.agg #[.string ⟨(o.getD ([], [])).1.toArray⟩, .string ⟨(o.getD ([], [])).2.toArray⟩], .bool o.isNone]

set_option maxHeartbeats 1000000 in
theorem vreadPath_any (s : List UInt8) (w : World) (hs : s.length ≤ 10000) :
    Calls Tryz.prog 60 #[.string ⟨s.toArray⟩] w fun e w' => e = endO ((pathL s).map boxV) ∧ Below w.heap.size w w' := by
  have HA := Lib.hid ((Below.refl _ w).alloc (Nat.le_refl _) (.cells #[.string ⟨#[]⟩, .string ⟨#[]⟩] 25))
  have HM := Lib.hid (MAt.new w [] [])
  have HP := Lib.hid (fun W => path_any s W hs)
  cases h : pathL s with
  | some o =>
    have HE := Lib.hid (show (some o).map boxV = some (boxV o) from rfl)
    rw [h] at HP
    have hv : pathV (some o) = .tuple #[.agg #[.string ⟨(o.getD ([], [])).1.toArray⟩, .string ⟨(o.getD ([], [])).2.toArray⟩], .bool o.isNone, .int .i64 0] := by cases o <;> rfl
    rw [hv] at HP
    have HV := Lib.hid (show boxV o = .tuple #[.agg #[.string ⟨(o.getD ([], [])).1.toArray⟩, .string ⟨(o.getD ([], [])).2.toArray⟩], .bool o.isNone] from rfl)
    clear hv h
    generalize (o.getD ([], [])).1 = l at *
    generalize (o.getD ([], [])).2 = d at *
    generalize o.isNone = x at *
    go_enter Tryz.func60, Tryz.ntmps60
    go_wp2_with fail
    refine Calls.mono (HP.out _) ?_
    rintro e w1 ⟨rfl, hb⟩
    have HB := Lib.hid (HA.out.trans (hb.mono (by simp)))
    have hm := HM.out.later hb
    have HM1 := Lib.hid hm
    have c0 := hm.c0
    have c1 := hm.c1
    have z0 := hm.fz 0
    have z1 := hm.fz 1
    clear hb hm
    have f0 := (HM1.out.set l d).c0
    have f1 := (HM1.out.set l d).c1
    have g0 := (HM1.out.set l d).fz 0
    have g1 := (HM1.out.set l d).fz 1
    go_wp2_with fail
    have k0 := ((HM1.out.set l d).set l d).c0
    have k1 := ((HM1.out.set l d).set l d).c1
    refine bodyPost_ret (v := .tuple #[.agg #[.string ⟨l.toArray⟩, .string ⟨d.toArray⟩], .bool x]) (by simp [results, Tryz.results60, go_sem, k0, k1]) rfl ⟨?_, ?_⟩
    · rw [HE.out, HV.out]
      rfl
    · exact (((HB.out.setCell (p := ⟨w.heap.size, 0, none⟩) (Nat.le_refl _) _).setCell (p := ⟨w.heap.size, 1, none⟩) (Nat.le_refl _) _).setCell (p := ⟨w.heap.size, 0, none⟩) (Nat.le_refl _) _).setCell (p := ⟨w.heap.size, 1, none⟩) (Nat.le_refl _) _
  | none =>
    rw [h] at HP
    have hv : pathV none = .tuple #[.agg #[.string ⟨#[]⟩, .string ⟨#[]⟩], .bool false, .int .i64 8] := rfl
    rw [hv] at HP
    clear hv h
    go_enter Tryz.func60, Tryz.ntmps60
    go_wp2_with fail
    refine Calls.mono (HP.out _) ?_
    rintro e w1 ⟨rfl, hb⟩
    have HB := Lib.hid (HA.out.trans (hb.mono (by simp)))
    have hm := HM.out.later hb
    have c0 := hm.c0
    have c1 := hm.c1
    have z0 := hm.fz 0
    have z1 := hm.fz 1
    clear hb hm
    go_wp2_with fail
    exact ⟨rfl, rfl, (HB.out.setCell (p := ⟨w.heap.size, 0, none⟩) (Nat.le_refl _) _).setCell (p := ⟨w.heap.size, 1, none⟩) (Nat.le_refl _) _⟩
end Go.Proofs.YtkbhmkofflcpjaaGreatDoor

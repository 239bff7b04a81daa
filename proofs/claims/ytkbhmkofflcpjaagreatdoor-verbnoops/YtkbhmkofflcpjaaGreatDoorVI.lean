/-
  isWord, isWords and readWords of package verb, walked: words with single blanks between them.
  Conditions: as each theorem states them.
-/
import Derived.Test.YtkbhmkofflcpjaaGreatDoorVG
import Derived.Test.YtkbhmkofflcpjaaGreatDoorS
import Derived.Test.YtkbhmkofflcpjaaGreatDoorShelfS
import Derived.Lib.SplitLaws
import Derived.Test.YtkbhmkofflcpjaaGreatDoorU
namespace Go.Proofs.YtkbhmkofflcpjaaGreatDoor
open Go.RowKit

theorem splitK_eq (c : UInt8) : ∀ (n : Nat) (s : List UInt8), s.length ≤ n → Lib.splitK [c] 0 (s.count c) s = splitB c s := by
  intro n
  induction n with
  | zero =>
    intro s h
    obtain rfl : s = [] := List.eq_nil_of_length_eq_zero (by omega)
    rfl
  | succ n ih =>
    intro s h
    by_cases hc : c ∈ s
    · obtain ⟨p, r, hp, rfl, hi⟩ := index_yes hc
      have h1 : (p ++ c :: r).count c = r.count c + 1 := by
        rw [List.count_append, List.count_eq_zero.2 hp, List.count_cons_self]
        omega
      have h2 : Lib.index (p ++ c :: r) [c] = (p.length : Int) := by rw [Lib.index_one]; exact hi
      rw [h1, Lib.splitK, if_neg (by rw [h2]; simp), h2, split_some hp]
      have e1 : (p ++ c :: r).take (((p.length : Int)).toNat + 0) = p := by simp
      have e2 : (p ++ c :: r).drop (((p.length : Int)).toNat + [c].length) = r := by
        rw [show p ++ c :: r = (p ++ [c]) ++ r by simp]
        exact List.drop_left' (by simp)
      rw [e1, e2, ih r (by simp at h; omega)]
    · rw [List.count_eq_zero.2 hc, split_none hc]
      rfl
theorem split_lib (c : UInt8) (s : List UInt8) : Lib.splitB ⟨#[c]⟩ 0 (Lib.countB ⟨s.toArray⟩ ⟨#[c]⟩) ⟨s.toArray⟩ = (splitB c s).map (fun p => (⟨p.toArray⟩ : ByteArray)) := by
  have h1 : Lib.countB ⟨s.toArray⟩ ⟨#[c]⟩ = s.count c := Lib.count_one c s
  have h2 := Lib.splitB_data ⟨#[c]⟩ 0 (s.count c) ⟨s.toArray⟩
  rw [h1]
  have h3 : (Lib.splitB ⟨#[c]⟩ 0 (s.count c) ⟨s.toArray⟩).map (·.data.toList) = splitB c s := h2.trans (splitK_eq c s.length s (Nat.le_refl _))
  rw [← h3, List.map_map]
  conv => lhs; rw [← List.map_id (Lib.splitB ⟨#[c]⟩ 0 (s.count c) ⟨s.toArray⟩)]
  refine List.map_congr_left fun b _ => ?_
  show b = ⟨(b.data.toList).toArray⟩
  rw [Lib.mk_data]

/-- The cells of some texts. -/
def rowCells (l : List (List UInt8)) : Array Value := (l.map fun p => Value.string ⟨p.toArray⟩).toArray

theorem split_blank (s : List UInt8) (w : World) (hs : s.length ≤ 100000) (hg : Gl w) :
    Calls Tryz.prog 73 #[.string ⟨s.toArray⟩, .string ⟨#[32]⟩] w fun e w' => e = .returned (.slice (some ⟨w.heap.size, 0, none⟩) (splitB 32 s).length (splitB 32 s).length) ∧ w' = w.alloc (.cells (rowCells (splitB 32 s)) 9) := by
  obtain ⟨m, hm⟩ := hg.ml
  refine (Tryz.strings_Split ⟨s.toArray⟩ ⟨#[32]⟩ m w (by show s.length < 4294967281; omega) hm (by decide)).mono ?_
  rintro e w' ⟨rfl, rfl⟩
  have h1 : Lib.countB ⟨s.toArray⟩ ⟨#[32]⟩ + 1 = (splitB 32 s).length := by
    rw [split_len]
    exact congrArg (· + 1) (Lib.count_one 32 s)
  rw [h1, split_lib, List.map_map]
  exact ⟨rfl, rfl⟩

def wordOk (p : List UInt8) : Bool := !p.isEmpty && p.all seenB
theorem words_eq (s : List UInt8) : wordsL s = (decide (s.length ≤ 64) && (splitB 32 s).all wordOk) := rfl

theorem all_take {s : List UInt8} {k : Nat} (h : k < s.length) (ha : (s.take k).all seenB = true) (hc : seenB s[k] = true) : (s.take (k + 1)).all seenB = true := by
  rw [List.take_add_one, List.getElem?_eq_getElem h, List.all_append, ha]
  simp [hc]

set_option maxHeartbeats 1000000 in
theorem visWord_any (s : List UInt8) (w : World) (hs : s.length ≤ 100000) :
    Calls Tryz.prog 74 #[.string ⟨s.toArray⟩] w fun e w' => e = .returned (.bool (wordOk s)) ∧ w = w' := by
  go_enter Tryz.func74, Tryz.ntmps74
  go_wp2_with fail
  go_loopg [6] s.length (fun g s6 wx => w = wx ∧ ∃ k : Nat, k + g = s.length ∧ s6 = .int .i64 k ∧ (s.take k).all seenB = true)
  case atStart => exact ⟨rfl, 0, by omega, rfl, rfl⟩
  case round =>
    obtain ⟨rfl, k, hkg, rfl, ha⟩ := hrel
    have HA := Lib.hid ha
    clear ha
    cases gk with
    | zero =>
      obtain rfl : k = s.length := by omega
      have hi : ¬ ((s.length : Int) < (s.length : Int)) := by omega
      cases hs0 : s with
      | nil =>
        have HE := Lib.hid (show wordOk s = false by rw [hs0]; rfl)
        rw [hs0] at HE
        go_wp2_with fail
        go_ret
        exact ⟨ret_bool HE.out.symm, rfl⟩
      | cons x y =>
        have HE := Lib.hid (show wordOk s = true by
          have := HA.out
          rw [List.take_length] at this
          rw [wordOk, this, hs0]
          rfl)
        rw [← hs0]
        have hne := ne_empty (show s ≠ [] by rw [hs0]; exact List.cons_ne_nil _ _)
        have hn2 : (s == []) = false := by rw [hs0]; rfl
        clear hs0
        go_wp2_with fail
        go_ret
        exact ⟨ret_bool HE.out.symm, rfl⟩
    | succ g =>
      have hk : k < s.length := by omega
      have hi : (k : Int) < (s.length : Int) := by omega
      have hB : k < (⟨s.toArray⟩ : ByteArray).size := hk
      obtain ⟨c, hc⟩ : ∃ c : UInt8, (⟨s.toArray⟩ : ByteArray)[k]'hB = c := ⟨_, rfl⟩
      have HC := Lib.hid (show s[k] = c from hc)
      by_cases h1 : 33 ≤ c.toNat
      · have h1i : ¬ ((c.toNat : Int) ≤ 32) := by omega
        by_cases h2 : c.toNat ≤ 126
        · have h2i : ¬ ((126 : Int) < (c.toNat : Int)) := by omega
          have HS := Lib.hid (all_take hk HA.out (by rw [HC.out]; simp [seenB, h1, h2]))
          clear h1 h2
          go_wp2_with fail
          go_roundg g
          case measure => omega
          case rel => exact ⟨rfl, k + 1, by omega, by simp, HS.out⟩
        · have h2i : (126 : Int) < (c.toNat : Int) := by omega
          have HE := Lib.hid (show wordOk s = false by
            have : s.all seenB = false := List.all_eq_false.2 ⟨s[k], List.getElem_mem hk, by rw [HC.out]; simp [seenB, h2]⟩
            rw [wordOk, this, Bool.and_false])
          clear h1 h2
          go_wp2_with fail
          go_ret
          exact ⟨ret_bool HE.out.symm, rfl⟩
      · have h1i : (c.toNat : Int) ≤ 32 := by omega
        have HE := Lib.hid (show wordOk s = false by
          have : s.all seenB = false := List.all_eq_false.2 ⟨s[k], List.getElem_mem hk, by rw [HC.out]; simp [seenB, h1]⟩
          rw [wordOk, this, Bool.and_false])
        clear h1
        go_wp2_with fail
        go_ret
        exact ⟨ret_bool HE.out.symm, rfl⟩

set_option maxHeartbeats 1000000 in
theorem visWords_any (s : List UInt8) (w : World) (hs : s.length ≤ 100000) (hg : Gl w) :
    Calls Tryz.prog 51 #[.string ⟨s.toArray⟩] w fun e w' => e = .returned (.bool (wordsL s)) ∧ Below w.heap.size w w' := by
  by_cases h : s.length ≤ 64
  · have hi : ¬ ((64 : Int) < (s.length : Int)) := by omega
    have HW := Lib.hid (show wordsL s = (splitB 32 s).all wordOk by rw [words_eq, decide_eq_true h, Bool.true_and])
    have HS := Lib.hid (split_blank s w hs hg)
    have HL := Lib.hid (fun p (hp : p ∈ splitB 32 s) => split_short hp)
    have hln : (splitB 32 s).length ≤ 65 := by
      have := split_len 32 s
      have := List.count_le_length (a := (32 : UInt8)) (l := s)
      omega
    clear hg h
    generalize splitB 32 s = rows at *
    have HA := Lib.hid ((Below.refl _ w).alloc (Nat.le_refl _) (.cells (rowCells rows) 9))
    have HC : Hid (∀ k (hk : k < rows.length), (w.alloc (.cells (rowCells rows) 9)).cell? ⟨w.heap.size, k, none⟩ = some (.string ⟨rows[k].toArray⟩)) := Lib.hid fun k hk => by
      have h1 : (w.alloc (.cells (rowCells rows) 9)).heap[w.heap.size]? = some (.cells (rowCells rows) 9 (0, 0)) := heap_alloc_new w _
      simp only [World.cell?, h1]
      simp [rowCells, hk]
    generalize w.alloc (.cells (rowCells rows) 9) = W at *
    go_enter Tryz.func51, Tryz.ntmps51
    go_wp2_with fail
    refine Calls.mono HS.out ?_
    rintro e w1 ⟨rfl, hw1⟩
    obtain rfl := hw1.symm
    clear hw1
    go_wp2_with fail
    go_loopg [11] rows.length (fun g s11 wx => W = wx ∧ ∃ k : Nat, k + g = rows.length ∧ s11 = .int .i64 k ∧ (rows.take k).all wordOk = true)
    case atStart => exact ⟨rfl, 0, by omega, rfl, rfl⟩
    case round =>
      obtain ⟨rfl, k, hkg, rfl, ha⟩ := hrel
      have HK := Lib.hid ha
      clear ha
      cases gk with
      | zero =>
        have hi2 : ¬ ((k : Int) < (rows.length : Int)) := by omega
        have HE := Lib.hid (show wordsL s = true by
          have := HK.out
          rw [List.take_of_length_le (by omega)] at this
          rw [HW.out, this])
        go_wp2_with fail
        go_ret
        exact ⟨ret_bool HE.out.symm, HA.out⟩
      | succ g =>
        have hk : k < rows.length := by omega
        have hi2 : (k : Int) < (rows.length : Int) := by omega
        have hc := HC.out k hk
        have hk0 : (0 : Int) ≤ (k : Int) := by omega
        have hpl := HL.out rows[k] (List.getElem_mem hk)
        have HP := Lib.hid (visWord_any rows[k] W (by omega))
        cases hw : wordOk rows[k] with
        | true =>
          have HN := Lib.hid (show (rows.take (k + 1)).all wordOk = true by
            rw [List.take_add_one, List.getElem?_eq_getElem hk, List.all_append, HK.out]
            simp [hw])
          rw [hw] at HP
          clear hw
          generalize rows[k] = p at *
          go_wp2_with fail
          refine Calls.mono HP.out ?_
          rintro e w2 ⟨rfl, rfl⟩
          go_wp2_with fail
          go_roundg g
          case measure => omega
          case rel => exact ⟨rfl, k + 1, by omega, by simp, HN.out⟩
        | false =>
          have HE := Lib.hid (show wordsL s = false by
            rw [HW.out]
            exact List.all_eq_false.2 ⟨rows[k], List.getElem_mem hk, by simp [hw]⟩)
          rw [hw] at HP
          clear hw
          generalize rows[k] = p at *
          go_wp2_with fail
          refine Calls.mono HP.out ?_
          rintro e w2 ⟨rfl, rfl⟩
          go_wp2_with fail
          go_ret
          exact ⟨ret_bool HE.out.symm, HA.out⟩
  · have hi : (64 : Int) < (s.length : Int) := by omega
    have HW := Lib.hid (show wordsL s = false by rw [words_eq, decide_eq_false h, Bool.false_and])
    clear h hg
    go_enter Tryz.func51, Tryz.ntmps51
    go_wp2_with fail
    go_ret
    exact ⟨ret_bool HW.out.symm, Below.refl _ _⟩

def wordsO (s : List UInt8) : Option (List UInt8) := if wordsL s then some s else none

theorem vreadWords_any (s : List UInt8) (w : World) (hs : s.length ≤ 100000) (hg : Gl w) :
    Calls Tryz.prog 63 #[.string ⟨s.toArray⟩] w fun e w' => e = endO ((wordsO s).map strV) ∧ Below w.heap.size w w' := by
  have HS := Lib.hid (visWords_any s w hs hg)
  clear hg
  cases h : wordsL s with
  | true =>
    have HE := Lib.hid (show (wordsO s).map strV = some (strV s) by simp [wordsO, h])
    rw [h] at HS
    clear h
    go_enter Tryz.func63, Tryz.ntmps63
    go_wp2_with fail
    refine Calls.mono HS.out ?_
    rintro e w1 ⟨rfl, hb⟩
    have HB := Lib.hid hb
    clear hb
    go_wp2_with fail
    go_ret
    exact ⟨endO_some HE.out, HB.out⟩
  | false =>
    have HE := Lib.hid (show (wordsO s).map strV = none by simp [wordsO, h])
    rw [h] at HS
    clear h
    go_enter Tryz.func63, Tryz.ntmps63
    go_wp2_with fail
    refine Calls.mono HS.out ?_
    rintro e w1 ⟨rfl, hb⟩
    have HB := Lib.hid hb
    clear hb
    go_wp2_with fail
    exact ⟨rfl, endO_none HE.out, HB.out⟩
end Go.Proofs.YtkbhmkofflcpjaaGreatDoor

namespace Go.Proofs.YtkbhmkofflcpjaaGreatDoor
open Go.RowKit

/-- How many bytes the path at the beginning takes, if one ends. -/
def cutL : Bool → List UInt8 → Option Nat
  | _, [] => none
  | q, [c] => if q = true ∧ c = 92 then none else if c = 34 then none else if c = 62 ∧ q = false then some 1 else none
  | q, c :: e :: t => if q = true ∧ c = 92 then (cutL q t).map (· + 2) else if c = 34 then (cutL (!q) (e :: t)).map (· + 1) else if c = 62 ∧ q = false then some 1 else (cutL q (e :: t)).map (· + 1)

theorem cut_nil (q : Bool) : cutL q [] = none := by simp [cutL]
theorem cut_pair (t : List UInt8) : cutL true (92 :: t) = (cutL true (t.drop 1)).map (· + 2) := by
  cases t with
  | nil => simp [cutL]
  | cons e t => simp [cutL]
theorem cut_quote (q : Bool) (t : List UInt8) : cutL q (34 :: t) = (cutL (!q) t).map (· + 1) := by
  cases t with
  | nil => simp [cutL]
  | cons e t => simp [cutL]
theorem cut_close (t : List UInt8) : cutL false (62 :: t) = some 1 := by
  cases t with
  | nil => simp [cutL]
  | cons e t => simp [cutL]
theorem cut_other {q : Bool} {c : UInt8} (t : List UInt8) (h1 : ¬ (q = true ∧ c = 92)) (h2 : c ≠ 34) (h3 : ¬ (c = 62 ∧ q = false)) : cutL q (c :: t) = (cutL q t).map (· + 1) := by
  cases t with
  | nil =>
    rw [cut_nil]
    simp only [cutL]
    rw [if_neg h1, if_neg h2, if_neg h3]
    rfl
  | cons e t => rw [cutL, if_neg h1, if_neg h2, if_neg h3]

theorem cut_pe : ∀ (n : Nat) (q : Bool) (s : List UInt8), s.length ≤ n → (∀ m, cutL q s = some m → peL q s = m ∧ m ≤ s.length) ∧ (cutL q s = none → peL q s = s.length) := by
  intro n
  induction n with
  | zero =>
    intro q s h
    obtain rfl : s = [] := List.eq_nil_of_length_eq_zero (by omega)
    refine ⟨fun m hm => ?_, fun _ => ?_⟩
    · rw [cut_nil] at hm; cases hm
    · simp [peL]
  | succ n ih =>
    intro q s h
    cases s with
    | nil =>
      refine ⟨fun m hm => ?_, fun _ => ?_⟩
      · rw [cut_nil] at hm; cases hm
      · simp [peL]
    | cons c t =>
      have ht : t.length ≤ n := by simpa using h
      by_cases h1 : q = true ∧ c = 92
      · obtain ⟨rfl, rfl⟩ := h1
        rw [cut_pair]
        cases t with
        | nil =>
          refine ⟨fun m hm => ?_, fun _ => ?_⟩
          · rw [List.drop_nil, cut_nil] at hm; cases hm
          · simp [peL]
        | cons e u =>
          obtain ⟨i1, i2⟩ := ih true u (by simp at ht; omega)
          rw [pe_pair]
          refine ⟨fun m hm => ?_, fun hm => ?_⟩
          · obtain ⟨k, hk, rfl⟩ := Option.map_eq_some_iff.1 hm
            obtain ⟨j1, j2⟩ := i1 k hk
            refine ⟨by omega, ?_⟩
            simp
            simpa using j2
          · have := i2 (Option.map_eq_none_iff.1 hm)
            simp
            omega
      · by_cases h2 : c = 34
        · subst h2
          obtain ⟨i1, i2⟩ := ih (!q) t ht
          rw [cut_quote, pe_quote]
          refine ⟨fun m hm => ?_, fun hm => ?_⟩
          · obtain ⟨k, hk, rfl⟩ := Option.map_eq_some_iff.1 hm
            obtain ⟨j1, j2⟩ := i1 k hk
            exact ⟨by omega, by simpa using j2⟩
          · have := i2 (Option.map_eq_none_iff.1 hm)
            simp
            omega
        · by_cases h3 : c = 62 ∧ q = false
          · obtain ⟨rfl, rfl⟩ := h3
            rw [cut_close, pe_close]
            refine ⟨fun m hm => ?_, fun hm => ?_⟩
            · cases hm
              simp
            · cases hm
          · obtain ⟨i1, i2⟩ := ih q t ht
            rw [cut_other t h1 h2 h3, pe_other t h2 h1 h3]
            refine ⟨fun m hm => ?_, fun hm => ?_⟩
            · obtain ⟨k, hk, rfl⟩ := Option.map_eq_some_iff.1 hm
              obtain ⟨j1, j2⟩ := i1 k hk
              exact ⟨by omega, by simpa using j2⟩
            · have := i2 (Option.map_eq_none_iff.1 hm)
              simp
              omega

/-- Some bytes without quotes and without an end are passed over. -/
theorem cut_skip {u : List UInt8} (h : ∀ c ∈ u, c ≠ 34 ∧ c ≠ 62) (t : List UInt8) : cutL false (u ++ t) = (cutL false t).map (· + u.length) := by
  induction u with
  | nil => simp
  | cons c u ih =>
    have hc := h c List.mem_cons_self
    rw [List.cons_append, cut_other _ (by simp) hc.1 (by simp [hc.2]), ih (fun x hx => h x (List.mem_cons_of_mem _ hx)), Option.map_map]
    cases cutL false t with
    | none => rfl
    | some k =>
      show some (k + u.length + 1) = some (k + (u.length + 1))
      rw [Nat.add_assoc]

/-- What stands between quotes is passed over. -/
theorem cut_rq : ∀ (n : Nat) {t acc x r : List UInt8}, t.length ≤ n → rq acc t = some (x, r) → ∃ k, cutL true t = (cutL false r).map (· + k) := by
  intro n
  induction n with
  | zero =>
    intro t acc x r hn h
    obtain rfl : t = [] := List.eq_nil_of_length_eq_zero (by omega)
    cases h
  | succ n ih =>
    intro t acc x r hn h
    cases t with
    | nil => cases h
    | cons c t =>
      have hn' : t.length ≤ n := by simpa using hn
      by_cases h1 : c = 34
      · subst h1
        rw [rq_end] at h
        cases h
        exact ⟨1, by rw [cut_quote]; rfl⟩
      · by_cases h2 : c = 92
        · subst h2
          cases t with
          | nil => rw [rq_cut] at h; cases h
          | cons d u =>
            rw [rq_pair] at h
            split at h
            · obtain ⟨k, hk⟩ := ih (by simp at hn'; omega) h
              refine ⟨k + 2, ?_⟩
              rw [cut_pair, List.drop_one, List.tail_cons, hk, Option.map_map]
              congr 1
            · cases h
        · rw [rq_char _ _ h1 h2] at h
          split at h
          · obtain ⟨k, hk⟩ := ih hn' h
            refine ⟨k + 1, ?_⟩
            rw [cut_other _ (by simp [h2]) h1 (by simp), hk, Option.map_map]
            congr 1
          · cases h

theorem low_raw {d : List UInt8} (h : domL (lowL d) = true) : ∀ c ∈ d, c ≠ 34 ∧ c ≠ 62 := by
  intro c hc
  have h1 := dom_not h (lowC c) (List.mem_map_of_mem hc)
  refine ⟨fun e => ?_, fun e => ?_⟩
  · subst e; exact h1.1 (by decide)
  · subst e; exact h1.2 (by decide)

/-- A path ends where it ends. -/
theorem cut_path {r : List UInt8} {o : Option (List UInt8 × List UInt8)} (h : pathL r = some o) : (cutL false r).isSome = true := by
  cases r with
  | nil => cases h
  | cons c t =>
    rw [pathL] at h
    split at h
    · rename_i hc
      obtain ⟨rfl, hl⟩ := hc
      have ht : t = t.dropLast ++ [62] := by
        have hne : t ≠ [] := fun e => by rw [e] at hl; cases hl
        have := List.dropLast_concat_getLast hne
        rw [List.getLast?_eq_some_getLast hne] at hl
        have h3 : t.getLast hne = 62 := by simpa using hl
        rw [h3] at this
        exact this.symm
      rw [cut_other _ (by simp) (by decide) (by simp), Option.isSome_map]
      split at h
      · rename_i he
        rw [ht, he]
        rfl
      · cases hp : parseL t.dropLast with
        | none => rw [hp] at h; cases h
        | some p =>
          clear h
          rw [ht]
          generalize t.dropLast = u at *
          clear ht hl
          obtain ⟨l, d⟩ := p
          unfold parseL at hp
          split at hp
          · cases hp
          · rename_i l' r' hloc
            cases r' with
            | nil => cases hp
            | cons c v =>
              rw [behL] at hp
              split at hp
              · rename_i hcc
                obtain ⟨rfl, hd, hlo⟩ := hcc
                have htail : (cutL false ((64 :: v) ++ [62])).isSome = true := by
                  rw [cut_skip (u := 64 :: v) (fun c hc => by
                    rcases List.mem_cons.1 hc with rfl | hc
                    · decide
                    · exact low_raw hd c hc), Option.isSome_map, cut_close]
                  rfl
                unfold locL at hloc
                split at hloc
                · rename_i hq
                  cases u with
                  | nil => cases hq
                  | cons a u =>
                    obtain rfl : a = 34 := by simpa using hq
                    rw [rdL, if_pos rfl] at hloc
                    cases hr : rq [] u with
                    | none => rw [hr] at hloc; cases hloc
                    | some y =>
                      obtain ⟨x, r2⟩ := y
                      rw [hr] at hloc
                      cases hloc
                      have hr2 : rq [] (u ++ [62]) = some (x, (64 :: v) ++ [62]) := by
                        have key : ∀ (n : Nat) {t acc x r : List UInt8}, t.length ≤ n → rq acc t = some (x, r) → ∀ z, rq acc (t ++ z) = some (x, r ++ z) := by
                          intro n
                          induction n with
                          | zero =>
                            intro t acc x r hn h
                            obtain rfl : t = [] := List.eq_nil_of_length_eq_zero (by omega)
                            cases h
                          | succ n ih =>
                            intro t acc x r hn h z
                            cases t with
                            | nil => cases h
                            | cons c t =>
                              have hn' : t.length ≤ n := by simpa using hn
                              by_cases h1 : c = 34
                              · subst h1
                                rw [rq_end] at h
                                cases h
                                rw [List.cons_append, rq_end]
                              · by_cases h2 : c = 92
                                · subst h2
                                  cases t with
                                  | nil => rw [rq_cut] at h; cases h
                                  | cons d u =>
                                    rw [rq_pair] at h
                                    rw [List.cons_append, List.cons_append, rq_pair]
                                    split at h
                                    · rename_i hpd
                                      rw [if_pos hpd]
                                      exact ih (by simp at hn'; omega) h z
                                    · cases h
                                · rw [rq_char _ _ h1 h2] at h
                                  rw [List.cons_append, rq_char _ _ h1 h2]
                                  split at h
                                  · rename_i hpd
                                    rw [if_pos hpd]
                                    exact ih hn' h z
                                  · cases h
                        exact key u.length (Nat.le_refl _) hr [62]
                      obtain ⟨k, hk⟩ := cut_rq _ (Nat.le_refl _) hr2
                      rw [List.cons_append, cut_quote, Option.isSome_map, Bool.not_false, hk, Option.isSome_map]
                      exact htail
                · rename_i hq
                  split at hloc
                  · simp only [Option.some.injEq, Prod.mk.injEq] at hloc
                    obtain ⟨hl1, hl2⟩ := hloc
                    have hu : u = u.takeWhile (· != 64) ++ u.dropWhile (· != 64) := (List.takeWhile_append_dropWhile (p := fun c : UInt8 => c != 64) (l := u)).symm
                    rw [hl1, hl2] at hu
                    clear hl1 hl2
                    subst hu
                    simp only [localL, Bool.and_eq_true, Bool.or_eq_true, decide_eq_true_eq, Bool.not_eq_true'] at hlo
                    have hpl : plainL l' = true := by
                      rcases hlo.2 with h | h
                      · exact h
                      · obtain ⟨x, rfl, _, _⟩ := quot_iff h
                        exact absurd rfl hq
                    rw [List.append_assoc, cut_skip (fun c hc => by
                      rcases plain_mem hpl hc with rfl | hw
                      · decide
                      · exact word_not hw), Option.isSome_map]
                    exact htail
                  · cases hloc
              · cases hp
    · cases h

def endL (s : List UInt8) : Option Value := if s = [] then some (.tuple #[]) else none
set_option maxHeartbeats 1000000 in
theorem vreadEnd_any (s : List UInt8) (w : World) :
    Calls Tryz.prog 64 #[.string ⟨s.toArray⟩] w fun e w' => e = endO (endL s) ∧ w = w' := by
  cases s with
  | nil =>
    go_enter Tryz.func64, Tryz.ntmps64
    go_wp2_with fail
    go_end0
    exact ⟨rfl, rfl⟩
  | cons x y =>
    have hne := ne_empty (List.cons_ne_nil x y)
    have hn2 : ((x :: y) == []) = false := rfl
    have HE := Lib.hid (show endL (x :: y) = none from if_neg (List.cons_ne_nil x y))
    generalize x :: y = s at *
    go_enter Tryz.func64, Tryz.ntmps64
    go_wp2_with fail
    exact ⟨rfl, endO_none HE.out, rfl⟩

/-- A mailbox, of a path that is not the empty one. -/
def boxO (s : List UInt8) : Option (List UInt8 × List UInt8) := (pathL s).bind id
def mbV (p : List UInt8 × List UInt8) : Value := .agg #[.string ⟨p.1.toArray⟩, .string ⟨p.2.toArray⟩]

set_option maxHeartbeats 1000000 in
theorem vreadBox_any (s : List UInt8) (w : World) (hs : s.length ≤ 10000) :
    Calls Tryz.prog 62 #[.string ⟨s.toArray⟩] w fun e w' => e = endO ((boxO s).map mbV) ∧ Below w.heap.size w w' := by
  have HA := Lib.hid ((Below.refl _ w).alloc (Nat.le_refl _) (.cells #[.string ⟨#[]⟩, .string ⟨#[]⟩] 25))
  have HM := Lib.hid (MAt.new w [] [])
  have HP := Lib.hid (fun W => vreadPath_any s W hs)
  cases h : pathL s with
  | none =>
    have HE := Lib.hid (show (boxO s).map mbV = none by simp [boxO, h])
    rw [h] at HP
    have HP2 := Lib.hid (fun W => callsBad (HP.out W) rfl)
    clear h HP
    go_enter Tryz.func62, Tryz.ntmps62
    go_wp2_with fail
    refine Calls.mono (HP2.out _) ?_
    rintro e w1 ⟨rfl, hb⟩
    exact ⟨rfl, endO_none HE.out, HA.out.trans (hb.mono (by simp))⟩
  | some o =>
    cases o with
    | none =>
      have HE := Lib.hid (show (boxO s).map mbV = none by simp [boxO, h])
      rw [h] at HP
      have HP2 := Lib.hid (fun W => callsGood (HP.out W) (show _ = some (.tuple #[.agg #[.string ⟨#[]⟩, .string ⟨#[]⟩], .bool true]) from rfl))
      clear h HP
      go_enter Tryz.func62, Tryz.ntmps62
      go_wp2_with fail
      refine Calls.mono (HP2.out _) ?_
      rintro e w1 ⟨rfl, hb⟩
      have HB := Lib.hid (HA.out.trans (hb.mono (by simp)))
      clear hb
      go_wp2_with fail
      exact ⟨rfl, endO_none HE.out, HB.out.alloc HB.out.size _⟩
    | some p =>
      obtain ⟨l, d⟩ := p
      have HE := Lib.hid (show (boxO s).map mbV = some (.agg #[.string ⟨l.toArray⟩, .string ⟨d.toArray⟩]) by simp [boxO, h, mbV])
      rw [h] at HP
      have HP2 := Lib.hid (fun W => callsGood (HP.out W) (show _ = some (.tuple #[.agg #[.string ⟨l.toArray⟩, .string ⟨d.toArray⟩], .bool false]) from rfl))
      clear h HP
      go_enter Tryz.func62, Tryz.ntmps62
      go_wp2_with fail
      refine Calls.mono (HP2.out _) ?_
      rintro e w1 ⟨rfl, hb⟩
      have HB := Lib.hid (HA.out.trans (hb.mono (by simp)))
      have hm := HM.out.later hb
      have HM1 := Lib.hid hm
      have HN := Lib.hid (MAt.new w1 l d)
      have hlt : w.heap.size < w1.heap.size := (HM.out.later hb).lt
      have c0 := hm.c0
      have c1 := hm.c1
      have z0 := hm.fz 0
      have z1 := hm.fz 1
      have d0 := HN.out.c0
      have d1 := HN.out.c1
      clear hb hm
      go_wp2_with fail
      have k0 := ((HM1.out.set l d).alloc (.cells #[.string ⟨l.toArray⟩, .string ⟨d.toArray⟩] 25)).c0
      have k1 := ((HM1.out.set l d).alloc (.cells #[.string ⟨l.toArray⟩, .string ⟨d.toArray⟩] 25)).c1
      refine bodyPost_ret (v := .agg #[.string ⟨l.toArray⟩, .string ⟨d.toArray⟩]) (by simp [results, Tryz.results62, go_sem, k0, k1]) rfl ⟨endO_some HE.out, ?_⟩
      have hb2 := (HB.out.setCell (p := ⟨w.heap.size, 0, none⟩) (Nat.le_refl _) (.string ⟨l.toArray⟩)).setCell (p := ⟨w.heap.size, 1, none⟩) (Nat.le_refl _) (.string ⟨d.toArray⟩)
      exact hb2.alloc hb2.size _

def fitsZ (z : Int) : Bool := decide (-1 ≤ z) && decide (z ≤ 1073741824)
theorem vvalidSize_any (z : Int) (w : World) : Calls Tryz.prog 49 #[.int .i64 z] w fun e w' => e = .returned (.bool (fitsZ z)) ∧ w = w' := by
  by_cases h1 : (-1 : Int) ≤ z
  · by_cases h2 : z ≤ 1073741824
    · have HE := Lib.hid (show fitsZ z = true by simp [fitsZ, h1, h2])
      go_enter Tryz.func49, Tryz.ntmps49
      go_wp2_with fail
      go_ret
      exact ⟨ret_bool HE.out.symm, rfl⟩
    · have HE := Lib.hid (show fitsZ z = false by simp [fitsZ, h2])
      go_enter Tryz.func49, Tryz.ntmps49
      go_wp2_with fail
      go_ret
      exact ⟨ret_bool HE.out.symm, rfl⟩
  · have HE := Lib.hid (show fitsZ z = false by simp [fitsZ, h1])
    go_enter Tryz.func49, Tryz.ntmps49
    go_wp2_with fail
    go_ret
    exact ⟨ret_bool HE.out.symm, rfl⟩
end Go.Proofs.YtkbhmkofflcpjaaGreatDoor

namespace Go.Proofs.YtkbhmkofflcpjaaGreatDoor
open Go.RowKit

/-- A path and what follows it. -/
def cutV (s : List UInt8) (n : Nat) : Value := .tuple #[.string ⟨(s.take n).toArray⟩, .string ⟨(s.drop n).toArray⟩]

theorem drop_at' {s : List UInt8} {i : Nat} (h : i < s.length) : s.drop i = s[i] :: s.drop (i + 1) := (List.getElem_cons_drop h).symm

set_option maxHeartbeats 2000000 in
theorem vcutPath_any (s : List UInt8) (w : World) (hs : s.length ≤ 100000) :
    Calls Tryz.prog 58 #[.string ⟨s.toArray⟩] w fun e w' => e = endO ((cutL false s).map (cutV s)) ∧ Below w.heap.size w w' := by
  go_enter Tryz.func58, Tryz.ntmps58
  go_wp2_with fail
  go_loopg [4, 5] (s.length + 1) (fun g s4 s5 wx => w = wx ∧ ∃ (q : Bool) (i : Nat), s4 = .bool q ∧ s5 = .int .i64 i ∧ s.length + 1 ≤ i + g ∧ i ≤ s.length + 1 ∧ cutL false s = (cutL q (s.drop i)).map (· + i))
  case atStart => exact ⟨rfl, false, 0, rfl, rfl, by omega, by omega, by simp⟩
  case round =>
    obtain ⟨rfl, q, i, rfl, rfl, hg, hi, hc⟩ := hrel
    have HC := Lib.hid hc
    clear hc
    by_cases hlt : i < s.length
    · have hii : (i : Int) < (s.length : Int) := by omega
      have hB : i < (⟨s.toArray⟩ : ByteArray).size := hlt
      obtain ⟨c, hcv⟩ : ∃ c : UInt8, (⟨s.toArray⟩ : ByteArray)[i]'hB = c := ⟨_, rfl⟩
      have HD := Lib.hid (show cutL false s = (cutL q (c :: s.drop (i + 1))).map (· + i) by
        rw [HC.out, drop_at' hlt, show s[i] = c from hcv])
      clear HC
      cases gk with
      | zero => omega
      | succ g =>
        by_cases h34 : c = 34
        · subst h34
          have HR := Lib.hid (show cutL false s = (cutL (!q) (s.drop (i + 1))).map (· + (i + 1)) by
            rw [HD.out, cut_quote, Option.map_map]
            congr 1
            funext k
            show k + 1 + i = k + (i + 1)
            omega)
          have hb1 : ((((34 : UInt8).toNat : Nat) : Int) == 92) = false := by decide
          have hb2 : ((((34 : UInt8).toNat : Nat) : Int) == 34) = true := by decide
          cases q with
          | true =>
            go_wp2_with fail
            go_roundg g
            case measure => omega
            case rel => exact ⟨rfl, false, i + 1, rfl, by simp, by omega, by omega, HR.out⟩
          | false =>
            go_wp2_with fail
            go_roundg g
            case measure => omega
            case rel => exact ⟨rfl, true, i + 1, rfl, by simp, by omega, by omega, HR.out⟩
        · have hb34 : ((c.toNat : Int) == 34) = false := byte_ne (d := 34) h34
          cases q with
          | true =>
            by_cases h92 : c = 92
            · have hb92 : ((c.toNat : Int) == 92) = true := by rw [h92]; rfl
              have HR := Lib.hid (show cutL false s = (cutL true (s.drop (i + 2))).map (· + (i + 2)) by
                rw [HD.out, h92, cut_pair, List.drop_drop, Option.map_map]
                congr 1
                funext k
                show k + 2 + i = k + (i + 2)
                omega)
              clear h92
              go_wp2_with fail
              go_roundg g
              case measure => omega
              case rel => exact ⟨rfl, true, i + 2, rfl, by simp; omega, by omega, by omega, HR.out⟩
            · have hb92 : ((c.toNat : Int) == 92) = false := byte_ne (d := 92) h92
              have HR := Lib.hid (show cutL false s = (cutL true (s.drop (i + 1))).map (· + (i + 1)) by
                rw [HD.out, cut_other _ (by simp [h92]) h34 (by simp), Option.map_map]
                congr 1
                funext k
                show k + 1 + i = k + (i + 1)
                omega)
              by_cases h62 : c = 62
              · have hb62 : ((c.toNat : Int) == 62) = true := by rw [h62]; rfl
                clear h62
                go_wp2_with fail
                go_roundg g
                case measure => omega
                case rel => exact ⟨rfl, true, i + 1, rfl, by simp, by omega, by omega, HR.out⟩
              · have hb62 : ((c.toNat : Int) == 62) = false := byte_ne (d := 62) h62
                go_wp2_with fail
                go_roundg g
                case measure => omega
                case rel => exact ⟨rfl, true, i + 1, rfl, by simp, by omega, by omega, HR.out⟩
          | false =>
            by_cases h62 : c = 62
            · have hb62 : ((c.toNat : Int) == 62) = true := by rw [h62]; rfl
              have HR := Lib.hid (show (cutL false s).map (cutV s) = some (cutV s (i + 1)) by
                rw [HD.out, h62, cut_close]
                show some (cutV s (1 + i)) = _
                rw [Nat.add_comm])
              clear h62
              have hle : ((i : Int) + 1) ≤ (s.length : Int) := by omega
              have h0 : (0 : Int) ≤ (i : Int) + 1 := by omega
              have hwr : IntKind.i64.wrap ((i : Int) + 1) = (i : Int) + 1 := IntWalk.i64_in _ (by omega)
              have htn : ((i : Int) + 1).toNat = i + 1 := by omega
              have hx1 : (⟨s.toArray⟩ : ByteArray).extract 0 (i + 1) = ⟨(s.take (i + 1)).toArray⟩ := by rw [ext_eq]; rfl
              have hx2 := ext_drop s (i + 1) s.length rfl
              go_wp2_with fail
              go_quiet (fail)
              go_wp2
              go_ret2
              exact ⟨endO_some HR.out, below_drewN (Below.refl _ _) _⟩
            · have hb62 : ((c.toNat : Int) == 62) = false := byte_ne (d := 62) h62
              have HR := Lib.hid (show cutL false s = (cutL false (s.drop (i + 1))).map (· + (i + 1)) by
                rw [HD.out, cut_other _ (by simp) h34 (by simp [h62]), Option.map_map]
                congr 1
                funext k
                show k + 1 + i = k + (i + 1)
                omega)
              go_wp2_with fail
              go_roundg g
              case measure => omega
              case rel => exact ⟨rfl, false, i + 1, rfl, by simp, by omega, by omega, HR.out⟩
    · have hii : ¬ ((i : Int) < (s.length : Int)) := by omega
      have HE := Lib.hid (show (cutL false s).map (cutV s) = none by
        rw [HC.out, List.drop_eq_nil_of_le (by omega), cut_nil]
        rfl)
      go_wp2_with fail
      exact ⟨rfl, endO_none HE.out, Below.refl _ _⟩

theorem dig_c {c : UInt8} (h : digB c = true) : 48 ≤ c.toNat ∧ c.toNat ≤ 57 := by simpa [digB] using h
theorem val_more {s : List UInt8} {k : Nat} (h : k < s.length) : valN (s.take (k + 1)) = 10 * valN (s.take k) + (s[k].toNat - 48) := by
  rw [List.take_add_one, List.getElem?_eq_getElem h]
  unfold valN
  rw [List.foldl_append]
  rfl
theorem all_dig {s : List UInt8} {k : Nat} (h : k < s.length) (ha : (s.take k).all digB = true) (hc : digB s[k] = true) : (s.take (k + 1)).all digB = true := by
  rw [List.take_add_one, List.getElem?_eq_getElem h, List.all_append, ha]
  simp [hc]
theorem val_bound {s : List UInt8} {k : Nat} (hk : k ≤ 10) (ha : (s.take k).all digB = true) : valN (s.take k) < 10000000000 := by
  have h1 := val_small ha
  have h2 : (s.take k).length ≤ 10 := by simp; omega
  have h3 : (10 : Nat) ^ (s.take k).length ≤ 10 ^ 10 := Nat.pow_le_pow_right (by omega) h2
  omega

def sizeV (n : Nat) : Value := .int .i64 (n : Int)

set_option maxHeartbeats 2000000 in
theorem vreadNumber_any (s : List UInt8) (w : World) (hs : s.length ≤ 100000) :
    Calls Tryz.prog 81 #[.string ⟨s.toArray⟩] w fun e w' => e = endO ((sizeL s).map sizeV) ∧ w = w' := by
  cases hs0 : s with
  | nil =>
    go_enter Tryz.func81, Tryz.ntmps81
    go_wp2_with fail
    exact ⟨rfl, rfl, rfl⟩
  | cons x y =>
    have h0 : s ≠ [] := by rw [hs0]; exact List.cons_ne_nil _ _
    rw [← hs0]
    clear hs0
    have hne := ne_empty h0
    have hn2 : (s == []) = false := by
      rw [beq_eq_false_iff_ne]
      exact h0
    have H1 := Lib.hid (List.length_pos_iff.2 h0)
    clear h0
    by_cases h10 : s.length ≤ 10
    · have hi10 : ¬ ((10 : Int) < (s.length : Int)) := by omega
      go_enter Tryz.func81, Tryz.ntmps81
      go_wp2_with fail
      go_loopg [3, 16] s.length (fun g s3 s16 wx => w = wx ∧ ∃ k : Nat, k + g = s.length ∧ s16 = .int .i64 k ∧ s3 = .int .i64 (valN (s.take k) : Int) ∧ (s.take k).all digB = true)
      case atStart => exact ⟨rfl, 0, by omega, rfl, rfl, rfl⟩
      case round =>
        obtain ⟨rfl, k, hkg, rfl, rfl, ha⟩ := hrel
        have HA := Lib.hid ha
        have hvb : (valN (s.take k) : Int) < 10000000000 := by have := val_bound (by omega) ha; omega
        have hv0 : (0 : Int) ≤ (valN (s.take k) : Int) := Int.natCast_nonneg _
        clear ha
        cases gk with
        | zero =>
          obtain rfl : k = s.length := by omega
          have hi : ¬ ((s.length : Int) < (s.length : Int)) := by omega
          have HV := Lib.hid (fun W => vvalidSize_any (valN (s.take s.length) : Int) W)
          rw [List.take_length] at *
          have hz1 : (-1 : Int) ≤ (valN s : Int) := by omega
          by_cases hz : valN s ≤ 1073741824
          · have HE := Lib.hid (show (sizeL s).map sizeV = some (.int .i64 (valN s : Int)) by
              have h1 := H1.out
              unfold sizeL
              rw [if_pos ⟨by omega, h10, HA.out, hz⟩]
              rfl)
            have hfz : fitsZ (valN s : Int) = true := by
              unfold fitsZ
              rw [decide_eq_true hz1, decide_eq_true (by omega)]
              rfl
            rw [hfz] at HV
            clear hz hfz
            go_wp2_with fail
            refine Calls.mono (HV.out _) ?_
            rintro e w2 ⟨rfl, rfl⟩
            go_wp2_with fail
            go_ret
            exact ⟨endO_some HE.out, rfl⟩
          · have HE := Lib.hid (show (sizeL s).map sizeV = none by
              unfold sizeL
              rw [if_neg (fun h => hz h.2.2.2)]
              rfl)
            have hfz : fitsZ (valN s : Int) = false := by
              unfold fitsZ
              rw [decide_eq_false (show ¬ ((valN s : Int) ≤ 1073741824) by omega), Bool.and_false]
            rw [hfz] at HV
            clear hz hfz
            go_wp2_with fail
            refine Calls.mono (HV.out _) ?_
            rintro e w2 ⟨rfl, rfl⟩
            go_wp2_with fail
            exact ⟨rfl, endO_none HE.out, rfl⟩
        | succ g =>
          have hk : k < s.length := by omega
          have hi : (k : Int) < (s.length : Int) := by omega
          have hB : k < (⟨s.toArray⟩ : ByteArray).size := hk
          obtain ⟨c, hc⟩ : ∃ c : UInt8, (⟨s.toArray⟩ : ByteArray)[k]'hB = c := ⟨_, rfl⟩
          have HC := Lib.hid (show s[k] = c from hc)
          have hc255 := c.toNat_lt
          by_cases h1 : 48 ≤ c.toNat
          · have h1i : ¬ ((c.toNat : Int) < 48) := by omega
            by_cases h2 : c.toNat ≤ 57
            · have h2i : ¬ ((57 : Int) < (c.toNat : Int)) := by omega
              have HS := Lib.hid (all_dig hk HA.out (by rw [HC.out]; simp [digB, h1, h2]))
              have HN := Lib.hid (show (valN (s.take (k + 1)) : Int) = (valN (s.take k) : Int) * 10 + ((c.toNat : Int) - 48) by
                rw [val_more hk, HC.out]
                omega)
              generalize valN (s.take k) = v at *
              go_wp2_with fail
              go_roundg g
              case measure => omega
              case rel => exact ⟨rfl, k + 1, by omega, by simp, by rw [HN.out], HS.out⟩
            · have h2i : (57 : Int) < (c.toNat : Int) := by omega
              have HE := Lib.hid (show (sizeL s).map sizeV = none by
                unfold sizeL
                rw [if_neg (fun h => by
                  have := dig_c (List.all_eq_true.1 h.2.2.1 s[k] (List.getElem_mem hk))
                  rw [HC.out] at this
                  omega)]
                rfl)
              go_wp2_with fail
              exact ⟨rfl, endO_none HE.out, rfl⟩
          · have h1i : (c.toNat : Int) < 48 := by omega
            have HE := Lib.hid (show (sizeL s).map sizeV = none by
              unfold sizeL
              rw [if_neg (fun h => by
                have := dig_c (List.all_eq_true.1 h.2.2.1 s[k] (List.getElem_mem hk))
                rw [HC.out] at this
                omega)]
              rfl)
            go_wp2_with fail
            exact ⟨rfl, endO_none HE.out, rfl⟩
    · have hi10 : (10 : Int) < (s.length : Int) := by omega
      have HE := Lib.hid (show (sizeL s).map sizeV = none by
        unfold sizeL
        rw [if_neg (fun h => h10 h.2.1)]
        rfl)
      clear h10
      go_enter Tryz.func81, Tryz.ntmps81
      go_wp2_with fail
      exact ⟨rfl, endO_none HE.out, rfl⟩

def zV (z : Int) : Value := .int .i64 z
theorem goodSize : goodW [32, 83, 73, 90, 69, 61] := ⟨by decide, by decide⟩

set_option maxHeartbeats 1000000 in
theorem vreadSize_any (s : List UInt8) (w : World) (hs : s.length ≤ 100000) (hg : Gl w) :
    Calls Tryz.prog 61 #[.string ⟨s.toArray⟩] w fun e w' => e = endO ((tailL s).map zV) ∧ Below w.heap.size w w' := by
  cases hs0 : s with
  | nil =>
    go_enter Tryz.func61, Tryz.ntmps61
    go_wp2_with fail
    go_ret
    exact ⟨rfl, Below.refl _ _⟩
  | cons x y =>
    have h0 : s ≠ [] := by rw [hs0]; exact List.cons_ne_nil _ _
    rw [← hs0]
    clear hs0
    have hne := ne_empty h0
    have hn2 : (s == []) = false := by
      rw [beq_eq_false_iff_ne]
      exact h0
    have HP := Lib.hid (readPast_any s [32, 83, 73, 90, 69, 61] w hs goodSize hg)
    have HT := Lib.hid (show tailL s = (pastL s [32, 83, 73, 90, 69, 61]).bind fun r => (sizeL r).map fun n => (n : Int) by
      unfold tailL pastL
      rw [if_neg h0]
      split
      · rfl
      · rfl)
    clear h0 hg
    cases hp : pastL s [32, 83, 73, 90, 69, 61] with
    | none =>
      have HE := Lib.hid (show (tailL s).map zV = none by rw [HT.out, hp]; rfl)
      rw [hp] at HP
      have HP2 := Lib.hid (callsBad HP.out rfl)
      clear hp HP
      go_enter Tryz.func61, Tryz.ntmps61
      go_wp2_with fail
      refine Calls.mono (show _ from HP2.out) ?_
      rintro e w1 ⟨rfl, hb⟩
      exact ⟨rfl, endO_none HE.out, hb⟩
    | some r =>
      have hrl : r.length ≤ 100000 := Nat.le_trans (past_len hp) hs
      have HN := Lib.hid (fun W => vreadNumber_any r W hrl)
      rw [hp] at HP
      have HP2 := Lib.hid (callsGood HP.out (show _ = some (.string ⟨r.toArray⟩) from rfl))
      cases hz : sizeL r with
      | none =>
        have HE := Lib.hid (show (tailL s).map zV = none by rw [HT.out, hp, Option.bind_some, hz]; rfl)
        rw [hz] at HN
        have HN2 := Lib.hid (fun W => callsBad (HN.out W) rfl)
        clear hp HP HN hz
        go_enter Tryz.func61, Tryz.ntmps61
        go_wp2_with fail
        refine Calls.mono (show _ from HP2.out) ?_
        rintro e w1 ⟨rfl, hb⟩
        have HB := Lib.hid hb
        clear hb
        go_wp2_with fail
        refine Calls.mono (HN2.out _) ?_
        rintro e w2 ⟨rfl, rfl⟩
        exact ⟨rfl, endO_none HE.out, HB.out⟩
      | some n =>
        have HE := Lib.hid (show (tailL s).map zV = some (.int .i64 (n : Int)) by rw [HT.out, hp, Option.bind_some, hz]; rfl)
        rw [hz] at HN
        have HN2 := Lib.hid (fun W => callsGood (HN.out W) (show _ = some (.int .i64 (n : Int)) from rfl))
        clear hp HP HN hz
        go_enter Tryz.func61, Tryz.ntmps61
        go_wp2_with fail
        refine Calls.mono (show _ from HP2.out) ?_
        rintro e w1 ⟨rfl, hb⟩
        have HB := Lib.hid hb
        clear hb
        go_wp2_with fail
        refine Calls.mono (HN2.out _) ?_
        rintro e w2 ⟨rfl, rfl⟩
        go_wp2_with fail
        go_ret
        exact ⟨endO_some HE.out, HB.out⟩
end Go.Proofs.YtkbhmkofflcpjaaGreatDoor

namespace Go.Proofs.YtkbhmkofflcpjaaGreatDoor
open Go.RowKit

def restOk (s : List UInt8) : Bool := !(decide (4 < s.length) && !(s.getD 4 0 == 32))
/-- What readName comes to. -/
def nameE (s : List UInt8) : Ending := if kindL s = 0 ∨ restOk s = false then wrongV 3 else .returned (.tuple #[.int .i64 (kindL s), .string ⟨(s.drop 4).toArray⟩])

theorem good_name (k : Nat) (h1 : 1 ≤ k) (h9 : k ≤ 9) : goodW (nameL (k : Int)) := by
  have : k = 1 ∨ k = 2 ∨ k = 3 ∨ k = 4 ∨ k = 5 ∨ k = 6 ∨ k = 7 ∨ k = 8 ∨ k = 9 := by omega
  rcases this with rfl | rfl | rfl | rfl | rfl | rfl | rfl | rfl | rfl <;> exact ⟨by decide, by decide⟩

theorem kind_begins {s : List UInt8} {k : Nat} (h1 : 1 ≤ k) (h9 : k ≤ 9) (h : beginsL s (nameL (k : Int)) = true) : kindL s = (k : Int) := by
  obtain ⟨hl, hw⟩ := begins_iff h
  rw [name_len] at hw
  have := kind_of (a := s.take 4) (r := s.drop 4) (k := (k : Int)) (by omega) (by omega) hw
  rwa [List.take_append_drop] at this
theorem begins_kind {s : List UInt8} (h : kindL s ≠ 0) : beginsL s (nameL (kindL s)) = true := by
  unfold kindL at h ⊢
  repeat' split
  all_goals first | assumption | (rename_i hh; simp_all)

theorem rest_nil {s : List UInt8} (h4 : 4 ≤ s.length) (h : s.drop 4 = []) : restOk s = true := by
  have : s.length ≤ 4 := List.drop_eq_nil_iff.1 h
  simp [restOk]
  omega
theorem rest_head {s : List UInt8} (h : s.drop 4 ≠ []) : restOk s = ((s.drop 4).head? == some 32) := by
  have h4 : 4 < s.length := by
    have : ¬ s.length ≤ 4 := fun e => h (List.drop_eq_nil_iff.2 e)
    omega
  have e : (s.drop 4).head? = some s[4] := by
    rw [List.head?_drop, List.getElem?_eq_getElem h4]
  rw [e, restOk, decide_eq_true h4]
  simp [List.getD, h4]

theorem pre_blank (r : List UInt8) : Lib.hasPrefix r [32] = (r.head? == some 32) := by
  cases r with
  | nil => rfl
  | cons c t =>
    rw [Bool.eq_iff_iff]
    simp only [Lib.hasPrefix, List.isPrefixOf, List.head?_cons, Bool.and_true, beq_iff_eq, Option.some.injEq]
    exact eq_comm

set_option maxHeartbeats 2000000 in
theorem vreadName_any (s : List UInt8) (w : World) (hs : s.length ≤ 100000) (hg : Gl w) :
    Calls Tryz.prog 55 #[.string ⟨s.toArray⟩] w fun e w' => e = nameE s ∧ Below w.heap.size w w' := by
  have HG := Lib.hid hg
  clear hg
  go_enter Tryz.func55, Tryz.ntmps55
  go_wp2_with fail
  go_loopg [2, 3] 9 (fun g s2 s3 wx => Below w.heap.size w wx ∧ ∃ k : Nat, s2 = .int .i64 k ∧ k + g = 10 ∧ 1 ≤ k ∧ ∀ j : Nat, 1 ≤ j → j < k → ¬ (beginsL s (nameL (j : Int)) = true ∧ restOk s = true))
  case atStart => exact ⟨Below.refl _ _, 1, rfl, by omega, by omega, fun j h1 h2 => by omega⟩
  case round =>
    obtain ⟨hb, k, rfl, hkg, h1, hno⟩ := hrel
    have HN := Lib.hid hno
    have HB := Lib.hid hb
    have HGW := Lib.hid (HG.out.keep hb)
    clear hno hb
    cases gk with
    | zero =>
      obtain rfl : k = 10 := by omega
      have HE := Lib.hid (show nameE s = wrongV 3 by
        unfold nameE
        rw [if_pos]
        by_cases hk : kindL s = 0
        · exact .inl hk
        · refine .inr ?_
          have hr := kind_range s
          obtain ⟨j, hj⟩ : ∃ j : Nat, kindL s = (j : Int) := ⟨(kindL s).toNat, by omega⟩
          have := HN.out j (by omega) (by omega)
          have hbk := begins_kind hk
          rw [hj] at hbk
          cases hq : restOk s with
          | false => rfl
          | true => exact absurd ⟨hbk, hq⟩ this)
      rw [show ((10 : Nat) : Int) = 10 from rfl]
      go_wp2_with fail
      exact ⟨rfl, HE.out.symm, HB.out⟩
    | succ g =>
      have hk9 : k ≤ 9 := by omega
      have hi : (k : Int) < 10 := by omega
      have hk0 : (0 : Int) ≤ (k : Int) := by omega
      have hnm := HGW.out.nm k h1 hk9
      have hnl := name_len (k : Int)
      have HW := Lib.hid (startsWith_any s (nameL (k : Int)) wr hs (good_name k h1 hk9) HGW.out)
      cases hbg : beginsL s (nameL (k : Int)) with
      | false =>
        have HN2 : Hid (∀ j : Nat, 1 ≤ j → j < k + 1 → ¬ (beginsL s (nameL (j : Int)) = true ∧ restOk s = true)) := Lib.hid fun j hj1 hj2 => by
          by_cases hjk : j = k
          · subst hjk
            rw [hbg]
            simp
          · exact HN.out j hj1 (by omega)
        rw [hbg] at HW
        clear hbg
        generalize nameL (k : Int) = nm at *
        go_wp2_with fail
        refine Calls.mono HW.out ?_
        rintro e w1 ⟨rfl, hb1⟩
        have HB1 := Lib.hid (HB.out.trans (hb1.mono HB.out.size))
        clear hb1
        go_wp2_with fail
        go_roundg g
        case measure => omega
        case rel => exact ⟨HB1.out, k + 1, by simp, by omega, by omega, HN2.out⟩
      | true =>
        have HK := Lib.hid (kind_begins h1 hk9 hbg)
        have h4 : 4 ≤ s.length := by
          have := (begins_iff hbg).1
          rwa [name_len] at this
        have h4i : (4 : Int) ≤ (s.length : Int) := by omega
        have hex := ext_drop s 4 s.length rfl
        have HBG := Lib.hid hbg
        rw [hbg] at HW
        clear hbg
        have hP := fun W => Tryz.strings_HasPrefix ⟨(s.drop 4).toArray⟩ ⟨#[32]⟩ W
        simp only [pre_blank] at hP
        have HP := Lib.hid hP
        clear hP
        have hk1 : ¬ ((k : Int) = 0) := by omega
        cases hr : restOk s with
        | true =>
          have HE := Lib.hid (show Ending.returned (.tuple #[.int .i64 (k : Int), .string ⟨(s.drop 4).toArray⟩]) = nameE s by
            unfold nameE
            rw [HK.out, hr, if_neg (by simp; omega)])
          by_cases hd : s.drop 4 = []
          · rw [hd] at hex HE
            clear hr hd HP
            generalize nameL (k : Int) = nm at *
            go_wp2_with fail
            refine Calls.mono HW.out ?_
            rintro e w1 ⟨rfl, hb1⟩
            have HB1 := Lib.hid (HB.out.trans (hb1.mono HB.out.size))
            have hnm1 := (hb1.cell (p := ⟨0, k, none⟩) (show 0 < wr.heap.size by have := HGW.out.sz; omega)).trans hnm
            clear hb1
            go_wp2_with fail
            go_ret2
            exact ⟨HE.out, HB1.out⟩
          · have hh := (rest_head hd).symm.trans hr
            rw [hh] at HP
            have hne := ne_empty hd
            have hn2 : (s.drop 4 == []) = false := by
              rw [beq_eq_false_iff_ne]
              exact hd
            clear hr hh hd
            generalize nameL (k : Int) = nm at *
            generalize s.drop 4 = R at *
            go_wp2_with fail
            refine Calls.mono HW.out ?_
            rintro e w1 ⟨rfl, hb1⟩
            have HB1 := Lib.hid (HB.out.trans (hb1.mono HB.out.size))
            have hnm1 := (hb1.cell (p := ⟨0, k, none⟩) (show 0 < wr.heap.size by have := HGW.out.sz; omega)).trans hnm
            clear hb1
            go_wp2_with fail
            refine Calls.mono (HP.out _) ?_
            rintro e w2 ⟨rfl, rfl⟩
            go_wp2_with fail
            go_ret2
            exact ⟨HE.out, HB1.out⟩
        | false =>
          have hd : s.drop 4 ≠ [] := fun e => by
            rw [rest_nil h4 e] at hr
            cases hr
          have HN2 : Hid (∀ j : Nat, 1 ≤ j → j < k + 1 → ¬ (beginsL s (nameL (j : Int)) = true ∧ restOk s = true)) := Lib.hid fun j hj1 hj2 => by
            rw [hr]
            simp
          have hh := (rest_head hd).symm.trans hr
          rw [hh] at HP
          have hne := ne_empty hd
          have hn2 : (s.drop 4 == []) = false := by
            rw [beq_eq_false_iff_ne]
            exact hd
          clear hr hh hd
          generalize nameL (k : Int) = nm at *
          generalize s.drop 4 = R at *
          go_wp2_with fail
          refine Calls.mono HW.out ?_
          rintro e w1 ⟨rfl, hb1⟩
          have HB1 := Lib.hid (HB.out.trans (hb1.mono HB.out.size))
          have hnm1 := (hb1.cell (p := ⟨0, k, none⟩) (show 0 < wr.heap.size by have := HGW.out.sz; omega)).trans hnm
          clear hb1
          go_wp2_with fail
          refine Calls.mono (HP.out _) ?_
          rintro e w2 ⟨rfl, rfl⟩
          go_wp2_with fail
          go_roundg g
          case measure => omega
          case rel => exact ⟨HB1.out, k + 1, by simp, by omega, by omega, HN2.out⟩
end Go.Proofs.YtkbhmkofflcpjaaGreatDoor

/-
  Package grey's place, stalest, copySince, valid; the pages' CopyGreys, walked.
  Conditions: as each theorem states them.
-/
import Derived.Test.YtaglobnfdgencaaDoorGC
import Derived.Deep.RegionHeld3
namespace Go.Proofs.YtaglobnfdgencaaDoor
open Go.RowKit

theorem place_any (l : List Gy) (key : ByteArray) (v : Value) (w : World) (h : GR w v l) (hs : Srt l) (hl : l.length ≤ 1000000) :
    Calls Tryd.prog 23 #[v, .string key] w fun e w' => ∃ (p : Nat) (q : Bool), e = .returned (.tuple #[.int .i64 p, .bool q]) ∧ At l key p q ∧ Below w.heap.size w w' := by
  have H := Lib.hid (search_any l key v w h hs hl)
  obtain ⟨A, c, rfl, _, _⟩ := h.slice
  clear h hs
  go_enter Tryd.func23, Tryd.ntmps23
  go_wp2_with fail
  refine Calls.mono H.out ?_
  rintro e w1 ⟨p, q, rfl, hat, hb⟩
  have HT := Lib.hid hat
  have HB := Lib.hid hb
  clear hat hb
  go_wp2_with fail
  go_ret2
  exact ⟨p, q, rfl, HT.out, HB.out⟩

set_option maxHeartbeats 2000000 in
theorem stalest_any (l : List Gy) (v : Value) (w : World) (h : GR w v l) (h0 : 0 < l.length) (_hl : l.length ≤ 1000000) :
    Calls Tryd.prog 31 #[v] w fun e w' => ∃ s : Nat, e = .returned (.int .i64 s) ∧ Stal l s ∧ Below w.heap.size w w' := by
  have HU := Lib.hid h
  obtain ⟨A, c, rfl, hlc, hc⟩ := h.slice
  clear h
  go_enter Tryd.func31, Tryd.ntmps31
  go_wp2_with fail
  go_loopw [3, 8] (fun sv iv wr => ∃ s i : Nat, sv = .int .i64 s ∧ iv = .int .i64 i ∧ i ≤ l.length ∧ s < l.length ∧ s ≤ i ∧ Hid ((∀ j (hj : j < l.length) (hs : s < l.length), j < i → l[s].l ≤ l[j].l) ∧ (∀ j (hj : j < l.length) (hs : s < l.length), j < s → l[s].l < l[j].l)) ∧ Below w.heap.size w wr) (fun _ iv _ => l.length - (intOf iv).toNat)
  case atStart => exact ⟨0, 0, rfl, rfl, Nat.zero_le _, h0, Nat.le_refl _, ⟨fun j _ _ h => absurd h (Nat.not_lt_zero _), fun j _ _ h => absurd h (Nat.not_lt_zero _)⟩, Below.refl _ _⟩
  case round =>
    obtain ⟨s, i, rfl, rfl, hil, hsl, hsi, I, hb⟩ := hrel
    have HB := Lib.hid hb
    clear hb
    by_cases hlt : i < l.length
    · have hlti : (i : Int) < (l.length : Int) := by omega
      obtain ⟨b, o, hA, hbl, c0, c1, c2, c3⟩ := HU.out.at (i := i) hlt rfl HB.out
      subst hA
      obtain ⟨b', o', hA, _, _, _, s2, _⟩ := HU.out.at (i := s) hsl rfl HB.out
      simp only [Option.some.injEq, Addr.mk.injEq, and_true] at hA
      obtain ⟨rfl, rfl⟩ := hA
      have HA := Lib.hid (fun W (h : Below w.heap.size w W) => h)
      have HBa := Lib.hid (fun ob => HB.out.alloc HB.out.size ob)
      have HI := Lib.hid (show l[i].l = l[i].l from rfl)
      obtain ⟨xk, xb, xl, xp, hxk, hxb, hxl, hxp⟩ : ∃ xk xb xl xp, l[i].k = xk ∧ l[i].b = xb ∧ l[i].l = xl ∧ l[i].p = xp := ⟨_, _, _, _, rfl, rfl, rfl, rfl⟩
      obtain ⟨y, hy⟩ : ∃ y, l[s].l = y := ⟨_, rfl⟩
      rw [hxk] at c0
      rw [hxb] at c1
      rw [hxl] at c2
      rw [hxp] at c3
      rw [hy] at s2
      have HX := Lib.hid hxl
      have HY := Lib.hid hy
      clear hxk hxb hxl hxp hy HI
      have hsi' : (0 : Int) ≤ (s : Int) := by omega
      have hsl' : (s : Int) < (l.length : Int) := by omega
      by_cases hxy : xl < y
      · go_wp2_with fail
        go_quiet (fail)
        go_wp2_with fail
        refine ⟨⟨i, i + 1, rfl, by go_num, by omega, hlt, by omega, ⟨fun j h1 h2 h3 => ?_, fun j h1 h2 h3 => ?_⟩, below_drewN (HBa.out _) _⟩, by simp [intOf]; omega⟩
        · rw [HX.out]
          by_cases h4 : j = i
          · subst h4; rw [HX.out]; exact Int.le_refl _
          · have := I.out.1 j h1 hsl (by omega)
            rw [HY.out] at this
            omega
        · have := I.out.1 j h1 hsl h3
          rw [HY.out] at this
          rw [HX.out]
          omega
      · go_wp2_with fail
        go_quiet (fail)
        go_wp2_with fail
        refine ⟨⟨s, i + 1, rfl, by go_num, by omega, hsl, by omega, ⟨fun j h1 h2 h3 => ?_, I.out.2⟩, below_drewN (HBa.out _) _⟩, by simp [intOf]; omega⟩
        by_cases h4 : j = i
        · subst h4; rw [HX.out, HY.out]; omega
        · exact I.out.1 j h1 hsl (by omega)
    · have hlti : ¬ (i : Int) < (l.length : Int) := by omega
      obtain rfl : i = l.length := by omega
      go_wp2_with fail
      go_ret
      exact ⟨s, rfl, ⟨hsl, fun j hj => I.out.1 j hj hsl hj, fun j hj => I.out.2 j _ hsl hj⟩, HB.out⟩

theorem take_next {α : Type} {l : List α} {i : Nat} (h : i < l.length) : l.take (i + 1) = l.take i ++ [l[i]] := by
  rw [List.take_add_one, List.getElem?_eq_getElem h]; rfl
theorem below_grown_g {B : Nat} {a w w' : World} {v : Value} {l : List Gy} (h : Below B a w) (hB : B ≤ w.heap.size) (ho : GO w B v l) (hg : w.grownBy w' v.ownBlock) : Below B a w' :=
  h.grown hg hB (fun k hk => (ho.lt k hk).1)

end Go.Proofs.YtaglobnfdgencaaDoor

/-
  Package grey's meet, place (slices.BinarySearchFunc), stalest, walked.
  Conditions: as each theorem states them.
-/
import Derived.Test.YtaglobnfdgencaaDoorGB
namespace Go.Proofs.YtaglobnfdgencaaDoor
open Go.RowKit

theorem below_e4 {B : Nat} {w w' : World} {k : Nat} (h : Below B w w') (hk : B ≤ k) (a b c d : Value) : Below B w ((((w'.setCell ⟨k, 0, none⟩ a).setCell ⟨k, 1, none⟩ b).setCell ⟨k, 2, none⟩ c).setCell ⟨k, 3, none⟩ d) :=
  (((h.setCell (p := ⟨k, 0, none⟩) hk _).setCell (p := ⟨k, 1, none⟩) hk _).setCell (p := ⟨k, 2, none⟩) hk _).setCell (p := ⟨k, 3, none⟩) hk _
theorem meet_any (g : Gy) (now wait : Int) (w : World) (hg : 0 ≤ g.b ∧ g.b ≤ 1099511627776) (hn : 0 ≤ now ∧ now ≤ 1099511627776) :
    Calls Tryd.prog 24 #[gV g, .int .i64 now, .int .i64 wait] w fun e w' => e = .returned (gV (meetG g now wait)) ∧ Below w.heap.size w w' := by
  have HE := Lib.hid (show gV (meetG g now wait) = .agg #[.string g.k, .int .i64 g.b, .int .i64 (max g.l now), .bool (g.p || decide (wait ≤ now - g.b))] from rfl)
  have hw : IntKind.i64.wrap (now - g.b) = now - g.b := wrap_id (by omega) (by omega)
  obtain ⟨r, hr⟩ : ∃ r, Ending.returned (gV (meetG g now wait)) = r := ⟨_, rfl⟩
  rw [hr]
  rw [HE.out] at hr
  clear HE hg hn
  obtain ⟨M, hM, hM2⟩ : ∃ M, max g.l now = M ∧ (if g.l < now then now else g.l) = M := ⟨_, rfl, by split <;> omega⟩
  rw [hM] at hr
  obtain ⟨q, hq⟩ : ∃ q, decide (wait ≤ now - g.b) = q := ⟨_, rfl⟩
  rw [hq] at hr
  have HR := Lib.hid hr
  have HA := Lib.hid (fun o o2 => ((Below.refl w.heap.size w).alloc (Nat.le_refl _) o).alloc (by simp) o2)
  clear hr hM
  unfold gV
  cases hp : g.p with
  | true =>
    rw [hp] at HR
    go_enter Tryd.func24, Tryd.ntmps24
    go_wp2_with fail
    refine bodyPost_ret (v := .agg #[.string g.k, .int .i64 g.b, .int .i64 M, .bool true]) (by simp [results, Tryd.results24, go_sem]) rfl ⟨HR.out, ?_⟩
    first | exact HA.out _ _ | (refine Below.setCell ?_ (by simp) _; exact HA.out _ _)
  | false =>
    rw [hp] at HR
    go_enter Tryd.func24, Tryd.ntmps24
    go_wp2_with fail
    refine bodyPost_ret (v := .agg #[.string g.k, .int .i64 g.b, .int .i64 M, .bool q]) (by simp [results, Tryd.results24, go_sem]) rfl ⟨HR.out, ?_⟩
    first | exact HA.out _ _ | (refine Below.setCell ?_ (by simp) _; exact HA.out _ _)

set_option maxHeartbeats 2000000 in
theorem search_any (l : List Gy) (key : ByteArray) (v : Value) (w : World) (h : GR w v l) (hs : Srt l) (hl : l.length ≤ 1000000) :
    Calls Tryd.prog 28 #[v, .string key, .func (.func 29) #[] #[]] w fun e w' => ∃ (p : Nat) (q : Bool), e = .returned (.tuple #[.int .i64 p, .bool q]) ∧ At l key p q ∧ Below w.heap.size w w' := by
  have HU := Lib.hid h
  obtain ⟨A, c, rfl, hlc, hc⟩ := h.slice
  have HP := Lib.hid (fun g W => place1_any g key W)
  have HS := Lib.hid hs
  unfold gV at HP
  clear h hs
  go_enter Tryd.func28, Tryd.ntmps28
  go_wp2_with fail
  go_loopw [9, 10] (fun iv jv wr => ∃ lo hi : Nat, iv = .int .i64 lo ∧ jv = .int .i64 hi ∧ lo ≤ hi ∧ hi ≤ l.length ∧ Hid ((∀ i (h : i < l.length), i < lo → ltK l[i].k key = true) ∧ (∀ i (h : i < l.length), hi ≤ i → ltK l[i].k key = false)) ∧ Below w.heap.size w wr) (fun iv jv _ => (intOf jv).toNat - (intOf iv).toNat)
  case atStart => exact ⟨0, l.length, rfl, rfl, Nat.zero_le _, Nat.le_refl _, ⟨fun i _ h => absurd h (Nat.not_lt_zero _), fun i h1 h2 => by omega⟩, Below.refl _ _⟩
  case round =>
    obtain ⟨lo, hi, rfl, rfl, hlh, hin, I, hb⟩ := hrel
    have HB := Lib.hid hb
    clear hb
    by_cases hlt : lo < hi
    · obtain ⟨b, o, hA, hbl, c0, c1, c2, c3⟩ := HU.out.at (i := (lo + hi) / 2) (by omega) rfl HB.out
      subst hA
      have HL := Lib.hid (cmpK_lt (a := (l[(lo + hi) / 2]'(by omega)).k) (b := key))
      have HM := Lib.hid (show (lo + hi) / 2 < l.length by omega)
      obtain ⟨x, hx⟩ : ∃ x, l[(lo + hi) / 2]'(by omega) = x := ⟨_, rfl⟩
      rw [hx] at c0 c1 c2 c3 HL
      have HX := Lib.hid hx
      have HC := Lib.hid (fun W => HP.out x W)
      clear hx
      generalize cmpK x.k key = cm at *
      by_cases hcm : cm < 0
      · go_wp2_with fail
        refine Calls.mono (HC.out _) ?_
        rintro e w1 ⟨rfl, hb1⟩
        have HB1 := Lib.hid (HB.out.trans (hb1.mono HB.out.size))
        clear hb1
        go_wp2_with fail
        refine ⟨⟨(lo + hi) / 2 + 1, hi, by first | rfl | (congr 1; omega), rfl, by omega, hin, ⟨fun i h1 h2 => ?_, I.out.2⟩, HB1.out⟩, by simp [intOf]; omega⟩
        rw [decide_eq_true hcm] at HL
        by_cases h3 : i = (lo + hi) / 2
        · subst h3; rw [HX.out]; exact HL.out.symm
        · have := HS.out.get (show i < (lo + hi) / 2 by omega) (by omega)
          rw [HX.out] at this
          exact ltK_trans this HL.out.symm
      · go_wp2_with fail
        refine Calls.mono (HC.out _) ?_
        rintro e w1 ⟨rfl, hb1⟩
        have HB1 := Lib.hid (HB.out.trans (hb1.mono HB.out.size))
        clear hb1
        go_wp2_with fail
        refine ⟨⟨lo, (lo + hi) / 2, rfl, by first | rfl | (congr 1; omega), by omega, by omega, ⟨I.out.1, fun i h1 h2 => ?_⟩, HB1.out⟩, by simp [intOf]; omega⟩
        rw [decide_eq_false (show ¬ cm < 0 by omega)] at HL
        by_cases h3 : i = (lo + hi) / 2
        · subst h3; rw [HX.out]; exact HL.out.symm
        · have := HS.out.get (show (lo + hi) / 2 < i by omega) (by omega)
          rw [HX.out] at this
          cases e : ltK l[i].k key
          · rfl
          · have := ltK_trans this e; rw [← HL.out] at this; cases this
    · obtain rfl : hi = lo := by omega
      by_cases hn : hi < l.length
      · obtain ⟨b, o, hA, hbl, c0, c1, c2, c3⟩ := HU.out.at (i := hi) hn rfl HB.out
        subst hA
        have HL := Lib.hid (cmpK_eq (a := l[hi].k) (b := key))
        obtain ⟨x, hx⟩ : ∃ x, l[hi] = x := ⟨_, rfl⟩
        rw [hx] at c0 c1 c2 c3 HL
        have HX := Lib.hid hx
        have HC := Lib.hid (fun W => HP.out x W)
        clear hx
        generalize cmpK x.k key = cm at *
        obtain ⟨q, hq⟩ : ∃ q, (cm == 0) = q := ⟨_, rfl⟩
        rw [hq] at HL
        go_wp2_with fail
        refine Calls.mono (HC.out _) ?_
        rintro e w1 ⟨rfl, hb1⟩
        have HB1 := Lib.hid (HB.out.trans (hb1.mono HB.out.size))
        clear hb1
        go_wp2_with fail
        go_ret2
        refine ⟨hi, q, rfl, ⟨hin, I.out.1, I.out.2, fun e => ⟨hn, ?_⟩, fun e _ => ?_⟩, HB1.out⟩
        · rw [HX.out, ← HL.out, e]
        · rw [HX.out, ← HL.out, e]
      · go_wp2_with fail
        go_ret2
        exact ⟨hi, false, rfl, ⟨hin, I.out.1, I.out.2, fun e => (by cases e), fun _ h => absurd h hn⟩, HB.out⟩
end Go.Proofs.YtaglobnfdgencaaDoor

/-
  The page's Note, walked; what keeps the statements awake, walked.
  Conditions: as each theorem states them: a word is below 2 to the 64; the health and the weight may be.
-/
import Derived.Test.YtlkikecnlafmeaaHD
namespace Go.Proofs.Ytlkikecnlafmeaa
open Go.RowKit

theorem HAt.set0 {w : World} {b s : Nat} {c : Int} (h : HAt w b s c) (s' : Nat) : HAt (w.setCell ⟨b, 0, none⟩ (.float .f64 s')) b s' c := by
  have h' : w.heap[b]? = some (.cells #[.float .f64 s, .int .i64 c] 24 (0, 0)) := h
  show (w.setCell ⟨b, 0, none⟩ _).heap[b]? = _
  simp only [World.setCell, Array.getElem?_modify, if_true, h']
  rfl
theorem HAt.set1 {w : World} {b s : Nat} {c : Int} (h : HAt w b s c) (c' : Int) : HAt (w.setCell ⟨b, 1, none⟩ (.int .i64 c')) b s c' := by
  have h' : w.heap[b]? = some (.cells #[.float .f64 s, .int .i64 c] 24 (0, 0)) := h
  show (w.setCell ⟨b, 1, none⟩ _).heap[b]? = _
  simp only [World.setCell, Array.getElem?_modify, if_true, h']
  rfl

set_option maxHeartbeats 1000000 in
theorem rNote_any (s : Nat) (c : Int) (x u : Nat) (w : World) (hx : x < 18446744073709551616) (hq : okH s c = true) (hw : okW u = true) :
    Calls Try.prog 44 #[hV s c, .float .f64 x, .float .f64 u] w fun e w' => e = .returned (hV (nextS s c x u) (nextC c x)) ∧ Below w.heap.size w w' := by
  have hst := store_float
  have hN := ord_ne x
  have HC := Lib.hid (fun W => rClamp_any x 0 4607182418800017408 W hx (by decide) (by decide))
  unfold hV
  cases hn : nanF x with
  | true =>
    rw [hn] at hN
    have HE := Lib.hid (show Ending.returned (hV s c) = Ending.returned (hV (nextS s c x u) (nextC c x)) by unfold nextS nextC; rw [hn]; rfl)
    clear hq hw hx hn HC
    go_enter Try.func44, Try.ntmps44
    go_wp2_with fail
    exact bodyPost_ret (v := hV s c) (by simp [results, Try.results44, go_sem, hV]) rfl ⟨HE.out, ((Below.refl _ w).alloc (Nat.le_refl _) _).alloc (by simp) _⟩
  | false =>
    rw [hn] at hN
    have hcl := clamp_le hx hn
    by_cases hc : c = 0
    · subst hc
      have HE := Lib.hid (show Ending.returned (hV (clampF x 0 4607182418800017408) 1) = Ending.returned (hV (nextS s 0 x u) (nextC 0 x)) by unfold nextS nextC; rw [hn]; rfl)
      generalize clampF x 0 4607182418800017408 = y at *
      clear hq hw hx hn hcl
      go_enter Try.func44, Try.ntmps44
      go_wp2_with fail
      refine Calls.mono (HC.out _) ?_
      rintro e w' ⟨rfl, he⟩
      have he := he.symm
      subst he
      go_wp2_with fail
      exact bodyPost_ret (v := hV y 1) (by simp [results, Try.results44, go_sem, hV]) rfl ⟨HE.out, ((Below.refl _ w).alloc (Nat.le_refl _) _).alloc (by simp) _⟩
    · obtain ⟨hc1, hc2, hs1⟩ := okH_pos hq hc
      have hcb : (c == 0) = false := beq_eq_false_iff_ne.2 hc
      obtain ⟨d, p, g, h1, h2, h3, _, _, hg, hgc⟩ := note_ops hs1 hcl (okW_le hw).2
      have k1 := fun W => run_float_arith (P := Try.prog) W .sub 22 .f64 _ _ d h1
      have k2 := fun W => run_float_arith (P := Try.prog) W .mul 22 .f64 _ _ p h2
      have k3 := fun W => run_float_arith (P := Try.prog) W .add 22 .f64 _ _ g h3
      have HG := Lib.hid (fun W => rClamp_any g 0 4607182418800017408 W hg (by decide) (by decide))
      rw [hgc] at HG
      have HE0 := Lib.hid (show Ending.returned (hV (noteR s (clampF x 0 4607182418800017408) u) (if c + 1 ≤ 1099511627776 then c + 1 else 1099511627776)) = Ending.returned (hV (nextS s c x u) (nextC c x)) by unfold nextS nextC; simp only [hn, Bool.false_eq_true, if_false, if_neg hc])
      generalize clampF x 0 4607182418800017408 = y at *
      generalize noteR s y u = t at *
      clear hq hw hx hn hcl hc hs1 h1 h2 h3 hg hgc
      by_cases hm : c + 1 ≤ 1099511627776
      · rw [if_pos hm] at HE0
        go_enter Try.func44, Try.ntmps44
        go_wp2_with fail
        refine Calls.mono (HC.out _) ?_
        rintro e w' ⟨rfl, he⟩
        have he := he.symm
        subst he
        go_wp2_with fail
        refine Calls.mono (HG.out _) ?_
        rintro e w' ⟨rfl, he⟩
        have he := he.symm
        subst he
        go_wp2_with fail
        exact bodyPost_ret (v := hV t (c + 1)) (by simp [results, Try.results44, go_sem, hV]) rfl ⟨HE0.out, ((Below.refl _ w).alloc (Nat.le_refl _) _).alloc (by simp) _⟩
      · rw [if_neg hm] at HE0
        go_enter Try.func44, Try.ntmps44
        go_wp2_with fail
        refine Calls.mono (HC.out _) ?_
        rintro e w' ⟨rfl, he⟩
        have he := he.symm
        subst he
        go_wp2_with fail
        refine Calls.mono (HG.out _) ?_
        rintro e w' ⟨rfl, he⟩
        have he := he.symm
        subst he
        go_wp2_with fail
        exact bodyPost_ret (v := hV t 1099511627776) (by simp [results, Try.results44, go_sem, hV]) rfl ⟨HE0.out, ((Below.refl _ w).alloc (Nat.le_refl _) _).alloc (by simp) _⟩
end Go.Proofs.Ytlkikecnlafmeaa

/-
  The page's change done to bytes, walked.
  Conditions: as each theorem states them.
-/
import Derived.Test.YtahmihdahgbhkaaKA
namespace Go.Proofs.Ytahmihdahgbhkaa
open Go.RowKit

/-- A change of the page, as a value. -/
def chRA (c : Ch) (t : Value) : Value := match c.b with | some _ => .agg #[.int .i64 (c.n : Int), .int .i64 (-1), t] | none => .agg #[.int .i64 0, .int .i64 (c.n : Int), t]
theorem doC_over2 (l b : List UInt8) (n : Nat) (_h : n ≤ l.length) : (l.take n ++ b) ++ l.drop (n + b.length) = doC l ⟨n, some b⟩ := rfl
set_option maxHeartbeats 2000000 in
set_option maxRecDepth 100000 in
theorem does_cut (n : Nat) (t v : Value) (l : List UInt8) (B : Nat) (w : World) (hv : BR w B v l) (hn : n ≤ l.length) (h1 : l.length ≤ 10000000) (ht : ∃ A m c, t = .slice A m c) :
    Calls Try.prog 47 #[v, .agg #[.int .i64 0, .int .i64 (n : Int), t]] w fun e w' => ∃ u, e = .returned u ∧ BR w' w.heap.size u (doC l ⟨n, none⟩) ∧ Below w.heap.size w w' := by
  obtain ⟨tA, tm, tc, rfl⟩ := ht
  have hn0 : (0 : Int) ≤ (n : Int) := by omega
  obtain ⟨W0, hW0⟩ : ∃ W0, w.alloc (.cells #[.int .i64 0, .int .i64 (n : Int), .slice tA tm tc] 81) = W0 := ⟨_, rfl⟩
  have hX := show Blk W0 w.heap.size #[.int .i64 0, .int .i64 (n : Int), .slice tA tm tc] 81 by rw [← hW0]; exact Blk.new w _ _
  have HB := Lib.hid (show Below w.heap.size w W0 by rw [← hW0]; exact (Below.refl _ w).alloc (Nat.le_refl _) _)
  have e1 := hX.c 1 (u := .int .i64 (n : Int)) rfl
  have hv0 : BR W0 B v l := by rw [← hW0]; exact hv.alloc _
  have hs0 := HB.out.size
  rcases hv.form with ⟨rfl, rfl⟩ | ⟨g, cap, rfl, hg, hlt, hlc, hcm⟩
  · obtain rfl : n = 0 := by simpa using hn
    have HC := Lib.hid (copyBytes_any [] _ W0 (RB.nil W0) (by simp))
    have hW0 : w.alloc (.cells #[.int .i64 0, .int .i64 0, .slice tA tm tc] 81) = W0 := hW0
    have e1 : W0.cell? ⟨w.heap.size, 1, none⟩ = some (.int .i64 0) := e1
    clear hX hv hv0
    go_enter Try.func47, Try.ntmps47
    go_wp2_with fail
    refine Calls.mono HC.out ?_
    rintro e w1 ⟨u, rfl, hu, hb⟩
    have HU := Lib.hid (hu.mono hs0)
    have HB1 := Lib.hid (HB.out.trans (hb.mono hs0))
    clear hu hb
    go_wp2_with fail
    go_ret
    exact ⟨_, rfl, HU.out, HB1.out⟩
  · have hni : (n : Int) ≤ (cap : Int) := by omega
    have hcm2 : cap < 9223372036854775808 := by unfold maxLen at hcm; omega
    have hcut := hv0.cut hn
    have HC := Lib.hid (copyBytes_any (l.take n) _ W0 hcut.rb (by rw [List.length_take]; omega))
    clear hX hv hv0 hcut
    go_enter Try.func47, Try.ntmps47
    go_wp2_with fail
    refine Calls.mono HC.out ?_
    rintro e w1 ⟨u, rfl, hu, hb⟩
    have HU := Lib.hid (hu.mono hs0)
    have HB1 := Lib.hid (HB.out.trans (hb.mono hs0))
    clear hu hb
    go_wp2_with fail
    go_ret
    exact ⟨_, rfl, HU.out, HB1.out⟩

set_option maxHeartbeats 4000000 in
set_option maxRecDepth 100000 in
theorem does_write (n : Nat) (b : List UInt8) (t v : Value) (l : List UInt8) (B : Nat) (w : World) (hv : BR w B v l) (hn : n ≤ l.length) (ht : RB w t b) (h1 : l.length ≤ 10000000) (h2 : b.length ≤ 10000000) :
    Calls Try.prog 47 #[v, .agg #[.int .i64 (n : Int), .int .i64 (-1), t]] w fun e w' => ∃ u, e = .returned u ∧ BR w' w.heap.size u (doC l ⟨n, some b⟩) ∧ Below w.heap.size w w' := by
  obtain ⟨tA, tc, rfl, htc, htcm⟩ := ht.slice
  obtain ⟨W0, hW0⟩ : ∃ W0, w.alloc (.cells #[.int .i64 (n : Int), .int .i64 (-1), .slice tA b.length tc] 81) = W0 := ⟨_, rfl⟩
  have hX := show Blk W0 w.heap.size #[.int .i64 (n : Int), .int .i64 (-1), .slice tA b.length tc] 81 by rw [← hW0]; exact Blk.new w _ _
  have hb0 := show Below w.heap.size w W0 by rw [← hW0]; exact (Below.refl _ w).alloc (Nat.le_refl _) _
  have HB := Lib.hid hb0
  have HX := Lib.hid hX
  have e0 := hX.c 0 (u := .int .i64 (n : Int)) rfl
  have e1 := hX.c 1 (u := .int .i64 (-1)) rfl
  have hv0 : BR W0 B v l := hv.later hb0
  have HT0 := Lib.hid (ht.later hb0)
  have hs0 := HB.out.size
  have hlen : (l.take n ++ b).length = n + b.length := by simp; omega
  rcases hv.form with ⟨rfl, rfl⟩ | ⟨g, cap, rfl, hg, hlt, hlc, hcm⟩
  · obtain rfl : n = 0 := by simpa using hn
    have HC := Lib.hid (copyBytes_any [] _ W0 (RB.nil W0) (by simp))
    have hW0 : w.alloc (.cells #[.int .i64 0, .int .i64 (-1), .slice tA b.length tc] 81) = W0 := hW0
    have e0 : W0.cell? ⟨w.heap.size, 0, none⟩ = some (.int .i64 0) := e0
    have hnb : ¬ ((b.length : Int) < 0) := by omega
    clear hX hv hv0 ht hb0
    go_enter Try.func47, Try.ntmps47
    go_wp2_with fail
    refine Calls.mono HC.out ?_
    rintro e w1 ⟨u, rfl, hu, hb⟩
    have HU := Lib.hid hu
    have HB1 := Lib.hid hb
    have HT1 := Lib.hid (HT0.out.later hb)
    have c2 := (HX.out.later hb).c 2 (u := .slice tA b.length tc) rfl
    have hs1 := hb.size
    obtain ⟨uA, uc, rfl, _, _⟩ := hu.slice
    clear hu hb e0 e1 hW0
    go_wp2_with (at_builtin; refine wpList_append_b _ _ _ W0.heap.size (.slice uA ([] : List UInt8).length uc) _ [] b rfl rfl rfl rfl HU.out HT1.out (by omega) (by simp; omega) ?_)
    intro u2 w2 hr2 hg2 _
    have HR2 := Lib.hid (hr2.mono hs0)
    have HB2 := Lib.hid (HB.out.trans ((HB1.out.grown hg2 hs1 (fun k hk => (HU.out.lt k hk).1)).mono hs0))
    obtain ⟨vA, vc, rfl, _, _⟩ := hr2.slice
    clear hr2 hg2
    go_wp2_with fail
    go_ret
    refine ⟨_, rfl, ?_, HB2.out⟩
    have h3 := HR2.out
    simpa [doC] using h3
  · have hni : (n : Int) ≤ (cap : Int) := by omega
    have hn0 : (0 : Int) ≤ (n : Int) := by omega
    have hcm2 : cap < 9223372036854775808 := by unfold maxLen at hcm; omega
    have HC := Lib.hid (copyBytes_any (l.take n) _ W0 (hv0.cut hn).rb (by rw [List.length_take]; omega))
    have HV0 := Lib.hid hv0.rb
    clear hX hv hv0 ht hb0
    go_enter Try.func47, Try.ntmps47
    go_wp2_with fail
    refine Calls.mono HC.out ?_
    rintro e w1 ⟨u, rfl, hu, hb⟩
    have HU := Lib.hid hu
    have HB1 := Lib.hid hb
    have HT1 := Lib.hid (HT0.out.later hb)
    have HV1 := Lib.hid (HV0.out.later hb)
    have c2 := (HX.out.later hb).c 2 (u := .slice tA b.length tc) rfl
    have hs1 := hb.size
    obtain ⟨uA, uc, rfl, _, _⟩ := hu.slice
    have htl : (l.take n).length = n := by simp [hn]
    clear hu hb e0 e1 hW0
    go_wp2_with (at_builtin; refine wpList_append_b _ _ _ W0.heap.size (.slice uA (l.take n).length uc) _ (l.take n) b rfl rfl (by simp [Act.eval, htl]) rfl HU.out HT1.out (by omega) (by rw [htl]; omega) ?_)
    intro u2 w2 hr2 hg2 _
    have hb2 : Below W0.heap.size W0 w2 := HB1.out.grown hg2 hs1 (fun k hk => (HU.out.lt k (by rw [htl]; exact hk)).1)
    have HR2 := Lib.hid hr2
    have HB2 := Lib.hid hb2
    have HV2 := Lib.hid (HV0.out.later hb2)
    have hs2 := hb2.size
    obtain ⟨vA, vc, rfl, _, _⟩ := hr2.slice
    clear hr2 hg2 c2 hb2
    rw [hlen]
    by_cases hlt2 : n + b.length < l.length
    · have hlti : ((n + b.length : Nat) : Int) < (l.length : Int) := by omega
      have hm1 : ((n + b.length : Nat) : Int) ≤ (cap : Int) := by omega
      have hm2 : ((n + b.length : Nat) : Int) ≤ (l.length : Int) := by omega
      have hne : ¬ cap = n + b.length := by omega
      have HRE := Lib.hid (HV2.out.rest (n := n + b.length) (A := some ⟨g, n + b.length, none⟩) (by omega) (if_neg hne))
      generalize hq : n + b.length = q at *
      go_wp2_with (at_builtin; refine wpList_append_b _ _ _ W0.heap.size (.slice vA (l.take n ++ b).length vc) _ (l.take n ++ b) (l.drop q) rfl rfl (by simp [Act.eval, hlen]) rfl HR2.out HRE.out (by omega) (by rw [hlen, List.length_drop]; omega) ?_)
      intro u3 w3 hr3 hg3 _
      have HR3 := Lib.hid (hr3.mono hs0)
      have HB3 := Lib.hid (HB.out.trans ((HB2.out.grown hg3 hs2 (fun k hk => (HR2.out.lt k (by rw [hlen]; exact hk)).1)).mono hs0))
      obtain ⟨xA, xc, rfl, _, _⟩ := hr3.slice
      clear hr3 hg3
      go_wp2_with fail
      go_ret
      refine ⟨_, rfl, ?_, HB3.out⟩
      have h3 := HR3.out
      have e : doC l ⟨n, some b⟩ = (l.take n ++ b) ++ l.drop q := by rw [← hq]; rfl
      rw [e, List.append_assoc]
      exact h3
    · have hlti : ¬ (((n + b.length : Nat) : Int) < (l.length : Int)) := by omega
      have HD := Lib.hid (show l.drop (n + b.length) = [] from List.drop_of_length_le (by omega))
      generalize hq : n + b.length = q at *
      go_wp2_with fail
      go_ret
      refine ⟨_, rfl, ?_, (HB.out.trans (HB2.out.mono hs0))⟩
      have h3 := HR2.out.mono hs0
      have e : doC l ⟨n, some b⟩ = l.take n ++ b := by
        rw [← doC_over2 l b n hn, hq, HD.out, List.append_nil]
      rw [e]
      rw [hlen] at h3
      exact h3
end Go.Proofs.Ytahmihdahgbhkaa

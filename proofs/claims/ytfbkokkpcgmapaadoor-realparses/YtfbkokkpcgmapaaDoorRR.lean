/-
  Package real's readProduct and Parse, walked: they answer what the plain mathematics says.
  Conditions: as each theorem states them: the library's tables and errors are as they are laid, and the text is not too long.
-/
import Derived.Test.YtfbkokkpcgmapaaDoorRQ
namespace Go.Proofs.YtfbkokkpcgmapaaDoor
open Go.RowKit

theorem atoi_in {l : List UInt8} {v : Int} (h : Lib.atoiAll l = .ok v) : -9223372036854775808 ≤ v ∧ v ≤ 9223372036854775807 := by
  unfold Lib.atoiAll at h
  split at h
  · cases h
  · dsimp only at h
    split at h
    · cases h
    · cases h
    · split at h
      · cases h
      · split at h
        · cases h
        · injection h with h
          subst h
          split <;> omega

/-- How readProduct ends. -/
def endR : Option Nat → Ending
  | some x => .returned (.tuple #[.float .f64 x, .bool true])
  | none => .returned (.tuple #[.float .f64 0, .bool false])
def signR (b : Bool) (o : Option Nat) : Option Nat := if b then o.map (· + 9223372036854775808) else o
theorem sign_none (b : Bool) : signR b none = none := by cases b <;> rfl
theorem read_minus (t : List UInt8) : readL (45 :: t) = signR true (productL t) := by
  unfold readL
  rw [if_pos (show (45 :: t).head? = some 45 from rfl)]
  rfl
theorem read_plain {s : List UInt8} (h : s.head? ≠ some 45) : readL s = signR false (productL s) := by
  unfold readL
  rw [if_neg h]
  rfl
theorem pair_bad1 {p q : List UInt8} (h : ∀ m, Lib.parseUintB 64 p ≠ .ok m) : pairL p q = none := by
  unfold pairL
  split
  · rename_i m e h1 h2
    exact absurd h1 (h m)
  · rfl
theorem pair_bad2 {p q : List UInt8} (h : ∀ m, Lib.atoiAll q ≠ .ok m) : pairL p q = none := by
  unfold pairL
  split
  · rename_i m e h1 h2
    exact absurd h2 (h e)
  · rfl
theorem pair_good {p q : List UInt8} {m : Nat} {e : Int} (h1 : Lib.parseUintB 64 p = .ok m) (h2 : Lib.atoiAll q = .ok e) : pairL p q = if fitsL m e then some (joinL m e) else none := by
  unfold pairL
  rw [h1, h2]

set_option maxHeartbeats 4000000 in
set_option maxRecDepth 100000 in
theorem readProduct_any (s : List UInt8) (w : World) (hE : Errs w) (hs : s.length ≤ 10000) :
    Calls Tryd.prog 52 #[.string ⟨s.toArray⟩] w fun e w' => e = endR (readL s) ∧ Below w.heap.size w w' := by
  have HP := Lib.hid (cutPre_one 45 s w)
  have HER := Lib.hid hE
  clear hE
  go_enter Tryd.func52, Tryd.ntmps52
  go_wp2_with fail
  refine Calls.mono HP.out ?_
  rintro e w0 ⟨hpre, rfl⟩
  clear HP
  rcases hpre with ⟨t, hst, rfl⟩ | ⟨hne, rfl⟩
  · have HS := Lib.hid (show readL s = signR true (productL t) by rw [hst]; exact read_minus t)
    have ht : t.length ≤ 10000 := by rw [hst] at hs; simp at hs; omega
    clear hst hs
    have HC := Lib.hid (cut_one 112 t w (by unfold maxLen; omega))
    go_wp2_with fail
    refine Calls.mono HC.out ?_
    rintro e w1 ⟨⟨hn, rfl⟩ | ⟨p, r, hp, hr, rfl⟩, nd, rfl⟩
    · have HN := Lib.hid (show readL s = none by rw [HS.out, productL, cutP_none hn]; exact sign_none _)
      clear hn HC
      have HB0 := Lib.hid (below_drewN (Below.refl w.heap.size w) nd)
      have HE0 := Lib.hid (HER.out.keep HB0.out)
      have hsz0 := HB0.out.size
      generalize w.drewN nd = w1 at *
      have HU := Lib.hid (parseUint_any t w1 HE0.out ht)
      go_wp2_with fail
      refine Calls.mono HU.out ?_
      rintro e w2 ⟨⟨z, ev, rfl, _⟩, hb⟩
      have HB1 := Lib.hid (HB0.out.trans (hb.mono hsz0))
      have HE1 := Lib.hid (HE0.out.keep hb)
      have hsz1 := HB1.out.size
      have HA : Hid (Calls Tryd.prog 64 #[.string ⟨#[]⟩] w2 fun e w' => NumIs (fun z : Int => Value.int .i64 z) (Lib.atoiAll []) e ∧ Below w2.heap.size w2 w') := Lib.hid (atoi_any [] w2 HE1.out (by simp))
      clear hb HU HB0 HE0 hsz0
      go_wp2_with fail
      refine Calls.mono HA.out ?_
      rintro e w3 ⟨⟨z2, ev2, rfl, _⟩, hb⟩
      have HB2 := Lib.hid (HB1.out.trans (hb.mono hsz1))
      clear hb HA HB1 HE1
      go_wp2_with fail
      go_ret2
      exact ⟨by rw [HN.out]; rfl, HB2.out⟩
    · have HS2 := Lib.hid (show readL s = signR true (pairL p r) by rw [HS.out, productL, hr, cutP_some hp]; rfl)
      have hpl : p.length ≤ 10000 := by rw [hr] at ht; simp at ht; omega
      have hrl : r.length ≤ 10000 := by rw [hr] at ht; simp at ht; omega
      clear hp hr HC HS ht
      have HB0 := Lib.hid (below_drewN (Below.refl w.heap.size w) nd)
      have HE0 := Lib.hid (HER.out.keep HB0.out)
      have hsz0 := HB0.out.size
      generalize w.drewN nd = w1 at *
      have HU := Lib.hid (parseUint_any p w1 HE0.out hpl)
      go_wp2_with fail
      refine Calls.mono HU.out ?_
      rintro e w2 ⟨⟨z, ev, rfl, hz⟩, hb⟩
      have HB1 := Lib.hid (HB0.out.trans (hb.mono hsz0))
      have HE1 := Lib.hid (HE0.out.keep hb)
      have hsz1 := HB1.out.size
      have HA := Lib.hid (atoi_any r w2 HE1.out hrl)
      clear hb HU HB0 HE0 hsz0
      go_wp2_with fail
      refine Calls.mono HA.out ?_
      rintro e w3 ⟨⟨z2, ev2, rfl, hz2⟩, hb⟩
      have HB2 := Lib.hid (HB1.out.trans (hb.mono hsz1))
      clear hb HA HB1 HE1
      rcases hz with ⟨hz, rfl⟩ | ⟨hz, q, rfl⟩
      · rcases hz2 with ⟨hz2, rfl⟩ | ⟨hz2, q, rfl⟩
        · have hin := atoi_in hz2
          have hzl := uint_lt hz
          have HF := Lib.hid (fun W => fits_any z z2 W hzl hin.1 hin.2)
          rw [pair_good hz hz2] at HS2
          cases hfit : fitsL z z2 with
          | true =>
            have HJ := Lib.hid (fun W => join_any z z2 W hzl hfit)
            have hjl := join_lt hzl hfit
            rw [hfit] at HF HS2
            have hor := or_top (x := joinL z z2) (by omega)
            have hff := run_from (joinL z z2)
            have hff2 := run_from (joinL z z2 + 9223372036854775808)
            obtain ⟨y, hy⟩ : ∃ y, joinL z z2 + 9223372036854775808 = y := ⟨_, rfl⟩
            have HY := Lib.hid (show readL s = some (y) by rw [HS2.out, ← hy]; rfl)
            rw [hy] at hor hff2
            clear hz hz2 hin hzl hfit HS2 hjl hy
            generalize joinL z z2 = x at *
            go_wp2_with fail
            refine Calls.mono (HF.out _) ?_
            rintro e w4 ⟨rfl, rfl⟩
            go_wp2_with fail
            refine Calls.mono (HJ.out _) ?_
            rintro e w4 ⟨rfl, rfl⟩
            go_wp2_with fail
            go_ret2
            exact ⟨by rw [HY.out]; rfl, HB2.out⟩
          | false =>
            rw [hfit] at HF HS2
            have HN := Lib.hid (show readL s = none by rw [HS2.out]; rfl)
            clear hz hz2 hin hzl hfit HS2
            go_wp2_with fail
            refine Calls.mono (HF.out _) ?_
            rintro e w4 ⟨rfl, rfl⟩
            go_wp2_with fail
            go_ret2
            exact ⟨by rw [HN.out]; rfl, HB2.out⟩
        · have HN := Lib.hid (show readL s = none by rw [HS2.out, pair_bad2 hz2]; rfl)
          clear hz hz2 HS2
          go_wp2_with fail
          go_ret2
          exact ⟨by rw [HN.out]; rfl, HB2.out⟩
      · have HN := Lib.hid (show readL s = none by rw [HS2.out, pair_bad1 hz]; rfl)
        clear hz hz2 HS2
        go_wp2_with fail
        go_ret2
        exact ⟨by rw [HN.out]; rfl, HB2.out⟩
  · have HS := Lib.hid (read_plain hne)
    have ht := hs
    clear hne hs
    have HC := Lib.hid (cut_one 112 s w (by unfold maxLen; omega))
    go_wp2_with fail
    refine Calls.mono HC.out ?_
    rintro e w1 ⟨⟨hn, rfl⟩ | ⟨p, r, hp, hr, rfl⟩, nd, rfl⟩
    · have HN := Lib.hid (show readL s = none by rw [HS.out, productL, cutP_none hn]; exact sign_none _)
      clear hn HC
      have HB0 := Lib.hid (below_drewN (Below.refl w.heap.size w) nd)
      have HE0 := Lib.hid (HER.out.keep HB0.out)
      have hsz0 := HB0.out.size
      generalize w.drewN nd = w1 at *
      have HU := Lib.hid (parseUint_any s w1 HE0.out ht)
      go_wp2_with fail
      refine Calls.mono HU.out ?_
      rintro e w2 ⟨⟨z, ev, rfl, _⟩, hb⟩
      have HB1 := Lib.hid (HB0.out.trans (hb.mono hsz0))
      have HE1 := Lib.hid (HE0.out.keep hb)
      have hsz1 := HB1.out.size
      have HA : Hid (Calls Tryd.prog 64 #[.string ⟨#[]⟩] w2 fun e w' => NumIs (fun z : Int => Value.int .i64 z) (Lib.atoiAll []) e ∧ Below w2.heap.size w2 w') := Lib.hid (atoi_any [] w2 HE1.out (by simp))
      clear hb HU HB0 HE0 hsz0
      go_wp2_with fail
      refine Calls.mono HA.out ?_
      rintro e w3 ⟨⟨z2, ev2, rfl, _⟩, hb⟩
      have HB2 := Lib.hid (HB1.out.trans (hb.mono hsz1))
      clear hb HA HB1 HE1
      go_wp2_with fail
      go_ret2
      exact ⟨by rw [HN.out]; rfl, HB2.out⟩
    · have HS2 := Lib.hid (show readL s = signR false (pairL p r) by rw [HS.out, productL, hr, cutP_some hp]; rfl)
      have hpl : p.length ≤ 10000 := by rw [hr] at ht; simp at ht; omega
      have hrl : r.length ≤ 10000 := by rw [hr] at ht; simp at ht; omega
      clear hp hr HC HS ht
      have HB0 := Lib.hid (below_drewN (Below.refl w.heap.size w) nd)
      have HE0 := Lib.hid (HER.out.keep HB0.out)
      have hsz0 := HB0.out.size
      generalize w.drewN nd = w1 at *
      have HU := Lib.hid (parseUint_any p w1 HE0.out hpl)
      go_wp2_with fail
      refine Calls.mono HU.out ?_
      rintro e w2 ⟨⟨z, ev, rfl, hz⟩, hb⟩
      have HB1 := Lib.hid (HB0.out.trans (hb.mono hsz0))
      have HE1 := Lib.hid (HE0.out.keep hb)
      have hsz1 := HB1.out.size
      have HA := Lib.hid (atoi_any r w2 HE1.out hrl)
      clear hb HU HB0 HE0 hsz0
      go_wp2_with fail
      refine Calls.mono HA.out ?_
      rintro e w3 ⟨⟨z2, ev2, rfl, hz2⟩, hb⟩
      have HB2 := Lib.hid (HB1.out.trans (hb.mono hsz1))
      clear hb HA HB1 HE1
      rcases hz with ⟨hz, rfl⟩ | ⟨hz, q, rfl⟩
      · rcases hz2 with ⟨hz2, rfl⟩ | ⟨hz2, q, rfl⟩
        · have hin := atoi_in hz2
          have hzl := uint_lt hz
          have HF := Lib.hid (fun W => fits_any z z2 W hzl hin.1 hin.2)
          rw [pair_good hz hz2] at HS2
          cases hfit : fitsL z z2 with
          | true =>
            have HJ := Lib.hid (fun W => join_any z z2 W hzl hfit)
            have hjl := join_lt hzl hfit
            rw [hfit] at HF HS2
            have hor := or_top (x := joinL z z2) (by omega)
            have hff := run_from (joinL z z2)
            have hff2 := run_from (joinL z z2 + 9223372036854775808)
            obtain ⟨y, hy⟩ : ∃ y, joinL z z2 + 9223372036854775808 = y := ⟨_, rfl⟩
            have HY := Lib.hid (show readL s = some (joinL z z2) by rw [HS2.out]; rfl)
            rw [hy] at hor hff2
            clear hz hz2 hin hzl hfit HS2 hjl hy
            generalize joinL z z2 = x at *
            go_wp2_with fail
            refine Calls.mono (HF.out _) ?_
            rintro e w4 ⟨rfl, rfl⟩
            go_wp2_with fail
            refine Calls.mono (HJ.out _) ?_
            rintro e w4 ⟨rfl, rfl⟩
            go_wp2_with fail
            go_ret2
            exact ⟨by rw [HY.out]; rfl, HB2.out⟩
          | false =>
            rw [hfit] at HF HS2
            have HN := Lib.hid (show readL s = none by rw [HS2.out]; rfl)
            clear hz hz2 hin hzl hfit HS2
            go_wp2_with fail
            refine Calls.mono (HF.out _) ?_
            rintro e w4 ⟨rfl, rfl⟩
            go_wp2_with fail
            go_ret2
            exact ⟨by rw [HN.out]; rfl, HB2.out⟩
        · have HN := Lib.hid (show readL s = none by rw [HS2.out, pair_bad2 hz2]; rfl)
          clear hz hz2 HS2
          go_wp2_with fail
          go_ret2
          exact ⟨by rw [HN.out]; rfl, HB2.out⟩
      · have HN := Lib.hid (show readL s = none by rw [HS2.out, pair_bad1 hz]; rfl)
        clear hz hz2 HS2
        go_wp2_with fail
        go_ret2
        exact ⟨by rw [HN.out]; rfl, HB2.out⟩
end Go.Proofs.YtfbkokkpcgmapaaDoor

/-
  RealParses: which float any text is, is the page's, or it is none: the statement's own walk.
  Conditions: as each theorem states them: the words given lie in memory; the library's two tables are as their initialisers lay them.
-/
import Derived.Test.YtfbkokkpcgmapaaDoorRG
import Derived.Test.YtfbkokkpcgmapaaDoorRHTextsW
import Derived.Test.YtfbkokkpcgmapaaDoorRPP
import Derived.Test.YtfbkokkpcgmapaaDoorRY
namespace Go.Proofs.YtfbkokkpcgmapaaDoor
open Go.RowKit

set_option maxHeartbeats 4000000 in
set_option maxRecDepth 100000 in
theorem parses_any (l : List (List UInt8)) (v : Value) (w : World) (h : StrsAt w v l) (hT : Tabs w) (hE : Errs w) :
    Calls Tryd.prog 8 #[v] w fun e w' => e = .returned (.bool true) ∧ Below w.heap.size w w' := by
  have HT := Lib.hid hT
  have HER := Lib.hid hE
  have HU := Lib.hid h
  obtain ⟨A0, c0, rfl, hlen0, _⟩ := h
  have hll : l.length < 9223372036854775808 := by unfold maxLen at hlen0; omega
  clear hT hE hlen0
  go_enter Tryd.func8, Tryd.ntmps8
  go_wp2_with fail
  go_loopw [3] (fun iv wr => ∃ i : Nat, iv = .int .i64 i ∧ i ≤ l.length ∧ i ≤ 40 ∧ Below w.heap.size w wr) (fun iv _ => 41 - (intOf iv).toNat)
  case atStart => exact ⟨0, rfl, Nat.zero_le _, Nat.zero_le _, Below.refl _ _⟩
  case round =>
    obtain ⟨i, rfl, hil, hi40, hb⟩ := hrel
    have HB := Lib.hid hb
    have hszr := hb.size
    clear hb
    by_cases hlt : i < l.length
    · have hlti : (i : Int) < (l.length : Int) := by omega
      by_cases h40 : i < 40
      · have h40i : (i : Int) < 40 := by omega
        have HCE := Lib.hid (show ∃ b o, A0 = some ⟨b, o, none⟩ ∧ ∀ W, Below w.heap.size w W → W.cell? ⟨b, o + i, none⟩ = some (.string ⟨l[i].toArray⟩) by
          obtain ⟨b, o, hA, _⟩ := HU.out.cell hlt rfl HB.out
          refine ⟨b, o, hA, fun W hW => ?_⟩
          obtain ⟨b', o', hA', hc⟩ := HU.out.cell hlt rfl hW
          rw [hA] at hA'
          injection hA' with hA'
          injection hA' with h1 h2
          subst h1 h2
          exact hc)
        obtain ⟨b, o, rfl, hcell⟩ := HCE.out
        have HC := Lib.hid hcell
        have hc := HC.out wr HB.out
        generalize l[i] = s at *
        clear hcell HCE
        by_cases hs : s.length ≤ 2000
        · have hsi : decide ((2000 : Int) < (s.length : Int)) = false := decide_eq_false (by omega)
          have HF := Lib.hid (fParse_any s wr (HT.out.keep HB.out) (HER.out.keep HB.out) (by omega))
          have HR := Lib.hid (fun W => rParse_any s W (by omega))
          rw [← prog_page s] at HR
          cases hp : progL s with
          | some x =>
            have HQ := Lib.hid (fun W => eqFloat_any x x W)
            rw [eq_self] at HQ
            have HN := Lib.hid (fun W => num_any 0 W)
            rw [hp] at HF HR
            clear hp
            go_wp2_with fail
            refine Calls.mono HF.out ?_
            rintro e w2 ⟨rfl, hb⟩
            have HB2 := Lib.hid (HB.out.trans (hb.mono hszr))
            have hsz2 := HB2.out.size
            have hc2 := HC.out w2 HB2.out
            clear hb hc
            unfold endP
            go_wp2_with fail
            refine Calls.mono (HR.out _) ?_
            rintro e w3 ⟨rfl, hb⟩
            have HB3 := Lib.hid (HB2.out.trans (hb.mono hsz2))
            clear hb hc2
            unfold endR
            go_wp2_with fail
            refine Calls.mono (HN.out _) ?_
            rintro e w4 ⟨rfl, rfl⟩
            go_wp2_with fail
            refine Calls.mono (HQ.out _) ?_
            rintro e w4 ⟨rfl, rfl⟩
            go_wp2_with fail
            exact ⟨⟨i + 1, by go_num, by omega, by omega, HB3.out⟩, by simp [intOf]; omega⟩
          | none =>
            have HN := Lib.hid (fun W => num_any 8 W)
            rw [hp] at HF HR
            clear hp
            go_wp2_with fail
            refine Calls.mono HF.out ?_
            rintro e w2 ⟨rfl, hb⟩
            have HB2 := Lib.hid (HB.out.trans (hb.mono hszr))
            have hsz2 := HB2.out.size
            have hc2 := HC.out w2 HB2.out
            clear hb hc
            unfold endP
            go_wp2_with fail
            refine Calls.mono (HR.out _) ?_
            rintro e w3 ⟨rfl, hb⟩
            have HB3 := Lib.hid (HB2.out.trans (hb.mono hsz2))
            clear hb hc2
            unfold endR
            go_wp2_with fail
            refine Calls.mono (HN.out _) ?_
            rintro e w4 ⟨rfl, rfl⟩
            go_wp2_with fail
            refine Calls.mono (HN.out _) ?_
            rintro e w4 ⟨rfl, rfl⟩
            go_wp2_with fail
            exact ⟨⟨i + 1, by go_num, by omega, by omega, HB3.out⟩, by simp [intOf]; omega⟩
        · have hsi : (2000 : Int) < (s.length : Int) := by omega
          go_wp2_with fail
          go_ret
          exact ⟨rfl, HB.out⟩
      · have h40i : decide ((i : Int) < 40) = false := decide_eq_false (by omega)
        have HW := Lib.hid (wakes_any wr (HT.out.keep HB.out))
        clear HU hlt
        go_wp2_with fail
        refine Calls.mono HW.out ?_
        rintro e w2 ⟨rfl, hb⟩
        have HB2 := Lib.hid (HB.out.trans (hb.mono hszr))
        clear hb
        go_wp2_with fail
        go_ret
        exact ⟨rfl, HB2.out⟩
    · have hlti : decide ((i : Int) < (l.length : Int)) = false := decide_eq_false (by omega)
      have HW := Lib.hid (wakes_any wr (HT.out.keep HB.out))
      clear HU
      go_wp2_with fail
      refine Calls.mono HW.out ?_
      rintro e w2 ⟨rfl, hb⟩
      have HB2 := Lib.hid (HB.out.trans (hb.mono hszr))
      clear hb
      go_wp2_with fail
      go_ret
      exact ⟨rfl, HB2.out⟩
end Go.Proofs.YtfbkokkpcgmapaaDoor

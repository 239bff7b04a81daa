/-
  RealTexts: the text of any float is the page's, and read again it is the same float: the statement's own walk.
  Conditions: as each theorem states them: the words given lie in memory; the library's two tables are as their initialisers lay them.
-/
import Derived.Test.YtfbkokkpcgmapaaDoorRG
import Derived.Test.YtfbkokkpcgmapaaDoorRHClassesW
import Derived.Test.YtfbkokkpcgmapaaDoorRS
import Derived.Test.YtfbkokkpcgmapaaDoorRU
namespace Go.Proofs.YtfbkokkpcgmapaaDoor
open Go.RowKit

theorem num_any (n : Int) (w : World) : Calls Tryd.prog 31 #[.int .i64 n] w fun e w' => e = .returned (.int .i64 n) ∧ w' = w := by
  go_enter Tryd.func31, Tryd.ntmps31
  go_wp2
  go_ret
  exact ⟨rfl, rfl⟩

set_option maxHeartbeats 4000000 in
set_option maxRecDepth 100000 in
theorem texts_any (l : List Nat) (v : Value) (w : World) (h : UsAt w v l) (hT : Tabs w) (hE : Errs w) :
    Calls Tryd.prog 7 #[v] w fun e w' => e = .returned (.bool true) ∧ Below w.heap.size w w' := by
  have HT := Lib.hid hT
  have HER := Lib.hid hE
  have HA := Lib.hid (all_any l v w h)
  have HLT := Lib.hid (all_lt (show ∀ x ∈ l, x < 18446744073709551616 by obtain ⟨_, _, _, _, h, _⟩ := h; exact h))
  have HU := Lib.hid h
  obtain ⟨A0, c0, rfl, hlen0, _, _⟩ := h
  have hll : l.length < 9223372036854775808 := by unfold maxLen at hlen0; omega
  clear hT hE hlen0
  go_enter Tryd.func7, Tryd.ntmps7
  go_wp2_with fail
  refine Calls.mono HA.out ?_
  rintro e w1 ⟨u, rfl, hrow, hb1⟩
  have HB1 := Lib.hid hb1
  have HT1 := Lib.hid (HT.out.keep hb1)
  have HE1 := Lib.hid (HER.out.keep hb1)
  obtain ⟨g, cap, rfl, hg, hgs, hcell⟩ := hrow.get (by unfold allL edgeL; simp)
  have HCELL := Lib.hid hcell
  have hsz1 := hb1.size
  have hX : (allL l).length ≤ 45 := by unfold allL; rw [List.length_append, show edgeL.length = 15 from rfl, List.length_take]; omega
  have hX0 : 15 ≤ (allL l).length := by unfold allL; rw [List.length_append, show edgeL.length = 15 from rfl]; omega
  generalize allL l = X at *
  clear hrow hb1 hcell HA HT hg
  go_wp2_with fail
  go_loopw [4] (fun iv wr => ∃ i : Nat, iv = .int .i64 i ∧ i ≤ X.length ∧ Below w1.heap.size w1 wr) (fun iv _ => X.length - (intOf iv).toNat)
  case atStart => exact ⟨0, rfl, Nat.zero_le _, Below.refl _ _⟩
  case round =>
    obtain ⟨i, rfl, hi, hb⟩ := hrel
    have HB := Lib.hid hb
    have hszr := hb.size
    clear hb
    by_cases hlt : i < X.length
    · have hlti : (i : Int) < (X.length : Int) := by omega
      have HCI := Lib.hid (HCELL.out i hlt)
      have hc := (HB.out.cell (p := ⟨g, i, none⟩) hgs).trans HCI.out
      have ha := HLT.out _ (List.getElem_mem hlt)
      generalize X[i] = a at *
      obtain ⟨y, hy, hey, hyl⟩ := prog_text ha
      have HX := Lib.hid (fText_any a wr (HT1.out.keep HB.out) ha)
      have HP := Lib.hid (fun W hT hE => fParse_any (textF a) W hT hE (by have := text_len (a := a); omega))
      rw [hy] at HP
      have HR := Lib.hid (fun W => rText_any a W ha)
      have HQ := Lib.hid (fun W => eqFloat_any y a W)
      rw [hey] at HQ
      have HN := Lib.hid (fun W => num_any 0 W)
      have hne : (textF a != textF a) = false := by simp
      generalize textF a = tx at *
      clear ha hy hey hyl
      go_wp2_with fail
      refine Calls.mono HX.out ?_
      rintro e w2 ⟨rfl, hb⟩
      have HB2 := Lib.hid (HB.out.trans (hb.mono hszr))
      have hsz2 := HB2.out.size
      clear hb HX hc HB
      go_wp2_with fail
      refine Calls.mono (HP.out _ (HT1.out.keep HB2.out) (HE1.out.keep HB2.out)) ?_
      rintro e w3 ⟨rfl, hb⟩
      have HB3 := Lib.hid (HB2.out.trans (hb.mono hsz2))
      have hsz3 := HB3.out.size
      have hc := (HB3.out.cell (p := ⟨g, i, none⟩) hgs).trans HCI.out
      clear hb HP HB2
      unfold endP
      go_wp2_with fail
      refine Calls.mono (HR.out _) ?_
      rintro e w4 ⟨rfl, hb⟩
      have HB4 := Lib.hid (HB3.out.trans (hb.mono hsz3))
      have hc4 := (HB4.out.cell (p := ⟨g, i, none⟩) hgs).trans HCI.out
      clear hb HR HB3 hc
      go_wp2_with fail
      refine Calls.mono (HN.out _) ?_
      rintro e w5 ⟨rfl, rfl⟩
      go_wp2_with fail
      refine Calls.mono (HQ.out _) ?_
      rintro e w5 ⟨rfl, rfl⟩
      go_wp2_with fail
      exact ⟨⟨i + 1, by go_num, by omega, HB4.out⟩, by simp [intOf]; omega⟩
    have hlti : ¬ ((i : Int) < (X.length : Int)) := by omega
    obtain rfl : i = X.length := by omega
    have HW := Lib.hid (wakes_any wr (HT1.out.keep HB.out))
    have HBW := Lib.hid (HB1.out.trans (HB.out.mono hsz1))
    clear HB1 HB
    go_wp2_with fail
    refine Calls.mono HW.out ?_
    rintro e w2 ⟨rfl, hb⟩
    have HB2 := Lib.hid (HBW.out.trans (hb.mono (Nat.le_trans hsz1 hszr)))
    clear hb
    go_wp2_with fail
    go_ret
    exact ⟨rfl, HB2.out⟩
end Go.Proofs.YtfbkokkpcgmapaaDoor

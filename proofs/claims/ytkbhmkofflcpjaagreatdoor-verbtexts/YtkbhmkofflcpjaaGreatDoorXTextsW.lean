/-
  The law VerbTexts, walked: at every list of scripts that can be read it answers true and turns nothing that was there.
  Conditions: as each theorem states them.
-/
import Derived.Test.YtkbhmkofflcpjaaGreatDoorXParsesW
namespace Go.Proofs.YtkbhmkofflcpjaaGreatDoor
open Go.RowKit

set_option maxHeartbeats 4000000 in
set_option maxRecDepth 100000 in
theorem texts_any (l : List Ask) (v : Value) (w : World) (hl : AsksAt w v l) (hg : Gl w) (ht : Tab w) :
    Calls Tryz.prog 3 #[v] w fun e w' => e = .returned (.bool true) ∧ Below w.heap.size w w' := by
  obtain ⟨A, c, rfl, hll, hl⟩ := hl
  unfold maxLen at hll
  have HL := Lib.hid hl
  have HG := Lib.hid hg
  have HTB := Lib.hid ht
  have hg10 := hg.sz
  clear hl hg ht
  go_enter Tryz.func3, Tryz.ntmps3
  go_wp2_with fail
  go_loopw [3] (fun i wr => ∃ j : Nat, j ≤ l.length ∧ i = .int .i64 j ∧ Below w.heap.size w wr) (fun i _ => l.length - (intOf i).toNat)
  case atStart => exact ⟨0, Nat.zero_le _, rfl, Below.refl _ _⟩
  case round =>
    obtain ⟨j, hj, rfl, hB⟩ := hrel
    have HB := Lib.hid hB
    have hsz := hB.size
    have HGR := Lib.hid (HG.out.keep hB)
    have HTR := Lib.hid (HTB.out.keep hB (by omega))
    have hg10r : 5 < wr.heap.size := by omega
    clear hB
    by_cases hlt : j < l.length
    · by_cases h15 : j < 15
      · have h15i : (j : Int) < 15 := by omega
        obtain ⟨b, o, rfl, hab, hac⟩ := HL.out (fun e => by rw [e] at hlt; exact absurd hlt (by simp))
        have hq1 : AskAt wr b (o + j * 8) l[j] := (hac j hlt).keep HB.out hab
        have hbr : b < wr.heap.size := by omega
        clear hac
        generalize l[j] = q at *
        obtain ⟨⟨k, wd, x, ll, d, z⟩, s, n⟩ := q
        have HQ := Lib.hid (fun W (hW : Below wr.heap.size wr W) => hq1.keep hW hbr)
        obtain ⟨c0, c1, c2, c3, c4, c5, c6, c7, b1, b3, b4, b6⟩ := hq1
        simp only at c0 c1 c2 c3 c4 c5 c6 c7 b1 b3 b4 b6
        have HH := Lib.hid (heavy_any ⟨k, wd, x, ll, d, z⟩ s n wr b1 b3 b4 b6)
        clear b1 b3 b4 b6
        go_wp2_with fail
        refine Calls.mono (show _ from HH.out) ?_
        rintro e w1 ⟨rfl | ⟨rfl, hsh, hsl⟩, hb1⟩
        · go_wp2_with fail
          go_ret
          exact ⟨rfl, upB HB.out (Nat.le_refl _) hb1⟩
        · have HB1 := Lib.hid hb1
          have HV := Lib.hid (fun W => rverb_any ⟨k, wd, x, ll, d, z⟩ W ⟨by have := hsh.1; omega, by have := hsh.2.1; omega, by have := hsh.2.2; omega⟩)
          have HT := Lib.hid (fun W (hW : Below wr.heap.size wr W) => vText_any ⟨k, wd, x, ll, d, z⟩ W ⟨by have := hsh.1; omega, by have := hsh.2.1; omega, by have := hsh.2.2; omega⟩ (HTR.out.keep hW hg10r) (HGR.out.keep hW))
          have HC := Lib.hid (fun W (hW : Below wr.heap.size wr W) => vCheck_any ⟨k, wd, x, ll, d, z⟩ W ⟨by have := hsh.1; omega, by have := hsh.2.1; omega, by have := hsh.2.2; omega⟩ (HGR.out.keep hW))
          have HRT := Lib.hid (fun W (h : validV ⟨k, wd, x, ll, d, z⟩ = true) => rverbText_any ⟨k, wd, x, ll, d, z⟩ W ⟨by have := hsh.1; omega, by have := hsh.2.1; omega, by have := hsh.2.2; omega⟩ h)
          clear HH c0 c1 c2 c3 c4 c5 c6 c7 hsh
          have hk := HQ.out w1 hb1
          have d0 := hk.c0
          have d1 := hk.c1
          have d2 := hk.c2
          have d3 := hk.c3
          have d4 := hk.c4
          have d5 := hk.c5
          have d6 := hk.c6
          have d7 := hk.c7
          simp only at d0 d1 d2 d3 d4 d5 d6 d7
          clear hk
          clear hb1
          go_wp2_with fail
          refine Calls.mono (show _ from HV.out _) ?_
          rintro e w2 ⟨rfl, hb⟩
          have hkw2 := HB1.out.trans (hb.mono HB1.out.size)
          have HBw2 := Lib.hid hkw2
          clear hb
          clear d0 d1 d2 d3 d4 d5 d6 d7
          have hk := HQ.out w2 hkw2
          have d0 := hk.c0
          have d1 := hk.c1
          have d2 := hk.c2
          have d3 := hk.c3
          have d4 := hk.c4
          have d5 := hk.c5
          have d6 := hk.c6
          have d7 := hk.c7
          simp only at d0 d1 d2 d3 d4 d5 d6 d7
          clear hk
          clear hkw2
          have HTW : Hid (textW ⟨k, wd, x, ll, d, z⟩ = if validV ⟨k, wd, x, ll, d, z⟩ then textV ⟨k, wd, x, ll, d, z⟩ else []) := Lib.hid rfl
          cases hval : validV ⟨k, wd, x, ll, d, z⟩ with
          | true =>
            have HR := Lib.hid (fun W => HRT.out W hval)
            have htw : textW ⟨k, wd, x, ll, d, z⟩ = textV ⟨k, wd, x, ll, d, z⟩ := by rw [HTW.out, hval]; rfl
            rw [hval, htw, show chk true = 0 from rfl] at HT
            rw [hval, show chk true = 0 from rfl] at HC
            clear hval htw HTW HRT HV
            generalize textV ⟨k, wd, x, ll, d, z⟩ = tx at *
            go_wp2_with fail
            refine Calls.mono (show _ from HR.out _) ?_
            rintro e w3 ⟨rfl, hb⟩
            have hkw3 := HBw2.out.trans (hb.mono HBw2.out.size)
            have HBw3 := Lib.hid hkw3
            clear hb
            clear d0 d1 d2 d3 d4 d5 d6 d7
            have hk := HQ.out w3 hkw3
            have d0 := hk.c0
            have d1 := hk.c1
            have d2 := hk.c2
            have d3 := hk.c3
            have d4 := hk.c4
            have d5 := hk.c5
            have d6 := hk.c6
            have d7 := hk.c7
            simp only at d0 d1 d2 d3 d4 d5 d6 d7
            clear hk
            clear hkw3
            go_wp2_with fail
            refine Calls.mono (show _ from HT.out _ HBw3.out) ?_
            rintro e w4 ⟨rfl, hb⟩
            have hkw4 := HBw3.out.trans (hb.mono HBw3.out.size)
            have HBw4 := Lib.hid hkw4
            clear hb
            clear d0 d1 d2 d3 d4 d5 d6 d7
            have hk := HQ.out w4 hkw4
            have d0 := hk.c0
            have d1 := hk.c1
            have d2 := hk.c2
            have d3 := hk.c3
            have d4 := hk.c4
            have d5 := hk.c5
            have d6 := hk.c6
            have d7 := hk.c7
            simp only at d0 d1 d2 d3 d4 d5 d6 d7
            clear hk
            clear hkw4
            go_wp2_with fail
            refine Calls.mono (show _ from HC.out _ HBw4.out) ?_
            rintro e w5 ⟨rfl, hb⟩
            have hkw5 := HBw4.out.trans (hb.mono HBw4.out.size)
            have HBw5 := Lib.hid hkw5
            clear hb
            clear d0 d1 d2 d3 d4 d5 d6 d7
            have HBX := Lib.hid (upB HB.out (Nat.le_refl _) hkw5)
            clear hkw5
            go_wp2_with (go_at_call 19; refine (num_any _ _).mono ?_; rintro e w9 ⟨rfl, rfl⟩)
            exact ⟨⟨j + 1, hlt, by go_num, HBX.out⟩, by simp [intOf]; omega⟩
          | false =>
            have htw : textW ⟨k, wd, x, ll, d, z⟩ = [] := by rw [HTW.out, hval]; rfl
            rw [hval, htw, show chk false = 1 from rfl] at HT
            rw [hval, show chk false = 1 from rfl] at HC
            clear hval htw HTW HRT HV
            go_wp2_with fail
            refine Calls.mono (show _ from HT.out _ HBw2.out) ?_
            rintro e w4 ⟨rfl, hb⟩
            have hkw4 := HBw2.out.trans (hb.mono HBw2.out.size)
            have HBw4 := Lib.hid hkw4
            clear hb
            clear d0 d1 d2 d3 d4 d5 d6 d7
            have hk := HQ.out w4 hkw4
            have d0 := hk.c0
            have d1 := hk.c1
            have d2 := hk.c2
            have d3 := hk.c3
            have d4 := hk.c4
            have d5 := hk.c5
            have d6 := hk.c6
            have d7 := hk.c7
            simp only at d0 d1 d2 d3 d4 d5 d6 d7
            clear hk
            clear hkw4
            go_wp2_with fail
            refine Calls.mono (show _ from HC.out _ HBw4.out) ?_
            rintro e w5 ⟨rfl, hb⟩
            have hkw5 := HBw4.out.trans (hb.mono HBw4.out.size)
            have HBw5 := Lib.hid hkw5
            clear hb
            clear d0 d1 d2 d3 d4 d5 d6 d7
            have HBX := Lib.hid (upB HB.out (Nat.le_refl _) hkw5)
            clear hkw5
            go_wp2_with (go_at_call 19; refine (num_any _ _).mono ?_; rintro e w9 ⟨rfl, rfl⟩)
            exact ⟨⟨j + 1, hlt, by go_num, HBX.out⟩, by simp [intOf]; omega⟩
      · have h15' : decide ((j : Int) < 15) = false := by simp; omega
        go_wp2_with fail
        refine (wakes_any wr HGR.out).mono ?_
        rintro e w1 ⟨rfl, hb1⟩
        go_wp2
        go_ret
        exact ⟨rfl, upB HB.out (Nat.le_refl _) hb1⟩
    · go_wp2_with fail
      refine (wakes_any wr HGR.out).mono ?_
      rintro e w1 ⟨rfl, hb1⟩
      go_wp2
      go_ret
      exact ⟨rfl, upB HB.out (Nat.le_refl _) hb1⟩
end Go.Proofs.YtkbhmkofflcpjaaGreatDoor

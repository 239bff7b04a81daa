/-
  The law VerbBack, walked: at every list of scripts that can be read it answers true and turns nothing that was there.
  Conditions: as each theorem states them.
-/
import Derived.Test.YtkbhmkofflcpjaaGreatDoorXParsesW
import Derived.Test.YtkbhmkofflcpjaaGreatDoorXB
import Derived.BigQuiet
import Derived.Deep.QuietTactic
import Derived.RegionTactic
import Derived.Deep.CutRange
import Derived.Deep.DeepCutAuto
namespace Go.Proofs.YtkbhmkofflcpjaaGreatDoor
open Go.RowKit

set_option maxHeartbeats 8000000 in
set_option maxRecDepth 100000 in
theorem back_any (l : List Ask) (v : Value) (w : World) (hl : AsksAt w v l) (hg : Gl w) (ht : Tab w) :
    Calls Tryz.prog 5 #[v] w fun e w' => e = .returned (.bool true) ∧ Below w.heap.size w w' := by
  obtain ⟨A, c, rfl, hll, hl⟩ := hl
  unfold maxLen at hll
  have HL := Lib.hid hl
  have HG := Lib.hid hg
  have HTB := Lib.hid ht
  have hg10 := hg.sz
  clear hl hg ht
  go_enter Tryz.func5, Tryz.ntmps5
  go_wp2_with fail
  go_loopw [3] (fun i wr => ∃ j : Nat, j ≤ l.length ∧ i = .int .i64 j ∧ Below w.heap.size w wr) (fun i _ => l.length - (intOf i).toNat)
  case atStart => exact ⟨0, Nat.zero_le _, rfl, Below.refl _ _⟩
  case round =>
    obtain ⟨j, hj, rfl, hB⟩ := hrel
    have HB := Lib.hid hB
    have hsz := hB.size
    have HGR := Lib.hid (HG.out.keep hB)
    have HTR := Lib.hid (HTB.out.keep hB (by omega))
    have hg10r : 5 < wr.heap.size := by omega
    clear hB
    by_cases hlt : j < l.length
    · by_cases h15 : j < 15
      · have h15i : (j : Int) < 15 := by omega
        obtain ⟨b, o, rfl, hab, hac⟩ := HL.out (fun e => by rw [e] at hlt; exact absurd hlt (by simp))
        have hq1 : AskAt wr b (o + j * 8) l[j] := (hac j hlt).keep HB.out hab
        have hbr : b < wr.heap.size := by omega
        clear hac
        generalize l[j] = q at *
        obtain ⟨⟨k, wd, x, ll, d, z⟩, s, n⟩ := q
        have HQ := Lib.hid (fun W (hW : Below wr.heap.size wr W) => hq1.keep hW hbr)
        obtain ⟨c0, c1, c2, c3, c4, c5, c6, c7, b1, b3, b4, b6⟩ := hq1
        simp only at c0 c1 c2 c3 c4 c5 c6 c7 b1 b3 b4 b6
        have HH := Lib.hid (heavy_any ⟨k, wd, x, ll, d, z⟩ s n wr b1 b3 b4 b6)
        clear b1 b3 b4 b6
        go_wp2_with fail
        refine Calls.mono (show _ from HH.out) ?_
        rintro e w1 ⟨rfl | ⟨rfl, hsh, hsl⟩, hb1⟩
        · go_wp2_with fail
          go_ret
          exact ⟨rfl, upB HB.out (Nat.le_refl _) hb1⟩
        · have HBw1 := Lib.hid hb1
          have HSH := Lib.hid hsh
          have hjl : (j : Int) < (l.length : Int) := by omega
          have HGQ := Lib.hid (fun W (hW : Below wr.heap.size wr W) => HGR.out.keep hW)
          have HTQ := Lib.hid (fun W (hW : Below wr.heap.size wr W) => HTR.out.keep hW hg10r)
          have HUP := Lib.hid (fun W (hW : Below wr.heap.size wr W) => upB HB.out (Nat.le_refl _) hW)
          have HBB := Lib.hid (fun W (hW : Below wr.heap.size wr W) => Nat.lt_of_lt_of_le hbr hW.size)
          clear HH c0 c1 c2 c3 c4 c5 c6 c7 hsh hsl hb1 HB HGR HTR hbr hg10r
          generalize wr = W0 at *
          have HT := Lib.hid (fun W (hW : Below W0.heap.size W0 W) => vText_any ⟨k, wd, x, ll, d, z⟩ W ⟨by have := HSH.out.1; simp only at this ⊢; omega, by have := HSH.out.2.1; simp only at this ⊢; omega, by have := HSH.out.2.2; simp only at this ⊢; omega⟩ (HTQ.out W hW) (HGQ.out W hW))
          obtain ⟨q, hq⟩ : ∃ q, validV ⟨k, wd, x, ll, d, z⟩ = q := ⟨_, rfl⟩
          obtain ⟨tx, htx⟩ : ∃ tx, textW ⟨k, wd, x, ll, d, z⟩ = tx := ⟨_, rfl⟩
          obtain ⟨cq, hcq⟩ : ∃ cq, chk q = cq := ⟨_, rfl⟩
          rw [hq, htx, hcq] at HT
          have HQV := Lib.hid hq
          have HTX := Lib.hid htx
          have HCQ := Lib.hid hcq
          clear hq htx hcq
          have hk := HQ.out w1 HBw1.out
          have d0 := hk.c0
          have d1 := hk.c1
          have d2 := hk.c2
          have d3 := hk.c3
          have d4 := hk.c4
          have d5 := hk.c5
          have d6 := hk.c6
          have d7 := hk.c7
          simp only at d0 d1 d2 d3 d4 d5 d6 d7
          clear hk
          go_wp2_with fail
          refine Calls.mono (show _ from HT.out _ HBw1.out) ?_
          rintro e w2 ⟨rfl, hb⟩
          have hkw2 := HBw1.out.trans (hb.mono HBw1.out.size)
          have HBw2 := Lib.hid hkw2
          clear hb
          clear d0 d1 d2 d3 d4 d5 d6 d7
          clear hkw2 HT HBw1
          cases q with
          | false =>
            obtain rfl : cq = 1 := HCQ.out.symm
            go_wp2_with (go_at_call 19; refine (num_any _ _).mono ?_; rintro e w9 ⟨rfl, rfl⟩)
            exact ⟨⟨j + 1, hlt, by go_num, HUP.out _ HBw2.out⟩, by simp [intOf]; omega⟩
          | true =>
            obtain rfl : cq = 0 := HCQ.out.symm
            have hte : textV ⟨k, wd, x, ll, d, z⟩ = tx := by rw [← HTX.out, textW, if_pos HQV.out]
            have hle := text_len HQV.out
            rw [hte] at hle
            obtain ⟨hl4, hl400⟩ := hle
            have hrd := read_text0 HQV.out
            rw [hte] at hrd
            have HTU : Hid (∀ t m, Turns tx t m → m ≤ 10 → (k = 3 ∨ k = 4 ∨ wd = []) → readV t = (⟨k, wd, x, ll, d, z⟩, 0)) := Lib.hid fun t m h hm hk => turn_read HQV.out (by rw [hte]; exact h) hm hk
            have HNO : Hid (∀ m, m < tx.length → readV (tx.take m) ≠ (⟨k, wd, x, ll, d, z⟩, 0)) := Lib.hid fun m hm e => by
              have := (read_len e).2
              rw [hte, List.length_take] at this
              omega
            have HVP : Hid (∀ t, t.length ≤ 400 → readV t = (⟨k, wd, x, ll, d, z⟩, 0) → ∀ W, Below W0.heap.size W0 W → Calls Tryz.prog 22 #[.string ⟨t.toArray⟩] W fun e w' => e = .returned (.tuple #[.agg #[.int .i64 k, .string ⟨wd.toArray⟩, .bool x, .string ⟨ll.toArray⟩, .string ⟨d.toArray⟩, .int .i64 z], .int .i64 0]) ∧ Below W.heap.size W w') := Lib.hid fun t ht hr W hW => by
              have := vParse_any t W (by omega) (HGQ.out W hW)
              rw [hr] at this
              exact this
            have HP := Lib.hid (HVP.out tx hl400 hrd)
            have hneq := fun w => neq_verb ⟨k, wd, x, ll, d, z⟩ ⟨k, wd, x, ll, d, z⟩ w
            rw [eqVb_self, Bool.not_true] at hneq
            simp only at hneq
            clear hrd HTX HCQ HQV hte
            go_wp2_with (go_at_call 19; refine (num_any _ _).mono ?_; rintro e w9 ⟨rfl, rfl⟩)
            refine Calls.mono (show _ from HP.out _ HBw2.out) ?_
            rintro e w3 ⟨rfl, hb⟩
            have HBw3 := Lib.hid (HBw2.out.trans (hb.mono HBw2.out.size))
            clear hb HP HBw2
            have hk := HBw3.out.alloc HBw3.out.size (.cells #[.int .i64 k, .string ⟨wd.toArray⟩, .bool x, .string ⟨ll.toArray⟩, .string ⟨d.toArray⟩, .int .i64 z] 27)
            have hbw : b < w3.heap.size := HBB.out _ HBw3.out
            have HBy := Lib.hid hk
            have hv := VAt.new w3 ⟨k, wd, x, ll, d, z⟩
            have m0 := hv.c0
            have m1 := hv.c1
            have m2 := hv.c2
            have m3 := hv.c3
            have m4 := hv.c4
            have m5 := hv.c5
            simp only at m0 m1 m2 m3 m4 m5
            have hka := HQ.out _ hk
            have d0 := hka.c0
            have d1 := hka.c1
            have d2 := hka.c2
            have d3 := hka.c3
            have d4 := hka.c4
            have d5 := hka.c5
            have d6 := hka.c6
            have d7 := hka.c7
            simp only at d0 d1 d2 d3 d4 d5 d6 d7
            clear hka
            clear hk hv
            go_upto_region 9 with (fail)
            go_cut [56] (fun bv wc => bv = .bool false ∧ Below W0.heap.size W0 wc)
            case first =>
              go_quiet ((go_at_call 19; exact Calls.quiet_of_same (num_flat _ _)))
              go_wp2_with fail
              go_meet
              case rel => exact ⟨rfl, below_drewN HBy.out _⟩
            case rest =>
              obtain ⟨rfl, hbc⟩ := hcut
              have HB4 := Lib.hid hbc
              clear hbc HBy HBw3 hbw m0 m1 m2 m3 m4 m5
              clear d0 d1 d2 d3 d4 d5 d6 d7
              have hk := HQ.out _ HB4.out
              have d0 := hk.c0
              have d1 := hk.c1
              have d2 := hk.c2
              have d3 := hk.c3
              have d4 := hk.c4
              have d5 := hk.c5
              have d6 := hk.c6
              have d7 := hk.c7
              simp only at d0 d1 d2 d3 d4 d5 d6 d7
              clear hk
              go_upto_region 11 with (fail)
              go_cut [81] (fun bv wc => ∃ p : Bool, bv = .bool p ∧ (p = true → k = 3 ∨ k = 4 ∨ wd = []) ∧ Below W0.heap.size W0 wc)
              case first =>
                clear hneq HTU HNO HVP
                by_cases hk3 : k = 3
                · subst hk3
                  go_wp2_with fail
                  go_meet
                  case rel => exact ⟨true, rfl, (by simp), HB4.out⟩
                · have hk3d : decide (k = 3) = false := by simp [hk3]
                  have hk3b : (k == 3) = false := by simp [hk3]
                  by_cases hk4 : k = 4
                  · subst hk4
                    go_wp2_with fail
                    go_meet
                    case rel => exact ⟨true, rfl, (by simp), HB4.out⟩
                  · have hk4d : decide (k = 4) = false := by simp [hk4]
                    have hk4b : (k == 4) = false := by simp [hk4]
                    by_cases hwd : wd = []
                    · subst hwd
                      go_wp2_with fail
                      go_meet
                      case rel => exact ⟨true, rfl, (by simp), HB4.out⟩
                    · have hwdb : (wd == []) = false := by simp [hwd]
                      go_wp2_with fail
                      go_meet
                      case rel => exact ⟨false, rfl, (by simp), HB4.out⟩
              case rest =>
                obtain ⟨p, rfl, hp, hbc⟩ := hcut
                have HB5 := Lib.hid hbc
                have HPP := Lib.hid hp
                clear hbc hp HB4
                clear d0 d1 d2 d3 d4 d5 d6 d7
                go_upto_if 81 with (fail)
                go_cut [] (fun wc => Below W0.heap.size W0 wc)
                case first =>
                  cases p with
                  | false =>
                    go_wp2_with fail
                    go_meet
                    case rel => exact HB5.out
                  | true =>
                    have hk := HQ.out _ HB5.out
                    have d0 := hk.c0
                    have d1 := hk.c1
                    have d2 := hk.c2
                    have d3 := hk.c3
                    have d4 := hk.c4
                    have d5 := hk.c5
                    have d6 := hk.c6
                    have d7 := hk.c7
                    simp only at d0 d1 d2 d3 d4 d5 d6 d7
                    clear hk
                    have hbw5 := HBB.out _ HB5.out
                    have HTD := Lib.hid (fun W => turned_any tx n W (by omega))
                    go_wp2_with fail
                    refine Calls.mono (show _ from HTD.out _) ?_
                    rintro e w6 ⟨t, m, rfl, hm10, htt, hb⟩
                    have HBw6 := Lib.hid (HB5.out.trans (hb.mono HB5.out.size))
                    have HP := Lib.hid (HVP.out t (by rw [htt.len]; exact hl400) (HTU.out t m htt hm10 (HPP.out (by simp))))
                    clear hb htt HTD hbw5
                    clear d0 d1 d2 d3 d4 d5 d6 d7
                    go_wp2_with fail
                    refine Calls.mono (show _ from HP.out _ HBw6.out) ?_
                    rintro e w7 ⟨rfl, hb⟩
                    have HBw7 := Lib.hid (HBw6.out.trans (hb.mono HBw6.out.size))
                    clear hb HP HBw6
                    have hk := HBw7.out.alloc HBw7.out.size (.cells #[.int .i64 k, .string ⟨wd.toArray⟩, .bool x, .string ⟨ll.toArray⟩, .string ⟨d.toArray⟩, .int .i64 z] 27)
                    have hbw : b < w7.heap.size := HBB.out _ HBw7.out
                    have HBy := Lib.hid hk
                    have hv := VAt.new w7 ⟨k, wd, x, ll, d, z⟩
                    have m0 := hv.c0
                    have m1 := hv.c1
                    have m2 := hv.c2
                    have m3 := hv.c3
                    have m4 := hv.c4
                    have m5 := hv.c5
                    simp only at m0 m1 m2 m3 m4 m5
                    have hka := HQ.out _ hk
                    have d0 := hka.c0
                    have d1 := hka.c1
                    have d2 := hka.c2
                    have d3 := hka.c3
                    have d4 := hka.c4
                    have d5 := hka.c5
                    have d6 := hka.c6
                    have d7 := hka.c7
                    simp only at d0 d1 d2 d3 d4 d5 d6 d7
                    clear hka
                    clear hk hv
                    go_upto_region 13 with (fail)
                    go_cut [104] (fun bv wc => bv = .bool false ∧ Below W0.heap.size W0 wc)
                    case first =>
                      go_quiet ((go_at_call 19; exact Calls.quiet_of_same (num_flat _ _)))
                      go_wp2_with fail
                      go_meet
                      case rel => exact ⟨rfl, below_drewN HBy.out _⟩
                    case rest =>
                      obtain ⟨rfl, hbc⟩ := hcut
                      have HB8 := Lib.hid hbc
                      clear hbc
                      go_wp2_with fail
                      go_meet
                      case rel => exact HB8.out
                case rest =>
                  have HBc := Lib.hid hcut
                  clear hcut HB5 HPP HTU HVP hneq
                  go_wp2_with fail
                  go_loopw [10] (fun i W => ∃ m : Nat, m ≤ tx.length ∧ i = .int .i64 m ∧ Below W0.heap.size W0 W) (fun i _ => tx.length - (intOf i).toNat)
                  case atStart => exact ⟨0, Nat.zero_le _, rfl, HBc.out⟩
                  case round =>
                    clear HBc
                    obtain ⟨m, hm, rfl, hBm⟩ := hrel
                    have HBm := Lib.hid hBm
                    clear hBm
                    by_cases hml : m < tx.length
                    · have hmi : (m : Int) ≤ (tx.length : Int) := by omega
                      have hno := HNO.out m hml
                      obtain ⟨t, ht⟩ : ∃ t, tx.take m = t := ⟨_, rfl⟩
                      have hex : (⟨tx.toArray⟩ : ByteArray).extract 0 m = ⟨t.toArray⟩ := by rw [ext_eq, ← ht]; rfl
                      have htl : t.length ≤ 400 := by rw [← ht]; simp; omega
                      rw [ht] at hno
                      have HP := Lib.hid (fun W (hW : Below W0.heap.size W0 W) => vParse_any t W (by omega) (HGQ.out W hW))
                      clear ht
                      obtain ⟨er, her⟩ : ∃ er, (readV t).2 = er := ⟨_, rfl⟩
                      obtain ⟨rv, hrv⟩ : ∃ rv, (readV t).1 = rv := ⟨_, rfl⟩
                      have hno2 : ¬ (er = 0 ∧ rv = ⟨k, wd, x, ll, d, z⟩) := fun h => hno (Prod.ext (hrv.trans h.2) (her.trans h.1))
                      rw [her, hrv] at HP
                      clear her hrv hno
                      have heq := fun w => eq_verb rv ⟨k, wd, x, ll, d, z⟩ w
                      have hvv : vbV rv = .agg #[.int .i64 rv.kind, .string ⟨rv.word.toArray⟩, .bool rv.null, .string ⟨rv.l.toArray⟩, .string ⟨rv.d.toArray⟩, .int .i64 rv.size] := rfl
                      rw [hvv] at HP
                      have hfalse : er = 0 → eqVb rv ⟨k, wd, x, ll, d, z⟩ = false := fun h => by
                        cases hc : eqVb rv ⟨k, wd, x, ll, d, z⟩ with
                        | false => rfl
                        | true => exact absurd ⟨h, (eqVb_iff _ _).1 hc⟩ hno2
                      clear hvv hno2
                      obtain ⟨fq, hfq⟩ : ∃ fq, eqVb rv ⟨k, wd, x, ll, d, z⟩ = fq := ⟨_, rfl⟩
                      rw [hfq] at hfalse
                      simp only [hfq] at heq
                      clear hfq
                      obtain ⟨rk, rw', rx, rl, rd, rz⟩ := rv
                      simp only at heq HP
                      go_wp2_with fail
                      refine Calls.mono (show _ from HP.out _ HBm.out) ?_
                      rintro e w3 ⟨rfl, hb⟩
                      have hb3 := HBm.out.trans (hb.mono HBm.out.size)
                      have hk := hb3.alloc hb3.size (.cells #[.int .i64 rk, .string ⟨rw'.toArray⟩, .bool rx, .string ⟨rl.toArray⟩, .string ⟨rd.toArray⟩, .int .i64 rz] 27)
                      have hbw : b < w3.heap.size := HBB.out _ hb3
                      have HBy := Lib.hid hk
                      have hv := VAt.new w3 ⟨rk, rw', rx, rl, rd, rz⟩
                      have m0 := hv.c0
                      have m1 := hv.c1
                      have m2 := hv.c2
                      have m3 := hv.c3
                      have m4 := hv.c4
                      have m5 := hv.c5
                      simp only at m0 m1 m2 m3 m4 m5
                      have hka := HQ.out _ hk
                      have d0 := hka.c0
                      have d1 := hka.c1
                      have d2 := hka.c2
                      have d3 := hka.c3
                      have d4 := hka.c4
                      have d5 := hka.c5
                      have d6 := hka.c6
                      have d7 := hka.c7
                      simp only at d0 d1 d2 d3 d4 d5 d6 d7
                      clear hka
                      clear hk hv hb hb3
                      go_upto_region 19 with (fail)
                      go_cut [129] (fun bv wc => bv = .bool false ∧ Below W0.heap.size W0 wc)
                      case first =>
                        by_cases he0 : er = 0
                        · obtain rfl := hfalse he0
                          subst he0
                          go_quiet ((go_at_call 19; exact Calls.quiet_of_same (num_flat _ _)))
                          go_wp2_with fail
                          go_meet
                          case rel => exact ⟨rfl, below_drewN HBy.out _⟩
                        · have he0d : decide (er = 0) = false := by simp [he0]
                          have he0b : (er == 0) = false := by simp [he0]
                          go_quiet ((go_at_call 19; exact Calls.quiet_of_same (num_flat _ _)))
                          go_wp2_with fail
                          go_meet
                          case rel => exact ⟨rfl, below_drewN HBy.out _⟩
                      case rest =>
                        obtain ⟨rfl, hbc⟩ := hcut
                        go_wp2_with fail
                        exact ⟨⟨m + 1, hml, by go_num, hbc⟩, by simp [intOf]; omega⟩
                    · obtain rfl : m = tx.length := by omega
                      go_wp2_with fail
                      exact ⟨⟨j + 1, hlt, by go_num, HUP.out _ HBm.out⟩, by simp [intOf]; omega⟩
      · have h15' : decide ((j : Int) < 15) = false := by simp; omega
        go_wp2_with fail
        refine (wakes_any wr HGR.out).mono ?_
        rintro e w1 ⟨rfl, hb1⟩
        go_wp2
        go_ret
        exact ⟨rfl, upB HB.out (Nat.le_refl _) hb1⟩
    · go_wp2_with fail
      refine (wakes_any wr HGR.out).mono ?_
      rintro e w1 ⟨rfl, hb1⟩
      go_wp2
      go_ret
      exact ⟨rfl, upB HB.out (Nat.le_refl _) hb1⟩
end Go.Proofs.YtkbhmkofflcpjaaGreatDoor

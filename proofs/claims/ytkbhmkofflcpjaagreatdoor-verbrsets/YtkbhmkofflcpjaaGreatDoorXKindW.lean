/-
  The law of one kind of command, walked: at every list of scripts that can be read it answers true and turns nothing that was there.
  Conditions: as each theorem states them.
-/
import Derived.Test.YtkbhmkofflcpjaaGreatDoorXParsesW
import Derived.Test.YtkbhmkofflcpjaaGreatDoorXB
import Derived.BigRegion
import Derived.RegionTactic
import Derived.Deep.CutRange
import Derived.Deep.DeepCutAuto
namespace Go.Proofs.YtkbhmkofflcpjaaGreatDoor
open Go.RowKit

theorem AskAt.new (w : World) (q : Ask) (h1 : q.v.word.length ≤ 140737488355328) (h3 : q.v.l.length ≤ 140737488355328) (h4 : q.v.d.length ≤ 140737488355328) (h6 : q.s.length ≤ 140737488355328) :
    AskAt (w.alloc (.cells #[.int .i64 q.v.kind, .string ⟨q.v.word.toArray⟩, .bool q.v.null, .string ⟨q.v.l.toArray⟩, .string ⟨q.v.d.toArray⟩, .int .i64 q.v.size, .string ⟨q.s.toArray⟩, .int .i64 q.n] 29)) w.heap.size 0 q := by
  have h := heap_alloc_new w (.cells #[.int .i64 q.v.kind, .string ⟨q.v.word.toArray⟩, .bool q.v.null, .string ⟨q.v.l.toArray⟩, .string ⟨q.v.d.toArray⟩, .int .i64 q.v.size, .string ⟨q.s.toArray⟩, .int .i64 q.n] 29)
  generalize w.alloc (.cells #[.int .i64 q.v.kind, .string ⟨q.v.word.toArray⟩, .bool q.v.null, .string ⟨q.v.l.toArray⟩, .string ⟨q.v.d.toArray⟩, .int .i64 q.v.size, .string ⟨q.s.toArray⟩, .int .i64 q.n] 29) = W at h ⊢
  generalize w.heap.size = m at h ⊢
  refine ⟨?_, ?_, ?_, ?_, ?_, ?_, ?_, ?_, h1, h3, h4, h6⟩ <;> simp [World.cell?, h]

set_option maxHeartbeats 8000000 in
set_option maxRecDepth 100000 in
theorem kind_any (l : List Ask) (kk : Int) (v : Value) (w : World) (hl : AsksAt w v l) (hg : Gl w) (ht : Tab w) :
    Calls Tryz.prog 25 #[v, .int .i64 kk] w fun e w' => e = .returned (.bool true) ∧ Below w.heap.size w w' := by
  obtain ⟨A, c, rfl, hll, hl⟩ := hl
  unfold maxLen at hll
  have HL := Lib.hid hl
  have HG := Lib.hid hg
  have HTB := Lib.hid ht
  have hg10 := hg.sz
  clear hl hg ht
  go_enter Tryz.func25, Tryz.ntmps25
  go_wp2_with fail
  go_loopw [5] (fun i wr => ∃ j : Nat, j ≤ l.length ∧ i = .int .i64 j ∧ Below w.heap.size w wr) (fun i _ => l.length - (intOf i).toNat)
  case atStart => exact ⟨0, Nat.zero_le _, rfl, Below.refl _ _⟩
  case round =>
    obtain ⟨j, hj, rfl, hB⟩ := hrel
    have HB := Lib.hid hB
    have hsz := hB.size
    have HGR := Lib.hid (HG.out.keep hB)
    have HTR := Lib.hid (HTB.out.keep hB (by omega))
    have hg10r : 5 < wr.heap.size := by omega
    clear hB
    by_cases hlt : j < l.length
    · by_cases h15 : j < 15
      · have h15i : (j : Int) < 15 := by omega
        obtain ⟨b, o, rfl, hab, hac⟩ := HL.out (fun e => by rw [e] at hlt; exact absurd hlt (by simp))
        have hq1 : AskAt wr b (o + j * 8) l[j] := (hac j hlt).keep HB.out hab
        have hbr : b < wr.heap.size := by omega
        clear hac
        generalize l[j] = q at *
        obtain ⟨⟨k, wd, x, ll, d, z⟩, s, n⟩ := q
        obtain ⟨c0, c1, c2, c3, c4, c5, c6, c7, b1, b3, b4, b6⟩ := hq1
        simp only at c0 c1 c2 c3 c4 c5 c6 c7 b1 b3 b4 b6
        have HA0 := Lib.hid (show AskAt (wr.alloc (.cells #[.int .i64 k, .string ⟨wd.toArray⟩, .bool x, .string ⟨ll.toArray⟩, .string ⟨d.toArray⟩, .int .i64 z, .string ⟨s.toArray⟩, .int .i64 n] 29)) wr.heap.size 0 ⟨⟨k, wd, x, ll, d, z⟩, s, n⟩ from AskAt.new wr ⟨⟨k, wd, x, ll, d, z⟩, s, n⟩ b1 b3 b4 b6)
        have HBA := Lib.hid ((Below.refl _ wr).alloc (Nat.le_refl _) (.cells #[.int .i64 k, .string ⟨wd.toArray⟩, .bool x, .string ⟨ll.toArray⟩, .string ⟨d.toArray⟩, .int .i64 z, .string ⟨s.toArray⟩, .int .i64 n] 29))
        have hszA : wr.heap.size < (wr.alloc (.cells #[.int .i64 k, .string ⟨wd.toArray⟩, .bool x, .string ⟨ll.toArray⟩, .string ⟨d.toArray⟩, .int .i64 z, .string ⟨s.toArray⟩, .int .i64 n] 29)).heap.size := by rw [World.size_alloc]; omega
        have HH := Lib.hid (heavy_any ⟨k, wd, x, ll, d, z⟩ s n (wr.alloc (.cells #[.int .i64 k, .string ⟨wd.toArray⟩, .bool x, .string ⟨ll.toArray⟩, .string ⟨d.toArray⟩, .int .i64 z, .string ⟨s.toArray⟩, .int .i64 n] 29)) b1 b3 b4 b6)
        clear b1 b3 b4 b6
        go_wp2_with fail
        refine Calls.mono (show _ from HH.out) ?_
        rintro e w1 ⟨rfl | ⟨rfl, hsh, hsl⟩, hb1⟩
        · go_wp2_with fail
          go_ret
          exact ⟨rfl, upB HB.out (Nat.le_refl _) (HBA.out.trans (hb1.mono HBA.out.size))⟩
        · have HQ := Lib.hid (fun W (hW : Below (wr.alloc (.cells #[.int .i64 k, .string ⟨wd.toArray⟩, .bool x, .string ⟨ll.toArray⟩, .string ⟨d.toArray⟩, .int .i64 z, .string ⟨s.toArray⟩, .int .i64 n] 29)).heap.size (wr.alloc (.cells #[.int .i64 k, .string ⟨wd.toArray⟩, .bool x, .string ⟨ll.toArray⟩, .string ⟨d.toArray⟩, .int .i64 z, .string ⟨s.toArray⟩, .int .i64 n] 29)) W) => HA0.out.keep hW hszA)
          have HUP := Lib.hid (fun W (hW : Below (wr.alloc (.cells #[.int .i64 k, .string ⟨wd.toArray⟩, .bool x, .string ⟨ll.toArray⟩, .string ⟨d.toArray⟩, .int .i64 z, .string ⟨s.toArray⟩, .int .i64 n] 29)).heap.size (wr.alloc (.cells #[.int .i64 k, .string ⟨wd.toArray⟩, .bool x, .string ⟨ll.toArray⟩, .string ⟨d.toArray⟩, .int .i64 z, .string ⟨s.toArray⟩, .int .i64 n] 29)) W) => upB HB.out (Nat.le_refl _) (HBA.out.trans (hW.mono HBA.out.size)))
          have HGQ := Lib.hid (fun W (hW : Below (wr.alloc (.cells #[.int .i64 k, .string ⟨wd.toArray⟩, .bool x, .string ⟨ll.toArray⟩, .string ⟨d.toArray⟩, .int .i64 z, .string ⟨s.toArray⟩, .int .i64 n] 29)).heap.size (wr.alloc (.cells #[.int .i64 k, .string ⟨wd.toArray⟩, .bool x, .string ⟨ll.toArray⟩, .string ⟨d.toArray⟩, .int .i64 z, .string ⟨s.toArray⟩, .int .i64 n] 29)) W) => HGR.out.keep (HBA.out.trans (hW.mono HBA.out.size)))
          have HTQ := Lib.hid (fun W (hW : Below (wr.alloc (.cells #[.int .i64 k, .string ⟨wd.toArray⟩, .bool x, .string ⟨ll.toArray⟩, .string ⟨d.toArray⟩, .int .i64 z, .string ⟨s.toArray⟩, .int .i64 n] 29)).heap.size (wr.alloc (.cells #[.int .i64 k, .string ⟨wd.toArray⟩, .bool x, .string ⟨ll.toArray⟩, .string ⟨d.toArray⟩, .int .i64 z, .string ⟨s.toArray⟩, .int .i64 n] 29)) W) => HTR.out.keep (HBA.out.trans (hW.mono HBA.out.size)) hg10r)
          have HSH := Lib.hid hsh
          have HBw1 := Lib.hid hb1
          clear HH c0 c1 c2 c3 c4 c5 c6 c7 HA0 HBA hsh hsl hb1 HB HGR HTR
          generalize wr.alloc (.cells #[.int .i64 k, .string ⟨wd.toArray⟩, .bool x, .string ⟨ll.toArray⟩, .string ⟨d.toArray⟩, .int .i64 z, .string ⟨s.toArray⟩, .int .i64 n] 29) = W0 at *
          generalize wr.heap.size = n0 at *
          have hk := HQ.out w1 HBw1.out
          have d0 := hk.c0
          have d1 := hk.c1
          have d2 := hk.c2
          have d3 := hk.c3
          have d4 := hk.c4
          have d5 := hk.c5
          simp only [Nat.zero_add] at d0 d1 d2 d3 d4 d5
          clear hk
          by_cases hkk : k = kk
          · subst hkk
            have HV := Lib.hid (fun W => rverb_any ⟨k, wd, x, ll, d, z⟩ W ⟨by have := HSH.out.1; simp only at this ⊢; omega, by have := HSH.out.2.1; simp only at this ⊢; omega, by have := HSH.out.2.2; simp only at this ⊢; omega⟩)
            have HT := Lib.hid (fun W (hW : Below W0.heap.size W0 W) => vText_any ⟨k, wd, x, ll, d, z⟩ W ⟨by have := HSH.out.1; simp only at this ⊢; omega, by have := HSH.out.2.1; simp only at this ⊢; omega, by have := HSH.out.2.2; simp only at this ⊢; omega⟩ (HTQ.out W hW) (HGQ.out W hW))
            have HRT := Lib.hid (fun W (h : validV ⟨k, wd, x, ll, d, z⟩ = true) => rverbText_any ⟨k, wd, x, ll, d, z⟩ W ⟨by have := HSH.out.1; simp only at this ⊢; omega, by have := HSH.out.2.1; simp only at this ⊢; omega, by have := HSH.out.2.2; simp only at this ⊢; omega⟩ h)
            obtain ⟨q, hq⟩ : ∃ q, validV ⟨k, wd, x, ll, d, z⟩ = q := ⟨_, rfl⟩
            obtain ⟨tx, htx⟩ : ∃ tx, textW ⟨k, wd, x, ll, d, z⟩ = tx := ⟨_, rfl⟩
            obtain ⟨cq, hcq⟩ : ∃ cq, chk q = cq := ⟨_, rfl⟩
            rw [hq, htx, hcq] at HT
            rw [hq] at HV
            have HQV := Lib.hid hq
            have HTX := Lib.hid htx
            have HCQ := Lib.hid hcq
            clear hq htx hcq
            go_wp2_with fail
            refine Calls.mono (show _ from HT.out _ HBw1.out) ?_
            rintro e w2 ⟨rfl, hb⟩
            have hkw2 := HBw1.out.trans (hb.mono HBw1.out.size)
            have HBw2 := Lib.hid hkw2
            clear hb
            clear d0 d1 d2 d3 d4 d5
            have hk := HQ.out w2 hkw2
            have d0 := hk.c0
            have d1 := hk.c1
            have d2 := hk.c2
            have d3 := hk.c3
            have d4 := hk.c4
            have d5 := hk.c5
            simp only [Nat.zero_add] at d0 d1 d2 d3 d4 d5
            clear hk
            clear hkw2 HT
            go_wp2_with fail
            refine Calls.mono (show _ from HV.out _) ?_
            rintro e w3 ⟨rfl, hb⟩
            have hkw3 := HBw2.out.trans (hb.mono HBw2.out.size)
            have HBw3 := Lib.hid hkw3
            clear hb
            clear d0 d1 d2 d3 d4 d5
            have hk := HQ.out w3 hkw3
            have d0 := hk.c0
            have d1 := hk.c1
            have d2 := hk.c2
            have d3 := hk.c3
            have d4 := hk.c4
            have d5 := hk.c5
            simp only [Nat.zero_add] at d0 d1 d2 d3 d4 d5
            clear hk
            clear hkw3 HV
            have HLE : Hid (q = true → 4 ≤ tx.length ∧ tx.length ≤ 400) := Lib.hid fun h => by
              have := text_len (HQV.out.trans h)
              rw [← HTX.out, textW, if_pos (HQV.out.trans h)]
              exact this
            have HTE : Hid (q = true → textV ⟨k, wd, x, ll, d, z⟩ = tx) := Lib.hid fun h => by
              rw [← HTX.out, textW, if_pos (HQV.out.trans h)]
            clear HTX
            go_upto_region 10 with (fail)
            go_cut [62] (fun bv wc => bv = .bool false ∧ Below W0.heap.size W0 wc)
            case first =>
              cases q with
              | false =>
                obtain rfl : cq = 1 := HCQ.out.symm
                go_wp2_with (go_at_call 19; refine (num_any _ _).mono ?_; rintro e w9 ⟨rfl, rfl⟩)
                go_meet
                case rel => exact ⟨rfl, HBw3.out⟩
              | true =>
                obtain rfl : cq = 0 := HCQ.out.symm
                have HR := Lib.hid (fun W => HRT.out W HQV.out)
                rw [HTE.out rfl] at HR
                clear HRT HTE HLE
                go_wp2_with (go_at_call 19; refine (num_any _ _).mono ?_; rintro e w9 ⟨rfl, rfl⟩)
                refine Calls.mono (show _ from HR.out _) ?_
                rintro e w4 ⟨rfl, hb⟩
                have HB4 := Lib.hid (HBw3.out.trans (hb.mono HBw3.out.size))
                clear hb
                go_wp2_with fail
                go_meet
                case rel => exact ⟨rfl, HB4.out⟩
            case rest =>
              obtain ⟨rfl, hbc⟩ := hcut
              have HBc := Lib.hid hbc
              clear hbc HBw3 HBw2 HBw1 d0 d1 d2 d3 d4 d5 HRT HTE HQV HCQ
              go_wp2_with fail
              go_loopw [10] (fun i W => ∃ m : Nat, m ≤ 5 ∧ i = .int .i64 m ∧ Below W0.heap.size W0 W) (fun i _ => 5 - (intOf i).toNat)
              case atStart => exact ⟨0, Nat.zero_le _, rfl, HBc.out⟩
              case round =>
                clear HBc
                obtain ⟨m, hm, rfl, hBm⟩ := hrel
                have HBm := Lib.hid hBm
                have hk := HQ.out wr hBm
                have d0 := hk.c0
                have d1 := hk.c1
                have d2 := hk.c2
                have d3 := hk.c3
                have d4 := hk.c4
                have d5 := hk.c5
                simp only [Nat.zero_add] at d0 d1 d2 d3 d4 d5
                clear hk
                clear hBm
                by_cases hm5 : m < 5
                · rcases (by omega : m = 0 ∨ m = 1 ∨ m = 2 ∨ m = 3 ∨ m = 4) with rfl | rfl | rfl | rfl | rfl
                  · rw [show ((0 : Nat) : Int) = 0 from rfl]
                    have hadd := fun w => add_str wd [32, 120] w (by have := HSH.out.1; simp only at this; simp; omega)
                    have HVA := Lib.hid (VAt.new wr ⟨k, (wd ++ [32, 120]), x, ll, d, z⟩)
                    have HY := Lib.hid (HBm.out.alloc HBm.out.size (.cells #[.int .i64 k, .string ⟨(wd ++ [32, 120]).toArray⟩, .bool x, .string ⟨ll.toArray⟩, .string ⟨d.toArray⟩, .int .i64 z] 27))
                    have HC := Lib.hid (fun W (hW : Below W0.heap.size W0 W) => vCheck_any ⟨k, (wd ++ [32, 120]), x, ll, d, z⟩ W ⟨by have := HSH.out.1; simp only [List.length_append, List.length_cons, List.length_nil] at this ⊢; omega, by have := HSH.out.2.1; simp only at this ⊢; omega, by have := HSH.out.2.2; simp only at this ⊢; omega⟩ (HGQ.out W hW))
                    have HVy := Lib.hid (fun W => rverb_any ⟨k, (wd ++ [32, 120]), x, ll, d, z⟩ W ⟨by have := HSH.out.1; simp only [List.length_append, List.length_cons, List.length_nil] at this ⊢; omega, by have := HSH.out.2.1; simp only at this ⊢; omega, by have := HSH.out.2.2; simp only at this ⊢; omega⟩)
                    generalize validV ⟨k, (wd ++ [32, 120]), x, ll, d, z⟩ = qy at *
                    have hqi : (chk qy = 0) = (qy = true) := by cases qy <;> simp [chk]
                    have hqd : decide (chk qy = 0) = qy := by cases qy <;> rfl
                    have hqb : (chk qy == 0) = qy := by cases qy <;> rfl
                    go_upto_region 27 with (fail)
                    go_cut [108] (fun bv wd => bv = .bool false ∧ Below W0.heap.size W0 wd)
                    case first =>
                      have HS : Hid (∀ W : World, Below (wr.alloc (.cells #[.int .i64 k, .string ⟨(wd ++ [32, 120]).toArray⟩, .bool x, .string ⟨ll.toArray⟩, .string ⟨d.toArray⟩, .int .i64 z] 27)).heap.size (wr.alloc (.cells #[.int .i64 k, .string ⟨(wd ++ [32, 120]).toArray⟩, .bool x, .string ⟨ll.toArray⟩, .string ⟨d.toArray⟩, .int .i64 z] 27)) W → W.cell? ⟨wr.heap.size, 0, none⟩ = some (.int .i64 k) ∧ W.cell? ⟨wr.heap.size, 1, none⟩ = some (.string ⟨(wd ++ [32, 120]).toArray⟩) ∧ W.cell? ⟨wr.heap.size, 2, none⟩ = some (.bool x) ∧ W.cell? ⟨wr.heap.size, 3, none⟩ = some (.string ⟨ll.toArray⟩) ∧ W.cell? ⟨wr.heap.size, 4, none⟩ = some (.string ⟨d.toArray⟩) ∧ W.cell? ⟨wr.heap.size, 5, none⟩ = some (.int .i64 z)) := Lib.hid fun W hW => by
                        have t := HVA.out.later hW
                        exact ⟨t.c0, t.c1, t.c2, t.c3, t.c4, t.c5⟩
                      clear HVA d0 d1 d2 d3 d4 d5
                      have HYY := HY
                      generalize wr.alloc (.cells #[.int .i64 k, .string ⟨(wd ++ [32, 120]).toArray⟩, .bool x, .string ⟨ll.toArray⟩, .string ⟨d.toArray⟩, .int .i64 z] 27) = W1 at *
                      generalize wr.heap.size = n1 at *
                      go_region_held3 (fun W => W.cell? ⟨n1, 0, none⟩ = some (.int .i64 k) ∧ W.cell? ⟨n1, 1, none⟩ = some (.string ⟨(wd ++ [32, 120]).toArray⟩) ∧ W.cell? ⟨n1, 2, none⟩ = some (.bool x) ∧ W.cell? ⟨n1, 3, none⟩ = some (.string ⟨ll.toArray⟩) ∧ W.cell? ⟨n1, 4, none⟩ = some (.string ⟨d.toArray⟩) ∧ W.cell? ⟨n1, 5, none⟩ = some (.int .i64 z))
                        (first | exact HS.out _ (Below.refl _ _).drew | exact HS.out _ hk5 | exact HS.out _ hk6)
                        (first | (go_at_call 20; refine Calls.mono (show _ from HC.out _ (by exact HY.out.drew)) ?_; rintro e w5 ⟨rfl, hb5⟩; (have hk5 : Below W1.heap.size W1 w5 := (Below.refl _ _).drew.trans hb5)) | (go_at_call 19; refine (num_any _ _).mono ?_; rintro e w9 ⟨rfl, rfl⟩) | (go_at_call 16; refine Calls.mono (show _ from HVy.out _) ?_; rintro e w6 ⟨rfl, hb6⟩; (have hk6 : Below W1.heap.size W1 w6 := hk5.trans (hb6.mono hk5.size))))
                      all_goals
                        go_wp2_with fail
                        go_meet
                        case rel => exact ⟨by cases qy <;> rfl, HY.out.trans (hk6.mono HY.out.size)⟩
                    case rest =>
                      obtain ⟨rfl, hbe⟩ := hcut
                      go_wp2_with fail
                      exact ⟨⟨0 + 1, by omega, by go_num, hbe⟩, by simp [intOf]⟩
                  · rw [show ((1 : Nat) : Int) = 1 from rfl]
                    have HVA := Lib.hid (VAt.new wr ⟨k, wd, (!x), ll, d, z⟩)
                    have HY := Lib.hid (HBm.out.alloc HBm.out.size (.cells #[.int .i64 k, .string ⟨wd.toArray⟩, .bool (!x), .string ⟨ll.toArray⟩, .string ⟨d.toArray⟩, .int .i64 z] 27))
                    have HC := Lib.hid (fun W (hW : Below W0.heap.size W0 W) => vCheck_any ⟨k, wd, (!x), ll, d, z⟩ W ⟨by have := HSH.out.1; simp only at this ⊢; omega, by have := HSH.out.2.1; simp only at this ⊢; omega, by have := HSH.out.2.2; simp only at this ⊢; omega⟩ (HGQ.out W hW))
                    have HVy := Lib.hid (fun W => rverb_any ⟨k, wd, (!x), ll, d, z⟩ W ⟨by have := HSH.out.1; simp only at this ⊢; omega, by have := HSH.out.2.1; simp only at this ⊢; omega, by have := HSH.out.2.2; simp only at this ⊢; omega⟩)
                    generalize validV ⟨k, wd, (!x), ll, d, z⟩ = qy at *
                    have hqi : (chk qy = 0) = (qy = true) := by cases qy <;> simp [chk]
                    have hqd : decide (chk qy = 0) = qy := by cases qy <;> rfl
                    have hqb : (chk qy == 0) = qy := by cases qy <;> rfl
                    go_upto_region 27 with (fail)
                    go_cut [108] (fun bv wd => bv = .bool false ∧ Below W0.heap.size W0 wd)
                    case first =>
                      have HS : Hid (∀ W : World, Below (wr.alloc (.cells #[.int .i64 k, .string ⟨wd.toArray⟩, .bool (!x), .string ⟨ll.toArray⟩, .string ⟨d.toArray⟩, .int .i64 z] 27)).heap.size (wr.alloc (.cells #[.int .i64 k, .string ⟨wd.toArray⟩, .bool (!x), .string ⟨ll.toArray⟩, .string ⟨d.toArray⟩, .int .i64 z] 27)) W → W.cell? ⟨wr.heap.size, 0, none⟩ = some (.int .i64 k) ∧ W.cell? ⟨wr.heap.size, 1, none⟩ = some (.string ⟨wd.toArray⟩) ∧ W.cell? ⟨wr.heap.size, 2, none⟩ = some (.bool (!x)) ∧ W.cell? ⟨wr.heap.size, 3, none⟩ = some (.string ⟨ll.toArray⟩) ∧ W.cell? ⟨wr.heap.size, 4, none⟩ = some (.string ⟨d.toArray⟩) ∧ W.cell? ⟨wr.heap.size, 5, none⟩ = some (.int .i64 z)) := Lib.hid fun W hW => by
                        have t := HVA.out.later hW
                        exact ⟨t.c0, t.c1, t.c2, t.c3, t.c4, t.c5⟩
                      clear HVA d0 d1 d2 d3 d4 d5
                      have HYY := HY
                      generalize wr.alloc (.cells #[.int .i64 k, .string ⟨wd.toArray⟩, .bool (!x), .string ⟨ll.toArray⟩, .string ⟨d.toArray⟩, .int .i64 z] 27) = W1 at *
                      generalize wr.heap.size = n1 at *
                      go_region_held3 (fun W => W.cell? ⟨n1, 0, none⟩ = some (.int .i64 k) ∧ W.cell? ⟨n1, 1, none⟩ = some (.string ⟨wd.toArray⟩) ∧ W.cell? ⟨n1, 2, none⟩ = some (.bool (!x)) ∧ W.cell? ⟨n1, 3, none⟩ = some (.string ⟨ll.toArray⟩) ∧ W.cell? ⟨n1, 4, none⟩ = some (.string ⟨d.toArray⟩) ∧ W.cell? ⟨n1, 5, none⟩ = some (.int .i64 z))
                        (first | exact HS.out _ (Below.refl _ _).drew | exact HS.out _ hk5 | exact HS.out _ hk6)
                        (first | (go_at_call 20; refine Calls.mono (show _ from HC.out _ (by exact HY.out.drew)) ?_; rintro e w5 ⟨rfl, hb5⟩; (have hk5 : Below W1.heap.size W1 w5 := (Below.refl _ _).drew.trans hb5)) | (go_at_call 19; refine (num_any _ _).mono ?_; rintro e w9 ⟨rfl, rfl⟩) | (go_at_call 16; refine Calls.mono (show _ from HVy.out _) ?_; rintro e w6 ⟨rfl, hb6⟩; (have hk6 : Below W1.heap.size W1 w6 := hk5.trans (hb6.mono hk5.size))))
                      all_goals
                        go_wp2_with fail
                        go_meet
                        case rel => exact ⟨by cases qy <;> rfl, HY.out.trans (hk6.mono HY.out.size)⟩
                    case rest =>
                      obtain ⟨rfl, hbe⟩ := hcut
                      go_wp2_with fail
                      exact ⟨⟨1 + 1, by omega, by go_num, hbe⟩, by simp [intOf]⟩
                  · rw [show ((2 : Nat) : Int) = 2 from rfl]
                    have hadd := fun w => add_str ll [33] w (by have := HSH.out.2.1; simp only at this; simp; omega)
                    have HVA := Lib.hid (VAt.new wr ⟨k, wd, x, (ll ++ [33]), d, z⟩)
                    have HY := Lib.hid (HBm.out.alloc HBm.out.size (.cells #[.int .i64 k, .string ⟨wd.toArray⟩, .bool x, .string ⟨(ll ++ [33]).toArray⟩, .string ⟨d.toArray⟩, .int .i64 z] 27))
                    have HC := Lib.hid (fun W (hW : Below W0.heap.size W0 W) => vCheck_any ⟨k, wd, x, (ll ++ [33]), d, z⟩ W ⟨by have := HSH.out.1; simp only at this ⊢; omega, by have := HSH.out.2.1; simp only [List.length_append, List.length_cons, List.length_nil] at this ⊢; omega, by have := HSH.out.2.2; simp only at this ⊢; omega⟩ (HGQ.out W hW))
                    have HVy := Lib.hid (fun W => rverb_any ⟨k, wd, x, (ll ++ [33]), d, z⟩ W ⟨by have := HSH.out.1; simp only at this ⊢; omega, by have := HSH.out.2.1; simp only [List.length_append, List.length_cons, List.length_nil] at this ⊢; omega, by have := HSH.out.2.2; simp only at this ⊢; omega⟩)
                    generalize validV ⟨k, wd, x, (ll ++ [33]), d, z⟩ = qy at *
                    have hqi : (chk qy = 0) = (qy = true) := by cases qy <;> simp [chk]
                    have hqd : decide (chk qy = 0) = qy := by cases qy <;> rfl
                    have hqb : (chk qy == 0) = qy := by cases qy <;> rfl
                    go_upto_region 27 with (fail)
                    go_cut [108] (fun bv wd => bv = .bool false ∧ Below W0.heap.size W0 wd)
                    case first =>
                      have HS : Hid (∀ W : World, Below (wr.alloc (.cells #[.int .i64 k, .string ⟨wd.toArray⟩, .bool x, .string ⟨(ll ++ [33]).toArray⟩, .string ⟨d.toArray⟩, .int .i64 z] 27)).heap.size (wr.alloc (.cells #[.int .i64 k, .string ⟨wd.toArray⟩, .bool x, .string ⟨(ll ++ [33]).toArray⟩, .string ⟨d.toArray⟩, .int .i64 z] 27)) W → W.cell? ⟨wr.heap.size, 0, none⟩ = some (.int .i64 k) ∧ W.cell? ⟨wr.heap.size, 1, none⟩ = some (.string ⟨wd.toArray⟩) ∧ W.cell? ⟨wr.heap.size, 2, none⟩ = some (.bool x) ∧ W.cell? ⟨wr.heap.size, 3, none⟩ = some (.string ⟨(ll ++ [33]).toArray⟩) ∧ W.cell? ⟨wr.heap.size, 4, none⟩ = some (.string ⟨d.toArray⟩) ∧ W.cell? ⟨wr.heap.size, 5, none⟩ = some (.int .i64 z)) := Lib.hid fun W hW => by
                        have t := HVA.out.later hW
                        exact ⟨t.c0, t.c1, t.c2, t.c3, t.c4, t.c5⟩
                      clear HVA d0 d1 d2 d3 d4 d5
                      have HYY := HY
                      generalize wr.alloc (.cells #[.int .i64 k, .string ⟨wd.toArray⟩, .bool x, .string ⟨(ll ++ [33]).toArray⟩, .string ⟨d.toArray⟩, .int .i64 z] 27) = W1 at *
                      generalize wr.heap.size = n1 at *
                      go_region_held3 (fun W => W.cell? ⟨n1, 0, none⟩ = some (.int .i64 k) ∧ W.cell? ⟨n1, 1, none⟩ = some (.string ⟨wd.toArray⟩) ∧ W.cell? ⟨n1, 2, none⟩ = some (.bool x) ∧ W.cell? ⟨n1, 3, none⟩ = some (.string ⟨(ll ++ [33]).toArray⟩) ∧ W.cell? ⟨n1, 4, none⟩ = some (.string ⟨d.toArray⟩) ∧ W.cell? ⟨n1, 5, none⟩ = some (.int .i64 z))
                        (first | exact HS.out _ (Below.refl _ _).drew | exact HS.out _ hk5 | exact HS.out _ hk6)
                        (first | (go_at_call 20; refine Calls.mono (show _ from HC.out _ (by exact HY.out.drew)) ?_; rintro e w5 ⟨rfl, hb5⟩; (have hk5 : Below W1.heap.size W1 w5 := (Below.refl _ _).drew.trans hb5)) | (go_at_call 19; refine (num_any _ _).mono ?_; rintro e w9 ⟨rfl, rfl⟩) | (go_at_call 16; refine Calls.mono (show _ from HVy.out _) ?_; rintro e w6 ⟨rfl, hb6⟩; (have hk6 : Below W1.heap.size W1 w6 := hk5.trans (hb6.mono hk5.size))))
                      all_goals
                        go_wp2_with fail
                        go_meet
                        case rel => exact ⟨by cases qy <;> rfl, HY.out.trans (hk6.mono HY.out.size)⟩
                    case rest =>
                      obtain ⟨rfl, hbe⟩ := hcut
                      go_wp2_with fail
                      exact ⟨⟨2 + 1, by omega, by go_num, hbe⟩, by simp [intOf]⟩
                  · rw [show ((3 : Nat) : Int) = 3 from rfl]
                    have HVA := Lib.hid (VAt.new wr ⟨k, wd, x, ll, d, (bits .xor .i64 z 1)⟩)
                    have HY := Lib.hid (HBm.out.alloc HBm.out.size (.cells #[.int .i64 k, .string ⟨wd.toArray⟩, .bool x, .string ⟨ll.toArray⟩, .string ⟨d.toArray⟩, .int .i64 (bits .xor .i64 z 1)] 27))
                    have HC := Lib.hid (fun W (hW : Below W0.heap.size W0 W) => vCheck_any ⟨k, wd, x, ll, d, (bits .xor .i64 z 1)⟩ W ⟨by have := HSH.out.1; simp only at this ⊢; omega, by have := HSH.out.2.1; simp only at this ⊢; omega, by have := HSH.out.2.2; simp only at this ⊢; omega⟩ (HGQ.out W hW))
                    have HVy := Lib.hid (fun W => rverb_any ⟨k, wd, x, ll, d, (bits .xor .i64 z 1)⟩ W ⟨by have := HSH.out.1; simp only at this ⊢; omega, by have := HSH.out.2.1; simp only at this ⊢; omega, by have := HSH.out.2.2; simp only at this ⊢; omega⟩)
                    generalize validV ⟨k, wd, x, ll, d, (bits .xor .i64 z 1)⟩ = qy at *
                    have hqi : (chk qy = 0) = (qy = true) := by cases qy <;> simp [chk]
                    have hqd : decide (chk qy = 0) = qy := by cases qy <;> rfl
                    have hqb : (chk qy == 0) = qy := by cases qy <;> rfl
                    go_upto_region 27 with (fail)
                    go_cut [108] (fun bv wd => bv = .bool false ∧ Below W0.heap.size W0 wd)
                    case first =>
                      have HS : Hid (∀ W : World, Below (wr.alloc (.cells #[.int .i64 k, .string ⟨wd.toArray⟩, .bool x, .string ⟨ll.toArray⟩, .string ⟨d.toArray⟩, .int .i64 (bits .xor .i64 z 1)] 27)).heap.size (wr.alloc (.cells #[.int .i64 k, .string ⟨wd.toArray⟩, .bool x, .string ⟨ll.toArray⟩, .string ⟨d.toArray⟩, .int .i64 (bits .xor .i64 z 1)] 27)) W → W.cell? ⟨wr.heap.size, 0, none⟩ = some (.int .i64 k) ∧ W.cell? ⟨wr.heap.size, 1, none⟩ = some (.string ⟨wd.toArray⟩) ∧ W.cell? ⟨wr.heap.size, 2, none⟩ = some (.bool x) ∧ W.cell? ⟨wr.heap.size, 3, none⟩ = some (.string ⟨ll.toArray⟩) ∧ W.cell? ⟨wr.heap.size, 4, none⟩ = some (.string ⟨d.toArray⟩) ∧ W.cell? ⟨wr.heap.size, 5, none⟩ = some (.int .i64 (bits .xor .i64 z 1))) := Lib.hid fun W hW => by
                        have t := HVA.out.later hW
                        exact ⟨t.c0, t.c1, t.c2, t.c3, t.c4, t.c5⟩
                      clear HVA d0 d1 d2 d3 d4 d5
                      have HYY := HY
                      generalize wr.alloc (.cells #[.int .i64 k, .string ⟨wd.toArray⟩, .bool x, .string ⟨ll.toArray⟩, .string ⟨d.toArray⟩, .int .i64 (bits .xor .i64 z 1)] 27) = W1 at *
                      generalize wr.heap.size = n1 at *
                      go_region_held3 (fun W => W.cell? ⟨n1, 0, none⟩ = some (.int .i64 k) ∧ W.cell? ⟨n1, 1, none⟩ = some (.string ⟨wd.toArray⟩) ∧ W.cell? ⟨n1, 2, none⟩ = some (.bool x) ∧ W.cell? ⟨n1, 3, none⟩ = some (.string ⟨ll.toArray⟩) ∧ W.cell? ⟨n1, 4, none⟩ = some (.string ⟨d.toArray⟩) ∧ W.cell? ⟨n1, 5, none⟩ = some (.int .i64 (bits .xor .i64 z 1)))
                        (first | exact HS.out _ (Below.refl _ _).drew | exact HS.out _ hk5 | exact HS.out _ hk6)
                        (first | (go_at_call 20; refine Calls.mono (show _ from HC.out _ (by exact HY.out.drew)) ?_; rintro e w5 ⟨rfl, hb5⟩; (have hk5 : Below W1.heap.size W1 w5 := (Below.refl _ _).drew.trans hb5)) | (go_at_call 19; refine (num_any _ _).mono ?_; rintro e w9 ⟨rfl, rfl⟩) | (go_at_call 16; refine Calls.mono (show _ from HVy.out _) ?_; rintro e w6 ⟨rfl, hb6⟩; (have hk6 : Below W1.heap.size W1 w6 := hk5.trans (hb6.mono hk5.size))))
                      all_goals
                        go_wp2_with fail
                        go_meet
                        case rel => exact ⟨by cases qy <;> rfl, HY.out.trans (hk6.mono HY.out.size)⟩
                    case rest =>
                      obtain ⟨rfl, hbe⟩ := hcut
                      go_wp2_with fail
                      exact ⟨⟨3 + 1, by omega, by go_num, hbe⟩, by simp [intOf]⟩
                  · rw [show ((4 : Nat) : Int) = 4 from rfl]
                    have hadd := fun w => add_str wd [127] w (by have := HSH.out.1; simp only at this; simp; omega)
                    have HVA := Lib.hid (VAt.new wr ⟨k, (wd ++ [127]), x, ll, d, z⟩)
                    have HY := Lib.hid (HBm.out.alloc HBm.out.size (.cells #[.int .i64 k, .string ⟨(wd ++ [127]).toArray⟩, .bool x, .string ⟨ll.toArray⟩, .string ⟨d.toArray⟩, .int .i64 z] 27))
                    have HC := Lib.hid (fun W (hW : Below W0.heap.size W0 W) => vCheck_any ⟨k, (wd ++ [127]), x, ll, d, z⟩ W ⟨by have := HSH.out.1; simp only [List.length_append, List.length_cons, List.length_nil] at this ⊢; omega, by have := HSH.out.2.1; simp only at this ⊢; omega, by have := HSH.out.2.2; simp only at this ⊢; omega⟩ (HGQ.out W hW))
                    have HVy := Lib.hid (fun W => rverb_any ⟨k, (wd ++ [127]), x, ll, d, z⟩ W ⟨by have := HSH.out.1; simp only [List.length_append, List.length_cons, List.length_nil] at this ⊢; omega, by have := HSH.out.2.1; simp only at this ⊢; omega, by have := HSH.out.2.2; simp only at this ⊢; omega⟩)
                    generalize validV ⟨k, (wd ++ [127]), x, ll, d, z⟩ = qy at *
                    have hqi : (chk qy = 0) = (qy = true) := by cases qy <;> simp [chk]
                    have hqd : decide (chk qy = 0) = qy := by cases qy <;> rfl
                    have hqb : (chk qy == 0) = qy := by cases qy <;> rfl
                    go_upto_region 27 with (fail)
                    go_cut [108] (fun bv wd => bv = .bool false ∧ Below W0.heap.size W0 wd)
                    case first =>
                      have HS : Hid (∀ W : World, Below (wr.alloc (.cells #[.int .i64 k, .string ⟨(wd ++ [127]).toArray⟩, .bool x, .string ⟨ll.toArray⟩, .string ⟨d.toArray⟩, .int .i64 z] 27)).heap.size (wr.alloc (.cells #[.int .i64 k, .string ⟨(wd ++ [127]).toArray⟩, .bool x, .string ⟨ll.toArray⟩, .string ⟨d.toArray⟩, .int .i64 z] 27)) W → W.cell? ⟨wr.heap.size, 0, none⟩ = some (.int .i64 k) ∧ W.cell? ⟨wr.heap.size, 1, none⟩ = some (.string ⟨(wd ++ [127]).toArray⟩) ∧ W.cell? ⟨wr.heap.size, 2, none⟩ = some (.bool x) ∧ W.cell? ⟨wr.heap.size, 3, none⟩ = some (.string ⟨ll.toArray⟩) ∧ W.cell? ⟨wr.heap.size, 4, none⟩ = some (.string ⟨d.toArray⟩) ∧ W.cell? ⟨wr.heap.size, 5, none⟩ = some (.int .i64 z)) := Lib.hid fun W hW => by
                        have t := HVA.out.later hW
                        exact ⟨t.c0, t.c1, t.c2, t.c3, t.c4, t.c5⟩
                      clear HVA d0 d1 d2 d3 d4 d5
                      have HYY := HY
                      generalize wr.alloc (.cells #[.int .i64 k, .string ⟨(wd ++ [127]).toArray⟩, .bool x, .string ⟨ll.toArray⟩, .string ⟨d.toArray⟩, .int .i64 z] 27) = W1 at *
                      generalize wr.heap.size = n1 at *
                      go_region_held3 (fun W => W.cell? ⟨n1, 0, none⟩ = some (.int .i64 k) ∧ W.cell? ⟨n1, 1, none⟩ = some (.string ⟨(wd ++ [127]).toArray⟩) ∧ W.cell? ⟨n1, 2, none⟩ = some (.bool x) ∧ W.cell? ⟨n1, 3, none⟩ = some (.string ⟨ll.toArray⟩) ∧ W.cell? ⟨n1, 4, none⟩ = some (.string ⟨d.toArray⟩) ∧ W.cell? ⟨n1, 5, none⟩ = some (.int .i64 z))
                        (first | exact HS.out _ (Below.refl _ _).drew | exact HS.out _ hk5 | exact HS.out _ hk6)
                        (first | (go_at_call 20; refine Calls.mono (show _ from HC.out _ (by exact HY.out.drew)) ?_; rintro e w5 ⟨rfl, hb5⟩; (have hk5 : Below W1.heap.size W1 w5 := (Below.refl _ _).drew.trans hb5)) | (go_at_call 19; refine (num_any _ _).mono ?_; rintro e w9 ⟨rfl, rfl⟩) | (go_at_call 16; refine Calls.mono (show _ from HVy.out _) ?_; rintro e w6 ⟨rfl, hb6⟩; (have hk6 : Below W1.heap.size W1 w6 := hk5.trans (hb6.mono hk5.size))))
                      all_goals
                        go_wp2_with fail
                        go_meet
                        case rel => exact ⟨by cases qy <;> rfl, HY.out.trans (hk6.mono HY.out.size)⟩
                    case rest =>
                      obtain ⟨rfl, hbe⟩ := hcut
                      go_wp2_with fail
                      exact ⟨⟨4 + 1, by omega, by go_num, hbe⟩, by simp [intOf]⟩
                · obtain rfl : m = 5 := by omega
                  rw [show ((5 : Nat) : Int) = 5 from rfl]
                  clear d0 d1 d2 d3 d4 d5
                  go_wp2_with fail
                  go_loopw [12] (fun i W => ∃ m : Nat, m ≤ 4 ∧ i = .int .i64 m ∧ Below W0.heap.size W0 W) (fun i _ => 4 - (intOf i).toNat)
                  case atStart => exact ⟨0, Nat.zero_le _, rfl, HBm.out⟩
                  case round =>
                    clear HBm
                    obtain ⟨m, hm, rfl, hBm⟩ := hrel
                    have HBm := Lib.hid hBm
                    clear hBm
                    cases q with
                    | false =>
                      go_wp2_with fail
                      exact ⟨⟨j + 1, hlt, by go_num, HUP.out _ HBm.out⟩, by simp [intOf]; omega⟩
                    | true =>
                      by_cases hm4 : m < 4
                      · have hm4i : (m : Int) < 4 := by omega
                        obtain ⟨hl4, hl400⟩ := HLE.out rfl
                        have hl3i : (3 : Int) ≤ (tx.length : Int) := by omega
                        have hl4i : (4 : Int) ≤ (tx.length : Int) := by omega
                        have ha1 := fun w => add_str tx [32] w (by simp; omega)
                        have ha2 := fun w => add_str [32] tx w (by simp; omega)
                        have ha3 := fun w => add_str tx [120] w (by simp; omega)
                        obtain ⟨t3, ht3⟩ : ∃ t3, tx.take 3 = t3 := ⟨_, rfl⟩
                        obtain ⟨t4, ht4⟩ : ∃ t4, tx.drop 4 = t4 := ⟨_, rfl⟩
                        have hx3 : (⟨tx.toArray⟩ : ByteArray).extract 0 3 = ⟨t3.toArray⟩ := by rw [ext_eq, ← ht3]; rfl
                        have hx4 : (⟨tx.toArray⟩ : ByteArray).extract 4 tx.length = ⟨t4.toArray⟩ := by rw [← ht4]; exact ext_drop tx 4 _ rfl
                        have hlt3 : t3.length ≤ 400 := by rw [← ht3]; simp; omega
                        have hlt4 : t4.length ≤ 400 := by rw [← ht4]; simp; omega
                        clear ht3 ht4
                        have ha4 := fun w => add_str t3 [90] w (by simp; omega)
                        have ha5 := fun w => add_str (t3 ++ [90]) t4 w (by simp; omega)
                        go_upto_region 32 with (fail)
                        go_cut [13] (fun tv wc => ∃ t : List UInt8, tv = .string ⟨t.toArray⟩ ∧ t.length ≤ 900 ∧ Below W0.heap.size W0 wc)
                        case first =>
                          rcases (by omega : m = 0 ∨ m = 1 ∨ m = 2 ∨ m = 3) with rfl | rfl | rfl | rfl
                          all_goals
                            go_region
                          all_goals
                            go_wp2_with fail
                            go_meet
                            case rel => exact ⟨_, rfl, by simp; omega, (HBm.out.alloc HBm.out.size _).drew⟩
                        case rest =>
                          obtain ⟨t, rfl, htl, hbt⟩ := hcut
                          clear ha1 ha2 ha3 ha4 ha5 hl4 hl400 hl3i hl4i hx3 hx4 hlt3 hlt4
                          have HBt := Lib.hid hbt
                          have HP := Lib.hid (fun W (hW : Below W0.heap.size W0 W) => vParse_any t W (by omega) (HGQ.out W hW))
                          have HR := Lib.hid (fun W => parseVerb_any t W (by omega))
                          clear hbt
                          unfold pvE at HR
                          generalize (readV t).2 = er at *
                          generalize (readV t).1 = rv at *
                          have hneq := fun w => neq_verb rv rv w
                          rw [eqVb_self, Bool.not_true] at hneq
                          have hvv : vbV rv = .agg #[.int .i64 rv.kind, .string ⟨rv.word.toArray⟩, .bool rv.null, .string ⟨rv.l.toArray⟩, .string ⟨rv.d.toArray⟩, .int .i64 rv.size] := rfl
                          rw [hvv] at HP HR
                          clear hvv
                          obtain ⟨rk, rw', rx, rl, rd, rz⟩ := rv
                          simp only at hneq HP HR
                          go_wp2_with fail
                          refine Calls.mono (HP.out _ HBt.out) ?_
                          rintro e w2 ⟨rfl, hb2⟩
                          have hv2 := VAt.new w2 ⟨rk, rw', rx, rl, rd, rz⟩
                          have hk2 := (HBt.out.trans (hb2.mono HBt.out.size)).alloc (HBt.out.trans (hb2.mono HBt.out.size)).size (.cells #[.int .i64 rk, .string ⟨rw'.toArray⟩, .bool rx, .string ⟨rl.toArray⟩, .string ⟨rd.toArray⟩, .int .i64 rz] 27)
                          have HV2 := Lib.hid hv2
                          have HB2 := Lib.hid hk2
                          clear hb2 hv2 hk2
                          go_wp2_with fail
                          refine Calls.mono (HR.out _) ?_
                          rintro e w3 ⟨rfl, hb3⟩
                          have hv3 := HV2.out.later hb3
                          have hv3' := hv3.alloc (.cells #[.int .i64 rk, .string ⟨rw'.toArray⟩, .bool rx, .string ⟨rl.toArray⟩, .string ⟨rd.toArray⟩, .int .i64 rz] 27)
                          have hk3 := (HB2.out.trans (hb3.mono HB2.out.size)).alloc (HB2.out.trans (hb3.mono HB2.out.size)).size (.cells #[.int .i64 rk, .string ⟨rw'.toArray⟩, .bool rx, .string ⟨rl.toArray⟩, .string ⟨rd.toArray⟩, .int .i64 rz] 27)
                          have HBX := Lib.hid hk3
                          have m0 := hv3'.c0
                          have m1 := hv3'.c1
                          have m2 := hv3'.c2
                          have m3 := hv3'.c3
                          have m4 := hv3'.c4
                          have m5 := hv3'.c5
                          simp only at m0 m1 m2 m3 m4 m5
                          clear hb3 hv3 hv3' hk3
                          go_wp2_with (go_at_call 19; refine (num_any _ _).mono ?_; rintro e w9 ⟨rfl, rfl⟩)
                          exact ⟨⟨m + 1, by omega, by go_num, HBX.out⟩, by simp [intOf]; omega⟩
                      · obtain rfl : m = 4 := by omega
                        rw [show ((4 : Nat) : Int) = 4 from rfl]
                        go_wp2_with fail
                        exact ⟨⟨j + 1, hlt, by go_num, HUP.out _ HBm.out⟩, by simp [intOf]; omega⟩
          · go_wp2_with fail
            exact ⟨⟨j + 1, hlt, by go_num, HUP.out _ HBw1.out⟩, by simp [intOf]; omega⟩
      · have h15' : decide ((j : Int) < 15) = false := by simp; omega
        go_wp2_with fail
        refine (wakes_any wr HGR.out).mono ?_
        rintro e w1 ⟨rfl, hb1⟩
        go_wp2
        go_ret
        exact ⟨rfl, upB HB.out (Nat.le_refl _) hb1⟩
    · go_wp2_with fail
      refine (wakes_any wr HGR.out).mono ?_
      rintro e w1 ⟨rfl, hb1⟩
      go_wp2
      go_ret
      exact ⟨rfl, upB HB.out (Nat.le_refl _) hb1⟩
end Go.Proofs.YtkbhmkofflcpjaaGreatDoor

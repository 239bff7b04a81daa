/-
  The law FrameFeeds, walked: at every list of scripts that can be read it answers true and turns nothing that was there.
  Conditions: as the theorem states them.
-/
import Derived.Test.YtnhmhdfnphlngaaY
import Derived.Test.YtnhmhdfnphlngaaJ
import Derived.Deep.DeepCutAuto
namespace Go.Proofs.Ytnhmhdfnphlngaa
open Go.RowKit

theorem own_later {w w' : World} {B : Nat} {e : TypeId} {size n : Nat} {v : Value} {xs : List Value} (h : w.ownsRow B e size v n xs) (hb : Below w.heap.size w w') : w'.ownsRow B e size v n xs := by
  refine h.kept (row := none) ⟨hb.os, hb.tape, hb.output, hb.size, fun k hk _ => hb.block k hk⟩ ?_
  cases v.ownBlock with
  | none => exact .inl rfl
  | some k => exact .inr (by simp)

theorem heavy_false {s : ByteArray} {n : Nat} (h : heavyB s n = false) : n ≤ 5000 := by
  unfold heavyB at h
  simp only [Bool.or_eq_false_iff, decide_eq_false_iff_not] at h
  omega

/-- Behind the page's Feed: the framer that is wanted lies in block n8, the lines that are wanted in a row of their own; nothing that was there has turned. -/
def Fed (w4 wc : World) (R : Rd) (p8 lw : Value) : Prop :=
  ∃ n8 B, p8 = .pointer (some ⟨n8, 0, none⟩) ∧ wc.heap[n8]? = some (.cells #[.string ⟨R.rest.toArray⟩, .bool R.skip] 25 (0, 0)) ∧ wc.ownsRow B 49 2 lw R.lines.length (lineCells R.lines) ∧ Below w4.heap.size w4 wc

theorem Fed.after {w4 w5 : World} {R : Rd} {lw : Value} (hb : Below w4.drew.heap.size w4.drew w5) (ho : w5.ownsRow w4.drew.heap.size 49 2 lw R.lines.length (lineCells R.lines)) :
    Fed w4 (w5.alloc (.cells #[.string ⟨R.rest.toArray⟩, .bool R.skip] 25)) R (.pointer (some ⟨w5.heap.size, 0, none⟩)) lw :=
  ⟨w5.heap.size, _, rfl, heap_alloc_new _ _, ho.alloc _, ((Below.refl _ _).drew.trans hb).alloc hb.size _⟩

theorem Fed.ahead {w4 w5 : World} {R : Rd} {lw : Value} (hb : Below (w4.alloc (.cells #[.string ⟨#[]⟩, .bool false] 25)).drew.heap.size (w4.alloc (.cells #[.string ⟨#[]⟩, .bool false] 25)).drew w5)
    (ho : w5.ownsRow (w4.alloc (.cells #[.string ⟨#[]⟩, .bool false] 25)).drew.heap.size 49 2 lw R.lines.length (lineCells R.lines)) :
    Fed w4 ((w5.setCell ⟨w4.heap.size, 0, none⟩ (.string ⟨R.rest.toArray⟩)).setCell ⟨w4.heap.size, 1, none⟩ (.bool R.skip)) R (.pointer (some ⟨w4.heap.size, 0, none⟩)) lw := by
  have hlt : w4.heap.size < (w4.alloc (.cells #[.string ⟨#[]⟩, .bool false] 25)).drew.heap.size := by simp
  have h8 : w5.heap[w4.heap.size]? = some (.cells #[.string ⟨#[]⟩, .bool false] 25 (0, 0)) := (hb.block _ hlt).trans (heap_alloc_new w4 _)
  exact ⟨w4.heap.size, _, rfl, set_two h8 _ _, ownsRow_setCell_below (ownsRow_setCell_below ho hlt _) hlt _,
    (((((Below.refl _ _).alloc (Nat.le_refl _) _).drew).trans (hb.mono (Nat.le_of_lt hlt))).setCell (Nat.le_refl _) _).setCell (Nat.le_refl _) _⟩

set_option maxHeartbeats 2000000 in
set_option maxRecDepth 100000 in
theorem feeds_any (m : Int) (l : List Ask) (v : Value) (w : World) (hm : w.cell? ⟨0, 0, none⟩ = some (.int .i64 m)) (h0 : 0 < w.heap.size) (hl : AsksAt w v l) (_hll : l.length ≤ maxLen) :
    Calls Try.prog 4 #[v] w fun e w' => e = .returned (.bool true) ∧ Below w.heap.size w w' := by
  unfold maxLen at _hll
  obtain ⟨A, c, rfl, hl⟩ := hl
  have HL := Lib.hid hl
  clear hl
  go_enter Try.func4, Try.ntmps4
  go_wp2_with fail
  go_loopw [3] (fun i wr => ∃ j : Nat, j ≤ l.length ∧ i = .int .i64 j ∧ Below w.heap.size w wr) (fun i _ => l.length - (intOf i).toNat)
  case atStart => exact ⟨0, Nat.zero_le _, rfl, Below.refl _ _⟩
  case round =>
    obtain ⟨j, hj, rfl, hB⟩ := hrel
    have hm1 := (hB.cell (p := ⟨0, 0, none⟩) h0).trans hm
    have hsz := hB.size
    by_cases hlt : j < l.length
    · by_cases h12 : j < 12
      · obtain ⟨b, o, rfl, hab, hac⟩ := HL.out (fun e => by rw [e] at hlt; exact absurd hlt (by simp))
        have hq := hac j hlt
        clear hac
        generalize l[j] = q at *
        have hs := hq.hs
        have hn := hq.hn
        have hqx := hq.hx
        -- the cells of the script, in each world that is as w was below
        have hcells : Hid (∀ W : World, Below w.heap.size w W → W.cell? ⟨b, o + j * 3, none⟩ = some (.string q.s) ∧ W.cell? ⟨b, o + j * 3 + 1, none⟩ = some (.bool q.k) ∧ W.cell? ⟨b, o + j * 3 + 2, none⟩ = some (.slice q.A q.n q.c)) := fun W hW =>
          ⟨(hW.cell (p := ⟨b, o + j * 3, none⟩) hab).trans hq.c0, (hW.cell (p := ⟨b, o + j * 3 + 1, none⟩) hab).trans hq.c1, (hW.cell (p := ⟨b, o + j * 3 + 2, none⟩) hab).trans hq.c2⟩
        have hbytes : Hid (∀ W : World, Below w.heap.size w W → BytesAt W W.heap.size (.slice q.A q.n q.c) q.x) := fun W hW => (hqx.keep hW.block).mono hW.size
        have hxn : q.x.length = q.n := by
          obtain ⟨A', c', he, _⟩ := hqx
          injection he with _ h2 _
          exact h2.symm
        clear hq hqx
        obtain ⟨c0, c1, c2⟩ := hcells.out wr hB
        go_wp2_with fail
        refine (heavy_any _ _ _ _ _ _ hs hn).mono ?_
        rintro e w1 ⟨rfl, hb1⟩
        replace hB := hB.trans (hb1.mono hsz)
        replace hsz := hB.size
        replace hm1 := (hB.cell (p := ⟨0, 0, none⟩) h0).trans hm
        clear c0 c1 c2 hb1
        obtain ⟨c0, c1, c2⟩ := hcells.out w1 hB
        cases hH : heavyB q.s q.n with
        | true =>
          clear hH
          go_wp2
          go_ret
          exact ⟨rfl, hB⟩
        | false =>
          have hn5 := heavy_false hH
          clear hH
          go_wp2_with fail
          refine (copy_any q.x _ _ (hbytes.out w1 hB) (by omega)).mono ?_
          rintro e w2 ⟨xv, rfl, hox, hb2⟩
          replace hB := hB.trans (hb2.mono hsz)
          replace hsz := hB.size
          replace hm1 := (hB.cell (p := ⟨0, 0, none⟩) h0).trans hm
          clear c0 c1 c2 hb2
          obtain ⟨c0, c1, c2⟩ := hcells.out w2 hB
          have hxb := bytesAt_of_own hox
          cases hV : validL q.s.data.toList q.k with
          | false =>
            have HV := Lib.hid hV
            clear hV
            obtain ⟨A', n', c', rfl⟩ : ∃ A' n' c', xv = .slice A' n' c' := by
              obtain ⟨A', c', h, _⟩ := hxb
              exact ⟨_, _, _, h⟩
            go_wp2_with fail
            refine (feed_bad q.s q.k m A' n' c' _ hm1 (by omega) HV.out).mono ?_
            rintro e w3 ⟨rfl, hb3⟩
            replace hB := hB.trans (hb3.mono hsz)
            replace hsz := hB.size
            clear c0 c1 c2 hb3 hm1
            have hBa := hB.alloc hsz (.cells #[.string ⟨#[]⟩, .bool false] 25)
            obtain ⟨c0, c1, c2⟩ := hcells.out _ hBa
            have hf := Lib.hid (framer_ref q.s q.k (w3.alloc (.cells #[.string ⟨#[]⟩, .bool false] 25)) hs)
            go_wp2_with (first | (go_at_call 8; refine (num_any _ _).mono ?_; rintro e w' ⟨rfl, rfl⟩) | (go_at_call 10; refine hf.out.mono ?_; rintro e w4 ⟨rfl, hb4⟩; rw [HV.out]))
            go_roundw
            case rel => exact ⟨j + 1, hlt, by go_num, hBa.trans (hb4.mono hBa.size)⟩
            case measure => simp [intOf]; omega
          | true =>
            have HV := Lib.hid hV
            clear hV
            go_wp2_with fail
            refine (feed_good q.s q.k q.x m xv _ hm1 (by omega) hs HV.out hxb (by omega)).mono ?_
            generalize hR : (Rd.of q.s.data.toList q.k).feed q.x = R at *
            have HR := Lib.hid hR
            clear hR
            rintro e w3 ⟨lv, rfl, hol, hb3⟩
            have hox3 := own_later hox hb3
            replace hB := hB.trans (hb3.mono hsz)
            replace hsz := hB.size
            clear c0 c1 c2 hb3 hm1 hxb hox
            have hBa := hB.alloc hsz (.cells #[.string ⟨R.rest.toArray⟩, .bool R.skip] 25)
            obtain ⟨c0, c1, c2⟩ := hcells.out _ hBa
            have hf := Lib.hid (framer_ref q.s q.k (w3.alloc (.cells #[.string ⟨R.rest.toArray⟩, .bool R.skip] 25)) hs)
            go_wp2_with (first | (go_at_call 8; refine (num_any _ _).mono ?_; rintro e w' ⟨rfl, rfl⟩) | (go_at_call 10; refine hf.out.mono ?_; rintro e w4 ⟨rfl, hb4⟩; rw [HV.out]))
            have hk4 : Below w.heap.size w w4 := hBa.trans (hb4.mono hBa.size)
            have hsz4 := hk4.size
            have hol4 := own_later (hol.alloc (.cells #[.string ⟨R.rest.toArray⟩, .bool R.skip] 25)) hb4
            have hox4 := own_later (hox3.alloc (.cells #[.string ⟨R.rest.toArray⟩, .bool R.skip] 25)) hb4
            have hbox4 := (hb4.block w3.heap.size (by simp)).trans (heap_alloc_new w3 _)
            have hw34 : w3.heap.size < w4.heap.size := by have := hb4.size; simp at this; omega
            clear c0 c1 c2 hf hb4 hBa hox3 hol hB hsz
            obtain ⟨c0, c1, c2⟩ := hcells.out w4 hk4
            have hca := fun o => hcells.out _ (hk4.alloc hsz4 o)
            have ca0 := fun o => (hca o).1
            have ca1 := fun o => (hca o).2.1
            have ca2 := fun o => (hca o).2.2
            have HO := Lib.hid hol4
            have HX := Lib.hid hox4
            have HBX := Lib.hid hbox4
            clear hca hol4 hox4 hbox4
            go_cut [8, 9] (fun p8 lw wc => Fed w4 wc R p8 lw)
            case first =>
              go_region_with (go_at_call 14; refine (feed_ref q.s q.k q.x _ _ HV.out (hbytes.out _ (by first | exact hk4.drew | exact (hk4.alloc hsz4 _).drew)) (by omega)).mono ?_; rw [HR.out]; rintro e w5 ⟨lw, rfl, how, hb5⟩; (have e0 := fun h => hb5.cell (p := ⟨w4.heap.size, 0, none⟩) h); (have e1 := fun h => hb5.cell (p := ⟨w4.heap.size, 1, none⟩) h); (have f0 := fun i h => hb5.frozen (p := ⟨w4.heap.size, i, none⟩) h))
              all_goals
                go_wp2_with fail
                go_meet
                case rel =>
                  first
                  | exact Fed.after hb5 how
                  | exact Fed.ahead hb5 how
            case rest =>
              obtain ⟨n8, B8, rfl, hblk, how, hbw⟩ := hcut
              have hkc : Below w.heap.size w wc := hk4.trans (hbw.mono hsz4)
              have hszc := hkc.size
              have hbx := (hbw.block w3.heap.size hw34).trans HBX.out
              have p0 : wc.cell? ⟨w3.heap.size, 0, none⟩ = some (.string ⟨R.rest.toArray⟩) := by simp [World.cell?, hbx]
              have p1 : wc.cell? ⟨w3.heap.size, 1, none⟩ = some (.bool R.skip) := by simp [World.cell?, hbx]
              have q0 : wc.cell? ⟨n8, 0, none⟩ = some (.string ⟨R.rest.toArray⟩) := by simp [World.cell?, hblk]
              have q1 : wc.cell? ⟨n8, 1, none⟩ = some (.bool R.skip) := by simp [World.cell?, hblk]
              have hlv := Lib.hid (own_later HO.out hbw)
              have hxv := Lib.hid (own_later HX.out hbw)
              have hlw := Lib.hid how
              have hRl : R.lines.length < 1000000 := by
                have h1 := Rd.lines_feed (Rd.of q.s.data.toList q.k) q.x
                rw [HR.out] at h1
                have h2 : (Rd.of q.s.data.toList q.k).lines.length = 0 := rfl
                omega
              clear ca0 ca1 ca2 c0 c1 c2 hbx hblk how HBX HO HX
              go_wp2_with (first | (go_at_call 8; refine (num_any _ _).mono ?_; rintro e w' ⟨rfl, rfl⟩) | (go_at_call 15; refine (eqLines_same R.lines _ _ _ _ _ hlv.out hlw.out hRl).mono ?_; rintro e w6 ⟨rfl, hb6⟩; (have hk6 := hkc.trans (hb6.mono hszc)); obtain ⟨d0, d1, d2⟩ := hcells.out w6 hk6) | (go_at_call 16; refine (eqBytes_same q.x _ _ _ (bytesAt_of_own (own_later hxv.out hb6)) (hbytes.out w6 hk6) (by omega)).mono ?_; rintro e w7 ⟨rfl, hb7⟩))
              go_roundw
              case rel => exact ⟨j + 1, hlt, by go_num, hk6.trans (hb7.mono hk6.size)⟩
              case measure => simp [intOf]; omega
      · have h12' : decide ((j : Int) < 12) = false := by simp; omega
        go_wp2_with fail
        refine (wakes_any m _ hm1 (by omega)).mono ?_
        rintro e w1 ⟨rfl, hb1⟩
        go_wp2
        go_ret
        exact ⟨rfl, hB.trans (hb1.mono hsz)⟩
    · go_wp2_with fail
      refine (wakes_any m _ hm1 (by omega)).mono ?_
      rintro e w1 ⟨rfl, hb1⟩
      go_wp2
      go_ret
      exact ⟨rfl, hB.trans (hb1.mono hsz)⟩
end Go.Proofs.Ytnhmhdfnphlngaa

/-
  Package grey's ask, walked.
  Conditions: as each theorem states them.
-/
import Derived.Test.YtaglobnfdgencaaDoorGM
namespace Go.Proofs.YtaglobnfdgencaaDoor
open Go.RowKit

theorem mem_since {l : List Gy} {t : Int} {g : Gy} (h : g ∈ sinceL l t) : g ∈ l := (List.mem_filter.1 h).1
theorem okG_b {g : Gy} (h : okG g = true) : 0 ≤ g.b ∧ g.b ≤ 1099511627776 := by
  unfold okG at h
  simp only [Bool.and_eq_true] at h
  exact inB_iff.1 h.1.1.2
theorem ask_bad (l : List Gy) (key : ByteArray) (now wait : Int) (v : Value) (w : World) (h : GR w v l) (hl : l.length < 1000000) (hm : mayL l key now wait = false) :
    Calls Tryd.prog 17 #[v, .string key, .int .i64 now, .int .i64 wait] w fun e w' => e = wrongK 1 ∧ Below w.heap.size w w' := by
  have HV := Lib.hid (valid_any l v w h hl)
  obtain ⟨A, c, rfl, _, _⟩ := h.slice
  have H1 := Lib.hid (fun W => key_any key W)
  have H2 := Lib.hid (fun W => tick_any now W)
  have H3 := Lib.hid (fun W => tick_any wait W)
  have HD := Lib.hid (fun W => demand_any false W)
  have HM := Lib.hid (show (okL l && okK key && inB now 0 1099511627776 && inB wait 0 1099511627776) = false from hm)
  clear h hm
  generalize okL l = q1 at *
  generalize okK key = q2 at *
  generalize inB now 0 1099511627776 = q3 at *
  generalize inB wait 0 1099511627776 = q4 at *
  cases q1 with
  | false =>
    go_enter Tryd.func17, Tryd.ntmps17
    go_wp2_with fail
    refine Calls.mono HV.out ?_
    rintro e w1 ⟨rfl, hb1⟩
    have HB := Lib.hid hb1
    clear hb1
    go_wp2_with fail
    refine Calls.mono (HD.out _) ?_
    rintro e w' ⟨rfl, he⟩
    have he := he.symm
    subst he
    exact ⟨rfl, rfl, HB.out⟩
  | true =>
    cases q2 with
    | false =>
      go_enter Tryd.func17, Tryd.ntmps17
      go_wp2_with fail
      refine Calls.mono HV.out ?_
      rintro e w1 ⟨rfl, hb1⟩
      have HB := Lib.hid hb1
      clear hb1
      go_wp2_with fail
      refine Calls.mono (H1.out _) ?_
      rintro e w' ⟨rfl, he⟩
      have he := he.symm
      subst he
      go_wp2_with fail
      refine Calls.mono (HD.out _) ?_
      rintro e w' ⟨rfl, he⟩
      have he := he.symm
      subst he
      exact ⟨rfl, rfl, HB.out⟩
    | true =>
      cases q3 with
      | false =>
        go_enter Tryd.func17, Tryd.ntmps17
        go_wp2_with fail
        refine Calls.mono HV.out ?_
        rintro e w1 ⟨rfl, hb1⟩
        have HB := Lib.hid hb1
        clear hb1
        go_wp2_with fail
        refine Calls.mono (H1.out _) ?_
        rintro e w' ⟨rfl, he⟩
        have he := he.symm
        subst he
        go_wp2_with fail
        refine Calls.mono (H2.out _) ?_
        rintro e w' ⟨rfl, he⟩
        have he := he.symm
        subst he
        go_wp2_with fail
        refine Calls.mono (HD.out _) ?_
        rintro e w' ⟨rfl, he⟩
        have he := he.symm
        subst he
        exact ⟨rfl, rfl, HB.out⟩
      | true =>
        cases q4 with
        | false =>
          go_enter Tryd.func17, Tryd.ntmps17
          go_wp2_with fail
          refine Calls.mono HV.out ?_
          rintro e w1 ⟨rfl, hb1⟩
          have HB := Lib.hid hb1
          clear hb1
          go_wp2_with fail
          refine Calls.mono (H1.out _) ?_
          rintro e w' ⟨rfl, he⟩
          have he := he.symm
          subst he
          go_wp2_with fail
          refine Calls.mono (H2.out _) ?_
          rintro e w' ⟨rfl, he⟩
          have he := he.symm
          subst he
          go_wp2_with fail
          refine Calls.mono (H3.out _) ?_
          rintro e w' ⟨rfl, he⟩
          have he := he.symm
          subst he
          go_wp2_with fail
          refine Calls.mono (HD.out _) ?_
          rintro e w' ⟨rfl, he⟩
          have he := he.symm
          subst he
          exact ⟨rfl, rfl, HB.out⟩
        | true => exact absurd HM.out (by simp)

set_option maxHeartbeats 2000000 in
theorem ask_good (l : List Gy) (key : ByteArray) (now wait : Int) (v : Value) (w : World) (h : GR w v l) (hl : l.length < 1000000) (hm : mayL l key now wait = true) :
    Calls Tryd.prog 17 #[v, .string key, .int .i64 now, .int .i64 wait] w fun e w' => ∃ u, e = .returned (.tuple #[u, .bool (askL l key now wait).2]) ∧ GO w' w.heap.size u (askL l key now wait).1 ∧ Below w.heap.size w w' := by
  have HV := Lib.hid (valid_any l v w h hl)
  have HR := Lib.hid h
  obtain ⟨A, c, rfl, _, _⟩ := h.slice
  have H1 := Lib.hid (fun W => key_any key W)
  have H2 := Lib.hid (fun W => tick_any now W)
  have H3 := Lib.hid (fun W => tick_any wait W)
  have HD := Lib.hid (fun W => demand_any true W)
  unfold mayL at hm
  simp only [Bool.and_eq_true] at hm
  obtain ⟨⟨⟨hm1, hm2⟩, hm3⟩, hm4⟩ := hm
  obtain ⟨hlen, hall, hsrt⟩ := okL_iff.1 hm1
  have hnow := inB_iff.1 hm3
  have HN := Lib.hid hnow
  obtain ⟨tt, htt⟩ : ∃ tt, now - 65536 = tt := ⟨_, rfl⟩
  have HS := Lib.hid (hsrt.since tt)
  have HAL := Lib.hid (fun g (hg : g ∈ sinceL l tt) => okG_b (hall g (mem_since hg)))
  have HLN := Lib.hid (show (sinceL l tt).length ≤ 32 from Nat.le_trans (since_len l _) hlen)
  have HQ := Lib.hid (show askL l key now wait = askM (sinceL l tt) key now wait from by rw [← htt]; rfl)
  have HWA := Lib.hid (show IntKind.i64.wrap (now - 65536) = tt by rw [← htt]; exact wrap_id (by omega) (by omega))
  clear htt
  rw [hm1] at HV
  rw [hm2] at H1
  rw [hm3] at H2
  rw [hm4] at H3
  simp only [endD_t] at HD
  clear h hm1 hm2 hm3 hm4 hlen hall hsrt hnow
  generalize askL l key now wait = r at *
  go_enter Tryd.func17, Tryd.ntmps17
  go_wp2_with fail
  refine Calls.mono HV.out ?_
  rintro e w1 ⟨rfl, hb1⟩
  have HB := Lib.hid hb1
  clear hb1
  go_wp2_with fail
  refine Calls.mono (H1.out _) ?_
  rintro e w' ⟨rfl, he⟩
  have he := he.symm
  subst he
  go_wp2_with fail
  refine Calls.mono (H2.out _) ?_
  rintro e w' ⟨rfl, he⟩
  have he := he.symm
  subst he
  go_wp2_with fail
  refine Calls.mono (H3.out _) ?_
  rintro e w' ⟨rfl, he⟩
  have he := he.symm
  subst he
  go_wp2_with fail
  refine Calls.mono (HD.out _) ?_
  rintro e w' ⟨rfl, he⟩
  have he := he.symm
  subst he
  have HSI := Lib.hid (since_any l tt (.slice A l.length c) w1 (HR.out.later HB.out) hl)
  have hwa := HWA.out
  go_wp2_with fail
  refine Calls.mono HSI.out ?_
  rintro e w2 ⟨u2, rfl, hg2, hb2⟩
  have HG2 := Lib.hid (hg2.mono HB.out.size)
  have HB2 := Lib.hid (HB.out.trans (hb2.mono HB.out.size))
  clear hg2 hb2 HWA hwa
  generalize sinceL l tt = m at *
  obtain ⟨A2, C2, rfl, _, _⟩ := HG2.out.slice
  have HP := Lib.hid (place_any m key (.slice A2 m.length C2) w2 HG2.out.gr HS.out (by have := HLN.out; omega))
  go_wp2_with fail
  refine Calls.mono HP.out ?_
  rintro e w3 ⟨p, q, rfl, hat, hb3⟩
  have HAT := Lib.hid hat
  have HG3 := Lib.hid (HG2.out.later hb3)
  have HB3 := Lib.hid (HB2.out.trans (hb3.mono HB2.out.size))
  clear hat hb3
  have hlm : m.length < 1000000 := by have := HLN.out; omega
  cases q with
  | true =>
    obtain ⟨hp, hek⟩ := HAT.out.yes rfl
    have HEK := Lib.hid hek
    obtain ⟨g, cap, cur, hA2, hBg, hr3⟩ := HG3.out.row (by omega)
    injection hA2 with e1 _ e2
    subst e1
    subst e2
    have HR3 := Lib.hid hr3
    obtain ⟨x, hx⟩ : ∃ x, m[p] = x := ⟨_, rfl⟩
    have HX := Lib.hid hx
    obtain ⟨c0, c1, c2, c3⟩ := hr3.at hp
    rw [hx] at c0 c1 c2 c3
    have HB4 := HAL.out x (by rw [← hx]; exact List.getElem_mem hp)
    have HME := Lib.hid (meet_any x now wait w3 HB4 HN.out)
    have HMY := Lib.hid (show askM m key now wait = (m.set p (meetG x now wait), (meetG x now wait).p) by rw [askM_known now wait HS.out hp HEK.out, hx])
    clear hx hek hr3 HB4
    generalize meetG x now wait = y at *
    have hp0 : (0 : Int) ≤ (p : Int) := by omega
    have hp1 : (p : Int) < (m.length : Int) := by omega
    unfold gV at HME
    go_wp2_with fail
    refine Calls.mono HME.out ?_
    rintro e w4 ⟨rfl, hb4⟩
    have HR4 := Lib.hid (HR3.out.heap (hb4.block g HR3.out.lt))
    have HB4 := Lib.hid (HB3.out.trans (hb4.mono HB3.out.size))
    clear hb4 c0 c1 c2 c3
    obtain ⟨c0, c1, c2, c3⟩ := HR4.out.at hp
    have z0 := HR4.out.fz (p * 4)
    have z1 := HR4.out.fz (p * 4 + 1)
    have z2 := HR4.out.fz (p * 4 + 2)
    have z3 := HR4.out.fz (p * 4 + 3)
    have hlt4 := HR4.out.lt
    obtain ⟨cur', hr5⟩ := HR4.out.put p hp y
    have HR5 := Lib.hid hr5
    have HB5 := Lib.hid (below_set4 HB4.out hBg (p * 4) y)
    have d3 := (hr5.at (i := p) (by rw [List.length_set]; exact hp)).2.2.2
    rw [List.getElem_set_self] at d3
    clear hr5
    go_upto_region 6 with (fail)
    change Code.wp _ _ _ _ (set4 w4 g (p * 4) y)
    have HL := Lib.hid (show (m.set p y).length = m.length by simp)
    generalize set4 w4 g (p * 4) y = w5 at *
    clear c0 c1 c2 c3 z0 z1 z2 z3
    go_quiet (fail)
    go_wp2_with fail
    go_ret2
    have HGO := HR5.out.go hBg
    rw [HL.out] at HGO
    refine ⟨_, by rw [HQ.out, HMY.out]; rfl, ?_, below_drewN HB5.out nq⟩
    rw [HQ.out, HMY.out]
    exact GO.blocks HGO (fun _ _ _ h => h)
  | false =>
    have HK := Lib.hid (HAT.out.hasK HS.out)
    have HMY := Lib.hid (show askM m key now wait = (insL (roomL m) (newG key now wait), wait == 0) by unfold askM; rw [HK.out]; rfl)
    obtain ⟨z, hz⟩ : ∃ z, (wait == 0) = z := ⟨_, rfl⟩
    have HNG := Lib.hid (show newG key now wait = ⟨key, now, now, z⟩ by unfold newG; rw [hz])
    obtain ⟨N, hN⟩ : ∃ N, w3.heap.size = N := ⟨_, rfl⟩
    obtain ⟨wn, hwn⟩ : ∃ wn, wn = w3.alloc (.cells #[.string key, .int .i64 now, .int .i64 now, .bool z] 53) := ⟨_, rfl⟩
    have HE := Lib.hid (show EAt wn N ⟨key, now, now, z⟩ by rw [hwn, ← hN]; exact EAt.new w3 ⟨key, now, now, z⟩)
    have HGn := Lib.hid (show GO wn w.heap.size (.slice A2 m.length C2) m by rw [hwn]; exact World.ownsRow.alloc HG3.out _)
    have HBn := Lib.hid (show Below w.heap.size w wn by rw [hwn]; exact HB3.out.alloc HB3.out.size _)
    have HNO := Lib.hid (show ∀ k, (Value.slice A2 m.length C2).ownBlock = some k → k ≠ N from fun k hk he => by have := (HG3.out.lt k hk).2; omega)
    have HADD := Lib.hid (add_any m ⟨key, now, now, z⟩ (.slice A2 m.length C2) w.heap.size wn.drew (GO.blocks HGn.out (fun _ _ _ h => h)) HS.out HLN.out HBn.out.size)
    unfold gV at HADD
    have HSS := Lib.hid (show ∀ W, EAt W N ⟨key, now, now, z⟩ → W.cell? ⟨N, 0, none⟩ = some (.string key) ∧ W.cell? ⟨N, 1, none⟩ = some (.int .i64 now) ∧ W.cell? ⟨N, 2, none⟩ = some (.int .i64 now) ∧ W.cell? ⟨N, 3, none⟩ = some (.bool z) from fun W hW => ⟨hW.c0, hW.c1, hW.c2, hW.c3⟩)
    have HWN := Lib.hid hwn
    clear hwn
    go_upto_region 8 with (fail)
    rw [← HWN.out]
    go_cut [8, 9] (fun uv bv wc => bv = .bool z ∧ GO wc w.heap.size uv (insL (roomL m) ⟨key, now, now, z⟩) ∧ Below w.heap.size w wc)
    case first =>
      go_region_held3 (fun W => W.cell? ⟨N, 0, none⟩ = some (.string key) ∧ W.cell? ⟨N, 1, none⟩ = some (.int .i64 now) ∧ W.cell? ⟨N, 2, none⟩ = some (.int .i64 now) ∧ W.cell? ⟨N, 3, none⟩ = some (.bool z))
        (first | exact HSS.out _ HE.out | exact HSS.out _ hE5)
        (first
          | (go_at_call 25; refine HADD.out.mono ?_; rintro e w5 ⟨u5, rfl, hg5, hb5, hk5⟩; (have hE5 : EAt w5 N ⟨key, now, now, z⟩ := (hk5 N HE.out.lt (fun e => HNO.out N e rfl)).trans HE.out)))
      all_goals
        go_wp2_with fail
        go_meet
        case rel => exact ⟨rfl, hg5, HBn.out.drew.trans hb5⟩
    case rest =>
      obtain ⟨rfl, hgc, hbc⟩ := hcut
      have HGC := Lib.hid hgc
      have HBC := Lib.hid hbc
      have hne : (insL (roomL m) ⟨key, now, now, z⟩).length = (insL (roomL m) ⟨key, now, now, z⟩).length := rfl
      obtain ⟨A6, C6, rfl, _, _⟩ := HGC.out.slice
      clear hgc hbc hne
      go_wp2_with fail
      go_ret2
      refine ⟨_, by rw [HQ.out, HMY.out, hz]; rfl, ?_, HBC.out⟩
      rw [HQ.out, HMY.out, HNG.out]
      exact HGC.out
end Go.Proofs.YtaglobnfdgencaaDoor

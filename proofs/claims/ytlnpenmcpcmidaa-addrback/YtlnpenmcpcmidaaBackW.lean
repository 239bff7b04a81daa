/-
  The law AddrBack, walked: at every list of scripts that can be read it answers true and turns nothing that was there.
  Conditions: as the theorem states them.
-/
import Derived.Test.YtlnpenmcpcmidaaO
import Derived.Test.YtlnpenmcpcmidaaQ
import Derived.Deep.CutRange
import Derived.Deep.DeepCutAuto
namespace Go.Proofs.Ytlnpenmcpcmidaa
open Go.RowKit

/-- The bytes behind j rounds. -/
def upTo (s : List UInt8) (j : Nat) : List UInt8 := upL (s.take j) ++ s.drop j
theorem upTo_len (s : List UInt8) (j : Nat) : (upTo s j).length = s.length := by simp [upTo, upL]; omega
theorem upTo_at {s : List UInt8} {j : Nat} (h : j < s.length) (h' : j < (upTo s j).length) : (upTo s j)[j] = s[j] := by
  have e : (upL (s.take j)).length = j := by simp [upL]; omega
  simp only [upTo]
  rw [List.getElem_append_right (by omega)]
  simp [e]
theorem upTo_succ {s : List UInt8} {j : Nat} (h : j < s.length) : (upTo s j).set j (upC s[j]) = upTo s (j + 1) := by
  have e : (upL (s.take j)).length = j := by simp [upL]; omega
  unfold upTo
  rw [List.set_append_right _ _ (by omega), e, Nat.sub_self, List.drop_eq_getElem_cons h, List.set_cons_zero, take_snoc h]
  unfold upL
  rw [List.map_append, List.append_assoc]
  rfl
theorem upTo_same {s : List UInt8} {j : Nat} (h : j < s.length) (hc : upC s[j] = s[j]) : upTo s (j + 1) = upTo s j := by
  unfold upTo
  rw [take_snoc h, List.drop_eq_getElem_cons h]
  unfold upL
  rw [List.map_append, List.append_assoc, List.map_cons, hc]
  rfl
theorem upTo_zero (s : List UInt8) : upTo s 0 = s := by simp [upTo, upL]
theorem upTo_all (s : List UInt8) : upTo s s.length = upL s := by simp [upTo]
theorem up_len (s : List UInt8) : (upL s).length = s.length := by simp [upL]
theorem small_sub {c : UInt8} (h : smallB c = true) : ((upC c).toNat : Int) = (c.toNat : Int) - 32 := by
  have h1 : 97 ≤ c.toNat ∧ c.toNat ≤ 122 := by simpa [smallB] using h
  rw [upC, if_pos h, UInt8.toNat_sub_of_le _ _ (by rw [UInt8.le_iff_toNat_le]; show 32 ≤ c.toNat; omega)]
  show ((c.toNat - 32 : Nat) : Int) = _
  omega
theorem up_same {c : UInt8} (h : smallB c = false) : upC c = c := by simp [upC, h]

theorem MAt.drew {w : World} {b : Nat} {l d : List UInt8} (h : MAt w b l d) : MAt w.drew b l d := h

theorem num_same (n : Int) (w : World) : Calls Try.prog 13 #[.int .i64 n] w fun e w' => e = .returned (.int .i64 n) ∧ w' = w :=
  (num_any n w).mono fun _ _ h => ⟨h.1, h.2.symm⟩

/-- A mailbox and its text, in three ways. -/
theorem back_parts {l d : List UInt8} (h : boxL l d = true) : textL l d = l ++ 64 :: d ∧ parseL (l ++ 64 :: d) = some (l, d) ∧ parseL (l ++ 64 :: upL d) = some (l, d) ∧ pathL (60 :: ((l ++ 64 :: d) ++ [62])) = some (some (l, d)) := by
  have hd : domL d = true := by simp only [boxL, Bool.and_eq_true] at h; exact h.2
  have h1 := parse_text h (low_dom hd)
  refine ⟨by simp [textL, h], h1, parse_text h (low_up_dom hd), ?_⟩
  rw [path_text (by simp), h1]
  rfl
theorem box_short {l d : List UInt8} (h : boxL l d = true) : l.length ≤ 64 ∧ d.length ≤ 255 := by
  simp only [boxL, localL, domL, Bool.and_eq_true, decide_eq_true_eq] at h
  exact ⟨h.1.1.2, h.2.1⟩

set_option maxHeartbeats 2000000 in
set_option maxRecDepth 100000 in
theorem back_any (l : List Ask) (v : Value) (w : World) (hl : AsksAt w v l) :
    Calls Try.prog 7 #[v] w fun e w' => e = .returned (.bool true) ∧ Below w.heap.size w w' := by
  obtain ⟨A, c, rfl, hll, hl⟩ := hl
  unfold maxLen at hll
  have HL := Lib.hid hl
  clear hl
  go_enter Try.func7, Try.ntmps7
  go_wp2_with fail
  go_loopw [3] (fun i wr => ∃ j : Nat, j ≤ l.length ∧ i = .int .i64 j ∧ Below w.heap.size w wr) (fun i _ => l.length - (intOf i).toNat)
  case atStart => exact ⟨0, Nat.zero_le _, rfl, Below.refl _ _⟩
  case round =>
    obtain ⟨j, hj, rfl, hB⟩ := hrel
    have HB := Lib.hid hB
    have hsz := hB.size
    clear hB
    by_cases hlt : j < l.length
    · by_cases h20 : j < 20
      · have h20i : (j : Int) < 20 := by omega
        obtain ⟨b, o, rfl, hab, hac⟩ := HL.out (fun e => by rw [e] at hlt; exact absurd hlt (by simp))
        have hq1 : AskAt wr b (o + j * 3) l[j] := by
          have hb := HB.out
          have hq0 := hac j hlt
          exact ⟨(hb.cell (p := ⟨b, o + j * 3, none⟩) hab).trans hq0.c0, (hb.cell (p := ⟨b, o + j * 3 + 1, none⟩) hab).trans hq0.c1, (hb.cell (p := ⟨b, o + j * 3 + 2, none⟩) hab).trans hq0.c2, hq0.b0, hq0.b1, hq0.b2⟩
        have hbr : b < wr.heap.size := by omega
        clear hac
        generalize l[j] = q at *
        obtain ⟨ll, d, s⟩ := q
        have HQ := Lib.hid (fun W (hW : Below wr.heap.size wr W) => hq1.later hW hbr)
        obtain ⟨c0, c1, c2, b0, b1, b2⟩ := hq1
        simp only at c0 c1 c2 b0 b1 b2
        have HH := Lib.hid (heavy_any ll d s wr b0 b1 b2)
        clear b0 b1 b2
        go_wp2_with fail
        refine Calls.mono HH.out ?_
        rintro e w1 ⟨rfl | ⟨rfl, h1, h2⟩, hb1⟩
        · go_wp2_with fail
          go_ret
          exact ⟨rfl, upB HB.out (Nat.le_refl _) hb1⟩
        · have hk1 := HQ.out w1 hb1
          have d0 := hk1.c0
          have d1 := hk1.c1
          have d2 := hk1.c2
          have HB1 := Lib.hid hb1
          have HT := Lib.hid (text_any ll d w1 (by omega) (by omega))
          have hbw1 : b < w1.heap.size := Nat.lt_of_lt_of_le hbr hb1.size
          clear hk1 hb1 HH c0 c1 c2
          simp only at d0 d1 d2
          obtain ⟨q, hq⟩ : ∃ q, boxL ll d = q := ⟨_, rfl⟩
          rw [hq] at HT
          have HBQ := Lib.hid hq
          have hcq : (chk q == 0) = q := by cases q <;> rfl
          have hti : (textL ll d).length ≤ 2001 := by
            unfold textL
            split
            · simp; omega
            · simp
          obtain ⟨tx, htx⟩ : ∃ tx, textL ll d = tx := ⟨_, rfl⟩
          rw [htx] at HT hti
          have HTX := Lib.hid htx
          clear hq htx
          generalize wr = wo at *
          go_wp2_with fail
          refine Calls.mono HT.out ?_
          rintro e w2 ⟨rfl, hb2⟩
          have HB2 := Lib.hid (HB1.out.trans (hb2.mono HB1.out.size))
          clear hb2 HB1 HT d0 d1 d2
          go_wp2_with fail
          refine (num_any _ _).mono ?_
          rintro e w3 ⟨rfl, rfl⟩
          go_upto_if 47 with (fail)
          go_cut [] (fun wc => Below wo.heap.size wo wc)
          case first =>
            clear hcq
            cases q with
            | false =>
              go_wp2_with fail
              go_meet
              case rel => exact HB2.out
            | true =>
              obtain ⟨htx, hp1, hp2, hp3⟩ := back_parts HBQ.out
              have HTE := Lib.hid (show tx = ll ++ 64 :: d from HTX.out.symm.trans htx)
              have HP1 := Lib.hid (fun W => parse_any tx W (by omega))
              rw [HTE.out, hp1, show boxOf (some (ll, d)) = (ll, d) from rfl, show errOf (some (ll, d)) = 0 from rfl, ← HTE.out] at HP1
              have HP2 := Lib.hid (fun W => parse_any (ll ++ 64 :: upL d) W (by simp [up_len]; omega))
              rw [hp2, show boxOf (some (ll, d)) = (ll, d) from rfl, show errOf (some (ll, d)) = 0 from rfl] at HP2
              have HP3 := Lib.hid (fun W => path_any (60 :: (tx ++ [62])) W (by simp; omega))
              rw [HTE.out, hp3, ← HTE.out] at HP3
              have HPV := Lib.hid (show pathV (some (some (ll, d))) = .tuple #[.agg #[.string ⟨ll.toArray⟩, .string ⟨d.toArray⟩], .bool false, .int .i64 0] from rfl)
              rw [HPV.out] at HP3
              clear htx hp1 hp2 hp3 HTE HPV
              have hdl : d.length ≤ 2000 := by omega
              go_wp2_with fail
              refine Calls.mono (HP1.out _) ?_
              rintro e w4 ⟨rfl, hb4⟩
              have hb24 := HB2.out.trans (hb4.mono HB2.out.size)
              have HB6 := Lib.hid (hb24.alloc hb24.size (.cells #[.string ⟨ll.toArray⟩, .string ⟨d.toArray⟩] 25))
              have HM6 := Lib.hid (MAt.new w4 ll d)
              have hq6 := HQ.out _ HB6.out
              have d0 := hq6.c0
              have d1 := hq6.c1
              simp only at d0 d1
              have hb4w : b < w4.heap.size := Nat.lt_of_lt_of_le hbr hb24.size
              have hs4 : wo.heap.size ≤ w4.heap.size := hb24.size
              obtain ⟨c7, W7, hcv, hrow, hbel, hsz7⟩ := made_bytes (P := Try.prog) (w4.alloc (.cells #[.string ⟨ll.toArray⟩, .string ⟨d.toArray⟩] 25)) 9 49 5 d Try.underlying9 Try.underlying49 Try.underlying5 (by omega)
              rw [World.size_alloc] at hcv hrow hbel hsz7
              have HRW := Lib.hid hrow
              have HBL := Lib.hid hbel
              have HSZ7 := Lib.hid hsz7
              clear hb4 hb24 hq6 hrow hbel hsz7 HP1
              go_wp2_with fail
              go_loopw [9] (fun iv wr => ∃ k : Nat, k ≤ d.length ∧ iv = .int .i64 k ∧ ByteRow wr (w4.heap.size + 1) 5 (.slice (some ⟨w4.heap.size + 1, 0, none⟩) d.length c7) (upTo d k) ∧ Below (w4.heap.size + 1) (w4.alloc (.cells #[.string ⟨ll.toArray⟩, .string ⟨d.toArray⟩] 25)) wr) (fun iv _ => d.length - (intOf iv).toNat)
              case atStart => exact ⟨0, Nat.zero_le _, rfl, by rw [upTo_zero]; exact HRW.out, HBL.out⟩
              case round =>
                obtain ⟨k, hk, rfl, hr, hb⟩ := hrel
                have HRK := Lib.hid hr
                have HBK := Lib.hid hb
                clear hr hb hcv d0 d1
                by_cases hlt2 : k < d.length
                · have hl' : k < (upTo d k).length := by rw [upTo_len]; exact hlt2
                  have hc : wr.cell? ⟨w4.heap.size + 1, k, none⟩ = some (.int .u8 (d[k].toNat : Int)) := by
                    rw [HRK.out.cellAt hl', upTo_at hlt2 hl']
                  have hz : wr.frozen? ⟨w4.heap.size + 1, k, none⟩ = false := HRK.out.frozenAt hl'
                  have HN := Lib.hid (HRK.out.set k (upC d[k]))
                  rw [upTo_succ hlt2] at HN
                  have HSM := Lib.hid (fun h => upTo_same hlt2 h)
                  have hci : (d[k].toNat : Int) < 256 := by have := UInt8.toNat_lt d[k]; omega
                  generalize hx : d[k] = x at *
                  clear hx hl'
                  by_cases h97 : (97 : Int) ≤ (x.toNat : Int)
                  · by_cases h122 : (x.toNat : Int) ≤ 122
                    · have HQX := Lib.hid (small_sub (c := x) (by simp [smallB]; omega))
                      go_wp2_with fail
                      refine ⟨⟨k + 1, by omega, by go_num, ?_, ?_⟩, by simp [intOf]; omega⟩
                      · have := HN.out
                        rw [byteCell, HQX.out] at this
                        exact this
                      · exact HBK.out.setCell (p := ⟨w4.heap.size + 1, k, none⟩) (Nat.le_refl _) _
                    · have HQX := Lib.hid (up_same (c := x) (by simp [smallB]; omega))
                      go_wp2_with fail
                      refine ⟨⟨k + 1, by omega, by go_num, ?_, HBK.out⟩, by simp [intOf]; omega⟩
                      rw [HSM.out HQX.out]
                      exact HRK.out
                  · have HQX := Lib.hid (up_same (c := x) (by simp [smallB]; omega))
                    go_wp2_with fail
                    refine ⟨⟨k + 1, by omega, by go_num, ?_, HBK.out⟩, by simp [intOf]; omega⟩
                    rw [HSM.out HQX.out]
                    exact HRK.out
                · obtain rfl : k = d.length := by omega
                  have HBW := Lib.hid (HB6.out.trans (HBK.out.mono (by omega)))
                  have hs5 : w4.heap.size + 1 ≤ wr.heap.size := by have := HBK.out.size; rw [World.size_alloc] at this; exact this
                  have hq7 := HQ.out wr HBW.out
                  have d0 := hq7.c0
                  simp only at d0
                  have hcb : ∀ W : World, W.heap[w4.heap.size + 1]? = wr.heap[w4.heap.size + 1]? → (convert 49 9 (.slice (some ⟨w4.heap.size + 1, 0, none⟩) d.length c7)).run Try.prog W = .ok (.string ⟨(upL d).toArray⟩) W := fun W hW => by
                    have h := run_convert_bytes_back (P := Try.prog) W 49 9 5 ⟨w4.heap.size + 1, 0, none⟩ c7 (upTo d d.length) Try.underlying49 Try.underlying5 Try.underlying9 (fun k hk => by
                      rw [Addr.add_lit, Nat.zero_add]
                      exact (World.cell?_of_block (w := wr) hW).trans (HRK.out.cellAt hk))
                    rw [upTo_len, upTo_all] at h
                    exact h
                  have HBYT := Lib.hid (show w4.heap.size + 1 < wr.heap.size from (ByteRow.lt HRK.out _ rfl).2)
                  have HS : Hid (∀ W : World, Below wr.heap.size wr W → W.cell? ⟨b, o + j * 3, none⟩ = some (.string ⟨ll.toArray⟩) ∧ (convert 49 9 (.slice (some ⟨w4.heap.size + 1, 0, none⟩) d.length c7)).run Try.prog W = .ok (.string ⟨(upL d).toArray⟩) W) := Lib.hid fun W hW =>
                    ⟨(hW.cell (p := ⟨b, o + j * 3, none⟩) (show b < wr.heap.size by omega)).trans d0, hcb W (hW.block _ HBYT.out)⟩
                  have hadd1 := fun w => add_str ll [64] w (by simp; omega)
                  have hadd2 := fun w => add_str (ll ++ [64]) (upL d) w (by simp [up_len]; omega)
                  have hbwr : b < wr.heap.size := by omega
                  clear hcb hq7 HRK hk hlt2
                  rw [show (ll ++ [64]) ++ upL d = ll ++ 64 :: upL d by simp] at hadd2
                  have hlu : (ll ++ 64 :: upL d).length ≤ 2001 := by simp [up_len]; omega
                  go_upto_region 15 with (fail)
                  go_cut [10, 11] (fun pv ev wc => ∃ b4, pv = .pointer (some ⟨b4, 0, none⟩) ∧ ev = .int .i64 0 ∧ MAt wc b4 ll d ∧ Below wr.heap.size wr wc)
                  case first =>
                    go_region_held3 (fun W => W.cell? ⟨b, o + j * 3, none⟩ = some (.string ⟨ll.toArray⟩) ∧ (convert 49 9 (.slice (some ⟨w4.heap.size + 1, 0, none⟩) d.length c7)).run Try.prog W = .ok (.string ⟨(upL d).toArray⟩) W)
                      (first | exact HS.out _ (Below.refl _ _).drew | exact HS.out _ ((Below.refl _ _).alloc (Nat.le_refl _) _).drew | exact HS.out _ hk5 | exact HS.out _ ((hk5.setCell (p := ⟨wr.heap.size, 0, none⟩) (Nat.le_refl _) _).setCell (p := ⟨wr.heap.size, 1, none⟩) (Nat.le_refl _) _) | exact HS.out _ (hk5.alloc hk5.size _))
                      (first
                        | (go_at_call 20; refine (HP2.out _).mono ?_; rintro e w5 ⟨rfl, hb5⟩; (have hk5 : Below wr.heap.size wr w5 := (Below.refl _ _).drew.trans hb5))
                        | (go_at_call 20; refine (HP2.out _).mono ?_; rintro e w5 ⟨rfl, hb5⟩; (have hm5 := (MAt.new wr [] []).drew.later hb5); (have hk5 : Below wr.heap.size wr w5 := (((Below.refl _ _).alloc (Nat.le_refl _) _).drew).trans (hb5.mono (by simp))); (have y0 := hm5.c0); (have y1 := hm5.c1); (have y2 := hm5.fz 0); (have y3 := hm5.fz 1)))
                    all_goals
                      go_wp2_with fail
                      go_meet
                      case rel =>
                        first
                        | exact ⟨w5.heap.size, rfl, rfl, MAt.new w5 ll d, hk5.alloc hk5.size _⟩
                        | exact ⟨wr.heap.size, rfl, rfl, hm5.set ll d, (hk5.setCell (p := ⟨wr.heap.size, 0, none⟩) (Nat.le_refl _) _).setCell (p := ⟨wr.heap.size, 1, none⟩) (Nat.le_refl _) _⟩
                  case rest =>
                    obtain ⟨b4, rfl, rfl, hm4, hbc4⟩ := hcut
                    generalize wc = wm at *
                    have HBM := Lib.hid (HBW.out.trans (hbc4.mono HBW.out.size))
                    have HM4 := Lib.hid hm4
                    have HM6m := Lib.hid (show MAt wm w4.heap.size ll d from (hbc4.block _ (by omega)).trans ((HBK.out.block _ (Nat.lt_succ_self _)).trans HM6.out))
                    have hb4lt := hm4.lt
                    have h6lt : w4.heap.size < wm.heap.size := HM6m.out.lt
                    clear hm4 hbc4 hadd1 hadd2 HS HP2 hlu d0
                    have hadd1 := fun w => add_str [60] tx w (by simp; omega)
                    have hadd2 := fun w => add_str (60 :: tx) [62] w (by simp; omega)
                    go_wp2_with fail
                    refine Calls.mono (HP3.out _) ?_
                    rintro e w8 ⟨rfl, hb8⟩
                    have hbm8 := HBM.out.trans (hb8.mono HBM.out.size)
                    have HB8 := Lib.hid (hbm8.alloc hbm8.size (.cells #[.string ⟨ll.toArray⟩, .string ⟨d.toArray⟩] 25))
                    have HM8 := Lib.hid (MAt.new w8 ll d)
                    have HM48 := Lib.hid ((HM4.out.later hb8).alloc (.cells #[.string ⟨ll.toArray⟩, .string ⟨d.toArray⟩] 25))
                    have HM68 := Lib.hid ((HM6m.out.later hb8).alloc (.cells #[.string ⟨ll.toArray⟩, .string ⟨d.toArray⟩] 25))
                    have hq8 := HQ.out _ HB8.out
                    have d0 := hq8.c0
                    have d1 := hq8.c1
                    simp only at d0 d1
                    have x0 := HM48.out.c0
                    have x1 := HM48.out.c1
                    have y0 := HM68.out.c0
                    have y1 := HM68.out.c1
                    have hb48 : b4 < w8.heap.size := (HM4.out.later hb8).lt
                    have h68 : w4.heap.size < w8.heap.size := (HM6m.out.later hb8).lt
                    have hb8b : b < w8.heap.size := by have := hb8.size; omega
                    have hjl : (j : Int) < (l.length : Int) := by omega
                    clear hb8 hbm8 hq8 hadd1 hadd2 HP3
                    go_wp2_with fail
                    go_quiet ((go_at_call 13; exact Calls.quiet_of_same (num_same _ _)))
                    go_wp2_with fail
                    go_meet
                    case rel => exact below_drewN HB8.out _
          case rest =>
            have HBc := Lib.hid hcut
            clear hcut HB2 HTX HBQ hcq
            have d2 := (HQ.out wc HBc.out).c2
            simp only at d2
            have hbc : b < wc.heap.size := Nat.lt_of_lt_of_le hbr HBc.out.size
            have HP := Lib.hid (parse_any s wc (by omega))
            obtain ⟨po, hpo⟩ : ∃ po, parseL s = po := ⟨_, rfl⟩
            rw [hpo] at HP
            have HPO := Lib.hid hpo
            clear hpo
            generalize wc = wd at *
            cases po with
            | none =>
              rw [show boxOf none = ([], []) from rfl, show errOf none = 8 from rfl] at HP
              go_wp2_with fail
              refine Calls.mono HP.out ?_
              rintro e w3 ⟨rfl, hb3⟩
              have hb := HBc.out.trans (hb3.mono HBc.out.size)
              have HB3 := Lib.hid (upB HB.out (Nat.le_refl _) (hb.alloc hb.size (.cells #[.string ⟨#[]⟩, .string ⟨#[]⟩] 25)))
              clear hb hb3
              go_wp2_with fail
              refine (num_any _ _).mono ?_
              rintro e w4 ⟨rfl, rfl⟩
              go_wp2_with fail
              exact ⟨⟨j + 1, hlt, by go_num, HB3.out⟩, by simp [intOf]; omega⟩
            | some p =>
              obtain ⟨l1, d1⟩ := p
              have hbx := parse_valid HPO.out
              obtain ⟨htx, hp1, _, _⟩ := back_parts hbx
              obtain ⟨hs1, hs2⟩ := box_short hbx
              rw [show boxOf (some (l1, d1)) = (l1, d1) from rfl, show errOf (some (l1, d1)) = 0 from rfl] at HP
              have HT1 := Lib.hid (fun W => text_any l1 d1 W (by omega) (by omega))
              rw [htx, hbx, show chk true = 0 from rfl] at HT1
              have HP1 := Lib.hid (fun W => parse_any (l1 ++ 64 :: d1) W (by simp; omega))
              rw [hp1, show boxOf (some (l1, d1)) = (l1, d1) from rfl, show errOf (some (l1, d1)) = 0 from rfl] at HP1
              have HCK := Lib.hid (fun W => check_any l1 d1 W (by omega) (by omega))
              rw [hbx, show chk true = 0 from rfl] at HCK
              clear hbx htx hp1 HPO
              go_wp2_with fail
              refine Calls.mono HP.out ?_
              rintro e w3 ⟨rfl, hb3⟩
              have hb := HBc.out.trans (hb3.mono HBc.out.size)
              have HB3 := Lib.hid (upB HB.out (Nat.le_refl _) (hb.alloc hb.size (.cells #[.string ⟨l1.toArray⟩, .string ⟨d1.toArray⟩] 25)))
              have HM3 := Lib.hid (MAt.new w3 l1 d1)
              clear hb hb3 HP
              go_wp2_with fail
              refine (num_any _ _).mono ?_
              rintro e w4 ⟨rfl, rfl⟩
              go_wp2_with fail
              refine Calls.mono (HT1.out _) ?_
              rintro e w4 ⟨rfl, hb4⟩
              have HB4 := Lib.hid (upB HB3.out (Nat.le_refl _) hb4)
              have HM4 := Lib.hid (HM3.out.later hb4)
              clear hb4 HB3 HM3 HT1
              go_wp2_with fail
              refine Calls.mono (HP1.out _) ?_
              rintro e w5 ⟨rfl, hb5⟩
              have hb45 := upB HB4.out (Nat.le_refl _) hb5
              have HB5 := Lib.hid (hb45.alloc hb45.size (.cells #[.string ⟨l1.toArray⟩, .string ⟨d1.toArray⟩] 25))
              have HM5 := Lib.hid ((HM4.out.later hb5).alloc (.cells #[.string ⟨l1.toArray⟩, .string ⟨d1.toArray⟩] 25))
              have hlt5 : w3.heap.size < w5.heap.size := (HM4.out.later hb5).lt
              have x0 := HM5.out.c0
              have x1 := HM5.out.c1
              clear hb5 hb45 HM4 HB4 HP1
              go_wp2_with fail
              refine (num_any _ _).mono ?_
              rintro e w6 ⟨rfl, rfl⟩
              go_wp2_with fail
              refine (num_any _ _).mono ?_
              rintro e w6 ⟨rfl, rfl⟩
              go_wp2_with fail
              refine Calls.mono (HCK.out _) ?_
              rintro e w6 ⟨rfl, hb6⟩
              have HB6 := Lib.hid (upB HB5.out (Nat.le_refl _) hb6)
              clear hb6
              go_wp2_with fail
              refine (num_any _ _).mono ?_
              rintro e w7 ⟨rfl, rfl⟩
              go_wp2_with fail
              exact ⟨⟨j + 1, hlt, by go_num, HB6.out⟩, by simp [intOf]; omega⟩
      · have h20' : decide ((j : Int) < 20) = false := by simp; omega
        go_wp2_with fail
        refine (wakes_any wr).mono ?_
        rintro e w1 ⟨rfl, hb1⟩
        go_wp2
        go_ret
        exact ⟨rfl, upB HB.out (Nat.le_refl _) hb1⟩
    · go_wp2_with fail
      refine (wakes_any wr).mono ?_
      rintro e w1 ⟨rfl, hb1⟩
      go_wp2
      go_ret
      exact ⟨rfl, upB HB.out (Nat.le_refl _) hb1⟩
end Go.Proofs.Ytlnpenmcpcmidaa

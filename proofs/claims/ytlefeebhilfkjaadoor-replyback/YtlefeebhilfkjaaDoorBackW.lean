/-
  The law ReplyBack, walked: at every list of scripts that can be read it answers true and turns nothing that was there.
  Conditions: as the theorem states them.
-/
import Derived.Test.YtlefeebhilfkjaaDoorU
namespace Go.Proofs.YtlefeebhilfkjaaDoor
open Go.RowKit

theorem TextsAt.shapeL {w : World} {v : Value} {l : List (List UInt8)} (h : TextsAt w v l) : ∃ A c, v = .slice A l.length c := by
  obtain ⟨A, c, hv, _⟩ := h
  exact ⟨A, c, hv⟩

theorem TextsAt.take {w : World} {A : Option Addr} {n c : Nat} {l : List (List UInt8)} (h : TextsAt w (.slice A n c) l) {k : Nat} (hk : k ≤ l.length) : TextsAt w (.slice A k c) (l.take k) := by
  obtain ⟨A', c', hv, h1, h2, h3⟩ := h
  simp only [Value.slice.injEq] at hv
  obtain ⟨rfl, rfl, rfl⟩ := hv
  refine ⟨A, c, by rw [List.length_take, Nat.min_eq_left hk], by rw [List.length_take]; omega, fun s hs => h2 s (List.mem_of_mem_take hs), fun hne => ?_⟩
  obtain ⟨b, o, hA, hlt, hc⟩ := h3 (fun e => hne (by rw [e, List.take_nil]))
  exact ⟨b, o, hA, hlt, fun i hi => by
    have hi' : i < l.length := by rw [List.length_take] at hi; omega
    rw [hc i hi', List.getElem_take]⟩

theorem row_some {w : World} {B : Nat} {v : Value} {rows : List (List UInt8)} (h : StrRow w B v rows) (hn : 0 < rows.length) : ∃ g cap, v = .slice (some ⟨g, 0, none⟩) rows.length cap ∧ rows.length ≤ cap := by
  obtain ⟨g, cap, cur, hv, _, _, hc, _⟩ := h.2.resolve_left (fun k => by omega)
  exact ⟨g, cap, hv, hc⟩

theorem split_last {l : List (List UInt8)} (h : 1 ≤ l.length) : ∃ xs y, l = xs ++ [y] := by
  rcases List.eq_nil_or_concat l with rfl | ⟨xs, y, rfl⟩
  · exact absurd h (by decide)
  · exact ⟨xs, y, by simp⟩

theorem cut_piece (s : List UInt8) (a b : Nat) : (⟨s.toArray⟩ : ByteArray).extract a b = ⟨((s.drop a).take (b - a)).toArray⟩ := mk_eq (by rw [Lib.extract_data])

set_option maxHeartbeats 4000000 in
set_option maxRecDepth 100000 in
theorem lawBack_any (l : List Ask) (v : Value) (w : World) (hl : AsksAt w v l) (ht : Tab w) (h0 : 0 < w.heap.size) :
    Calls Tryd.prog 4 #[v] w fun e w' => e = .returned (.bool true) ∧ Below w.heap.size w w' := by
  obtain ⟨A, c, rfl, hll, hl⟩ := hl
  unfold maxLen at hll
  have HL := Lib.hid hl
  have HTB := Lib.hid ht
  clear hl ht
  go_enter Tryd.func4, Tryd.ntmps4
  go_wp2_with fail
  go_loopw [3] (fun i wr => ∃ j : Nat, j ≤ l.length ∧ i = .int .i64 j ∧ Below w.heap.size w wr) (fun i _ => l.length - (intOf i).toNat)
  case atStart => exact ⟨0, Nat.zero_le _, rfl, Below.refl _ _⟩
  case round =>
    obtain ⟨j, hj, rfl, hB⟩ := hrel
    have HB := Lib.hid hB
    have hsz := hB.size
    clear hB
    by_cases hlt : j < l.length
    · by_cases h15 : j < 15
      · have h15i : (j : Int) < 15 := by omega
        obtain ⟨b, o, rfl, hab, hac⟩ := HL.out (fun e => by rw [e] at hlt; exact absurd hlt (by simp))
        have hq0 := hac j hlt
        have hq1 : AskAt wr b (o + j * 3) l[j] := by
          have hb := HB.out
          exact ⟨(hb.cell (p := ⟨b, o + j * 3, none⟩) hab).trans hq0.c0, (hb.cell (p := ⟨b, o + j * 3 + 1, none⟩) hab).trans hq0.c1, (hb.cell (p := ⟨b, o + j * 3 + 2, none⟩) hab).trans hq0.c2, hq0.t1.later hb, hq0.t2.later hb⟩
        have hbr : b < wr.heap.size := by omega
        clear hac hq0
        generalize l[j] = q at *
        obtain ⟨code, v1, v2, l1, l2⟩ := q
        obtain ⟨c0, c1, c2, t1, t2⟩ := hq1
        simp only at c0 c1 c2 t1 t2
        obtain ⟨A1, k1, rfl⟩ := t1.shapeL
        obtain ⟨A2, n2, k2, rfl⟩ := t2.shape
        have HH := Lib.hid (heavy_any code l1 l2 _ _ wr t1 t2)
        have HQ := Lib.hid (And.intro c0 c1)
        have HT1 := Lib.hid t1
        clear t1 t2
        go_wp2_with fail
        refine Calls.mono HH.out ?_
        rintro e w1 ⟨he, hb1⟩
        rcases he with rfl | ⟨rfl, hs1, _⟩
        · go_wp2_with fail
          go_ret
          exact ⟨rfl, upB HB.out (Nat.le_refl _) hb1⟩
        · have HB1 := Lib.hid (upB HB.out (Nat.le_refl _) hb1)
          have hbr1 : b < w1.heap.size := Nat.lt_of_lt_of_le hbr hb1.size
          have hw1 : w.heap.size ≤ w1.heap.size := Nat.le_trans hsz hb1.size
          have HX1 := Lib.hid (show ∀ W : World, Below w1.heap.size w1 W → (W.cell? ⟨b, o + j * 3, none⟩ = some (.int .i64 code) ∧ W.cell? ⟨b, o + j * 3 + 1, none⟩ = some (.slice A1 l1.length k1)) ∧ TextsAt W (.slice A1 l1.length k1) l1 from fun W hW =>
            ⟨⟨(hW.cell (p := ⟨b, o + j * 3, none⟩) hbr1).trans ((hb1.cell (p := ⟨b, o + j * 3, none⟩) hbr).trans HQ.out.1), (hW.cell (p := ⟨b, o + j * 3 + 1, none⟩) hbr1).trans ((hb1.cell (p := ⟨b, o + j * 3 + 1, none⟩) hbr).trans HQ.out.2)⟩, (HT1.out.later hb1).later hW⟩)
          have hx1 := HX1.out w1 (Below.refl _ _)
          have HBY := Lib.hid (bytes_any code l1 _ w1 hx1.2 (HTB.out.keep HB1.out h0) (by omega))
          have y0 := hx1.1.1
          have y1 := hx1.1.2
          have hji : (j : Int) < (l.length : Int) := by omega
          clear hb1 HB HH HQ HT1 c0 c1 c2 hs1 hx1
          generalize wr = wo at *
          cases hv : validR code l1 with
          | false =>
            have HE1 := Lib.hid (show errR code l1 = 1 from if_neg (by rw [hv]; exact Bool.false_ne_true))
            clear hv
            go_wp2_with fail
            refine Calls.mono HBY.out ?_
            rw [HE1.out]
            rintro e w2 ⟨rfl, hb2⟩
            have HB2 := Lib.hid (upB HB1.out (Nat.le_refl _) hb2)
            clear hb2
            go_wp2_with fail
            refine (num_any _ _).mono ?_
            rintro e w3 ⟨rfl, rfl⟩
            go_wp2_with fail
            exact ⟨⟨j + 1, hlt, by go_num, HB2.out⟩, by simp [intOf]; omega⟩
          | true =>
            obtain ⟨hcd1, hcd2, hl1, hl16, hok⟩ := valid_iff hv
            obtain ⟨n, rfl⟩ : ∃ n : Nat, code = n := ⟨code.toNat, by omega⟩
            have hn1 : 200 ≤ n := by omega
            have hn2 : n ≤ 599 := by omega
            obtain ⟨xs, y, hxy⟩ := split_last hl1
            have hxok : ∀ x ∈ xs, textOk x = true := fun x hx => hok x (by rw [hxy]; exact List.mem_append_left _ hx)
            have hyok : textOk y = true := hok y (by rw [hxy]; exact List.mem_append_right _ List.mem_cons_self)
            obtain ⟨rows, hrows⟩ : ∃ rows, rows = wire n xs y := ⟨_, rfl⟩
            obtain ⟨s, hs⟩ : ∃ s, s = joinC rows := ⟨_, rfl⟩
            have HE1 := Lib.hid (show errR n l1 = 0 from if_pos hv)
            have HE2 := Lib.hid (show outR n l1 = s by rw [hs, hrows, ← sent_wire, ← hxy]; exact if_pos hv)
            have HSC := Lib.hid (show scanTo s s.length = (rows, s.length) by
              have := scan_all rows (fun x hx => by
                rw [hrows] at hx
                rcases List.mem_append.1 hx with hx | hx
                · obtain ⟨z, hz, rfl⟩ := List.mem_map.1 hx
                  exact row_clean hn1 hn2 45 (by decide) (hxok z hz)
                · rw [List.mem_singleton.1 hx]
                  exact row_clean hn1 hn2 32 (by decide) hyok)
              rw [← hs] at this
              exact this)
            have hrl : rows.length = l1.length := by rw [hrows, wire_length, ← hxy]
            have hrl1 : rows.length ≤ l1.length := Nat.le_of_eq hrl
            have hrl2 : l1.length ≤ rows.length := Nat.le_of_eq hrl.symm
            have hrne : ((rows.length : Int) != (l1.length : Int)) = false := by rw [hrl]; simp
            have hslen : s.length ≤ 8192 := by
              rw [hs, hrows, ← sent_wire, ← hxy]
              have := sent_len n l1 (fun s hs => text_len (hok s hs)) l1.length
              unfold sentL
              omega
            have hspos : 1 ≤ s.length := by
              rw [hs, hrows]
              unfold wire
              rw [joinC_append, joinC_one]
              simp
              omega
            have HPW := Lib.hid (show parseL rows = ⟨0, n, l1⟩ by rw [hrows, hxy]; exact parse_wire hn1 hn2 hxok hyok (by rw [← hxy]; exact hl16))
            have HPD := Lib.hid (show ∀ k, k < rows.length → parseL (rows.take k) = .cut from fun k hk => by
              have hkx : k ≤ xs.length := by
                rw [hrl, hxy] at hk
                simp at hk
                omega
              rw [hrows, wire_take n xs y hkx]
              exact parse_dashed hn1 hn2 (fun x hx => hxok x (List.mem_of_mem_take hx)) (by
                have : xs.length ≤ l1.length := by rw [hxy]; simp
                rw [List.length_take]
                omega))
            have HRS := Lib.hid (show ∀ x ∈ rows, x.length ≤ 10000 from fun x hx => by
              have h1 : x.length ≤ (joinC rows).length := by
                obtain ⟨a, b, rfl⟩ := List.append_of_mem hx
                rw [joinC_append, show x :: b = [x] ++ b from rfl, joinC_append, joinC_one]
                simp
                omega
              rw [← hs] at h1
              omega)
            clear hv hok hxok hyok hs hrows hxy hcd1 hcd2 hrl
            go_wp2_with fail
            refine Calls.mono HBY.out ?_
            rw [HE1.out, HE2.out]
            rintro e w2 ⟨rfl, hb2⟩
            have HB2 := Lib.hid (upB HB1.out (Nat.le_refl _) hb2)
            have HX2 := Lib.hid (show ∀ W : World, Below w2.heap.size w2 W → (W.cell? ⟨b, o + j * 3, none⟩ = some (.int .i64 n) ∧ W.cell? ⟨b, o + j * 3 + 1, none⟩ = some (.slice A1 l1.length k1)) ∧ TextsAt W (.slice A1 l1.length k1) l1 from fun W hW => HX1.out W (upB hb2 (Nat.le_refl _) hW))
            have hw2 : w.heap.size ≤ w2.heap.size := Nat.le_trans hw1 hb2.size
            clear hb2 HX1 HBY y0 y1 HE1 HE2 HB1
            go_wp2_with fail
            refine (num_any _ _).mono ?_
            rintro e w3 ⟨rfl, rfl⟩
            go_wp2_with fail
            go_loopw [6, 7, 8] (fun rv fv kv wr => ∃ k : Nat, 1 ≤ k ∧ k ≤ s.length ∧ kv = .int .i64 k ∧ fv = .int .i64 (scanTo s k).2 ∧ StrRow wr w2.heap.size rv (scanTo s k).1 ∧ Below w2.heap.size w2 wr) (fun _ _ kv _ => s.length - (intOf kv).toNat)
            case atStart => exact ⟨1, Nat.le_refl _, hspos, rfl, rfl, StrRow.zero _ _, Below.refl _ _⟩
            case round =>
              obtain ⟨k, hk1, hks, rfl, rfl, hrow, hbr3⟩ := hrel
              obtain ⟨gA, gn, gc, rfl⟩ := row_shape hrow
              have HW := Lib.hid hrow
              have HBR := Lib.hid hbr3
              have hsz3 := hbr3.size
              have hinv := scan_inv s k
              clear hrow hbr3
              by_cases hkl : k < s.length
              · have hkB : k < (⟨s.toArray⟩ : ByteArray).size := hkl
                have hkC : k - 1 < (⟨s.toArray⟩ : ByteArray).size := by show k - 1 < s.length; omega
                have hki : (k : Int) < (s.length : Int) := by omega
                have hk1i : (1 : Int) ≤ (k : Int) := by omega
                have hgk : s[k]? = some s[k] := List.getElem?_eq_getElem hkl
                have hgk1 : s[k - 1]? = some (s[k - 1]'(by omega)) := List.getElem?_eq_getElem (by omega)
                by_cases h10 : s[k] = 10
                · have hA : (((((⟨s.toArray⟩ : ByteArray)[k]'hkB).toNat : Nat) : Int) == 10) = true := by
                    rw [show ((⟨s.toArray⟩ : ByteArray)[k]'hkB) = s[k] from rfl, h10]; rfl
                  by_cases h13 : s[k - 1]'(by omega) = 13
                  · have hC : (((((⟨s.toArray⟩ : ByteArray)[k - 1]'hkC).toNat : Nat) : Int) == 13) = true := by
                      rw [show ((⟨s.toArray⟩ : ByteArray)[k - 1]'hkC) = s[k - 1]'(by omega) from rfl, h13]; rfl
                    have HN := Lib.hid (scan_hit (s := s) hk1 (by rw [hgk, h10]) (by rw [hgk1, h13]))
                    have hfr : (scanTo s k).2 ≤ k - 1 := by
                      rcases Nat.lt_or_ge (k - 1) (scanTo s k).2 with hgt | hle
                      · have hek : (scanTo s k).2 = k := by omega
                        rcases hinv.2.2 with h | h
                        · omega
                        · rw [hek, hgk1, h13] at h
                          cases h
                      · exact hle
                    have hln := hinv.2.1
                    have hex := Lib.hid (cut_piece s (scanTo s k).2 (k - 1))
                    clear h10 h13 hgk hgk1 hinv
                    generalize scanTo s k = q at *
                    obtain ⟨acc, fr⟩ := q
                    simp only at hfr hln
                    have hfi : (fr : Int) ≤ (k : Int) - 1 := by omega
                    have hf0 : (0 : Int) ≤ (fr : Int) := by omega
                    have hks1 : (k : Int) - 1 ≤ (s.length : Int) := by omega
                    have HRW := Lib.hid (show StrRow (wr.alloc (.cells #[.string ((⟨s.toArray⟩ : ByteArray).extract fr (k - 1))] 9)) w2.heap.size (.slice gA gn gc) acc from World.ownsRow.alloc HW.out _)
                    have HBK := Lib.hid (show (wr.alloc (.cells #[.string ((⟨s.toArray⟩ : ByteArray).extract fr (k - 1))] 9)).heap[wr.heap.size]? = some (.cells #[.string ⟨((s.drop fr).take (k - 1 - fr)).toArray⟩] 9 (0, 0)) from by
                      rw [← hex.out]
                      exact heap_alloc_new wr _)
                    go_wp2_with (at_builtin; refine wpList_append_str _ (.tmp 58) (.tmp 64) w2.heap.size wr.heap.size (.slice gA gn gc) acc ((s.drop fr).take (k - 1 - fr)) rfl rfl rfl rfl HRW.out HBK.out (by simp; omega) (by omega) ?_)
                    intro g cap w5 hrow5 hgrow
                    have HB5 := Lib.hid (show Below w2.heap.size w2 w5 from (HBR.out.alloc hsz3 _).grown hgrow (by simp; omega) (fun i hi => (World.ownsRow.lt HRW.out i hi).1))
                    have H5 := Lib.hid hrow5
                    clear hrow5
                    go_wp2_with fail
                    exact ⟨⟨k + 1, by omega, hkl, by go_num, by rw [HN.out]; go_num, by rw [HN.out]; exact H5.out, HB5.out⟩, by simp [intOf]; omega⟩
                  · have hC : (((((⟨s.toArray⟩ : ByteArray)[k - 1]'hkC).toNat : Nat) : Int) == 13) = false := by
                      rw [show ((⟨s.toArray⟩ : ByteArray)[k - 1]'hkC) = s[k - 1]'(by omega) from rfl]
                      exact byte_ne (d := 13) h13
                    have HN := Lib.hid (scan_miss (s := s) (k := k) (fun e => by rw [hgk1] at e; exact h13 (Option.some.inj e.2.2)))
                    clear h10 h13 hgk hgk1 hinv
                    go_wp2_with fail
                    exact ⟨⟨k + 1, by omega, hkl, by go_num, by rw [HN.out], by rw [HN.out]; exact HW.out, HBR.out⟩, by simp [intOf]; omega⟩
                · have hA : (((((⟨s.toArray⟩ : ByteArray)[k]'hkB).toNat : Nat) : Int) == 10) = false := by
                    rw [show ((⟨s.toArray⟩ : ByteArray)[k]'hkB) = s[k] from rfl]
                    exact byte_ne (d := 10) h10
                  have HN := Lib.hid (scan_miss (s := s) (k := k) (fun e => by rw [hgk] at e; exact h10 (Option.some.inj e.2.1)))
                  clear h10 hgk hgk1 hinv
                  go_wp2_with fail
                  exact ⟨⟨k + 1, by omega, hkl, by go_num, by rw [HN.out], by rw [HN.out]; exact HW.out, HBR.out⟩, by simp [intOf]; omega⟩
              · obtain rfl : k = s.length := by omega
                rw [HSC.out] at HW ⊢
                simp only at HW ⊢
                obtain ⟨g, cap, hrv, hcap⟩ := row_some HW.out (by omega)
                simp only [Value.slice.injEq] at hrv
                obtain ⟨rfl, rfl, rfl⟩ := hrv
                have htr : TextsAt wr (.slice (some ⟨g, 0, none⟩) rows.length gc) rows := HW.out.texts (by omega) (fun x hx => by have := HRS.out x hx; omega)
                have HTR := Lib.hid htr
                have HP := Lib.hid (parse_any rows _ wr htr)
                rw [HPW.out] at HP
                have hxr := HX2.out wr HBR.out
                have hbd1 : l1.length ≤ 140737488355328 ∧ ∀ x ∈ l1, x.length ≤ 140737488355328 := by
                  obtain ⟨_, _, _, q1, q2, _⟩ := hxr.2
                  exact ⟨q1, q2⟩
                have HBB := Lib.hid hbd1
                clear htr hxr hbd1 HSC HPW hinv
                generalize wr = wm at *
                go_wp2_with fail
                refine Calls.mono HP.out ?_
                rintro e w5 ⟨pv, rfl, hprow, hb5⟩
                obtain ⟨Ap, kp, hpv⟩ := (hprow.texts HBB.out.1 HBB.out.2).shapeL
                subst hpv
                have hb5a := hb5.alloc hb5.size (.cells #[.int .i64 n, .slice Ap l1.length kp] 26)
                have hr5 : RAt (w5.alloc (.cells #[.int .i64 n, .slice Ap l1.length kp] 26)) w5.heap.size n (.slice Ap l1.length kp) := heap_alloc_new w5 _
                have htp : TextsAt (w5.alloc (.cells #[.int .i64 n, .slice Ap l1.length kp] 26)) (.slice Ap l1.length kp) l1 := (show StrRow _ _ _ _ from World.ownsRow.alloc hprow _).texts HBB.out.1 HBB.out.2
                have HX5 := Lib.hid (show ∀ W : World, Below (w5.alloc (.cells #[.int .i64 n, .slice Ap l1.length kp] 26)).heap.size (w5.alloc (.cells #[.int .i64 n, .slice Ap l1.length kp] 26)) W → (W.cell? ⟨w5.heap.size, 0, none⟩ = some (.int .i64 n) ∧ W.cell? ⟨w5.heap.size, 1, none⟩ = some (.slice Ap l1.length kp) ∧ W.cell? ⟨b, o + j * 3, none⟩ = some (.int .i64 n) ∧ W.cell? ⟨b, o + j * 3 + 1, none⟩ = some (.slice A1 l1.length k1)) ∧ TextsAt W (.slice Ap l1.length kp) l1 ∧ TextsAt W (.slice A1 l1.length k1) l1 ∧ TextsAt W (.slice (some ⟨g, 0, none⟩) rows.length gc) rows from fun W hW => by
                  have hx := HX2.out W (upB HBR.out (Nat.le_refl _) (upB hb5a (Nat.le_refl _) hW))
                  exact ⟨⟨(hW.cell (p := ⟨w5.heap.size, 0, none⟩) hr5.lt).trans hr5.c0, (hW.cell (p := ⟨w5.heap.size, 1, none⟩) hr5.lt).trans hr5.c1, hx.1.1, hx.1.2⟩, htp.later hW, hx.2, HTR.out.later (upB hb5a (Nat.le_refl _) hW)⟩)
                have HB5 := Lib.hid (upB (upB HB2.out (Nat.le_refl _) HBR.out) (Nat.le_refl _) hb5a)
                clear hprow hb5 hb5a hr5 htp HX2 HBR HP HTR HW
                go_upto_region 17 with (fail)
                generalize hW5 : w5.alloc (.cells #[.int .i64 n, .slice Ap l1.length kp] 26) = W5 at *
                have HEQ := Lib.hid (fun W (hW : Below W5.heap.size W5 W) => eqReply_same n l1 _ _ W (HX5.out W hW).2.1 (HX5.out W hW).2.2.1)
                have hw5 : w.heap.size ≤ W5.heap.size := HB5.out.size
                clear hW5
                generalize w5.heap.size = b5 at *
                go_cut [103] (fun bv wd => bv = .bool false ∧ Below W5.heap.size W5 wd)
                case first =>
                  go_region_held3 (fun W => W.cell? ⟨b5, 0, none⟩ = some (.int .i64 n) ∧ W.cell? ⟨b5, 1, none⟩ = some (.slice Ap l1.length kp) ∧ W.cell? ⟨b, o + j * 3, none⟩ = some (.int .i64 n) ∧ W.cell? ⟨b, o + j * 3 + 1, none⟩ = some (.slice A1 l1.length k1))
                    (first | exact (HX5.out _ (Below.refl _ _).drew).1 | exact (HX5.out _ hk6).1)
                    (first | (go_at_call 10; refine (num_any _ _).mono ?_; rintro e w9 ⟨rfl, rfl⟩) | (go_at_call 12; refine Calls.mono (HEQ.out _ (by exact (Below.refl _ _).drew)) ?_; rintro e w6 ⟨rfl, hb6⟩; (have hk6 : Below W5.heap.size W5 w6 := (Below.refl _ _).drew.trans hb6)))
                  all_goals
                    go_wp2_with fail
                    go_meet
                    case rel => exact ⟨rfl, hk6⟩
                case rest =>
                  obtain ⟨rfl, hb6⟩ := hcut
                  have HTR := Lib.hid (show ∀ W : World, Below wc.heap.size wc W → TextsAt W (.slice (some ⟨g, 0, none⟩) rows.length gc) rows from fun W hW => (HX5.out W (upB hb6 (Nat.le_refl _) hW)).2.2.2)
                  have HB6 := Lib.hid (upB HB5.out (Nat.le_refl _) hb6)
                  have hw6 : w.heap.size ≤ wc.heap.size := Nat.le_trans hw5 hb6.size
                  clear hb6 HX5 HEQ HB5
                  generalize wc = wn at *
                  go_wp2_with fail
                  go_loopw [11] (fun kv wr => ∃ k : Nat, k ≤ rows.length ∧ kv = .int .i64 k ∧ Below wn.heap.size wn wr) (fun kv _ => rows.length - (intOf kv).toNat)
                  case atStart => exact ⟨0, Nat.zero_le _, rfl, Below.refl _ _⟩
                  case round =>
                    obtain ⟨k, hkr, rfl, hbk⟩ := hrel
                    have HBK := Lib.hid hbk
                    have hszk := hbk.size
                    clear hbk
                    by_cases hkl : k < rows.length
                    · have HP := Lib.hid (parse_any (rows.take k) _ wr ((HTR.out wr HBK.out).take (Nat.le_of_lt hkl)))
                      rw [HPD.out k hkl] at HP
                      have hf0 : Res.cut.code = 0 := rfl
                      have hf1 : Res.cut.err = 7 := rfl
                      rw [hf0, hf1] at HP
                      have hk0 : (0 : Int) ≤ (k : Int) := by omega
                      have hkg : (k : Int) ≤ (gc : Int) := by omega
                      clear hf0 hf1
                      go_wp2_with fail
                      refine Calls.mono HP.out ?_
                      rintro e w7 ⟨pv, rfl, hrow7, hb7⟩
                      obtain ⟨qA, qn, qc, rfl⟩ := row_shape hrow7
                      have HB7 := Lib.hid ((HBK.out.trans (hb7.mono hszk)).alloc (Nat.le_trans hszk hb7.size) (.cells #[.int .i64 0, .slice qA qn qc] 26))
                      clear hrow7 hb7
                      go_wp2_with fail
                      refine (num_any _ _).mono ?_
                      rintro e w8 ⟨rfl, rfl⟩
                      go_wp2_with fail
                      exact ⟨⟨k + 1, hkl, by go_num, HB7.out⟩, by simp [intOf]; omega⟩
                    · have HBE := Lib.hid (upB HB6.out (Nat.le_refl _) HBK.out)
                      go_wp2_with fail
                      exact ⟨⟨j + 1, hlt, by go_num, HBE.out⟩, by simp [intOf]; omega⟩
      · have h15' : decide ((j : Int) < 15) = false := by simp; omega
        go_wp2_with fail
        refine (wakes_any wr).mono ?_
        rintro e w1 ⟨rfl, hb1⟩
        go_wp2
        go_ret
        exact ⟨rfl, upB HB.out (Nat.le_refl _) hb1⟩
    · go_wp2_with fail
      refine (wakes_any wr).mono ?_
      rintro e w1 ⟨rfl, hb1⟩
      go_wp2
      go_ret
      exact ⟨rfl, upB HB.out (Nat.le_refl _) hb1⟩
end Go.Proofs.YtlefeebhilfkjaaDoor

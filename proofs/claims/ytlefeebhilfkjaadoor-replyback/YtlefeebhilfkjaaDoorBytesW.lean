/-
  The law ReplyBytes, walked: at every list of scripts that can be read it answers true and turns nothing that was there.
  Conditions: as the theorem states them.
-/
import Derived.Test.YtlefeebhilfkjaaDoorR
namespace Go.Proofs.YtlefeebhilfkjaaDoor
open Go.RowKit

/-- The error of form's number, if a reply is none. -/
def errR (code : Int) (l : List (List UInt8)) : Int := if validR code l = true then 0 else 1
/-- A reply as it is sent; of none, nothing. -/
def outR (code : Int) (l : List (List UInt8)) : List UInt8 := if validR code l = true then sentL code.toNat l else []

theorem bytes_any (code : Int) (l : List (List UInt8)) (v : Value) (w : World) (hl : TextsAt w v l) (ht : Tab w) (h0 : 0 < w.heap.size) :
    Calls Tryd.prog 7 #[.agg #[.int .i64 code, v]] w fun e w' => e = .returned (.tuple #[.string ⟨(outR code l).toArray⟩, .int .i64 (errR code l)]) ∧ Below w.heap.size w w' := by
  cases hv : validR code l with
  | true =>
    have hc := (valid_iff hv).1
    obtain ⟨n, rfl⟩ : ∃ n : Nat, code = n := ⟨code.toNat, by omega⟩
    have h := bytes_good n l v w hl ht h0 hv
    unfold outR errR
    rw [if_pos hv, if_pos hv]
    exact h
  | false =>
    have h := bytes_bad code l v w hl hv
    unfold outR errR
    rw [if_neg (by rw [hv]; exact Bool.false_ne_true), if_neg (by rw [hv]; exact Bool.false_ne_true)]
    exact h

/-- A reply of the call's own that has been made. -/
def Made (w0 wc : World) (pv : Value) (code : Int) (l : List (List UInt8)) : Prop :=
  ∃ b lv, pv = .pointer (some ⟨b, 0, none⟩) ∧ RAt wc b code lv ∧ StrRow wc w0.heap.size lv l ∧ Below w0.heap.size w0 wc

theorem Made.after {w0 w4 w5 : World} {code : Int} {l : List (List UInt8)} {lv : Value} (h0 : w4 = w0.drew) (hb : Below w4.heap.size w4 w5) (hr : StrRow w5 w4.heap.size lv l) :
    Made w0 (w5.alloc (.cells #[.int .i64 code, lv] 26)) (.pointer (some ⟨w5.heap.size, 0, none⟩)) code l := by
  subst h0
  exact ⟨w5.heap.size, lv, rfl, heap_alloc_new w5 _, World.ownsRow.alloc hr _, ((Below.refl _ w0).drew.trans hb).alloc hb.size _⟩

theorem Made.ahead {w0 w4 w5 : World} {code : Int} {l : List (List UInt8)} {lv : Value} (h0 : w4 = (w0.alloc (.cells #[.int .i64 0, .slice none 0 0] 26)).drew) (hb : Below w4.heap.size w4 w5) (hr : StrRow w5 w4.heap.size lv l) :
    Made w0 ((w5.setCell ⟨w0.heap.size, 0, none⟩ (.int .i64 code)).setCell ⟨w0.heap.size, 1, none⟩ lv) (.pointer (some ⟨w0.heap.size, 0, none⟩)) code l := by
  subst h0
  have hs : ((w0.alloc (.cells #[.int .i64 0, .slice none 0 0] 26)).drew).heap.size = w0.heap.size + 1 := World.size_alloc _ _
  rw [hs] at hb hr
  have h1 : RAt w5 w0.heap.size 0 (.slice none 0 0) := (hb.block _ (Nat.lt_succ_self _)).trans (heap_alloc_new w0 _)
  have hbb : Below w0.heap.size w0 w5 := (((Below.refl _ w0).alloc (Nat.le_refl _) _).drew).trans (hb.mono (Nat.le_succ _))
  exact ⟨w0.heap.size, lv, rfl, (h1.set0 code).set1 lv,
    StrRow.mono (ownsRow_setCell_below (ownsRow_setCell_below hr (a := ⟨w0.heap.size, 0, none⟩) (Nat.lt_succ_self _) _) (a := ⟨w0.heap.size, 1, none⟩) (Nat.lt_succ_self _) _) (Nat.le_succ _),
    (hbb.setCell (p := ⟨w0.heap.size, 0, none⟩) (Nat.le_refl _) _).setCell (p := ⟨w0.heap.size, 1, none⟩) (Nat.le_refl _) _⟩

theorem check_err (code : Int) (l : List (List UInt8)) (v : Value) (w : World) (hl : TextsAt w v l) :
    Calls Tryd.prog 11 #[.agg #[.int .i64 code, v]] w fun e w' => e = .returned (.int .i64 (errR code l)) ∧ Below w.heap.size w w' := check_any code l v w hl

set_option maxHeartbeats 2000000 in
set_option maxRecDepth 100000 in
theorem lawBytes_any (l : List Ask) (v : Value) (w : World) (hl : AsksAt w v l) (ht : Tab w) (h0 : 0 < w.heap.size) :
    Calls Tryd.prog 3 #[v] w fun e w' => e = .returned (.bool true) ∧ Below w.heap.size w w' := by
  obtain ⟨A, c, rfl, hll, hl⟩ := hl
  unfold maxLen at hll
  have HL := Lib.hid hl
  have HTB := Lib.hid ht
  clear hl ht
  go_enter Tryd.func3, Tryd.ntmps3
  go_wp2_with fail
  go_loopw [3] (fun i wr => ∃ j : Nat, j ≤ l.length ∧ i = .int .i64 j ∧ Below w.heap.size w wr) (fun i _ => l.length - (intOf i).toNat)
  case atStart => exact ⟨0, Nat.zero_le _, rfl, Below.refl _ _⟩
  case round =>
    obtain ⟨j, hj, rfl, hB⟩ := hrel
    have HB := Lib.hid hB
    have hsz := hB.size
    clear hB
    by_cases hlt : j < l.length
    · by_cases h15 : j < 15
      · have h15i : (j : Int) < 15 := by omega
        obtain ⟨b, o, rfl, hab, hac⟩ := HL.out (fun e => by rw [e] at hlt; exact absurd hlt (by simp))
        have hq0 := hac j hlt
        have hq1 : AskAt wr b (o + j * 3) l[j] := by
          have hb := HB.out
          exact ⟨(hb.cell (p := ⟨b, o + j * 3, none⟩) hab).trans hq0.c0, (hb.cell (p := ⟨b, o + j * 3 + 1, none⟩) hab).trans hq0.c1, (hb.cell (p := ⟨b, o + j * 3 + 2, none⟩) hab).trans hq0.c2, hq0.t1.later hb, hq0.t2.later hb⟩
        have hbr : b < wr.heap.size := by omega
        clear hac hq0
        generalize l[j] = q at *
        obtain ⟨code, v1, v2, l1, l2⟩ := q
        obtain ⟨c0, c1, c2, t1, t2⟩ := hq1
        simp only at c0 c1 c2 t1 t2
        obtain ⟨A1, n1, k1, rfl⟩ := t1.shape
        obtain ⟨A2, n2, k2, rfl⟩ := t2.shape
        have HH := Lib.hid (heavy_any code l1 l2 _ _ wr t1 t2)
        have HQ := Lib.hid (And.intro c0 c1)
        have HT1 := Lib.hid t1
        clear t1 t2
        go_wp2_with fail
        refine Calls.mono HH.out ?_
        rintro e w1 ⟨he, hb1⟩
        rcases he with rfl | ⟨rfl, hs1, _⟩
        · go_wp2_with fail
          go_ret
          exact ⟨rfl, upB HB.out (Nat.le_refl _) hb1⟩
        · have HB1 := Lib.hid (upB HB.out (Nat.le_refl _) hb1)
          have hbr1 : b < w1.heap.size := Nat.lt_of_lt_of_le hbr hb1.size
          have hw1 : w.heap.size ≤ w1.heap.size := Nat.le_trans hsz hb1.size
          have HX1 := Lib.hid (show ∀ W : World, Below w1.heap.size w1 W → W.cell? ⟨b, o + j * 3, none⟩ = some (.int .i64 code) ∧ W.cell? ⟨b, o + j * 3 + 1, none⟩ = some (.slice A1 n1 k1) ∧ TextsAt W (.slice A1 n1 k1) l1 from fun W hW =>
            ⟨(hW.cell (p := ⟨b, o + j * 3, none⟩) hbr1).trans ((hb1.cell (p := ⟨b, o + j * 3, none⟩) hbr).trans HQ.out.1), (hW.cell (p := ⟨b, o + j * 3 + 1, none⟩) hbr1).trans ((hb1.cell (p := ⟨b, o + j * 3 + 1, none⟩) hbr).trans HQ.out.2), (HT1.out.later hb1).later hW⟩)
          have hlen1 : l1.length ≤ 10000 := hs1.1
          have HSM := Lib.hid hs1
          have hji : (j : Int) < (l.length : Int) := by omega
          clear hb1 HB HH HQ HT1 c0 c1 c2 hs1
          go_upto_region 6 with (fail)
          go_cut [4] (fun pv wc => Made w1 wc pv code l1)
          case first =>
            have hn1 : ¬ b = w1.heap.size := by omega
            have hn2 : ¬ w1.heap.size = b := by omega
            go_region_held3 (fun W => W.cell? ⟨b, o + j * 3, none⟩ = some (.int .i64 code) ∧ W.cell? ⟨b, o + j * 3 + 1, none⟩ = some (.slice A1 n1 k1))
              (first | exact ⟨(HX1.out _ (Below.refl _ _).drew).1, (HX1.out _ (Below.refl _ _).drew).2.1⟩ | exact ⟨(HX1.out _ ((Below.refl _ _).alloc (Nat.le_refl _) _).drew).1, (HX1.out _ ((Below.refl _ _).alloc (Nat.le_refl _) _).drew).2.1⟩ | exact ⟨(HX1.out _ hk5).1, (HX1.out _ hk5).2.1⟩ | exact ⟨(HX1.out _ (hk5.alloc hk5.size _)).1, (HX1.out _ (hk5.alloc hk5.size _)).2.1⟩ | exact ⟨(HX1.out _ ((hk5.setCell (p := ⟨w1.heap.size, 0, none⟩) (Nat.le_refl _) _).setCell (p := ⟨w1.heap.size, 1, none⟩) (Nat.le_refl _) _)).1, (HX1.out _ ((hk5.setCell (p := ⟨w1.heap.size, 0, none⟩) (Nat.le_refl _) _).setCell (p := ⟨w1.heap.size, 1, none⟩) (Nat.le_refl _) _)).2.1⟩)
              (first | (go_at_call 6; refine (copy_any l1 _ _ (by first | exact (HX1.out _ (Below.refl _ _).drew).2.2 | exact (HX1.out _ ((Below.refl _ _).alloc (Nat.le_refl _) _).drew).2.2) hlen1).mono ?_; rintro e w5 ⟨lv, rfl, hrow5, hb5⟩; (obtain ⟨gA, gn, gc, rfl⟩ := row_shape hrow5); (have hk5 : Below w1.heap.size w1 w5 := (by first | exact (Below.refl _ _).drew.trans hb5 | exact (((Below.refl _ _).alloc (Nat.le_refl _) _).drew).trans (hb5.mono (by simp)))); (have e0 := fun h => hb5.cell (p := ⟨w1.heap.size, 0, none⟩) h); (have e1 := fun h => hb5.cell (p := ⟨w1.heap.size, 1, none⟩) h); (have f0 := fun i h => hb5.frozen (p := ⟨w1.heap.size, i, none⟩) h)))
            all_goals
              go_wp2_with fail
              go_meet
              case rel =>
                first
                | exact Made.after rfl hb5 hrow5
                | exact Made.ahead rfl hb5 hrow5
          case rest =>
            obtain ⟨b4, lv, rfl, hr4, hrow4, hb4⟩ := hcut
            generalize wc = wm at *
            obtain ⟨gA, gn, gc, rfl⟩ := row_shape hrow4
            have HB4 := Lib.hid (upB HB1.out (Nat.le_refl _) hb4)
            have hw4 : w.heap.size ≤ wm.heap.size := Nat.le_trans hw1 hb4.size
            have htx : TextsAt wm (.slice gA gn gc) l1 := hrow4.texts (by omega) (fun s hs => by have := HSM.out.2 s hs; omega)
            have hx4 := HX1.out wm hb4
            have hb4lt := hr4.lt
            have hbw4 : b < wm.heap.size := Nat.lt_of_lt_of_le hbr1 hb4.size
            have HX2 := Lib.hid (show ∀ W : World, Below wm.heap.size wm W → (W.cell? ⟨b4, 0, none⟩ = some (.int .i64 code) ∧ W.cell? ⟨b4, 1, none⟩ = some (.slice gA gn gc) ∧ W.cell? ⟨b, o + j * 3, none⟩ = some (.int .i64 code) ∧ W.cell? ⟨b, o + j * 3 + 1, none⟩ = some (.slice A1 n1 k1)) ∧ TextsAt W (.slice gA gn gc) l1 ∧ TextsAt W (.slice A1 n1 k1) l1 from fun W hW =>
              ⟨⟨(hW.cell (p := ⟨b4, 0, none⟩) hb4lt).trans hr4.c0, (hW.cell (p := ⟨b4, 1, none⟩) hb4lt).trans hr4.c1, (hW.cell (p := ⟨b, o + j * 3, none⟩) hbw4).trans hx4.1, (hW.cell (p := ⟨b, o + j * 3 + 1, none⟩) hbw4).trans hx4.2.1⟩, htx.later hW, hx4.2.2.later hW⟩)
            have HBY := Lib.hid (bytes_any code l1 _ wm htx (HTB.out.keep HB4.out h0) (by omega))
            have y0 := hr4.c0
            have y1 := hr4.c1
            clear hr4 hrow4 hb4 htx hx4 HX1 HB1
            go_wp2_with fail
            refine Calls.mono HBY.out ?_
            rintro e w2 ⟨rfl, hb2⟩
            have hx2 := (HX2.out w2 hb2)
            obtain ⟨⟨z0, z1, z2, z3⟩, zt1, zt2⟩ := hx2
            have HPR := Lib.hid (pageReply_any code l1 _ w2 zt2)
            have HB2 := Lib.hid hb2
            clear zt1 zt2 y0 y1 HBY hb2
            go_upto_if 48 with (go_at_call 8; refine Calls.mono HPR.out ?_; rintro e w3 ⟨rfl, hb3⟩)
            have HB3 := Lib.hid (upB HB2.out (Nat.le_refl _) hb3)
            obtain ⟨⟨x0, x1, x2, x3⟩, xt1, xt2⟩ := HX2.out w3 HB3.out
            clear z0 z1 z2 z3 HPR hb3 HB2
            go_cut [7, 8] (fun bv wv wd => bv = .int .i64 (errR code l1) ∧ wv = .string ⟨(outR code l1).toArray⟩ ∧ Below wm.heap.size wm wd)
            case first =>
              cases hv : validR code l1 with
              | true =>
                have hcd := (valid_iff hv).1
                obtain ⟨n, rfl⟩ : ∃ n : Nat, code = n := ⟨code.toNat, by omega⟩
                have HPB := Lib.hid (pageBytes_any n l1 _ w3 xt2 hv)
                have HE1 := Lib.hid (show errR n l1 = 0 from if_pos hv)
                have HE2 := Lib.hid (show outR n l1 = sentL n l1 from if_pos hv)
                clear hv xt1 xt2
                go_wp2_with fail
                refine Calls.mono HPB.out ?_
                rintro e w7 ⟨rfl, hb7⟩
                have HB7 := Lib.hid (upB HB3.out (Nat.le_refl _) hb7)
                clear hb7
                go_wp2_with fail
                go_meet
                case rel => exact ⟨by rw [HE1.out], by rw [HE2.out], HB7.out⟩
              | false =>
                have HE1 := Lib.hid (show errR code l1 = 1 from if_neg (by rw [hv]; exact Bool.false_ne_true))
                have HE2 := Lib.hid (show outR code l1 = [] from if_neg (by rw [hv]; exact Bool.false_ne_true))
                clear hv xt1 xt2
                go_wp2_with fail
                go_meet
                case rel => exact ⟨by rw [HE1.out], by rw [HE2.out], HB3.out⟩
            case rest =>
              obtain ⟨rfl, rfl, hbd⟩ := hcut
              have HBD := Lib.hid hbd
              have HX3 := Lib.hid (show ∀ W : World, Below wc.heap.size wc W → (W.cell? ⟨b4, 0, none⟩ = some (.int .i64 code) ∧ W.cell? ⟨b4, 1, none⟩ = some (.slice gA gn gc) ∧ W.cell? ⟨b, o + j * 3, none⟩ = some (.int .i64 code) ∧ W.cell? ⟨b, o + j * 3 + 1, none⟩ = some (.slice A1 n1 k1)) ∧ TextsAt W (.slice gA gn gc) l1 ∧ TextsAt W (.slice A1 n1 k1) l1 from fun W hW => HX2.out W (upB hbd (Nat.le_refl _) hW))
              have HCK := Lib.hid (fun W (hW : Below wc.heap.size wc W) => check_err code l1 _ W (HX3.out W hW).2.1)
              have HEQ := Lib.hid (fun W (hW : Below wc.heap.size wc W) => eqReply_same code l1 _ _ W (HX3.out W hW).2.1 (HX3.out W hW).2.2)
              have hszd : wm.heap.size ≤ wc.heap.size := hbd.size
              clear hbd HX2 HB3 x0 x1 x2 x3 xt1 xt2
              generalize errR code l1 = er at *
              generalize outR code l1 = ot at *
              go_upto_region 11 with (fail)
              go_cut [80] (fun bv wd => bv = .bool false ∧ Below wc.heap.size wc wd)
              case first =>
                go_region_held3 (fun W => W.cell? ⟨b4, 0, none⟩ = some (.int .i64 code) ∧ W.cell? ⟨b4, 1, none⟩ = some (.slice gA gn gc) ∧ W.cell? ⟨b, o + j * 3, none⟩ = some (.int .i64 code) ∧ W.cell? ⟨b, o + j * 3 + 1, none⟩ = some (.slice A1 n1 k1))
                  (first | exact (HX3.out _ (Below.refl _ _).drew).1 | exact (HX3.out _ hk5).1 | exact (HX3.out _ hk6).1)
                  (first | (go_at_call 11; refine Calls.mono (HCK.out _ (by exact (Below.refl _ _).drew)) ?_; rintro e w5 ⟨rfl, hb5⟩; (have hk5 : Below wc.heap.size wc w5 := (Below.refl _ _).drew.trans hb5)) | (go_at_call 10; refine (num_any _ _).mono ?_; rintro e w9 ⟨rfl, rfl⟩) | (go_at_call 12; refine Calls.mono (HEQ.out _ hk5) ?_; rintro e w6 ⟨rfl, hb6⟩; (have hk6 : Below wc.heap.size wc w6 := hk5.trans (hb6.mono hk5.size))))
                all_goals
                  go_wp2_with fail
                  go_meet
                  case rel => exact ⟨rfl, hk6⟩
              case rest =>
                obtain ⟨rfl, hbe⟩ := hcut
                have HBE := Lib.hid (upB (upB HB4.out (Nat.le_refl _) HBD.out) (Nat.le_refl _) hbe)
                clear hbe HX3 HCK HEQ
                go_wp2_with fail
                exact ⟨⟨j + 1, hlt, by go_num, HBE.out⟩, by simp [intOf]; omega⟩
      · have h15' : decide ((j : Int) < 15) = false := by simp; omega
        go_wp2_with fail
        refine (wakes_any wr).mono ?_
        rintro e w1 ⟨rfl, hb1⟩
        go_wp2
        go_ret
        exact ⟨rfl, upB HB.out (Nat.le_refl _) hb1⟩
    · go_wp2_with fail
      refine (wakes_any wr).mono ?_
      rintro e w1 ⟨rfl, hb1⟩
      go_wp2
      go_ret
      exact ⟨rfl, upB HB.out (Nat.le_refl _) hb1⟩
end Go.Proofs.YtlefeebhilfkjaaDoor

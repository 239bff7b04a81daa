/-
  The page's Parse, walked.
  Conditions: as the theorem states them.
-/
import Derived.Test.YtkbhmkofflcpjaaGreatDoorZ
import Derived.Deep.CutRange
import Derived.Deep.DeepCutAuto
namespace Go.Proofs.YtkbhmkofflcpjaaGreatDoor
open Go.RowKit

theorem MAt.set0 {w : World} {b : Nat} {l d : List UInt8} (h : MAt w b l d) (l' : List UInt8) : MAt (w.setCell ⟨b, 0, none⟩ (.string ⟨l'.toArray⟩)) b l' d := by
  have h' : w.heap[b]? = some (.cells #[.string ⟨l.toArray⟩, .string ⟨d.toArray⟩] 25 (0, 0)) := h
  show (w.setCell ⟨b, 0, none⟩ _).heap[b]? = _
  simp only [World.setCell, Array.getElem?_modify, if_true, h']
  rfl
theorem MAt.set1 {w : World} {b : Nat} {l d : List UInt8} (h : MAt w b l d) (d' : List UInt8) : MAt (w.setCell ⟨b, 1, none⟩ (.string ⟨d'.toArray⟩)) b l d' := by
  have h' : w.heap[b]? = some (.cells #[.string ⟨l.toArray⟩, .string ⟨d.toArray⟩] 25 (0, 0)) := h
  show (w.setCell ⟨b, 1, none⟩ _).heap[b]? = _
  simp only [World.setCell, Array.getElem?_modify, if_true, h']
  rfl

theorem MAt.drew {w : World} {b : Nat} {l d : List UInt8} (h : MAt w b l d) : MAt w.drew b l d := h
theorem MAt.new1 (w : World) (l : List UInt8) : MAt ((w.alloc (.cells #[.string ⟨#[]⟩, .string ⟨#[]⟩] 25)).alloc (.cells #[.string ⟨l.toArray⟩, .string ⟨#[]⟩] 25)) (w.heap.size + 1) l [] := by
  have := MAt.new (w.alloc (.cells #[.string ⟨#[]⟩, .string ⟨#[]⟩] 25)) l []
  rw [World.size_alloc] at this
  exact this

/-- A world in which the page's Parse has made its two mailboxes. -/
def madeP (w : World) : World := (w.alloc (.cells #[.string ⟨#[]⟩, .string ⟨#[]⟩] 25)).alloc (.cells #[.string ⟨#[]⟩, .string ⟨#[]⟩] 25)
theorem madeP_size (w : World) : (madeP w).heap.size = w.heap.size + 2 := by simp [madeP]
theorem madeP_below (w : World) : Below w.heap.size w (madeP w) := ((Below.refl _ w).alloc (Nat.le_refl _) _).alloc (by simp) _
theorem madeP_0 (w : World) : MAt (madeP w) w.heap.size [] [] := (MAt.new w [] []).alloc _
theorem madeP_1 (w : World) : MAt (madeP w) (w.heap.size + 1) [] [] := by
  have := MAt.new (w.alloc (.cells #[.string ⟨#[]⟩, .string ⟨#[]⟩] 25)) [] []
  rw [World.size_alloc] at this
  exact this

/-- Behind the local part: the result still empty, the local part in its place. -/
structure Mid (w : World) (s l r : List UInt8) (W : World) : Prop where
  res : MAt W w.heap.size [] []
  box : MAt W (w.heap.size + 1) l []
  bel : Below w.heap.size w W
  eq : parseL s = behL l r
  ll : l.length ≤ 10000
  rl : r.length ≤ 10000

theorem wit_len (s : List UInt8) (n : Nat) : (s.drop n).length ≤ s.length := by simp

set_option maxHeartbeats 2000000 in
set_option maxRecDepth 100000 in
theorem rparse_any (s : List UInt8) (w : World) (hs : s.length ≤ 4000) :
    Calls Tryz.prog 65 #[.string ⟨s.toArray⟩] w fun e w' => e = .returned (.tuple #[.agg #[.string ⟨(boxOf (parseL s)).1.toArray⟩, .string ⟨(boxOf (parseL s)).2.toArray⟩], .bool (parseL s).isSome]) ∧ Below w.heap.size w w' := by
  have H0 := Lib.hid (madeP_0 w)
  have H1 := Lib.hid (madeP_1 w)
  have HBP := Lib.hid (madeP_below w)
  have HSP := Lib.hid (madeP_size w)
  cases hs0 : s with
  | nil =>
    have m0 := H1.out.c0
    have m1 := H1.out.c1
    have mz0 := H1.out.fz 0
    have mz1 := H1.out.fz 1
    go_enter Tryz.func65, Tryz.ntmps65
    go_wp2_with fail
    go_loop [9] (fun iv => iv = .int .i64 0) (fun _ => 0)
    case atStart => rfl
    case round =>
      obtain rfl := hrel
      go_wp2_with fail
      go_region
      all_goals
        go_wp2_with fail
        refine bodyPost_ret (v := .tuple #[.agg #[.string ⟨#[]⟩, .string ⟨#[]⟩], .bool false]) (by simp [results, Tryz.results65, go_sem]) rfl ⟨rfl, ?_⟩
        exact (((Below.refl _ w).alloc (Nat.le_refl _) _).alloc (by simp) _).drew
  | cons x0 y0 =>
    have h0 : s ≠ [] := by rw [hs0]; exact List.cons_ne_nil _ _
    rw [← hs0]
    clear hs0
    have hp0 := List.length_pos_iff.2 h0
    have hi0 : (0 : Int) < (s.length : Int) := by omega
    have hB0 : 0 < (⟨s.toArray⟩ : ByteArray).size := hp0
    have HHD := Lib.hid (head_eq hB0)
    obtain ⟨q, hq⟩ : ∃ q, (s.head? == some 34) = q := ⟨_, rfl⟩
    have HQ := Lib.hid hq
    have hbq : ((((⟨s.toArray⟩ : ByteArray)[0]'hB0).toNat : Int) == 34) = q := by
      rw [← hq, HHD.out, Bool.eq_iff_iff]
      simp only [beq_iff_eq, Option.some.injEq]
      constructor
      · intro e; exact UInt8.toNat_inj.1 (by show _ = 34; omega)
      · intro e; rw [e]; rfl
    clear hq h0
    go_enter Tryz.func65, Tryz.ntmps65
    go_upto_if 18 with (fail)
    go_cut [5] (fun rv wc => ∃ l r, rv = .string ⟨r.toArray⟩ ∧ Mid w s l r wc)
    case first =>
      clear hbq
      cases q with
      | true =>
        have HI := Lib.hid (fun W => inner_any s W (by omega) HQ.out)
        have HLQ := Lib.hid (loc_quoted HQ.out)
        have m0 := H1.out.c0
        have m1 := H1.out.c1
        have mz0 := H1.out.fz 0
        have mz1 := H1.out.fz 1
        go_wp2_with fail
        refine Calls.mono (HI.out _) ?_
        rintro e w1 ⟨⟨x, n, hr, hn, hx, rfl⟩ | ⟨hr, rfl⟩, hb1⟩
        · have hbm : Below (madeP w).heap.size (madeP w) w1 := hb1
          have HX1 := Lib.hid (H1.out.later hbm)
          have HR1 := Lib.hid (H0.out.later hbm)
          have HB1 := Lib.hid (HBP.out.trans (hbm.mono HBP.out.size))
          have HE := Lib.hid (show parseL s = behL (shortL x) (s.drop n) from parse_loc (by rw [HLQ.out, hr]; rfl))
          have HQT := Lib.hid (fun W => quote_any x W (by omega))
          have HP := Lib.hid (fun W => plain_any x W (by omega))
          have hni : (n : Int) ≤ (s.length : Int) := by omega
          have hn0 : (0 : Int) ≤ (n : Int) := by omega
          have HXD := Lib.hid (ext_drop s n s.length rfl)
          have HSL := Lib.hid (short_len x)
          clear hr hb1 hbm m0 m1 mz0 mz1 H0 H1 HBP HSP HI HLQ
          have m0 := HX1.out.c0
          have m1 := HX1.out.c1
          have mz0 := HX1.out.fz 0
          go_wp2_with fail
          go_region_with ((go_at_call 69; refine (HQT.out _).mono ?_; rintro e w3 ⟨rfl, rfl⟩))
          all_goals
            have HX2 := Lib.hid (HX1.out.set0 (quoteL x))
            have HR2 := Lib.hid (HR1.out.other (p := ⟨w.heap.size + 1, 0, none⟩) (by simp) (.string ⟨(quoteL x).toArray⟩))
            have HB2 := Lib.hid (HB1.out.setCell (p := ⟨w.heap.size + 1, 0, none⟩) (Nat.le_succ _) (.string ⟨(quoteL x).toArray⟩))
            go_wp2_with fail
            refine Calls.mono (HP.out _) ?_
            rintro e w4 ⟨rfl, hb4⟩
            have HX4 := Lib.hid (HX2.out.drew.later hb4)
            have HR4 := Lib.hid (HR2.out.drew.later hb4)
            have HB4 := Lib.hid (HB2.out.drew.trans (hb4.mono HB2.out.size))
            have hsl := HSL.out
            clear hb4 HX1 HX2 HR1 HR2 HB1 HB2 HSL m0 m1 mz0
            have m0 := HX4.out.c0
            have mz0 := HX4.out.fz 0
            rw [HXD.out]
            cases hpl : plainL x with
            | true =>
              have HSH := Lib.hid (show shortL x = x by simp [shortL, hpl])
              clear hpl
              go_wp2_with fail
              go_meet
              case rel => exact ⟨x, s.drop n, rfl, HR4.out.other (p := ⟨w.heap.size + 1, 0, none⟩) (by simp) _, HX4.out.set0 x, HB4.out.setCell (p := ⟨w.heap.size + 1, 0, none⟩) (Nat.le_succ _) _, by rw [HE.out, HSH.out], by omega, Nat.le_trans (wit_len s n) (by omega)⟩
            | false =>
              have HSH := Lib.hid (show shortL x = quoteL x by simp [shortL, hpl])
              clear hpl
              go_wp2_with fail
              go_meet
              case rel => exact ⟨quoteL x, s.drop n, rfl, HR4.out, HX4.out, HB4.out, by rw [HE.out, HSH.out], by rw [← HSH.out]; omega, Nat.le_trans (wit_len s n) (by omega)⟩
        · have hbm : Below (madeP w).heap.size (madeP w) w1 := hb1
          have HN := Lib.hid (show parseL s = none from parse_noloc (by rw [HLQ.out, hr]; rfl))
          have HX1 := Lib.hid (H1.out.later hbm)
          have HR1 := Lib.hid (H0.out.later hbm)
          have HB1 := Lib.hid (HBP.out.trans (hbm.mono HBP.out.size))
          clear hb1 hbm hr m0 m1 mz0 mz1 H0 H1 HBP HSP HI HLQ
          have m0 := HX1.out.c0
          have m1 := HX1.out.c1
          have r0 := HR1.out.c0
          have r1 := HR1.out.c1
          have rz0 := HR1.out.fz 0
          have rz1 := HR1.out.fz 1
          go_wp2_with fail
          have hf := HR1.out.set [] []
          have f0 := hf.c0
          have f1 := hf.c1
          refine bodyPost_ret (v := .tuple #[.agg #[.string ⟨#[]⟩, .string ⟨#[]⟩], .bool false]) (by simp [results, Tryz.results65, go_sem, f0, f1]) rfl ⟨by rw [HN.out]; rfl, ?_⟩
          exact (HB1.out.setCell (p := ⟨w.heap.size, 0, none⟩) (Nat.le_refl _) _).setCell (p := ⟨w.heap.size, 1, none⟩) (Nat.le_refl _) _
      | false =>
        have m0 := H1.out.c0
        have m1 := H1.out.c1
        have mz0 := H1.out.fz 0
        have mz1 := H1.out.fz 1
        go_wp2_with fail
        go_loop [9] (fun iv => ∃ j : Nat, j ≤ s.length ∧ iv = .int .i64 j ∧ 64 ∉ s.take j) (fun iv => s.length - (intOf iv).toNat)
        case atStart => exact ⟨0, Nat.zero_le _, rfl, by simp⟩
        case round =>
          obtain ⟨j, hj, rfl, hno⟩ := hrel
          have hN := Lib.hid hno
          clear hno
          have hji : (j : Int) ≤ (s.length : Int) := by omega
          have hj0 : (0 : Int) ≤ (j : Int) := by omega
          have HXD := Lib.hid (ext_drop s j s.length rfl)
          have HXT := Lib.hid (show (⟨s.toArray⟩ : ByteArray).extract 0 j = ⟨(s.take j).toArray⟩ by rw [ext_eq]; rfl)
          have hsp : s = s.take j ++ s.drop j := (List.take_append_drop j s).symm
          have HSP2 := Lib.hid hsp
          clear hsp
          by_cases hlt : j < s.length
          · have hjB : j < (⟨s.toArray⟩ : ByteArray).size := hlt
            have HX := Lib.hid (show ((⟨s.toArray⟩ : ByteArray)[j]'hjB) = s[j] from rfl)
            by_cases h64 : s[j] = 64
            · have hb : ((((⟨s.toArray⟩ : ByteArray)[j]'hjB).toNat : Int) != 64) = false := by rw [HX.out, h64]; rfl
              have HE := Lib.hid (show parseL s = behL (s.take j) (s.drop j) from parse_loc (by
                have h1 := drop_cons hlt
                rw [h64] at h1
                rw [h1]
                exact loc_plain HQ.out hN.out (by rw [← h1]; exact HSP2.out)))
              clear h64
              go_wp2_with fail
              go_region
              all_goals
                rw [HXD.out, HXT.out]
                go_wp2_with fail
                go_meet
                case rel => exact ⟨s.take j, s.drop j, rfl, (MAt.new w [] []).alloc _, MAt.new1 w (s.take j), (((Below.refl _ w).alloc (Nat.le_refl _) _).alloc (by simp) _).drew, HE.out, by rw [List.length_take]; omega, by rw [List.length_drop]; omega⟩
            · have hb : ((((⟨s.toArray⟩ : ByteArray)[j]'hjB).toNat : Int) != 64) = true := byte_bne (n := 64) (by decide) (by rw [HX.out]; exact h64)
              have HK := Lib.hid (show 64 ∉ s.take (j + 1) by
                rw [take_snoc hlt]
                simp only [List.mem_append, List.mem_singleton, not_or]
                exact ⟨hN.out, fun e => h64 e.symm⟩)
              clear h64
              go_wp2_with fail
              exact ⟨⟨j + 1, hlt, by go_num, HK.out⟩, by simp [intOf]; omega⟩
          · have HE := Lib.hid (show parseL s = behL (s.take j) (s.drop j) by
              have hjl : j = s.length := by omega
              have h1 : s.drop j = [] := by rw [hjl]; simp
              have h2 := hN.out
              rw [hjl, List.take_length] at h2
              rw [h1]
              exact parse_noloc (loc_none HQ.out h2))
            go_wp2_with fail
            go_region
            all_goals
              rw [HXD.out, HXT.out]
              go_wp2_with fail
              go_meet
              case rel => exact ⟨s.take j, s.drop j, rfl, (MAt.new w [] []).alloc _, MAt.new1 w (s.take j), (((Below.refl _ w).alloc (Nat.le_refl _) _).alloc (by simp) _).drew, HE.out, by rw [List.length_take]; omega, by rw [List.length_drop]; omega⟩
    case rest =>
      obtain ⟨l, r, rfl, hmid⟩ := hcut
      obtain ⟨mres, mbox, mbel, meq, mll, mrl⟩ := hmid
      have HRS := Lib.hid mres
      have HBX := Lib.hid mbox
      have HBL := Lib.hid mbel
      have HEQ := Lib.hid meq
      clear meq H0 H1 HBP HSP HQ HHD hbq
      have r0 := mres.c0
      have r1 := mres.c1
      have rz0 := mres.fz 0
      have rz1 := mres.fz 1
      have hfin := (HRS.out.set [] [])
      have f0 := hfin.c0
      have f1 := hfin.c1
      have HFB := Lib.hid ((mbel.setCell (p := ⟨w.heap.size, 0, none⟩) (Nat.le_refl _) (.string ⟨#[]⟩)).setCell (p := ⟨w.heap.size, 1, none⟩) (Nat.le_refl _) (.string ⟨#[]⟩))
      cases r with
      | nil =>
        have HN := Lib.hid (show parseL s = none from HEQ.out)
        clear mbel mres mbox hfin
        go_wp2_with fail
        refine bodyPost_ret (v := .tuple #[.agg #[.string ⟨#[]⟩, .string ⟨#[]⟩], .bool false]) (by simp [results, Tryz.results65, go_sem, f0, f1]) rfl ⟨by rw [HN.out]; rfl, HFB.out⟩
      | cons c d =>
        have hB0 : 0 < (⟨(c :: d).toArray⟩ : ByteArray).size := Nat.zero_lt_succ _
        have HC0 := Lib.hid (show ((⟨(c :: d).toArray⟩ : ByteArray)[0]'hB0) = c from rfl)
        have hne := ne_empty (List.cons_ne_nil c d)
        have hn2 : ((c :: d) == []) = false := rfl
        have HDR := Lib.hid (show (c :: d).drop 1 = d from rfl)
        have hi0 : (0 : Int) < (((c :: d).length : Nat) : Int) := by simp
        have hi1 : (1 : Int) ≤ (((c :: d).length : Nat) : Int) := by rw [List.length_cons]; omega
        have hdl : d.length ≤ 10000 := by simp at mrl; omega
        by_cases h64 : c = 64
        · have hb : ((((⟨(c :: d).toArray⟩ : ByteArray)[0]'hB0).toNat : Int) != 64) = false := by rw [HC0.out, h64]; rfl
          have HEC := Lib.hid (show parseL s = behL l (64 :: d) by rw [HEQ.out, h64])
          have HXT := Lib.hid (ext_drop (c :: d) 1 (c :: d).length rfl)
          rw [HDR.out] at HXT
          clear h64 HEQ
          generalize c :: d = r at *
          have HLW := Lib.hid (fun W => rlower_any d W (by omega))
          have HMY := Lib.hid (fun W => may_any l (lowL d) W mll (by rw [low_len]; exact hdl))
          clear mbel mres mbox hfin
          go_wp2_with fail
          rw [HXT.out]
          refine Calls.mono (HLW.out _) ?_
          rintro e w3 ⟨rfl, hb3⟩
          have HB3 := Lib.hid (HBL.out.trans (hb3.mono HBL.out.size))
          have HX3 := Lib.hid (HBX.out.later hb3)
          have HR3 := Lib.hid (HRS.out.later hb3)
          have x0 := HX3.out.c0
          have x1 := HX3.out.c1
          have xz := HX3.out.fz 1
          clear hb3 r0 r1 rz0 rz1 f0 f1 HFB HRS HBX HBL HLW
          go_wp2_with fail
          refine Calls.mono (HMY.out _) ?_
          rintro e w4 ⟨rfl, hb4⟩
          have HX4 := Lib.hid ((HX3.out.set1 (lowL d)).later hb4)
          have HR4 := Lib.hid ((HR3.out.other (p := ⟨w.heap.size + 1, 1, none⟩) (by simp) (.string ⟨(lowL d).toArray⟩)).later hb4)
          have hb3s := HB3.out.setCell (p := ⟨w.heap.size + 1, 1, none⟩) (Nat.le_succ _) (.string ⟨(lowL d).toArray⟩)
          have HB4 := Lib.hid (hb3s.trans (hb4.mono hb3s.size))
          have y0 := HX4.out.c0
          have y1 := HX4.out.c1
          have r0 := HR4.out.c0
          have r1 := HR4.out.c1
          have rz0 := HR4.out.fz 0
          have rz1 := HR4.out.fz 1
          clear hb4 hb3s x0 x1 xz HX3 HR3 HB3 HMY
          cases hbx : boxL l (lowL d) with
          | true =>
            have HF := Lib.hid (HEC.out.trans (beh_box hbx))
            clear hbx
            go_wp2_with fail
            have hf := HR4.out.set l (lowL d)
            have f0 := hf.c0
            have f1 := hf.c1
            refine bodyPost_ret (v := .tuple #[.agg #[.string ⟨l.toArray⟩, .string ⟨(lowL d).toArray⟩], .bool true]) (by simp [results, Tryz.results65, go_sem, f0, f1]) rfl ⟨by rw [HF.out]; rfl, ?_⟩
            exact (HB4.out.setCell (p := ⟨w.heap.size, 0, none⟩) (Nat.le_refl _) _).setCell (p := ⟨w.heap.size, 1, none⟩) (Nat.le_refl _) _
          | false =>
            have HF := Lib.hid (HEC.out.trans (beh_nobox hbx))
            clear hbx
            go_wp2_with fail
            have hf := HR4.out.set [] []
            have f0 := hf.c0
            have f1 := hf.c1
            refine bodyPost_ret (v := .tuple #[.agg #[.string ⟨#[]⟩, .string ⟨#[]⟩], .bool false]) (by simp [results, Tryz.results65, go_sem, f0, f1]) rfl ⟨by rw [HF.out]; rfl, ?_⟩
            exact (HB4.out.setCell (p := ⟨w.heap.size, 0, none⟩) (Nat.le_refl _) _).setCell (p := ⟨w.heap.size, 1, none⟩) (Nat.le_refl _) _
        · have hb : ((((⟨(c :: d).toArray⟩ : ByteArray)[0]'hB0).toNat : Int) != 64) = true := byte_bne (n := 64) (by decide) (by rw [HC0.out]; exact h64)
          have HN := Lib.hid (show parseL s = none by rw [HEQ.out]; exact beh_not (by simpa using h64))
          clear h64 HEQ HC0
          generalize c :: d = r at *
          clear mbel mres mbox hfin
          go_wp2_with fail
          refine bodyPost_ret (v := .tuple #[.agg #[.string ⟨#[]⟩, .string ⟨#[]⟩], .bool false]) (by simp [results, Tryz.results65, go_sem, f0, f1]) rfl ⟨by rw [HN.out]; rfl, HFB.out⟩
end Go.Proofs.YtkbhmkofflcpjaaGreatDoor

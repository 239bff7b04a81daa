/-
  Bytes of package reply and the page's Bytes, walked: they answer a reply as it is sent, or the error of form.
  Conditions: as each theorem states them: the reply's texts lie in memory; the library's table of powers of ten is as its initialiser lays it.
-/
import Derived.Test.YtlefeebhilfkjaaDoorQ
import Derived.Deep.RegionHeld3
import Derived.Deep.CutRange
import Derived.Deep.DeepCutAuto
namespace Go.Proofs.YtlefeebhilfkjaaDoor
open Go.RowKit

theorem sent_snoc (n : Nat) (l : List (List UInt8)) {j : Nat} (h : j < l.length) : sentTo n l (j + 1) = sentTo n l j ++ lineB n (signL l j) l[j] := by
  rw [sentTo, List.getD_eq_getElem?_getD, List.getElem?_eq_getElem h]
  rfl

set_option maxHeartbeats 2000000 in
set_option maxRecDepth 100000 in
theorem bytes_good (n : Nat) (l : List (List UInt8)) (v : Value) (w : World) (hl : TextsAt w v l) (ht : Tab w) (h0 : 0 < w.heap.size) (hv : validR n l = true) :
    Calls Tryd.prog 7 #[.agg #[.int .i64 n, v]] w fun e w' => e = .returned (.tuple #[.string ⟨(sentL n l).toArray⟩, .int .i64 0]) ∧ Below w.heap.size w w' := by
  obtain ⟨hc1, hc2, hl1, hl16, hok⟩ := valid_iff hv
  have hbel : Below w.heap.size w (w.alloc (.cells #[.int .i64 n, v] 26)) := (Below.refl _ w).alloc (Nat.le_refl _) _
  have HV := Lib.hid (valid_any n l v _ (hl.later hbel))
  rw [hv] at HV
  have HB := Lib.hid hbel
  have HR := Lib.hid (show RAt (w.alloc (.cells #[.int .i64 n, v] 26)) w.heap.size n v from heap_alloc_new w _)
  have HSH := Lib.hid (fun s hs => text_len (hok s hs))
  have HSL := Lib.hid (sent_len n l (fun s hs => text_len (hok s hs)))
  have HT := Lib.hid ht
  have hn1 : 200 ≤ n := by omega
  have hn2 : n ≤ 599 := by omega
  obtain ⟨A, c, rfl, hll, hlm, hl⟩ := hl
  have HL := Lib.hid hl
  clear hl hlm hbel hv hok ht hc1 hc2
  go_enter Tryd.func7, Tryd.ntmps7
  go_wp2_with fail
  refine Calls.mono HV.out ?_
  rintro e w1 ⟨rfl, hb1⟩
  have HB1 := Lib.hid (upB HB.out (Nat.le_refl _) hb1)
  have hs1 := HB1.out.size
  have hs1' : w.heap.size < w1.heap.size := by have := hb1.size; rw [World.size_alloc] at this; omega
  have HR1 := Lib.hid (HR.out.later hb1)
  have HF := Lib.hid (Lib.IsBuilderF.of (Lib.fresh_isBuilder 46 5 w1))
  have hr1 := HR1.out.alloc (.cells #[.pointer none, .slice none 0 0] 46)
  have hq0 := hr1.c0
  have hq1 := hr1.c1
  clear hb1 HV HR HB
  go_wp2_with fail
  go_loopw [13] (fun iv wr => ∃ j : Nat, j ≤ l.length ∧ iv = .int .i64 j ∧ Below w1.heap.size w1 wr ∧ w1.heap.size < wr.heap.size ∧ Lib.IsBuilderF 46 5 w1.heap.size w1.heap.size (Lib.byteCells (sentTo n l j)) wr) (fun iv _ => l.length - (intOf iv).toNat)
  case atStart => exact ⟨0, Nat.zero_le _, rfl, (Below.refl _ w1).alloc (Nat.le_refl _) _, by simp, HF.out⟩
  case round =>
    obtain ⟨j, hj, rfl, hbr, hsz, hbu⟩ := hrel
    have HBR := Lib.hid hbr
    have HBU := Lib.hid hbu
    have HBW := Lib.hid (HB1.out.trans (hbr.mono hs1))
    have hr2 := HR1.out.later hbr
    have hc0 := hr2.c0
    have hc1 := hr2.c1
    clear hbr hbu hr2 hq0 hq1
    by_cases hlt : j < l.length
    · obtain ⟨b, o, rfl, hab, hac⟩ := HL.out (fun e => by rw [e] at hlt; exact absurd hlt (by simp))
      have hce : wr.cell? ⟨b, o + j, none⟩ = some (.string ⟨l[j].toArray⟩) := (HBW.out.cell (p := ⟨b, o + j, none⟩) hab).trans (hac j hlt)
      have hlj : l[j].length ≤ 506 := HSH.out _ (List.getElem_mem hlt)
      have hsl := HSL.out j
      have HSN := Lib.hid (sent_snoc n l hlt)
      have HSG := Lib.hid (show signL l j = if decide ((j : Int) < (l.length : Int) - 1) = true then 45 else 32 by
        unfold signL
        by_cases he : j + 1 = l.length
        · rw [if_pos he, decide_eq_false (by omega), if_neg Bool.false_ne_true]
        · rw [if_neg he, decide_eq_true (by omega), if_pos rfl])
      clear hac
      generalize l[j] = s at *
      have HWL := Lib.hid (writeLine_any w1.heap.size w1.heap.size n (sentTo n l j) s (decide ((j : Int) < (l.length : Int) - 1)) wr HBU.out (by omega) (by omega) (HT.out.keep HBW.out h0) hn1 hn2)
      rw [← HSG.out] at HWL
      go_wp2_with fail
      refine Calls.mono HWL.out ?_
      rintro e w2 ⟨rfl, hi2, hb2⟩
      rw [← HSN.out] at hi2
      have HI2 := Lib.hid hi2
      have HB2 := Lib.hid (HBR.out.trans hb2)
      have hs2 : w1.heap.size < w2.heap.size := Nat.lt_of_lt_of_le hsz hb2.size
      clear hi2 hb2
      go_wp2_with fail
      exact ⟨⟨j + 1, hlt, by go_num, HB2.out, hs2, HI2.out⟩, by simp [intOf]; omega⟩
    · obtain rfl : j = l.length := by omega
      have HST := Lib.hid (Tryd.Builder_String_any_k w1.heap.size w1.heap.size (sentTo n l l.length) wr HBU.out (Nat.le_of_lt hsz))
      go_wp2_with fail
      refine Calls.mono HST.out ?_
      rintro e w2 ⟨rfl, _, hb2, _⟩
      have HB2 := Lib.hid (HBW.out.trans (hb2.mono hs1))
      clear hb2
      go_wp2_with fail
      go_ret2
      exact ⟨rfl, HB2.out⟩

theorem bytes_bad (code : Int) (l : List (List UInt8)) (v : Value) (w : World) (hl : TextsAt w v l) (hv : validR code l = false) :
    Calls Tryd.prog 7 #[.agg #[.int .i64 code, v]] w fun e w' => e = .returned (.tuple #[.string ⟨#[]⟩, .int .i64 1]) ∧ Below w.heap.size w w' := by
  have hbel : Below w.heap.size w (w.alloc (.cells #[.int .i64 code, v] 26)) := (Below.refl _ w).alloc (Nat.le_refl _) _
  have HV := Lib.hid (valid_any code l v _ (hl.later hbel))
  rw [hv] at HV
  have HB := Lib.hid hbel
  obtain ⟨A, n, c, rfl⟩ := hl.shape
  clear hl hbel hv
  go_enter Tryd.func7, Tryd.ntmps7
  go_wp2_with fail
  refine Calls.mono HV.out ?_
  rintro e w1 ⟨rfl, hb1⟩
  have HB1 := Lib.hid (upB HB.out (Nat.le_refl _) hb1)
  clear hb1
  go_wp2_with fail
  go_ret2
  exact ⟨rfl, HB1.out⟩

set_option maxHeartbeats 2000000 in
set_option maxRecDepth 100000 in
theorem pageBytes_any (n : Nat) (l : List (List UInt8)) (v : Value) (w : World) (hl : TextsAt w v l) (hv : validR n l = true) :
    Calls Tryd.prog 9 #[.agg #[.int .i64 n, v]] w fun e w' => e = .returned (.string ⟨(sentL n l).toArray⟩) ∧ Below w.heap.size w w' := by
  obtain ⟨hc1, hc2, hl1, hl16, hok⟩ := valid_iff hv
  have hbel : Below w.heap.size w (w.alloc (.cells #[.int .i64 n, v] 26)) := (Below.refl _ w).alloc (Nat.le_refl _) _
  have HB := Lib.hid hbel
  have HR := Lib.hid (show RAt (w.alloc (.cells #[.int .i64 n, v] 26)) w.heap.size n v from heap_alloc_new w _)
  have HSH := Lib.hid (fun s hs => text_len (hok s hs))
  have HSL := Lib.hid (sent_len n l (fun s hs => text_len (hok s hs)))
  have hn1 : 200 ≤ n := by omega
  have hn2 : n ≤ 599 := by omega
  obtain ⟨A, c, rfl, hll, hlm, hl⟩ := hl
  have HL := Lib.hid hl
  clear hl hlm hbel hv hok hc1 hc2
  go_enter Tryd.func9, Tryd.ntmps9
  go_wp2_with fail
  go_loopw [3, 4] (fun sv iv wr => ∃ j : Nat, j ≤ l.length ∧ iv = .int .i64 j ∧ sv = .string ⟨(sentTo n l j).toArray⟩ ∧ Below (w.heap.size + 1) (w.alloc (.cells #[.int .i64 n, .slice A l.length c] 26)) wr) (fun _ iv _ => l.length - (intOf iv).toNat)
  case atStart => exact ⟨0, Nat.zero_le _, rfl, rfl, Below.refl _ _⟩
  case round =>
    obtain ⟨j, hj, rfl, rfl, hbr⟩ := hrel
    have hsz : w.heap.size + 1 ≤ wr.heap.size := by have := hbr.size; rw [World.size_alloc] at this; exact this
    have HBR := Lib.hid hbr
    have HBW := Lib.hid (show Below w.heap.size w wr from HB.out.trans (hbr.mono (Nat.le_succ _)))
    have hr2 : RAt wr w.heap.size n (.slice A l.length c) := (hbr.block _ (Nat.lt_succ_self _)).trans HR.out
    have hc0 := hr2.c0
    have hc1 := hr2.c1
    clear hbr hr2
    by_cases hlt : j < l.length
    · obtain ⟨b, o, rfl, hab, hac⟩ := HL.out (fun e => by rw [e] at hlt; exact absurd hlt (by simp))
      have hce : wr.cell? ⟨b, o + j, none⟩ = some (.string ⟨l[j].toArray⟩) := (HBW.out.cell (p := ⟨b, o + j, none⟩) hab).trans (hac j hlt)
      have hlj : l[j].length ≤ 506 := HSH.out _ (List.getElem_mem hlt)
      have hsl := HSL.out j
      have HSN := Lib.hid (sent_snoc n l hlt)
      have hbr : b < wr.heap.size := by omega
      clear hac
      generalize l[j] = s at *
      generalize sentTo n l j = t at *
      go_upto_if 18 with (fail)
      go_cut [5] (fun gv wc => gv = .string ⟨[signL l j].toArray⟩ ∧ wr = wc)
      case first =>
        by_cases he : j + 1 = l.length
        · have heb : ((j : Int) == (l.length : Int) - 1) = true := beq_iff_eq.2 (by omega)
          have HG := Lib.hid (show signL l j = 32 from if_pos he)
          go_wp2_with fail
          go_meet
          case rel => exact ⟨by rw [HG.out], rfl⟩
        · have heb : ((j : Int) == (l.length : Int) - 1) = false := beq_eq_false_iff_ne.2 (by omega)
          have HG := Lib.hid (show signL l j = 45 from if_neg he)
          go_wp2_with fail
          go_meet
          case rel => exact ⟨by rw [HG.out], rfl⟩
      case rest =>
        obtain ⟨rfl, rfl⟩ := hcut
        have HDL := Lib.hid (show lineB n (signL l j) s = digs n ++ signL l j :: (s ++ [13, 10]) from rfl)
        have HDC := Lib.hid (fun w => decimal_any n w hn1 hn2)
        have hdl : (digs n).length = 3 := rfl
        generalize signL l j = g at *
        generalize digs n = dg at *
        have hadd1 := fun w => add_str t dg w (by omega)
        have hadd2 := fun w => add_str (t ++ dg) [g] w (by simp; omega)
        have hadd3 := fun w => add_str (t ++ (dg ++ [g])) s w (by simp; omega)
        have hadd4 := fun w => add_str (t ++ (dg ++ g :: s)) [13, 10] w (by simp; omega)
        have hji : (j : Int) < (l.length : Int) := by omega
        have HS : Hid (∀ W : World, Below wr.heap.size wr W → W.cell? ⟨w.heap.size, 0, none⟩ = some (.int .i64 n) ∧ W.cell? ⟨w.heap.size, 1, none⟩ = some (.slice (some ⟨b, o, none⟩) l.length c) ∧ W.cell? ⟨b, o + j, none⟩ = some (.string ⟨s.toArray⟩)) := Lib.hid fun W hW =>
          ⟨(hW.cell (p := ⟨w.heap.size, 0, none⟩) (show w.heap.size < wr.heap.size by omega)).trans hc0, (hW.cell (p := ⟨w.heap.size, 1, none⟩) (show w.heap.size < wr.heap.size by omega)).trans hc1, (hW.cell (p := ⟨b, o + j, none⟩) hbr).trans hce⟩
        go_upto_region 8 with (fail)
        have HF := Lib.hid (show t ++ (dg ++ g :: (s ++ [13, 10])) = sentTo n l (j + 1) by rw [HSN.out, HDL.out])
        go_region_held3 (fun W => W.cell? ⟨w.heap.size, 0, none⟩ = some (.int .i64 n) ∧ W.cell? ⟨w.heap.size, 1, none⟩ = some (.slice (some ⟨b, o, none⟩) l.length c) ∧ W.cell? ⟨b, o + j, none⟩ = some (.string ⟨s.toArray⟩))
          (first | exact HS.out _ (Below.refl _ _).drew | exact HS.out _ hk5)
          (first | (go_at_call 20; refine (HDC.out _).mono ?_; rintro e w5 ⟨rfl, hb5⟩; (have hk5 : Below wr.heap.size wr w5 := (Below.refl _ _).drew.trans hb5)))
        all_goals
          have HBD := Lib.hid (HBR.out.trans (hk5.mono hsz))
          clear hk5 hb5
          go_wp2_with fail
          exact ⟨⟨j + 1, hlt, by go_num, by rw [HF.out], HBD.out⟩, by simp [intOf]; omega⟩
    · obtain rfl : j = l.length := by omega
      go_wp2_with fail
      go_ret
      exact ⟨rfl, HBW.out⟩
end Go.Proofs.YtlefeebhilfkjaaDoor

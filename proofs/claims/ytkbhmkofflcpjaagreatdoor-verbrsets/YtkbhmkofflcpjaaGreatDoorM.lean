/-
  The readers of a local part, of a mailbox, of a path, and Parse and Path, walked.
  Conditions: as each theorem states them.
-/
import Derived.Test.YtkbhmkofflcpjaaGreatDoorL
namespace Go.Proofs.YtkbhmkofflcpjaaGreatDoor
open Go.RowKit

/-- What readLocal comes to. -/
def LocEnd (s : List UInt8) (e : Ending) : Prop :=
  (∃ l r, locL s = some (l, r) ∧ l.length ≤ 100000 ∧ r.length ≤ 100000 ∧ e = .returned (.tuple #[.string ⟨l.toArray⟩, .string ⟨r.toArray⟩])) ∨ (locL s = none ∧ e = wrongE)

theorem loc_quoted {s : List UInt8} (h : (s.head? == some 34) = true) : locL s = (rdL s).map fun x => (shortL x.1, x.2) := by
  have : s.head? = some 34 := by simpa using h
  unfold locL
  rw [if_pos this]
theorem loc_plain {s p r : List UInt8} (h : (s.head? == some 34) = false) (hp : 64 ∉ p) (hs : s = p ++ 64 :: r) : locL s = some (p, 64 :: r) := by
  have h1 : ¬ (s.head? = some 34) := by simpa using h
  have ha : ∀ c ∈ p, (c != 64) = true := fun c hc => by
    rw [bne_iff_ne]
    exact fun e => hp (e ▸ hc)
  unfold locL
  rw [if_neg h1, if_pos (by rw [hs]; simp), hs, List.takeWhile_append_of_pos ha, List.dropWhile_append_of_pos ha]
  simp
theorem loc_none {s : List UInt8} (h : (s.head? == some 34) = false) (hp : 64 ∉ s) : locL s = none := by
  have h1 : ¬ (s.head? = some 34) := by simpa using h
  unfold locL
  rw [if_neg h1, if_neg hp]
theorem short_len (x : List UInt8) : (shortL x).length ≤ 2 * x.length + 2 := by
  unfold shortL
  split
  · omega
  · have := esc_len x
    simp [quoteL]
    omega

set_option maxHeartbeats 1000000 in
set_option maxRecDepth 100000 in
theorem readLocal_any (s : List UInt8) (w : World) (hs : s.length ≤ 10000) :
    Calls Tryz.prog 138 #[.string ⟨s.toArray⟩] w fun e w' => LocEnd s e ∧ Below w.heap.size w w' := by
  have HQ := Lib.hid (startsQuoted_any s w (by unfold maxLen; omega))
  cases hq : (s.head? == some 34) with
  | true =>
    have HL := Lib.hid (loc_quoted hq)
    have HR := Lib.hid (readQuoted_any s w (by omega))
    rw [hq] at HQ
    clear hq
    go_enter Tryz.func138, Tryz.ntmps138
    go_wp2_with fail
    refine Calls.mono HQ.out ?_
    rintro e w1 ⟨rfl, rfl⟩
    go_wp2_with fail
    refine Calls.mono HR.out ?_
    rintro e w1 ⟨⟨x, r, he, hx, hr, rfl⟩ | ⟨he, rfl⟩, hb⟩
    · have HE := Lib.hid (show locL s = some (shortL x, r) by rw [HL.out, he]; rfl)
      have HB := Lib.hid hb
      have HS := Lib.hid (shortest_any x w1 (by omega))
      have hxl := short_len x
      clear he hb
      go_wp2_with fail
      refine Calls.mono HS.out ?_
      rintro e w2 ⟨rfl, hb2⟩
      have HB2 := Lib.hid (HB.out.trans (hb2.mono HB.out.size))
      clear hb2
      go_wp2_with fail
      go_ret2
      exact ⟨.inl ⟨shortL x, r, HE.out, by omega, by omega, rfl⟩, HB2.out⟩
    · exact ⟨rfl, .inr ⟨by rw [HL.out, he]; rfl, rfl⟩, hb⟩
  | false =>
    have HI := Lib.hid (Tryz.strings_Index_one ⟨s.toArray⟩ 64 w)
    have HQ' := Lib.hid hq
    rw [hq] at HQ
    clear hq
    by_cases h : (64 : UInt8) ∈ s
    · obtain ⟨p, r, hp, hs', hi⟩ := index_yes h
      have HE := Lib.hid (loc_plain HQ'.out hp hs')
      have HS := Lib.hid hs'
      have HX := Lib.hid hi
      have hpl : p.length < s.length := by rw [hs']; simp
      have hrl : r.length < s.length := by rw [hs']; simp; omega
      have hpi : (p.length : Int) < (s.length : Int) := by omega
      have hpj : (p.length : Int) ≤ (s.length : Int) := by omega
      have hp0 : (0 : Int) ≤ (p.length : Int) := by omega
      clear hp hs' hi h
      go_enter Tryz.func138, Tryz.ntmps138
      go_wp2_with fail
      refine Calls.mono HQ.out ?_
      rintro e w1 ⟨rfl, rfl⟩
      go_wp2_with fail
      refine Calls.mono HI.out ?_
      rintro e w1 ⟨rfl, rfl⟩
      rw [HX.out]
      go_wp2_with fail
      go_quiet (fail)
      go_wp2
      go_ret2
      refine ⟨.inl ⟨p, 64 :: r, HE.out, by omega, by simp; omega, ?_⟩, below_drewN (Below.refl _ _) _⟩
      refine ret_2 ?_ ?_
      · rw [ext_eq, HS.out]
        simp
      · rw [ext_drop _ _ _ rfl, HS.out]
        simp
    · have HE := Lib.hid (loc_none HQ'.out h)
      have HX := Lib.hid (index_no h)
      clear h
      go_enter Tryz.func138, Tryz.ntmps138
      go_wp2_with fail
      refine Calls.mono HQ.out ?_
      rintro e w1 ⟨rfl, rfl⟩
      go_wp2_with fail
      refine Calls.mono HI.out ?_
      rintro e w1 ⟨rfl, rfl⟩
      rw [HX.out]
      go_wp2_with fail
      exact ⟨rfl, .inr ⟨HE.out, rfl⟩, Below.refl _ _⟩

/-- What readMailbox comes to. -/
def BoxEnd (s : List UInt8) (e : Ending) : Prop :=
  (∃ l d, parseL s = some (l, d) ∧ e = .returned (.agg #[.string ⟨l.toArray⟩, .string ⟨d.toArray⟩])) ∨ (parseL s = none ∧ e = wrongE)

theorem parse_loc {s l r : List UInt8} (h : locL s = some (l, r)) : parseL s = behL l r := by unfold parseL; rw [h]
theorem parse_noloc {s : List UInt8} (h : locL s = none) : parseL s = none := by unfold parseL; rw [h]
theorem beh_not {l r : List UInt8} (h : r.head? ≠ some 64) : behL l r = none := by
  cases r with
  | nil => rfl
  | cons c d =>
    have hc : c ≠ 64 := by simpa using h
    rw [behL, if_neg (fun e => hc e.1)]
theorem beh_nodom {l d : List UInt8} (h : domL (lowL d) = false) : behL l (64 :: d) = none := by
  rw [behL, if_neg (fun e => by rw [h] at e; cases e.2.1)]
theorem beh_nobox {l d : List UInt8} (h : boxL l (lowL d) = false) : behL l (64 :: d) = none := by
  rw [behL, if_neg (fun e => by simp [boxL, e.2.1, e.2.2] at h)]
theorem beh_box {l d : List UInt8} (h : boxL l (lowL d) = true) : behL l (64 :: d) = some (l, lowL d) := by
  simp only [boxL, Bool.and_eq_true] at h
  rw [behL, if_pos ⟨rfl, h.2, h.1⟩]

set_option maxHeartbeats 1000000 in
set_option maxRecDepth 100000 in
theorem readMailbox_any (s : List UInt8) (w : World) (hs : s.length ≤ 10000) :
    Calls Tryz.prog 115 #[.string ⟨s.toArray⟩] w fun e w' => BoxEnd s e ∧ Below w.heap.size w w' := by
  have HA := Lib.hid ((Below.refl _ w).alloc (Nat.le_refl _) (.cells #[.string ⟨#[]⟩, .string ⟨#[]⟩] 25))
  have HM := Lib.hid (MAt.new w [] [])
  have HL := Lib.hid (fun W => readLocal_any s W hs)
  go_enter Tryz.func115, Tryz.ntmps115
  go_wp2_with fail
  refine Calls.mono (HL.out _) ?_
  rintro e w1 ⟨⟨l, r, he, hl, hr, rfl⟩ | ⟨he, rfl⟩, hb⟩
  · have HE := Lib.hid (parse_loc he)
    have HB := Lib.hid (HA.out.trans (hb.mono (by simp)))
    have HM1 := Lib.hid (HM.out.later hb)
    have HP := Lib.hid (cutPre_one 64 r w1)
    clear he hb HM HA HL
    go_wp2_with fail
    refine Calls.mono HP.out ?_
    rintro e w2 ⟨⟨d, hd, rfl⟩ | ⟨hn, rfl⟩, rfl⟩
    · have HE1 := Lib.hid (show parseL s = behL l (64 :: d) by rw [HE.out, hd])
      have hdl : d.length ≤ 100000 := by rw [hd] at hr; simp at hr; omega
      have HD := Lib.hid (readDomain_any d w1 hdl)
      clear hd
      go_wp2_with fail
      refine Calls.mono HD.out ?_
      rintro e w2 ⟨⟨hq, rfl⟩ | ⟨hq, rfl⟩, hb2⟩
      · have HB2 := Lib.hid ((HB.out.trans (hb2.mono HB.out.size)).alloc (HB.out.trans (hb2.mono HB.out.size)).size (.cells #[.string ⟨l.toArray⟩, .string ⟨(lowL d).toArray⟩] 25))
        have HM2 := Lib.hid ((HM1.out.later hb2).alloc (.cells #[.string ⟨l.toArray⟩, .string ⟨(lowL d).toArray⟩] 25))
        have HN2 := Lib.hid (MAt.new w2 l (lowL d))
        have hsz2 : w.heap.size < w2.heap.size := (HM1.out.later hb2).lt
        have HK := Lib.hid (fun W => check_any l (lowL d) W hl (by rw [low_len]; exact hdl))
        clear hq hb2 HM1 HP HD
        go_wp2_with fail
        refine Calls.mono (HK.out _) ?_
        rintro e w3 ⟨rfl, hb3⟩
        have HB3 := Lib.hid (HB2.out.trans (hb3.mono HB2.out.size))
        have HM3 := Lib.hid (HM2.out.later hb3)
        have HN3 := Lib.hid (HN2.out.later hb3)
        have n0 := HN3.out.c0
        have n1 := HN3.out.c1
        have m0 := HM3.out.c0
        have m1 := HM3.out.c1
        have z0 := HM3.out.fz 0
        have z1 := HM3.out.fz 1
        clear hb3
        cases hbx : boxL l (lowL d) with
        | true =>
          have HF := Lib.hid (HE1.out.trans (beh_box hbx))
          clear hbx
          rw [show chk true = 0 from rfl]
          go_wp2_with fail
          have hf := HM3.out.set l (lowL d)
          have f0 := hf.c0
          have f1 := hf.c1
          refine bodyPost_ret (v := .agg #[.string ⟨l.toArray⟩, .string ⟨(lowL d).toArray⟩]) (by simp [results, Tryz.results115, go_sem, f0, f1]) rfl ⟨.inl ⟨l, lowL d, HF.out, rfl⟩, ?_⟩
          exact (HB3.out.setCell (p := ⟨w.heap.size, 0, none⟩) (Nat.le_refl _) _).setCell (p := ⟨w.heap.size, 1, none⟩) (Nat.le_refl _) _
        | false =>
          have HF := Lib.hid (HE1.out.trans (beh_nobox hbx))
          clear hbx
          rw [show chk false = 1 from rfl]
          go_wp2_with fail
          exact ⟨rfl, .inr ⟨HF.out, rfl⟩, HB3.out⟩
      · exact ⟨rfl, .inr ⟨HE1.out.trans (beh_nodom hq), rfl⟩, HB.out.trans (hb2.mono HB.out.size)⟩
    · have HF := Lib.hid (HE.out.trans (beh_not hn))
      clear hn
      go_wp2_with fail
      exact ⟨rfl, .inr ⟨HF.out, rfl⟩, HB.out⟩
  · exact ⟨rfl, .inr ⟨parse_noloc he, rfl⟩, HA.out.trans (hb.mono (by simp))⟩
end Go.Proofs.YtkbhmkofflcpjaaGreatDoor

/-
  What the statements share, walked: a copy of texts, whether texts or replies are the same, how much they weigh.
  Conditions: as each theorem states them: the texts lie in memory.
-/
import Derived.Test.YtlefeebhilfkjaaDoorG
namespace Go.Proofs.YtlefeebhilfkjaaDoor
open Go.RowKit

/-- Few texts, and short ones. -/
def Small (l : List (List UInt8)) : Prop := l.length ≤ 10000 ∧ ∀ s ∈ l, s.length ≤ 10000

set_option maxHeartbeats 1000000 in
set_option maxRecDepth 100000 in
theorem copy_any (l : List (List UInt8)) (v : Value) (w : World) (hl : TextsAt w v l) (hs : l.length ≤ 10000) :
    Calls Tryd.prog 6 #[v] w fun e w' => ∃ lv, e = .returned lv ∧ StrRow w' w.heap.size lv l ∧ Below w.heap.size w w' := by
  obtain ⟨A, c, rfl, hll, hlm, hl⟩ := hl
  have HL := Lib.hid hl
  clear hl hlm
  go_enter Tryd.func6, Tryd.ntmps6
  go_wp2_with fail
  go_loopw [3, 4] (fun lv iv wr => ∃ j : Nat, j ≤ l.length ∧ iv = .int .i64 j ∧ Below w.heap.size w wr ∧ StrRow wr w.heap.size lv (l.take j)) (fun _ iv _ => l.length - (intOf iv).toNat)
  case atStart => exact ⟨0, Nat.zero_le _, rfl, Below.refl _ _, StrRow.zero _ _⟩
  case round =>
    obtain ⟨j, hj, rfl, hb, hrow⟩ := hrel
    obtain ⟨gA, gn, gc, rfl⟩ := row_shape hrow
    have HB := Lib.hid hb
    have HW := Lib.hid hrow
    have hsz := hb.size
    clear hb hrow
    by_cases hlt : j < l.length
    · obtain ⟨b, o, rfl, hab, hac⟩ := HL.out (fun e => by rw [e] at hlt; exact absurd hlt (by simp))
      have hc : wr.cell? ⟨b, o + j, none⟩ = some (.string ⟨l[j].toArray⟩) := (HB.out.cell (p := ⟨b, o + j, none⟩) hab).trans (hac j hlt)
      have HT := Lib.hid (show l.take (j + 1) = l.take j ++ [l[j]] by rw [List.take_add_one, List.getElem?_eq_getElem hlt]; rfl)
      clear hac
      generalize l[j] = s at *
      have HRW := Lib.hid (show StrRow (wr.alloc (.cells #[.string ⟨s.toArray⟩] 9)) w.heap.size (.slice gA gn gc) (l.take j) from World.ownsRow.alloc HW.out _)
      have HBK := Lib.hid (show (wr.alloc (.cells #[.string ⟨s.toArray⟩] 9)).heap[wr.heap.size]? = some (.cells #[.string ⟨s.toArray⟩] 9 (0, 0)) from heap_alloc_new wr _)
      go_wp2_with (at_builtin; refine wpList_append_str _ (.tmp 11) (.tmp 16) w.heap.size wr.heap.size (.slice gA gn gc) (l.take j) s rfl rfl rfl rfl HRW.out HBK.out (by simp; omega) (by simp; omega) ?_)
      intro g cap w2 hrow2 hgrow
      have hb2 : Below w.heap.size w w2 := (HB.out.alloc hsz _).grown hgrow (by simp; omega) (fun k hk => (World.ownsRow.lt HRW.out k hk).1)
      have H4 := Lib.hid hrow2
      have H5 := Lib.hid hb2
      clear hrow2 hb2
      go_wp2_with fail
      exact ⟨⟨j + 1, hlt, by go_num, H5.out, by rw [HT.out]; exact H4.out⟩, by simp [intOf]; omega⟩
    · obtain rfl : j = l.length := by omega
      rw [List.take_length] at HW
      go_wp2_with fail
      go_ret
      exact ⟨_, rfl, HW.out, HB.out⟩

theorem eq_step {a b : List (List UInt8)} {j : Nat} (ha : j < a.length) (hb : j < b.length) : (a.take (j + 1) = b.take (j + 1)) ↔ (a.take j = b.take j ∧ a[j] = b[j]) := by
  rw [List.take_add_one, List.take_add_one, List.getElem?_eq_getElem ha, List.getElem?_eq_getElem hb]
  constructor
  · intro h
    have := List.append_inj' h (by simp)
    exact ⟨this.1, by simpa using this.2⟩
  · rintro ⟨h1, h2⟩
    rw [h1, h2]

set_option maxHeartbeats 1000000 in
set_option maxRecDepth 100000 in
theorem eqStrings_any (la lb : List (List UInt8)) (va vb : Value) (w : World) (ha : TextsAt w va la) (hb : TextsAt w vb lb) :
    Calls Tryd.prog 21 #[va, vb] w fun e w' => e = .returned (.bool (decide (la = lb))) ∧ Below w.heap.size w w' := by
  obtain ⟨A, c, rfl, hal, _, ha⟩ := ha
  obtain ⟨B, d, rfl, hbl, _, hb⟩ := hb
  by_cases hlen : la.length = lb.length
  · have HA := Lib.hid ha
    have HB := Lib.hid hb
    clear ha hb
    have hneq : ((la.length : Int) != (lb.length : Int)) = false := by rw [hlen]; simp
    have HLN := Lib.hid hlen
    have hlen1 : la.length ≤ lb.length := Nat.le_of_eq hlen
    have hlen2 : lb.length ≤ la.length := Nat.le_of_eq hlen.symm
    clear hlen
    go_enter Tryd.func21, Tryd.ntmps21
    go_wp2_with fail
    go_loopw [5] (fun iv wr => ∃ j : Nat, j ≤ la.length ∧ iv = .int .i64 j ∧ Below w.heap.size w wr ∧ la.take j = lb.take j) (fun iv _ => la.length - (intOf iv).toNat)
    case atStart => exact ⟨0, Nat.zero_le _, rfl, Below.refl _ _, rfl⟩
    case round =>
      obtain ⟨j, hj, rfl, hbw, hsame⟩ := hrel
      have HBW := Lib.hid hbw
      have HS := Lib.hid hsame
      have hsz := hbw.size
      clear hbw hsame
      by_cases hlt : j < la.length
      · have hlt2 : j < lb.length := by omega
        obtain ⟨b, o, rfl, hab, hac⟩ := HA.out (fun e => by rw [e] at hlt; exact absurd hlt (by simp))
        obtain ⟨b', o', rfl, hab', hac'⟩ := HB.out (fun e => by rw [e] at hlt2; exact absurd hlt2 (by simp))
        have hc : wr.cell? ⟨b, o + j, none⟩ = some (.string ⟨la[j].toArray⟩) := (HBW.out.cell (p := ⟨b, o + j, none⟩) hab).trans (hac j hlt)
        have hc' : wr.cell? ⟨b', o' + j, none⟩ = some (.string ⟨lb[j].toArray⟩) := (HBW.out.cell (p := ⟨b', o' + j, none⟩) hab').trans (hac' j hlt2)
        have HST := Lib.hid (eq_step hlt hlt2)
        have HNE := Lib.hid (show la[j] ≠ lb[j] → la ≠ lb from fun h e => by subst e; exact h rfl)
        clear hac hac'
        have hi1 : (j : Int) < (la.length : Int) := by omega
        have hi2 : (j : Int) < (lb.length : Int) := by omega
        generalize la[j] = s at *
        generalize lb[j] = t at *
        by_cases hst : s = t
        · subst hst
          go_wp2_with fail
          go_quiet (fail)
          go_wp2_with fail
          exact ⟨⟨j + 1, hlt, by go_num, HBW.out.trans ((drew_below wr _).mono hsz), HST.out.2 ⟨HS.out, by first | rfl | trivial⟩⟩, by simp [intOf]; omega⟩
        · have HE := Lib.hid (HNE.out hst)
          have hst' : (s == t) = false := beq_eq_false_iff_ne.2 hst
          have hst2 : (s != t) = true := bne_iff_ne.2 hst
          go_wp2_with fail
          go_quiet (fail)
          go_wp2_with fail
          go_ret
          exact ⟨ret_bool (decide_eq_false HE.out).symm, HBW.out.trans ((drew_below wr _).mono hsz)⟩
      · have hjl : j = la.length := by omega
        have HE := Lib.hid (show la = lb from by
          have := HS.out
          rwa [List.take_of_length_le (by omega), List.take_of_length_le (by omega)] at this)
        go_wp2_with fail
        go_ret
        exact ⟨ret_bool (decide_eq_true HE.out).symm, HBW.out⟩
  · have hneq : ((la.length : Int) != (lb.length : Int)) = true := by rw [bne_iff_ne]; omega
    have HE := Lib.hid (show la ≠ lb from fun e => hlen (by rw [e]))
    clear hlen ha hb
    go_enter Tryd.func21, Tryd.ntmps21
    go_wp2_with fail
    go_ret
    exact ⟨ret_bool (decide_eq_false HE.out).symm, Below.refl _ _⟩
end Go.Proofs.YtlefeebhilfkjaaDoor

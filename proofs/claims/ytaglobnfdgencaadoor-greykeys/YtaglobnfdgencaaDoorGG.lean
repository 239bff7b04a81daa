/-
  slices.Insert of one entry, into a row of the call's own, walked.
  Conditions: as each theorem states them.
-/
import Derived.Test.YtaglobnfdgencaaDoorGF
namespace Go.Proofs.YtaglobnfdgencaaDoor
open Go.RowKit

set_option maxHeartbeats 2000000 in
theorem insert_end (l : List Gy) (x : Gy) (v : Value) (B n : Nat) (w : World) (h : GO w B v l) (hx : EAt w n x) (hB : B ≤ w.heap.size) (hl : l.length < 1000000) :
    Calls Tryd.prog 33 #[v, .int .i64 l.length, .slice (some ⟨n, 0, none⟩) 1 1] w fun e w' => ∃ u, e = .returned u ∧ GO w' B u (l ++ [x]) ∧ Below B w w' ∧ Keeps v w w' := by
  obtain ⟨A, c, rfl, hlc, hc⟩ := h.slice
  have HO := Lib.hid h
  have HX := Lib.hid hx
  have hlc' : (l.length : Int) ≤ (c : Int) := by omega
  clear h hx
  go_enter Tryd.func33, Tryd.ntmps33
  go_wp2_with (at_builtin; refine wpList_append_g _ (.tmp 23) (.tmp 24) B n (.slice A l.length c) l x rfl rfl rfl rfl HO.out HX.out hB hl ?_)
  all_goals (
    intro g cap w2 hrow2 hgrow
    have HR2 := Lib.hid hrow2
    have hgrow' : w.grownBy w2 (Value.slice A l.length c).ownBlock := by cases A <;> exact hgrow
    have HB2 := Lib.hid (show Below B w w2 from below_grown_g (Below.refl B w) hB HO.out hgrow')
    have HK2 := Lib.hid (show Keeps (Value.slice A l.length c) w w2 from fun k hk hn => hgrow'.block k hk (fun e => hn e.symm))
    clear hrow2 hgrow hgrow'
    go_wp2_with fail
    go_ret
    exact ⟨_, rfl, HR2.out, HB2.out, HK2.out⟩)

theorem run_over (w : World) (n g o lb cb : Nat) (x : Gy) (hx : EAt w n x) (cur : List Value) (hg : w.heap[g]? = some (.cells cur.toArray 53 (0, 0))) (hne : n ≠ g) (hc : cur.length ≠ 0) :
    (callFunc 39 #[.slice (some ⟨n, 0, none⟩) 1 1, .slice (some ⟨g, o, none⟩) lb cb]).run Tryd.prog w = .ok (.value (.bool false)) w := by
  have h' : w.heap[n]? = some (.cells #[.string x.k, .int .i64 x.b, .int .i64 x.l, .bool x.p] 53 (0, 0)) := hx
  have hz : ∀ W : World, (Go.sizeOf 53).run Tryd.prog W = .ok 4 W := fun W => by
    obtain ⟨i0, hi0, hz0, hs0, hb0⟩ := info_parts infoG
    simp [sizeOf, typeInfo, hi0, hs0]
  rw [run_callFunc_extern (e := Extern.SlicesOverlaps.overlaps #[36, 36] #[4]) Tryd.func39 (by kernel_rfl) (by kernel_rfl) (by kernel_rfl) (by kernel_rfl),
    Lib.run_overlaps_apart w 36 4 53 Tryd.underlying36 4 hz ⟨n, 0, none⟩ ⟨g, o, none⟩ 1 1 lb cb hne 53 53 4 cur.length (by simp [World.shape?, h']) (by simp [World.shape?, hg]) hc (hx.fz 0) (hx.fz 4)]
  rfl

theorem news_at {w : World} {n : Nat} {x : Gy} (hx : EAt w n x) : ∀ j u, (gc x)[j]? = some u → w.cell? ((⟨n, 0, none⟩ : Addr).add j) = some u := news_g hx
theorem gc_one (x : Gy) : ∀ u ∈ gc x, u.oneCell' = true := by have := gcs_one [x]; simpa [gcs] using this
theorem ins_len (l : List Gy) (x : Gy) (p : Nat) (hp : p ≤ l.length) : (l.take p ++ x :: l.drop p).length = l.length + 1 := by
  rw [List.length_append, List.length_take, List.length_cons, List.length_drop]; omega

set_option maxHeartbeats 2000000 in
theorem insert_shift (l : List Gy) (x : Gy) (B p n g cap : Nat) (cur : List Value) (w : World) (hr : GRow w g cap cur l) (hBg : B ≤ g) (hx : EAt w n x) (hne : n ≠ g) (hp : p < l.length) (hroom : l.length + 1 ≤ cap) :
    Calls Tryd.prog 33 #[.slice (some ⟨g, 0, none⟩) l.length cap, .int .i64 p, .slice (some ⟨n, 0, none⟩) 1 1] w fun e w' => ∃ u, e = .returned u ∧ GO w' B u (l.take p ++ x :: l.drop p) ∧ Below B w w' ∧ Keeps (.slice (some ⟨g, 0, none⟩) l.length cap) w w' := by
  have hmx : cap < 9223372036854775808 := by have := hr.most; unfold maxLen at this; omega
  have hsz := hr.size
  obtain ⟨cs, hcs⟩ : ∃ cs, cs = gcs (l.drop p) := ⟨_, rfl⟩
  have hcl : cs.length = (l.length - p) * 4 := by rw [hcs, gcs_len, List.length_drop]
  have hc1 : ∀ u ∈ cs, u.oneCell' = true := by rw [hcs]; exact gcs_one _
  have hxl : (gc x).length = 4 := rfl
  have HOV := Lib.hid (fun o lb cb => run_over w n g o lb cb x hx cur hr.blk hne (by omega))
  have hsrc : ∀ j u, cs[j]? = some u → w.drew.cell? ((⟨g, p * 4, none⟩ : Addr).add j) = some u := by
    rw [hcs]
    exact drop_cells hr p (w' := w.drew) rfl _ (by rw [if_neg (by omega)])
  have HR1 : ∀ ty dc sc, (Builtin.copy_ #[36, 36] ty #[.slice (some ⟨g, (p + 1) * 4, none⟩) (l.length - p) dc, .slice (some ⟨g, p * 4, none⟩) (l.length + 1 - p) sc]).run Tryd.prog w.drew = .ok (goInt ((l.length - p : Nat) : Int)) (w.drew.setRow g (splice cur ((p + 1) * 4) cs).toArray) :=
    fun ty dc sc => run_copy4 w.drew ty g _ _ dc ⟨g, p * 4, none⟩ _ sc _ cur 53 cs hr.blk (by simp only [Nat.min_def]; split <;> omega) hcl hsrc (by omega) hc1
  have hs1 : (splice cur ((p + 1) * 4) cs).length = cur.length := length_splice _ _ _ (by omega)
  obtain ⟨W1, hW1⟩ : ∃ W1, W1 = w.drew.setRow g (splice cur ((p + 1) * 4) cs).toArray := ⟨_, rfl⟩
  have HC1 : W1.heap[g]? = some (.cells (splice cur ((p + 1) * 4) cs).toArray 53 (0, 0)) := by rw [hW1]; exact setRow_heap w.drew g cur.toArray _ 53 (0, 0) hr.blk
  have hx1 : EAt W1 n x := by rw [hW1]; exact (setRow_other w.drew g n _ hne).trans hx
  have HR2 : ∀ ty dc, (Builtin.copy_ #[36, 36] ty #[.slice (some ⟨g, p * 4, none⟩) (l.length + 1 - p) dc, .slice (some ⟨n, 0, none⟩) 1 1]).run Tryd.prog W1 = .ok (goInt ((1 : Nat) : Int)) (W1.setRow g (splice (splice cur ((p + 1) * 4) cs) (p * 4) (gc x)).toArray) :=
    fun ty dc => run_copy4 W1 ty g _ _ dc ⟨n, 0, none⟩ _ 1 1 _ 53 (gc x) HC1 (by simp only [Nat.min_def]; split <;> omega) rfl (news_at hx1) (by rw [hxl]; omega) (gc_one x)
  have hlen := ins_len l x p (by omega)
  have HZ : GRow (W1.setRow g (splice (splice cur ((p + 1) * 4) cs) (p * 4) (gc x)).toArray) g cap (splice (splice cur ((p + 1) * 4) cs) (p * 4) (gc x)) (l.take p ++ x :: l.drop p) := by
    rw [hW1, setRow_setRow]
    have h' : GRow w.drew g cap cur l := hr.heap rfl
    refine h'.set _ _ ?_ (by rw [hlen]; omega) ?_
    · rw [length_splice _ _ _ (by rw [hs1, hxl]; omega), hs1]
    · rw [hlen]
      have e1 : splice (splice cur ((p + 1) * 4) cs) (p * 4) (gc x) = gcs (l.take p ++ x :: l.drop p) ++ cur.drop ((p + 1) * 4 + cs.length) := by
        have e2 : (splice cur ((p + 1) * 4) cs).take (p * 4) = gcs (l.take p) := by
          rw [splice_take _ _ _ _ (by omega) (by omega), ← gcs_take, ← hr.take, List.take_take, Nat.min_eq_left (by omega)]
        have e3 : (splice cur ((p + 1) * 4) cs).drop (p * 4 + (gc x).length) = cs ++ cur.drop ((p + 1) * 4 + cs.length) := by
          rw [hxl, show p * 4 + 4 = (p + 1) * 4 by omega]
          exact splice_drop _ _ _ (by omega)
        show (splice cur ((p + 1) * 4) cs).take (p * 4) ++ (gc x ++ (splice cur ((p + 1) * 4) cs).drop (p * 4 + (gc x).length)) = _
        rw [e2, e3, gcs_append, gcs, hcs]
        simp only [List.append_assoc]
      rw [e1]
      exact List.take_left' (by rw [gcs_len, hlen])
  have HB : Below B w (W1.setRow g (splice (splice cur ((p + 1) * 4) cs) (p * 4) (gc x)).toArray) := by
    rw [hW1]
    exact below_setRow (below_setRow (Below.refl B w).drew hBg _) hBg _
  have HK : Keeps (.slice (some ⟨g, 0, none⟩) l.length cap) w (W1.setRow g (splice (splice cur ((p + 1) * 4) cs) (p * 4) (gc x)).toArray) := fun k _ hn => by
    have hk : k ≠ g := fun e => hn (by rw [e]; rfl)
    rw [setRow_other _ _ _ _ hk, hW1, setRow_other _ _ _ _ hk]
    rfl
  have HK' := Lib.hid HK
  have HZ' := Lib.hid (HZ.go hBg)
  rw [hlen] at HZ'
  have HB' := Lib.hid HB
  have hW := Lib.hid hW1
  have HR1' := Lib.hid HR1
  have HR2' := Lib.hid HR2
  clear HZ HB HK hW1 HC1 hs1 hr hsz hcl hc1 hcs hlen HR1 HR2 hx hx1 hsrc hxl
  generalize l.length = m at *
  have hov := HOV.out ((p + 1) * 4)
  have b1 : (0 : Int) ≤ (p : Int) := by omega
  have b2 : (p : Int) ≤ (m : Int) := by omega
  have b3 : ¬ ((p : Int) = (m : Int)) := by omega
  have b4 : (m : Int) ≤ (cap : Int) := by omega
  have b5 : ¬ ((cap : Int) < (m : Int) + 1) := by omega
  have b6 : (m : Int) + 1 ≤ (cap : Int) := by omega
  have b7 : (p : Int) + 1 ≤ (m : Int) + 1 := by omega
  have b8 : (p : Int) ≤ (m : Int) + 1 := by omega
  have b9 : ¬ cap = p + 1 := by omega
  have b10 : ¬ cap = p := by omega
  have b11 : IntKind.i64.wrap ((m : Int) + 1) = (m : Int) + 1 := wrap_id (by omega) (by omega)
  have b12 : IntKind.i64.wrap ((p : Int) + 1) = (p : Int) + 1 := wrap_id (by omega) (by omega)
  have b14 : (0 : Int) ≤ (p : Int) + 1 := by omega
  have b13 : ¬ (p = m) := by omega
  go_enter Tryd.func33, Tryd.ntmps33
  go_wp2_with (simp only [hov])
  have hcp := HR1'.out 3 (cap - (p + 1)) (cap - p)
  rw [← hW.out] at hcp
  go_region_law (fail)
  have hcq := HR2'.out 3 (cap - p)
  go_wp2_with fail
  go_ret
  exact ⟨_, rfl, HZ'.out, HB'.out, HK'.out⟩
end Go.Proofs.YtaglobnfdgencaaDoor

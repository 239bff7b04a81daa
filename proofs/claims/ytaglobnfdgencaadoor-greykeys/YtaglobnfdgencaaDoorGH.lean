/-
  slices.Insert of one entry where there is no room; slices.Insert of one entry, wherever.
  Conditions: as each theorem states them.
-/
import Derived.Test.YtaglobnfdgencaaDoorGG
namespace Go.Proofs.YtaglobnfdgencaaDoor
open Go.RowKit

def zG : Value := .agg #[.string ByteArray.empty, .int .i64 0, .int .i64 0, .bool false]
theorem zG_size : zG.cells.size = 4 := by kernel_rfl
theorem zeros_len (n : Nat) : (Builtin.zeroCells zG.cells n).toList.length = n * 4 := by
  simp only [Builtin.zeroCells, Array.toList_map, List.length_map, Array.length_toList, Array.size_range, zG_size]
theorem drop_lt {w : World} {g cap : Nat} {cur : List Value} {l : List Gy} (h : GRow w g cap cur l) (i : Nat) {w' : World} (hw : w'.heap[g]? = w.heap[g]?) (hi : i < l.length) :
    ∀ j u, (gcs (l.drop i))[j]? = some u → w'.cell? ((⟨g, i * 4, none⟩ : Addr).add j) = some u :=
  drop_cells h i hw _ (by rw [if_neg (by have := h.le; omega)])
set_option maxHeartbeats 2000000 in
theorem insert_grow (l : List Gy) (x : Gy) (B p n g cap : Nat) (cur : List Value) (w : World) (hr : GRow w g cap cur l) (hBg : B ≤ g) (hx : EAt w n x) (hp : p < l.length) (hroom : cap < l.length + 1) (hl : l.length < 1000000) :
    Calls Tryd.prog 33 #[.slice (some ⟨g, 0, none⟩) l.length cap, .int .i64 p, .slice (some ⟨n, 0, none⟩) 1 1] w fun e w' => ∃ u, e = .returned u ∧ GO w' B u (l.take p ++ x :: l.drop p) ∧ Below B w w' ∧ Keeps (.slice (some ⟨g, 0, none⟩) l.length cap) w w' := by
  have hmx : cap < 9223372036854775808 := by have := hr.most; unfold maxLen at this; omega
  have hle := hr.le
  obtain ⟨i0, hi0, hz0, hs0, hb0⟩ := info_parts infoG
  have hgN : g < w.heap.size := hr.lt
  have hnN : n < w.heap.size := hx.lt
  have hold : (Builtin.firstCells i0.size p (.slice (some ⟨g, 0, none⟩) p cap)).run Tryd.prog w.drew = .ok (gcs (l.take p)).toArray w.drew := by
    rw [hs0]
    refine run_firstCells_some w.drew 4 p ⟨g, 0, none⟩ p cap _ (by rw [gcs_len, List.length_take]; omega) (fun j u hu => ?_)
    rw [Addr.add_lit, Nat.zero_add]
    show w.cell? _ = _
    refine hr.cell ?_
    rw [← gcs_take, List.getElem?_take] at hu
    split at hu
    · exact hu
    · cases hu
  obtain ⟨k, hk⟩ : ∃ k, k = l.length + 1 - p := ⟨_, rfl⟩
  have hpk : p + k = l.length + 1 := by omega
  obtain ⟨G, hG⟩ : ∃ G, G = grownCap w (l.length + 1) cap 53 := ⟨_, rfl⟩
  obtain ⟨cur0, hcur0⟩ : ∃ cur0 : List Value, cur0 = gcs (l.take p) ++ (Builtin.zeroCells zG.cells k).toList ++ (Builtin.zeroCells zG.cells (G - (l.length + 1))).toList := ⟨_, rfl⟩
  obtain ⟨W1, hW1⟩ : ∃ W1, W1 = w.drew.alloc (.cells cur0.toArray 53) := ⟨_, rfl⟩
  have hrz : ∀ ty, (Builtin.append_ #[36, 3] ty #[.slice (some ⟨g, 0, none⟩) p cap, .int .i64 (k : Int)]).run Tryd.prog w = .ok (.slice (some ⟨w.heap.size, 0, none⟩) (l.length + 1) G) W1 := fun ty => by
    have h := Lib.run_append_grow_zeros w 36 3 ty 53 i0 zG .i64 .i64 Tryd.underlying36 Tryd.underlying3 hi0 hz0 (some ⟨g, 0, none⟩) p cap _ hold k (by omega) (by omega) (by omega) (by omega) (by rw [hb0]; omega) (by rw [hb0, hpk]; exact growslice_fits hroom (by omega))
    rw [hpk, ← hG] at h
    rw [h, hW1, hcur0]
    congr 3
    apply Array.ext'
    simp
  have hGn : l.length + 1 ≤ G := by rw [hG]; exact grownCap_ge w _ _ _
  have hGm : G ≤ maxLen := by rw [hG]; exact grownCap_le_maxLen w (l.length + 1) cap 53 (by unfold maxLen; omega)
  have hG63 : G < 9223372036854775808 := by unfold maxLen at hGm; omega
  obtain ⟨N, hN⟩ : ∃ N, w.heap.size = N := ⟨_, rfl⟩
  rw [hN] at hrz
  have hc0l : cur0.length = G * 4 := by
    rw [hcur0, List.length_append, List.length_append, zeros_len, zeros_len, gcs_len, List.length_take]; omega
  have hc0t : cur0.take (p * 4) = gcs (l.take p) := by
    rw [hcur0, List.append_assoc]
    exact List.take_left' (by rw [gcs_len, List.length_take]; omega)
  have hr1 : GRow W1 N G cur0 (l.take p) := by
    refine ⟨?_, by rw [List.length_take]; omega, hGm, hc0l, ?_⟩
    · rw [hW1, ← hN]; exact heap_alloc_new w.drew _
    · rw [List.length_take, Nat.min_eq_left (by omega)]; exact hc0t
  have hgW1 : W1.heap[g]? = w.heap[g]? := by rw [hW1]; exact Below.heap_alloc w.drew _ g hgN
  have hxW1 : EAt W1 n x := by
    rw [hW1]
    exact (Below.heap_alloc w.drew _ n hnN).trans hx
  have hBW1 : Below B w W1 := by rw [hW1]; exact (Below.refl B w).drew.alloc (by show B ≤ w.heap.size; omega) _
  obtain ⟨cs, hcs⟩ : ∃ cs, cs = gcs (l.drop p) := ⟨_, rfl⟩
  have hcl : cs.length = (l.length - p) * 4 := by rw [hcs, gcs_len, List.length_drop]
  have hc1 : ∀ u ∈ cs, u.oneCell' = true := by rw [hcs]; exact gcs_one _
  have hxl : (gc x).length = 4 := rfl
  obtain ⟨W2, hW2⟩ : ∃ W2, W2 = W1.setRow N (splice cur0 (p * 4) (gc x)).toArray := ⟨_, rfl⟩
  have HR1 : (Builtin.copy_ #[36, 36] 3 #[.slice (some ⟨N, p * 4, none⟩) (l.length + 1 - p) (G - p), .slice (some ⟨n, 0, none⟩) 1 1]).run Tryd.prog W1 = .ok (goInt ((1 : Nat) : Int)) W2 := by
    rw [hW2]
    exact run_copy4 W1 _ N _ _ _ ⟨n, 0, none⟩ 1 1 1 cur0 53 (gc x) hr1.blk (by simp only [Nat.min_def]; split <;> omega) rfl (news_at hxW1) (by rw [hxl]; omega) (gc_one x)
  have hs1 : (splice cur0 (p * 4) (gc x)).length = cur0.length := length_splice _ _ _ (by rw [hxl]; omega)
  have hblk2 : W2.heap[N]? = some (.cells (splice cur0 (p * 4) (gc x)).toArray 53 (0, 0)) := by rw [hW2]; exact setRow_heap W1 N cur0.toArray _ 53 (0, 0) hr1.blk
  have hgW2 : W2.heap[g]? = w.heap[g]? := by rw [hW2]; exact (setRow_other W1 N g _ (by omega)).trans hgW1
  obtain ⟨W3, hW3⟩ : ∃ W3, W3 = W2.drew.setRow N (splice (splice cur0 (p * 4) (gc x)) ((p + 1) * 4) cs).toArray := ⟨_, rfl⟩
  have HR2 : (Builtin.copy_ #[36, 36] 3 #[.slice (some ⟨N, (p + 1) * 4, none⟩) (l.length - p) (G - (p + 1)), .slice (some ⟨g, p * 4, none⟩) (l.length - p) (cap - p)]).run Tryd.prog W2.drew = .ok (goInt ((l.length - p : Nat) : Int)) W3 := by
    rw [hW3]
    refine run_copy4 W2.drew _ N _ _ _ ⟨g, p * 4, none⟩ _ _ _ _ 53 cs hblk2 (by simp only [Nat.min_def]; split <;> omega) hcl ?_ (by omega) hc1
    rw [hcs]
    exact drop_lt hr p (w' := W2.drew) hgW2 hp
  have hlen := ins_len l x p (by omega)
  have HZ : GRow W3 N G (splice (splice cur0 (p * 4) (gc x)) ((p + 1) * 4) cs) (l.take p ++ x :: l.drop p) := by
    rw [hW3, hW2]
    have h' : GRow (W1.setRow N (splice cur0 (p * 4) (gc x)).toArray).drew N G (splice cur0 (p * 4) (gc x)) (l.take p) :=
      (hr1.set _ (l.take p) hs1 hr1.le (by rw [splice_take _ _ _ _ (by rw [List.length_take]; omega) (by omega)]; exact hr1.take)).heap rfl
    refine h'.set _ _ ?_ (by rw [hlen]; omega) ?_
    · exact length_splice _ _ _ (by omega)
    · rw [hlen, splice_upto _ _ _ _ (by omega) (by omega), splice_upto _ _ _ _ (by rw [hxl]; omega) (by omega), hc0t, gcs_append, gcs, hcs, List.append_assoc]
  have HB : Below B w W3 := by
    rw [hW3, hW2]
    exact below_setRow (Below.drew (below_setRow hBW1 (by omega) _)) (by omega) _
  have HK : Keeps (.slice (some ⟨g, 0, none⟩) l.length cap) w W3 := fun k hk _ => by
    have hkN : k ≠ N := by omega
    rw [hW3, setRow_other _ _ _ _ hkN]
    show W2.heap[k]? = _
    rw [hW2, setRow_other _ _ _ _ hkN, hW1]
    exact Below.heap_alloc w.drew _ k hk
  have HK' := Lib.hid HK
  have HZ' := Lib.hid (HZ.go (show B ≤ N by omega))
  rw [hlen] at HZ'
  have HB' := Lib.hid HB
  have hk' : (k : Int) = (l.length : Int) + 1 - (p : Int) := by omega
  have hrz0 := hrz 36
  rw [hk'] at hrz0
  clear HZ HB HK hW1 hW2 hW3 hs1 hr hr1 hcl hc1 hcs hlen hx hxW1 hxl hcur0 hc0l hc0t hG hN hblk2 hgW1 hgW2 hBW1 hrz hold hi0 hz0 hs0 hb0 hGm hk hk' hpk hgN hnN
  generalize l.length = m at *
  have b1 : (0 : Int) ≤ (p : Int) := by omega
  have b2 : (p : Int) ≤ (m : Int) := by omega
  have b3 : ¬ ((p : Int) = (m : Int)) := by omega
  have b4 : (m : Int) ≤ (cap : Int) := by omega
  have b5 : (cap : Int) < (m : Int) + 1 := by omega
  have b7 : (p : Int) + 1 ≤ (m : Int) + 1 := by omega
  have b8 : (p : Int) ≤ (m : Int) + 1 := by omega
  have b9 : ¬ G = p + 1 := by omega
  have b10 : ¬ cap = p := by omega
  have b15 : ¬ G = p := by omega
  have b16 : (p : Int) ≤ (cap : Int) := by omega
  have b11 : IntKind.i64.wrap ((m : Int) + 1) = (m : Int) + 1 := wrap_id (by omega) (by omega)
  have b12 : IntKind.i64.wrap ((p : Int) + 1) = (p : Int) + 1 := wrap_id (by omega) (by omega)
  have b17 : IntKind.i64.wrap ((m : Int) + 1 - (p : Int)) = (m : Int) + 1 - (p : Int) := wrap_id (by omega) (by omega)
  have b13 : ¬ (p = m) := by omega
  have b14 : (0 : Int) ≤ (p : Int) + 1 := by omega
  have b18 : (m : Int) + 1 ≤ (G : Int) := by omega
  go_enter Tryd.func33, Tryd.ntmps33
  go_wp2_with (at_builtin; refine wpList_appI _ rfl _ _ 36 3 rfl _ _ rfl rfl hrz0 ?_)
  go_region_law (fail)
  go_wp2_with fail
  go_ret
  exact ⟨_, rfl, HZ'.out, HB'.out, HK'.out⟩
end Go.Proofs.YtaglobnfdgencaaDoor

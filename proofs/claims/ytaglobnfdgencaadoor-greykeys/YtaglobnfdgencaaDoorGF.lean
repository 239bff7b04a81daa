/-
  slices.Delete of one entry, in a row of the call's own, walked.
  Conditions: as each theorem states them.
-/
import Derived.Test.YtaglobnfdgencaaDoorGE
import Derived.Deep.LoopGhost
namespace Go.Proofs.YtaglobnfdgencaaDoor
open Go.RowKit

theorem drop_cells {w : World} {g cap : Nat} {cur : List Value} {l : List Gy} (h : GRow w g cap cur l) (i : Nat) {w' : World} (hw : w'.heap[g]? = w.heap[g]?) (A : Addr) (hA : (if cap = i then (⟨g, 0, none⟩ : Addr) else ⟨g, i * 4, none⟩) = A) :
    ∀ j u, (gcs (l.drop i))[j]? = some u → w'.cell? (A.add j) = some u := by
  intro j u hu
  have hlt := (List.getElem?_eq_some_iff.1 hu).1
  rw [gcs_len, List.length_drop] at hlt
  have hne : ¬ cap = i := by have := h.le; omega
  rw [if_neg hne] at hA
  subst hA
  rw [Addr.add_lit]
  refine (h.heap hw).cell ?_
  rw [← gcs_drop, List.getElem?_drop] at hu
  exact hu
set_option maxHeartbeats 2000000 in
theorem delete_any (l : List Gy) (v : Value) (B i : Nat) (w : World) (h : GO w B v l) (hi : i < l.length) :
    Calls Tryd.prog 32 #[v, .int .i64 i, .int .i64 ((i : Int) + 1)] w fun e w' => ∃ u, e = .returned u ∧ GO w' B u (l.eraseIdx i) ∧ Below B w w' ∧ u.ownBlock = v.ownBlock ∧ Keeps v w w' := by
  obtain ⟨g, cap, cur, rfl, hBg, hr⟩ := h.row (by omega)
  have hle := hr.le
  have hmx : cap < 9223372036854775808 := by have := hr.most; unfold maxLen at this; omega
  have hsz := hr.size
  obtain ⟨cs, hcs⟩ : ∃ cs, cs = gcs (l.drop (i + 1)) := ⟨_, rfl⟩
  have hcl : cs.length = (l.length - (i + 1)) * 4 := by rw [hcs, gcs_len, List.length_drop]
  have hc1 : ∀ u ∈ cs, u.oneCell' = true := by rw [hcs]; exact gcs_one _
  obtain ⟨A, hA, hsrc⟩ : ∃ A : Addr, (if cap = i + 1 then some (⟨g, 0, none⟩ : Addr) else some ⟨g, (i + 1) * 4, none⟩) = some A ∧ Hid (∀ t u, cs[t]? = some u → w.drew.cell? (A.add t) = some u) := by
    refine ⟨if cap = i + 1 then ⟨g, 0, none⟩ else ⟨g, (i + 1) * 4, none⟩, by split <;> rfl, ?_⟩
    rw [hcs]
    exact drop_cells hr (i + 1) (w' := w.drew) rfl _ rfl
  have HR1 : ∀ ty, (Builtin.append_ #[36, 36] ty #[.slice (some ⟨g, 0, none⟩) i cap, .slice (some A) (l.length - (i + 1)) (cap - (i + 1))]).run Tryd.prog w.drew = .ok (.slice (some ⟨g, 0, none⟩) (i + (l.length - (i + 1))) cap) (w.drew.setRow g (splice cur (i * 4) cs).toArray) :=
    fun ty => run_append4 w.drew ty g i cap A _ _ cur 53 cs hr.blk hcl hsrc.out (by omega) (by omega) hc1
  have hm : i + (l.length - (i + 1)) = l.length - 1 := by omega
  rw [hm] at HR1
  have hs1 : (splice cur (i * 4) cs).length = cur.length := length_splice _ _ _ (by omega)
  obtain ⟨W1, hW1⟩ : ∃ W1, W1 = w.drew.setRow g (splice cur (i * 4) cs).toArray := ⟨_, rfl⟩
  have HC1 : W1.heap[g]? = some (.cells (splice cur (i * 4) cs).toArray 53 (0, 0)) := by rw [hW1]; exact setRow_heap w.drew g cur.toArray _ 53 (0, 0) hr.blk
  have HR2 : ∀ ty, (Builtin.clear_ #[36] ty #[.slice (some ⟨g, (l.length - 1) * 4, none⟩) 1 (cap - (l.length - 1))]).run Tryd.prog W1 = .ok (.tuple #[]) (W1.setRow g (splice (splice cur (i * 4) cs) ((l.length - 1) * 4) zc).toArray) :=
    fun ty => run_clear4 W1 ty g _ _ _ 53 HC1 (by omega)
  have HZ : GRow (W1.setRow g (splice (splice cur (i * 4) cs) ((l.length - 1) * 4) zc).toArray) g cap (splice (splice cur (i * 4) cs) ((l.length - 1) * 4) zc) (l.eraseIdx i) := by
    have hz4 : zc.length = 4 := rfl
    rw [hW1, setRow_setRow]
    have h' : GRow w.drew g cap cur l := hr.heap rfl
    have hlen : (l.eraseIdx i).length = l.length - 1 := by rw [List.length_eraseIdx, if_pos hi]
    refine h'.set _ _ ?_ (by rw [hlen]; omega) ?_
    · rw [length_splice _ _ _ (by rw [hs1, hz4]; omega), hs1]
    · rw [hlen, splice_take _ _ _ _ (Nat.le_refl _) (by rw [hs1]; omega), splice_upto _ _ _ _ (by rw [hcl]; omega) (by omega), hcs, List.eraseIdx_eq_take_drop_succ, gcs_append]
      congr 1
      rw [← gcs_take, ← hr.take, List.take_take, Nat.min_eq_left (by omega)]
  have HB : Below B w (W1.setRow g (splice (splice cur (i * 4) cs) ((l.length - 1) * 4) zc).toArray) := by
    rw [hW1]
    exact below_setRow (below_setRow (Below.refl B w).drew hBg _) hBg _
  have HK : ∀ k, k ≠ g → (W1.setRow g (splice (splice cur (i * 4) cs) ((l.length - 1) * 4) zc).toArray).heap[k]? = w.heap[k]? := fun k hk => by
    rw [setRow_other _ _ _ _ hk, hW1, setRow_other _ _ _ _ hk]
    rfl
  have hlen : (l.eraseIdx i).length = l.length - 1 := by rw [List.length_eraseIdx, if_pos hi]
  have HK' := Lib.hid HK
  have HZ' := Lib.hid (HZ.go hBg)
  rw [hlen] at HZ'
  have HB' := Lib.hid HB
  have hW := Lib.hid hW1
  have HR1' := Lib.hid HR1
  have HR2' := Lib.hid HR2
  clear HZ HB HK hW1 HC1 hs1 hr hsz hcl hc1 hcs h hlen HR1 HR2
  generalize l.length = n at *
  have b1 : (0 : Int) ≤ (i : Int) + 1 := by omega
  have b2 : (i : Int) + 1 ≤ (n : Int) := by omega
  have b3 : (n : Int) ≤ (cap : Int) := by omega
  have b4 : (i : Int) ≤ (cap : Int) := by omega
  have b5 : (i : Int) + 1 ≤ (cap : Int) := by omega
  have b6 : ((n - 1 : Nat) : Int) ≤ (n : Int) := by omega
  have b7 : ¬ cap = n - 1 := by omega
  have b8 : n - (n - 1) = 1 := by omega
  go_enter Tryd.func32, Tryd.ntmps32
  go_wp2_with fail
  go_region_law (refine step_appI rfl _ _ 36 36 rfl _ _ (by simp [Act.eval, Act.put]) (by simp [Act.eval, Act.put]) (HR1'.out _) ?_; rw [← hW.out])
  have hclr := HR2'.out 0
  go_wp2_with fail
  go_ret
  exact ⟨_, rfl, HZ'.out, HB'.out, rfl, fun k _ hk => HK'.out k (fun e => hk (by rw [e]; rfl))⟩
end Go.Proofs.YtaglobnfdgencaaDoor

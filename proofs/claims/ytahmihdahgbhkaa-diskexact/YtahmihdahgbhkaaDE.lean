/-
  Package disk's madeIn: a change made in a row of bytes of the call's own, walked.
  Conditions: as each theorem states them.
-/
import Derived.Test.YtahmihdahgbhkaaDD
import Derived.Laws.CopyRow
import Derived.Laws.CopyOwn
import Derived.Deep.RegionLaw
namespace Go.Proofs.Ytahmihdahgbhkaa
open Go.RowKit

/-- A block's cells, all of them. -/
def Blk (w : World) (k : Nat) (cs : Array Value) (t : TypeId) : Prop := w.heap[k]? = some (.cells cs t (0, 0))
section
variable {w w' : World} {k : Nat} {cs : Array Value} {t : TypeId}
theorem Blk.lt (h : Blk w k cs t) : k < w.heap.size := (Array.getElem?_eq_some_iff.1 h).1
theorem Blk.c (h : Blk w k cs t) (j : Nat) {u : Value} (hu : cs[j]? = some u) : w.cell? ⟨k, j, none⟩ = some u := by
  have h' : w.heap[k]? = some (.cells cs t (0, 0)) := h
  simp [World.cell?, h', hu]
theorem Blk.fz (h : Blk w k cs t) (j : Nat) : w.frozen? ⟨k, j, none⟩ = false := by
  have h' : w.heap[k]? = some (.cells cs t (0, 0)) := h
  simp [World.frozen?, h']
theorem Blk.heap (h : Blk w k cs t) (he : w'.heap[k]? = w.heap[k]?) : Blk w' k cs t := he.trans h
theorem Blk.kept {E : Nat → Prop} (h : Blk w k cs t) (hb : Kept E w w') (hE : ¬ E k) : Blk w' k cs t := (hb.block k h.lt hE).trans h
theorem Blk.later (h : Blk w k cs t) (hb : Below w.heap.size w w') : Blk w' k cs t := (hb.block k h.lt).trans h
theorem Blk.alloc (h : Blk w k cs t) (o : Obj) : Blk (w.alloc o) k cs t := (Below.heap_alloc w o k h.lt).trans h
theorem Blk.set (h : Blk w k cs t) (j : Nat) (u : Value) : Blk (w.setCell ⟨k, j, none⟩ u) k (cs.setIfInBounds j u) t := by
  have h' : w.heap[k]? = some (.cells cs t (0, 0)) := h
  show (w.setCell ⟨k, j, none⟩ _).heap[k]? = _
  simp only [World.setCell, Array.getElem?_modify, if_true, h']
  rfl
theorem Blk.other (h : Blk w k cs t) {p : Addr} (hp : k ≠ p.block) (u : Value) : Blk (w.setCell p u) k cs t := (Below.heap_setCell w p u k hp).trans h
end
theorem Blk.new (w : World) (cs : Array Value) (t : TypeId) : Blk (w.alloc (.cells cs t)) w.heap.size cs t := heap_alloc_new w _
/-- A change as a value; its cells. -/
def chA (c : Ch) (t : Value) : Value := .agg #[.bool c.b.isNone, .int .i64 (c.n : Int), t]
theorem madeIn_cut (n : Nat) (t v : Value) (l : List UInt8) (B : Nat) (w : World) (hv : BR w B v l) (hn : n ≤ l.length) :
    Calls Try.prog 63 #[chA ⟨n, none⟩ t, v] w fun e w' => ∃ u, e = .returned u ∧ BR w' B u (doC l ⟨n, none⟩) ∧ w.grownBy w' v.ownBlock ∧ (∀ k, u.ownBlock = some k → v.ownBlock = some k) := by
  unfold chA
  have HV := Lib.hid hv
  rcases hv.form with ⟨rfl, rfl⟩ | ⟨g, cap, rfl, hg, hlt, hlc, hcm⟩
  · obtain rfl : n = 0 := by simpa using hn
    go_enter Try.func63, Try.ntmps63
    go_wp2_with fail
    go_ret
    exact ⟨.slice none 0 0, rfl, BR.nil _ _, World.grownBy_alloc _ _ _, fun k hk => hk⟩
  · have hni : (n : Int) ≤ (cap : Int) := by omega
    have hcm2 : cap < 9223372036854775808 := by unfold maxLen at hcm; omega
    have hnl : (n : Int) ≤ (l.length : Int) := by omega
    go_enter Try.func63, Try.ntmps63
    go_wp2_with fail
    go_ret
    exact ⟨.slice (some ⟨g, 0, none⟩) n cap, rfl, by
      have := (HV.out.cut hn).alloc (.cells #[.bool true, .int .i64 (n : Int), t] 98)
      have e : (l.take n).length = n := by simp [hn]
      exact this, World.grownBy_alloc _ _ _, fun k hk => hk⟩

theorem patch_take {α : Type} {n : Nat} (X Y : List α) (a : Nat) (hY : Y.length = n) {L : Nat} (h1 : a + n ≤ L) (h2 : L ≤ X.length) : (X.take a ++ Y ++ X.drop (a + n)).take L = (X.take L).take a ++ Y ++ (X.take L).drop (a + n) := by
  have e1 : (X.take a ++ Y).length = a + n := by rw [List.length_append, List.length_take, hY]; omega
  rw [List.take_append, List.take_of_length_le (by rw [e1]; exact h1), e1, List.take_take, Nat.min_eq_left (by omega), List.drop_take]
theorem step_copyI {ops : Array Oper} {o : Oper} {a : Act} {w : World} {K : Act → World → Prop} {Q : Exit → Act → World → Prop} {E : Prop}
    (hg : o.guard = none) (d x : Operand) (dT sT : TypeId) (hop : o.op = Op.call { callee := Callee.builtin Builtin.copy, args := #[d, x], argTypes := #[dT, sT] })
    (v u : Value) (hd : a.eval d = v) (hx : a.eval x = u) {v' : Value} {w' : World} (hr : (Builtin.copy_ #[dT, sT] o.type #[v, u]).run Try.prog w = .ok v' w') (hK : K (a.put o.dst v') w') :
    if Region.wanted o (yielded ops a.tmps) = true then Oper.wp Try.prog o a w K Q else E := by
  have hw : Region.wanted o (yielded ops a.tmps) = true := by simp [Region.wanted, hg]
  rw [if_pos hw]
  unfold Oper.wp
  simp [execOp, hop, resolve, invoke, builtin, hd, hx, hr, Result.andThen]
  exact hK
theorem infoB1 : (Try.prog.info? 5).map (·.size) = some 1 := by kernel_rfl
/-- Bytes copied over a part of a row. -/
theorem run_copy_b (w : World) (ty : TypeId) (B g cap a : Nat) (l b : List UInt8) (A : Option Addr) (t : Value) (hv : BR w B (.slice (some ⟨g, 0, none⟩) l.length cap) l) (ha : a ≤ l.length)
    (hA : (if cap = a then some (⟨g, 0, none⟩ : Addr) else some ⟨g, a, none⟩) = A) (ht : RB w t b) :
    ∃ w', (Builtin.copy_ #[37, 37] ty #[.slice A (l.length - a) (cap - a), t]).run Try.prog w = .ok (.int .i64 ((min b.length (l.length - a) : Nat) : Int)) w' ∧
      BR w' B (.slice (some ⟨g, 0, none⟩) l.length cap) (l.take a ++ b.take (min b.length (l.length - a)) ++ l.drop (a + min b.length (l.length - a))) ∧ w.grownBy w' (some g) ∧ w'.heap.size = w.heap.size := by
  obtain ⟨T, tc, rfl, htc, _, hcell⟩ := ht
  have hlen : (l.take a ++ b.take (min b.length (l.length - a)) ++ l.drop (a + min b.length (l.length - a))).length = l.length := by simp; omega
  by_cases h0 : min b.length (l.length - a) = 0
  · refine ⟨w, ?_, ?_, ⟨rfl, rfl, rfl, Nat.le_refl _, fun _ _ _ => rfl⟩, rfl⟩
    · have := run_copy_none (P := Try.prog) w 37 37 ty 5 A T (l.length - a) (cap - a) b.length tc Try.underlying37 infoB1 h0
      rw [h0]
      exact this
    · rw [h0]
      simpa using hv
  · obtain ⟨n, hn⟩ : ∃ n, min b.length (l.length - a) = n := ⟨_, rfl⟩
    rw [hn] at h0 hlen ⊢
    have hcap : l.length ≤ cap := by
      rcases hv.form with ⟨h, _⟩ | ⟨g', cap', h, _, _, h1, _⟩
      · simp at h
      · injection h with _ _ h
        omega
    have hne : ¬ cap = a := by omega
    rw [if_neg hne] at hA
    subst hA
    obtain ⟨b1, o1, rfl, hlt1, hc1⟩ := hcell (fun e => by rw [e] at hn; simp at hn; omega)
    rcases hv.2 with ⟨h, _⟩ | ⟨g', cap', cur, h, hB, hblk, k1, k2, k3, k4⟩
    · simp at h
    · injection h with e1 e2 e3
      injection e1 with e1
      injection e1 with e1
      subst e1 e3
      have hbl : (bc (b.take n)).length = n := by rw [bc_len, List.length_take]; omega
      have hr := run_copy_row (P := Try.prog) w 37 37 ty 5 g a (l.length - a) (cap - a) ⟨b1, o1, none⟩ b.length tc cur 5 (bc (b.take n)) Try.underlying37 infoB1 hblk (by rw [hbl]; exact hn.symm)
        (fun j u hu => by
          rw [Addr.add_lit]
          refine hc1 j u ?_
          rw [← bc_take, List.getElem?_take] at hu
          split at hu
          · exact hu
          · cases hu) (by rw [hbl]; omega) (bc_one _)
      rw [hbl] at hr
      refine ⟨_, hr, ⟨by rw [bc_len]; simp, .inr ⟨g, cap, _, by rw [hlen], hB, setRow_heap w g cur _ 5 (0, 0) hblk, by rw [hlen]; omega, k2, ?_, ?_⟩⟩, ⟨rfl, rfl, rfl, by simp [World.setRow], fun k hk hne => setRow_other w g k _ (fun e => hne (by rw [e]))⟩, by simp [World.setRow]⟩
      · simp only [List.size_toArray, List.length_append, List.length_take, List.length_drop, hbl, Array.length_toList]
        omega
      · rw [hlen, Nat.mul_one]
        have k4' : cur.toList.take l.length = bc l := by simpa using k4
        have hcl : cur.toList.length = cap := by simpa using k3
        rw [bc_app, bc_app, ← bc_take l, ← bc_drop l, ← k4']
        exact patch_take _ _ _ hbl (by omega) (by rw [hcl]; exact hcap)

theorem wpList_copy_b {ops : Array Oper} {rest : List Oper} {o : Oper} {a : Act} {Q : Exit → Act → World → Prop} (w : World) (d s : Operand) (B g cap n : Nat) (l b : List UInt8) (A : Option Addr) (t : Value)
    (hgd : o.guard = none) (ho : o.op = .call { callee := .builtin .copy, args := #[d, s], argTypes := #[37, 37] }) (hd : a.eval d = .slice A (l.length - n) (cap - n)) (hs : a.eval s = t)
    (hv : BR w B (.slice (some ⟨g, 0, none⟩) l.length cap) l) (ha : n ≤ l.length) (hA : (if cap = n then some (⟨g, 0, none⟩ : Addr) else some ⟨g, n, none⟩) = A) (ht : RB w t b)
    (h : ∀ w', BR w' B (.slice (some ⟨g, 0, none⟩) l.length cap) (l.take n ++ b.take (min b.length (l.length - n)) ++ l.drop (n + min b.length (l.length - n))) → w.grownBy w' (some g) → w'.heap.size = w.heap.size →
      wpList Try.prog ops Q rest (a.put o.dst (.int .i64 ((min b.length (l.length - n) : Nat) : Int))) w') : wpList Try.prog ops Q (o :: rest) a w := by
  refine wpList_plain hgd fun K hK => ?_
  obtain ⟨w', hr, h2, h3, h4⟩ := run_copy_b w o.type B g cap n l b A t hv ha hA ht
  unfold Oper.wp execOp
  simp only [ho, resolve, invoke, builtin, Sem.run_bind, Sem.run_pure, Result.andThen_ok, List.map_toArray, List.map_cons, List.map_nil, hd, hs, hr]
  exact hK _ _ (h w' h2 h3 h4)
/-- What is left of a text behind its first n bytes. -/
theorem RB.rest {w : World} {g n c : Nat} {b : List UInt8} (h : RB w (.slice (some ⟨g, 0, none⟩) b.length c) b) (hn : n ≤ b.length) {A : Option Addr} (hA : (if c = n then some (⟨g, 0, none⟩ : Addr) else some ⟨g, n, none⟩) = A) :
    RB w (.slice A (b.length - n) (c - n)) (b.drop n) := by
  obtain ⟨A', c', hv, h1, h2, h3⟩ := h
  injection hv with e1 e2 e3
  subst e1 e3
  refine ⟨A, c - n, by rw [List.length_drop], by rw [List.length_drop]; omega, by omega, fun hne => ?_⟩
  have hlt : n < b.length := by
    apply Nat.lt_of_not_le
    intro hle
    exact hne (List.drop_of_length_le hle)
  rw [if_neg (by omega)] at hA
  obtain ⟨b1, o1, e1, hlt1, hc⟩ := h3 (fun e => by rw [e] at hlt; simp at hlt)
  injection e1 with e1
  injection e1 with e1 e2
  subst e1 e2
  refine ⟨g, n, hA.symm, hlt1, fun j u hu => ?_⟩
  rw [← bc_drop, List.getElem?_drop] at hu
  have := hc (n + j) u hu
  rwa [Nat.zero_add] at this
theorem doC_over (l b : List UInt8) (n : Nat) (h : n ≤ l.length) : (l.take n ++ b.take (min b.length (l.length - n)) ++ l.drop (n + min b.length (l.length - n))) ++ b.drop (min b.length (l.length - n)) = doC l ⟨n, some b⟩ := by
  simp only [doC]
  by_cases hb : b.length ≤ l.length - n
  · rw [Nat.min_eq_left hb, List.take_length, List.drop_length, List.append_nil]
  · rw [Nat.min_eq_right (by omega), show n + (l.length - n) = l.length by omega, List.drop_length, List.append_nil, List.append_assoc, List.take_append_drop, List.drop_of_length_le (by omega), List.append_nil]

set_option maxHeartbeats 2000000 in
set_option maxRecDepth 100000 in
theorem madeIn_write (n : Nat) (b : List UInt8) (t v : Value) (l : List UInt8) (B B' : Nat) (w : World) (hv : BR w B v l) (hn : n ≤ l.length) (ht : BR w B' t b) (hne : ∀ k, v.ownBlock = some k → t.ownBlock ≠ some k) (hB : B ≤ w.heap.size)
    (h1 : l.length ≤ 10000000) (h2 : b.length ≤ 10000000) :
    Calls Try.prog 63 #[chA ⟨n, some b⟩ t, v] w fun e w' => ∃ u, e = .returned u ∧ BR w' B u (doC l ⟨n, some b⟩) ∧ w.grownBy w' v.ownBlock ∧ (∀ k, u.ownBlock = some k → v.ownBlock = some k ∨ w.heap.size ≤ k) := by
  unfold chA
  have HV := Lib.hid hv
  have HT := Lib.hid ht
  rcases hv.form with ⟨rfl, rfl⟩ | ⟨g, cap, rfl, hg, hlt, hlc, hcm⟩
  · obtain rfl : n = 0 := by simpa using hn
    rcases ht.form with ⟨rfl, rfl⟩ | ⟨gt, ct, rfl, hgt, hltt, hlct, hcmt⟩
    · obtain ⟨W0, hW0⟩ : ∃ W0, w.alloc (.cells #[.bool false, .int .i64 0, .slice none 0 0] 98) = W0 := ⟨_, rfl⟩
      have HX := Lib.hid (show Blk W0 w.heap.size _ _ by rw [← hW0]; exact Blk.new w _ _)
      have HV0 := Lib.hid (show BR W0 B _ [] by rw [← hW0]; exact HV.out.alloc _)
      have HT0 := Lib.hid (show RB W0 _ [] by rw [← hW0]; exact (HT.out.alloc _).rb)
      have c0 := HX.out.c 0 rfl
      have c1 := HX.out.c 1 rfl
      have c2 := HX.out.c 2 rfl
      have d2 := (HX.out.heap (w' := W0.drew) rfl).c 2 rfl
      have hws : W0.heap.size = w.heap.size + 1 := by rw [← hW0]; simp
      have HG1 : Hid (w.grownBy W0.drew (Value.ownBlock (.slice none 0 0))) := by
        have := World.grownBy_alloc w (.cells #[.bool false, .int .i64 0, .slice none 0 0] 98) (Value.ownBlock (.slice none 0 0))
        rw [hW0] at this
        exact ⟨this.os, this.tape, this.output, this.size, this.block⟩
      have HR := Lib.hid (show (Builtin.copy_ #[37, 37] 3 #[.slice none 0 0, .slice none 0 0]).run Try.prog W0.drew = .ok (.int .i64 0) W0.drew from run_copy_none (P := Try.prog) W0.drew 37 37 3 5 _ _ _ _ _ _ Try.underlying37 infoB1 (by simp))
      have HV1 := Lib.hid (show BR W0.drew B (.slice none 0 0) [] from HV0.out.blocks fun _ _ _ => rfl)
      have HRE := Lib.hid (show RB W0.drew (.slice none 0 0) [] from HT0.out.heap (Nat.le_refl _) fun _ _ _ => rfl)
      clear hv ht hne
      go_enter Try.func63, Try.ntmps63
      go_wp2_with fail
      go_region_law (refine step_copyI rfl _ _ 37 37 rfl _ _ (by simp [Act.eval, Act.put]) (by simp [Act.eval, Act.put]) HR.out ?_)
      all_goals
        clear c0 c1 c2
        go_wp2_with (at_builtin; refine wpList_append_b _ _ _ B (.slice none 0 0) _ [] [] rfl rfl rfl rfl HV1.out HRE.out (by simp; omega) (by simp) ?_)
        intro u w2 hrow2 hgrow2 hu
        have HR2 := Lib.hid hrow2
        have HG2 := Lib.hid (show w.grownBy w2 (Value.ownBlock (.slice none 0 0)) from ⟨hgrow2.os.trans HG1.out.os, hgrow2.tape.trans HG1.out.tape, hgrow2.output.trans HG1.out.output, Nat.le_trans HG1.out.size hgrow2.size, fun k hk hkn => (hgrow2.block k (Nat.lt_of_lt_of_le hk HG1.out.size) hkn).trans (HG1.out.block k hk hkn)⟩)
        have HUU := Lib.hid (show ∀ k, u.ownBlock = some k → Value.ownBlock (.slice none 0 0) = some k ∨ w.heap.size ≤ k from fun k hk => (hu k hk).imp id (fun e => by omega))
        clear hrow2 hgrow2 hu
        go_wp2_with fail
        go_ret
        refine ⟨_, rfl, ?_, HG2.out, HUU.out⟩
        have HR3 := HR2.out
        simpa [doC] using HR3
    · have hcmt2 : ct < 9223372036854775808 := by unfold maxLen at hcmt; omega
      obtain ⟨W0, hW0⟩ : ∃ W0, w.alloc (.cells #[.bool false, .int .i64 0, .slice (some ⟨gt, 0, none⟩) b.length ct] 98) = W0 := ⟨_, rfl⟩
      have HX := Lib.hid (show Blk W0 w.heap.size _ _ by rw [← hW0]; exact Blk.new w _ _)
      have HV0 := Lib.hid (show BR W0 B _ [] by rw [← hW0]; exact HV.out.alloc _)
      have HT0 := Lib.hid (show RB W0 _ b by rw [← hW0]; exact (HT.out.alloc _).rb)
      have c0 := HX.out.c 0 rfl
      have c1 := HX.out.c 1 rfl
      have c2 := HX.out.c 2 rfl
      have d2 := (HX.out.heap (w' := W0.drew) rfl).c 2 rfl
      have hws : W0.heap.size = w.heap.size + 1 := by rw [← hW0]; simp
      have HG1 : Hid (w.grownBy W0.drew (Value.ownBlock (.slice none 0 0))) := by
        have := World.grownBy_alloc w (.cells #[.bool false, .int .i64 0, .slice (some ⟨gt, 0, none⟩) b.length ct] 98) (Value.ownBlock (.slice none 0 0))
        rw [hW0] at this
        exact ⟨this.os, this.tape, this.output, this.size, this.block⟩
      have HR := Lib.hid (show (Builtin.copy_ #[37, 37] 3 #[.slice none 0 0, .slice (some ⟨gt, 0, none⟩) b.length ct]).run Try.prog W0.drew = .ok (.int .i64 0) W0.drew from run_copy_none (P := Try.prog) W0.drew 37 37 3 5 _ _ _ _ _ _ Try.underlying37 infoB1 (Nat.min_zero _))
      have HV1 := Lib.hid (show BR W0.drew B (.slice none 0 0) [] from HV0.out.blocks fun _ _ _ => rfl)
      have HRE := Lib.hid (show RB W0.drew (.slice (some ⟨gt, 0, none⟩) b.length ct) b from HT0.out.heap (Nat.le_refl _) fun _ _ _ => rfl)
      have hbi : (0 : Int) ≤ (b.length : Int) := by omega
      clear hv ht hne
      go_enter Try.func63, Try.ntmps63
      go_wp2_with fail
      go_region_law (refine step_copyI rfl _ _ 37 37 rfl _ _ (by simp [Act.eval, Act.put]) (by simp [Act.eval, Act.put]) HR.out ?_)
      all_goals
        clear c0 c1 c2
        go_wp2_with (at_builtin; refine wpList_append_b _ _ _ B (.slice none 0 0) _ [] b rfl rfl rfl rfl HV1.out HRE.out (by simp; omega) (by simp; omega) ?_)
        intro u w2 hrow2 hgrow2 hu
        have HR2 := Lib.hid hrow2
        have HG2 := Lib.hid (show w.grownBy w2 (Value.ownBlock (.slice none 0 0)) from ⟨hgrow2.os.trans HG1.out.os, hgrow2.tape.trans HG1.out.tape, hgrow2.output.trans HG1.out.output, Nat.le_trans HG1.out.size hgrow2.size, fun k hk hkn => (hgrow2.block k (Nat.lt_of_lt_of_le hk HG1.out.size) hkn).trans (HG1.out.block k hk hkn)⟩)
        have HUU := Lib.hid (show ∀ k, u.ownBlock = some k → Value.ownBlock (.slice none 0 0) = some k ∨ w.heap.size ≤ k from fun k hk => (hu k hk).imp id (fun e => by omega))
        clear hrow2 hgrow2 hu
        go_wp2_with fail
        go_ret
        refine ⟨_, rfl, ?_, HG2.out, HUU.out⟩
        have HR3 := HR2.out
        simpa [doC] using HR3
  · rcases ht.form with ⟨rfl, rfl⟩ | ⟨gt, ct, rfl, hgt, hltt, hlct, hcmt⟩
    · have hni : (n : Int) ≤ (cap : Int) := by omega
      have hcm2 : cap < 9223372036854775808 := by unfold maxLen at hcm; omega
      have hnl : (n : Int) ≤ (l.length : Int) := by omega
      obtain ⟨A, hA⟩ : ∃ A : Option Addr, (if cap = n then some (⟨g, 0, none⟩ : Addr) else some ⟨g, n, none⟩) = A := ⟨_, rfl⟩
      obtain ⟨W0, hW0⟩ : ∃ W0, w.alloc (.cells #[.bool false, .int .i64 (n : Int), .slice none 0 0] 98) = W0 := ⟨_, rfl⟩
      have HX := Lib.hid (show Blk W0 w.heap.size _ _ by rw [← hW0]; exact Blk.new w _ _)
      have HV0 := Lib.hid (show BR W0 B _ l by rw [← hW0]; exact HV.out.alloc _)
      have HT0 := Lib.hid (show RB W0 _ [] by rw [← hW0]; exact (HT.out.alloc _).rb)
      have c0 := HX.out.c 0 rfl
      have c1 := HX.out.c 1 rfl
      have c2 := HX.out.c 2 rfl
      have d2 := (HX.out.heap (w' := W0.drew) rfl).c 2 rfl
      have hws : W0.heap.size = w.heap.size + 1 := by rw [← hW0]; simp
      have HG1 : Hid (w.grownBy W0.drew (Value.ownBlock (.slice (some ⟨g, 0, none⟩) l.length cap))) := by
        have := World.grownBy_alloc w (.cells #[.bool false, .int .i64 (n : Int), .slice none 0 0] 98) (Value.ownBlock (.slice (some ⟨g, 0, none⟩) l.length cap))
        rw [hW0] at this
        exact ⟨this.os, this.tape, this.output, this.size, this.block⟩
      have HR := Lib.hid (show (Builtin.copy_ #[37, 37] 3 #[.slice A (l.length - n) (cap - n), .slice none 0 0]).run Try.prog W0.drew = .ok (.int .i64 0) W0.drew from run_copy_none (P := Try.prog) W0.drew 37 37 3 5 _ _ _ _ _ _ Try.underlying37 infoB1 (by simp))
      have HV1 := Lib.hid (show BR W0.drew B (.slice (some ⟨g, 0, none⟩) l.length cap) l from HV0.out.blocks fun _ _ _ => rfl)
      have HRE := Lib.hid (show RB W0.drew (.slice none 0 0) [] from HT0.out.heap (Nat.le_refl _) fun _ _ _ => rfl)
      clear hv ht hne
      go_enter Try.func63, Try.ntmps63
      go_wp2_with fail
      go_region_law (refine step_copyI rfl _ _ 37 37 rfl _ _ (by simp [Act.eval, Act.put]) (by simp [Act.eval, Act.put]) HR.out ?_)
      all_goals
        clear c0 c1 c2
        go_wp2_with (at_builtin; refine wpList_append_b _ _ _ B (.slice (some ⟨g, 0, none⟩) l.length cap) _ l [] rfl rfl rfl rfl HV1.out HRE.out (by simp; omega) (by simp; omega) ?_)
        intro u w2 hrow2 hgrow2 hu
        have HR2 := Lib.hid hrow2
        have HG2 := Lib.hid (show w.grownBy w2 (Value.ownBlock (.slice (some ⟨g, 0, none⟩) l.length cap)) from ⟨hgrow2.os.trans HG1.out.os, hgrow2.tape.trans HG1.out.tape, hgrow2.output.trans HG1.out.output, Nat.le_trans HG1.out.size hgrow2.size, fun k hk hkn => (hgrow2.block k (Nat.lt_of_lt_of_le hk HG1.out.size) hkn).trans (HG1.out.block k hk hkn)⟩)
        have HUU := Lib.hid (show ∀ k, u.ownBlock = some k → Value.ownBlock (.slice (some ⟨g, 0, none⟩) l.length cap) = some k ∨ w.heap.size ≤ k from fun k hk => (hu k hk).imp id (fun e => by omega))
        clear hrow2 hgrow2 hu
        go_wp2_with fail
        go_ret
        refine ⟨_, rfl, ?_, HG2.out, HUU.out⟩
        have HR3 := HR2.out
        simpa [doC] using HR3
    · have hni : (n : Int) ≤ (cap : Int) := by omega
      have hcm2 : cap < 9223372036854775808 := by unfold maxLen at hcm; omega
      have hcmt2 : ct < 9223372036854775808 := by unfold maxLen at hcmt; omega
      have hnl : (n : Int) ≤ (l.length : Int) := by omega
      obtain ⟨A, hA⟩ : ∃ A : Option Addr, (if cap = n then some (⟨g, 0, none⟩ : Addr) else some ⟨g, n, none⟩) = A := ⟨_, rfl⟩
      obtain ⟨W0, hW0⟩ : ∃ W0, w.alloc (.cells #[.bool false, .int .i64 (n : Int), .slice (some ⟨gt, 0, none⟩) b.length ct] 98) = W0 := ⟨_, rfl⟩
      have HX := Lib.hid (show Blk W0 w.heap.size _ _ by rw [← hW0]; exact Blk.new w _ _)
      have HV0 := Lib.hid (show BR W0 B _ l by rw [← hW0]; exact HV.out.alloc _)
      have HT0 := Lib.hid (show RB W0 _ b by rw [← hW0]; exact (HT.out.alloc _).rb)
      have c0 := HX.out.c 0 rfl
      have c1 := HX.out.c 1 rfl
      have c2 := HX.out.c 2 rfl
      have hgne : gt ≠ g := fun e => hne g rfl (by rw [← e]; rfl)
      have hws : W0.heap.size = w.heap.size + 1 := by rw [← hW0]; simp
      have hG0 : w.grownBy W0 (some g) := by rw [← hW0]; exact World.grownBy_alloc _ _ _
      obtain ⟨w1, hr, hrow1, hgrow1, hs1⟩ := run_copy_b W0.drew 3 B g cap n l b A _ (HV0.out.blocks fun _ _ _ => rfl) hn hA (HT0.out.heap (Nat.le_refl _) fun _ _ _ => rfl)
      have HDO := Lib.hid (doC_over l b n hn)
      have hlen : (l.take n ++ b.take (min b.length (l.length - n)) ++ l.drop (n + min b.length (l.length - n))).length = l.length := by simp; omega
      have hml : min b.length (l.length - n) ≤ b.length := Nat.min_le_left _ _
      generalize min b.length (l.length - n) = m at *
      have hmi : (m : Int) ≤ (ct : Int) := by omega
      have hmb : (m : Int) ≤ (b.length : Int) := by omega
      obtain ⟨A2, hA2⟩ : ∃ A : Option Addr, (if ct = m then some (⟨gt, 0, none⟩ : Addr) else some ⟨gt, m, none⟩) = A := ⟨_, rfl⟩
      have HR := Lib.hid hr
      have hs1 : w1.heap.size = W0.heap.size := hs1
      have HV1 := Lib.hid hrow1
      have HT1 := Lib.hid (show RB w1 _ b from HT0.out.heap (by omega) fun k hk hlt => hgrow1.block k hlt (fun e => by cases hk; injection e with e; exact hgne e))
      have HRE := Lib.hid (HT1.out.rest hml hA2)
      have HX1 := Lib.hid (HX.out.heap (w' := w1) (hgrow1.block _ HX.out.lt (fun e => by injection e with e; omega)))
      have HG1 := Lib.hid (show w.grownBy w1 (some g) from ⟨hgrow1.os.trans hG0.os, hgrow1.tape.trans hG0.tape, hgrow1.output.trans hG0.output, by omega, fun k hk hkn => (hgrow1.block k (by show k < W0.heap.size; omega) hkn).trans (hG0.block k hk hkn)⟩)
      have d2 := HX1.out.c 2 rfl
      have HL1 := Lib.hid hlen
      generalize l.take n ++ b.take m ++ l.drop (n + m) = l1 at *
      clear hv ht hne hr hrow1 hgrow1 hG0
      go_enter Try.func63, Try.ntmps63
      go_wp2_with fail
      go_region_law (refine step_copyI rfl _ _ 37 37 rfl _ _ (by simp [Act.eval, Act.put]) (by simp [Act.eval, Act.put]) HR.out ?_)
      all_goals
        clear c0 c1 c2 HX HV0 HT0 HR hW0
        go_wp2_with (at_builtin; refine wpList_append_b _ _ _ B (.slice (some ⟨g, 0, none⟩) l.length cap) _ l1 (b.drop m) rfl rfl rfl rfl HV1.out HRE.out (by omega) (by rw [HL1.out, List.length_drop]; omega) ?_)
        intro u w2 hrow2 hgrow2 hu
        have HR2 := Lib.hid hrow2
        have HG2 := Lib.hid (show w.grownBy w2 (some g) from ⟨hgrow2.os.trans HG1.out.os, hgrow2.tape.trans HG1.out.tape, hgrow2.output.trans HG1.out.output, Nat.le_trans HG1.out.size hgrow2.size, fun k hk hkn => (hgrow2.block k (Nat.lt_of_lt_of_le hk HG1.out.size) hkn).trans (HG1.out.block k hk hkn)⟩)
        have HUU := Lib.hid (show ∀ k, u.ownBlock = some k → (Value.slice (some ⟨g, 0, none⟩) l.length cap).ownBlock = some k ∨ w.heap.size ≤ k from fun k hk => (hu k hk).imp id (fun e => by omega))
        clear hrow2 hgrow2 hu
        go_wp2_with fail
        go_ret
        refine ⟨_, rfl, ?_, HG2.out, HUU.out⟩
        rw [← HDO.out]
        exact HR2.out
end Go.Proofs.Ytahmihdahgbhkaa

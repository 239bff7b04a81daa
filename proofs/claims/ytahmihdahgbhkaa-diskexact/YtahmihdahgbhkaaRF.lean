/-
  One change appended to the page's list of changes, and what becomes of its disk.
  Conditions: as each theorem states them.
-/
import Derived.Test.YtahmihdahgbhkaaRE
namespace Go.Proofs.Ytahmihdahgbhkaa
open Go.RowKit

theorem infoRC : (Try.prog.info? 81).map (fun i => (i.zero, i.size, i.bytes)) = some (some (.agg #[.int .i64 0, .int .i64 0, .slice none 0 0]), 3, 40) := by kernel_rfl
theorem chRs_one : ∀ (l : List (Ch × Value)), (∀ p ∈ l, p.2.oneCell' = true) → ∀ u ∈ chRs l, u.oneCell' = true
  | [], _, u, h => by cases h
  | g :: r, hl, u, h => by
    rcases List.mem_append.1 h with h | h
    · unfold chRC at h
      split at h
      all_goals
        simp only [List.mem_cons, List.not_mem_nil, or_false] at h
        rcases h with rfl | rfl | rfl
        · rfl
        · rfl
        · exact hl g (List.mem_cons_self ..)
    · exact chRs_one r (fun p hp => hl p (List.mem_cons_of_mem _ hp)) u h
theorem run_append_r (w : World) (ty : TypeId) (B n : Nat) (v : Value) (cs : List (Ch × Value)) (p : Ch × Value) (xs : Array Value) (hxs : xs.toList = chRC p) (hown : w.ownsRow B 81 3 v cs.length (chRs cs))
    (hblk : w.heap[n]? = some (.cells xs 81 (0, 0))) (hp : p.2.oneCell' = true) (hB : B ≤ w.heap.size) (hn : cs.length < 1000000) :
    ∃ u w', (Builtin.append_ #[66, 66] ty #[v, .slice (some ⟨n, 0, none⟩) 1 1]).run Try.prog w = .ok u w' ∧
      w'.ownsRow B 81 3 u (cs ++ [p]).length (chRs (cs ++ [p])) ∧ w.grownBy w' v.ownBlock ∧ (∀ k, u.ownBlock = some k → v.ownBlock = some k ∨ k = w.heap.size) := by
  obtain ⟨i0, hi0, hz0, hs0, hb0⟩ := info_parts infoRC
  have hnews := World.news_of_block (cs := xs) hblk
  rw [hxs] at hnews
  obtain ⟨g, cap, w', h1, h2, h3, h4, _⟩ := run_append_lies (P := Try.prog) w 66 ty B 81 i0 _ 3 40 Try.underlying66 hi0 hz0 hs0 hb0 rfl (by omega) v cs.length (chRs cs) hown ⟨n, 0, none⟩ 1 1
    (chRC p) (chRC_len p) hnews (by have := chRs_one [p] (by simpa using hp); simpa [chRs] using this) (by omega) (by unfold maxLen; omega) (by omega) hB _ rfl
  refine ⟨_, w', h1, ?_, h3, fun k hk => ?_⟩
  · rw [show chRs (cs ++ [p]) = chRs cs ++ chRC p from by rw [chRs_append]; simp [chRs], List.length_append]
    exact h2
  · have : g = k := by simpa [Value.ownBlock] using hk
    subst this
    exact h4
theorem step_append_r {ops : Array Oper} {o : Oper} {a : Act} {w : World} {K : Act → World → Prop} {Q : Exit → Act → World → Prop} {E : Prop} (s x : Operand) (B n : Nat) (v : Value) (cs : List (Ch × Value)) (p : Ch × Value) (xs : Array Value) (hxs : xs.toList = chRC p)
    (hgd : o.guard = none) (ho : o.op = .call { callee := .builtin .append, args := #[s, x], argTypes := #[66, 66] }) (hs : a.eval s = v) (hx : a.eval x = .slice (some ⟨n, 0, none⟩) 1 1)
    (hown : w.ownsRow B 81 3 v cs.length (chRs cs)) (hblk : w.heap[n]? = some (.cells xs 81 (0, 0))) (hp : p.2.oneCell' = true) (hB : B ≤ w.heap.size) (hn : cs.length < 1000000)
    (h : ∀ u w', w'.ownsRow B 81 3 u (cs ++ [p]).length (chRs (cs ++ [p])) → w.grownBy w' v.ownBlock → (∀ k, u.ownBlock = some k → v.ownBlock = some k ∨ k = w.heap.size) → K (a.put o.dst u) w') :
    if Region.wanted o (yielded ops a.tmps) = true then Oper.wp Try.prog o a w K Q else E := by
  have hw : Region.wanted o (yielded ops a.tmps) = true := by simp [Region.wanted, hgd]
  obtain ⟨u, w', hr, h2, h3, h4⟩ := run_append_r w o.type B n v cs p xs hxs hown hblk hp hB hn
  rw [if_pos hw]
  unfold Oper.wp
  simp [execOp, ho, resolve, invoke, builtin, hs, hx, hr, Result.andThen]
  exact h u w' h2 h3 h4
/-- A list with one change more: its block, if it is new, serves the same. -/
theorem LwR.grown {w w' : World} {ρ : Ro} {B r s : Nat} {v u : Value} {cs : List (Ch × Value)} {p : Ch × Value} (h : LwR w ρ B r s v cs) (hr : RoOk ρ B w) (hp : TX w p) (hps : ∀ k, p.2.ownBlock = some k → ρ k = s) (hrs : s ≠ r)
    (hu : w'.ownsRow B 81 3 u (cs ++ [p]).length (chRs (cs ++ [p]))) (hg : w.grownBy w' v.ownBlock) (hn : ∀ k, u.ownBlock = some k → v.ownBlock = some k ∨ w.heap.size ≤ k) :
    ∃ ρ', Step [r] ρ ρ' w w' ∧ RoOk ρ' B w' ∧ LwR w' ρ' B r s u (cs ++ [p]) := by
  have hS : Step [r] ρ ρ w w' := ⟨⟨hg.os, hg.tape, hg.output, hg.size, fun k hk hm => hg.block k hk (fun e => hm (by rw [h.ro k e.symm]; simp))⟩, fun _ _ => rfl⟩
  have htx : ∀ q ∈ cs ++ [p], TX w q ∧ ∀ k, q.2.ownBlock = some k → ρ k = s := fun q hq => by
    rcases List.mem_append.1 hq with hq | hq
    · exact h.tx q hq
    · rw [List.mem_singleton.1 hq]; exact ⟨hp, hps⟩
  have hfin : ∀ ρ', Step [r] ρ ρ' w w' → (∀ k, u.ownBlock = some k → ρ' k = r) → LwR w' ρ' B r s u (cs ++ [p]) := fun ρ' hS' hro =>
    ⟨hu, hro, fun q hq => ⟨(htx q hq).1.heap fun k hk hlt => hS'.kept.block k hlt (by rw [(htx q hq).2 k hk]; simpa using hrs), fun k hk => (hS'.same k ((htx q hq).1.lt hk)).trans ((htx q hq).2 k hk)⟩⟩
  cases hb : u.ownBlock with
  | none => exact ⟨ρ, hS, hr.later hg.size, hfin ρ hS fun k hk => by rw [hb] at hk; cases hk⟩
  | some g =>
    by_cases hlt : g < w.heap.size
    · refine ⟨ρ, hS, hr.later hg.size, hfin ρ hS fun k hk => ?_⟩
      rcases hn k hk with e | e
      · exact h.ro k e
      · rw [hb] at hk
        injection hk with hk
        omega
    · have hl := World.ownsRow.lt hu g hb
      refine ⟨tagR ρ g r, hS.tag (by omega), (hr.later hg.size).tag hl.1 hl.2, hfin _ (hS.tag (by omega)) fun k hk => ?_⟩
      rw [hb] at hk
      injection hk with hk
      rw [← hk]
      exact tagR_at _ _ _

/-- The page's disk with one file's present bytes written and its list not yet. -/
structure MidR (w w2 : World) (ρ ρ1 : Ro) (B p n : Nat) (x : RdV) (d : Dk) (c : Ch) (t u : Value) : Prop where
  st : Step [2, 3 + n] ρ ρ1 w w2
  ok : RoOk ρ1 B w2
  blk : Blk w2 p (cellsR { x with N := upd x.N n u }) 71
  now : Rw w2 ρ1 B (3 + n) u (doC (d.f n).now c)
  list : LwR w2 ρ1 B (9 + n) 1 (x.L n) (x.C n)
  tx : TX w2 (c, t)
  tro : ∀ k, t.ownBlock = some k → ρ1 k = 1
theorem RAt.mid {w w1 : World} {ρ : Ro} {B p n : Nat} {x : RdV} {d : Dk} {c : Ch} {t u : Value} (h : RAt w ρ B p x d) (hr : RoOk ρ B w) (hB : B ≤ w.heap.size) (hn : n ≤ 2) (ht : TX w (c, t)) (hts : ∀ k, t.ownBlock = some k → ρ k = 1)
    (hb : Below w.heap.size w w1) (hu : BR w1 w.heap.size u (doC (d.f n).now c)) : ∃ ρ1, MidR w (w1.setCell ⟨p, n * 3 + 1, none⟩ u) ρ ρ1 B p n x d c t u := by
  obtain ⟨ρ1, hst, hro, hk⟩ := fresh_tag (r := 3 + n) hr hB hb hu
  have hp1 : ρ1 p = 2 := (hst.same p h.lt).trans h.ro
  have b1 := h.blk.later hb
  have b2 := b1.set (n * 3 + 1) u
  rw [cellsR_setN x hn] at b2
  have s2 : Step [2] ρ1 ρ1 w1 (w1.setCell ⟨p, n * 3 + 1, none⟩ u) := Step.refl.setCell _ (.inr (by rw [show ρ1 p = 2 from hp1]; simp)) _
  have hrw : Rw w1 ρ1 B (3 + n) u (doC (d.f n).now c) := ⟨hu.mono hB, hk⟩
  have hfull : Step [2] ρ ρ1 w _ := (hst.mono (T := [2]) (by simp)).trans s2
  exact ⟨ρ1, hfull.mono (by simp), hro.later s2.kept.size, b2, hrw.step s2 (by simp <;> omega), (h.list n hn).step hfull (by simp <;> omega) (by simp),
    ht.heap fun k hk hlt => hfull.kept.block k hlt (by rw [hts k hk]; simp), fun k hk => (hfull.same k (ht.lt hk)).trans (hts k hk)⟩
theorem RAt.changed {w w2 w3 w4 : World} {ρ ρ1 : Ro} {B p n : Nat} {x : RdV} {d : Dk} {c : Ch} {t u v : Value} (h : RAt w ρ B p x d) (hn : n ≤ 2) (m : MidR w w2 ρ ρ1 B p n x d c t u) (h3 : Step [] ρ1 ρ1 w2 w3)
    (hg : w3.grownBy w4 (x.L n).ownBlock) (hv : w4.ownsRow B 81 3 v (x.C n ++ [(c, t)]).length (chRs (x.C n ++ [(c, t)]))) (hnew : ∀ k, v.ownBlock = some k → (x.L n).ownBlock = some k ∨ w3.heap.size ≤ k) (hf : fitC (d.f n).now c) :
    OpR SK w ρ B p (d.put n ⟨(d.f n).kept, (d.f n).done ++ [c]⟩) (w4.setCell ⟨p, n * 3 + 2, none⟩ v) := by
  have l3 := m.list.step h3 (by simp) (by simp)
  have t3 : TX w3 (c, t) := m.tx.heap fun k hk hlt => h3.kept.block k hlt (by simp)
  obtain ⟨ρ2, s4, ok4, l4⟩ := l3.grown (m.ok.later h3.kept.size) t3 m.tro (by omega) hv hg hnew
  have hp1 : ρ1 p = 2 := (m.st.same p h.lt).trans h.ro
  have b3 := m.blk.kept h3.kept (by simp)
  have hp2 : ρ2 p = 2 := (s4.same p b3.lt).trans hp1
  have b4 := b3.kept s4.kept (by rw [hp1]; simp <;> omega)
  have b5 := b4.set (n * 3 + 2) v
  rw [cellsR_setL _ hn] at b5
  have s5 : Step [2] ρ2 ρ2 w4 (w4.setCell ⟨p, n * 3 + 2, none⟩ v) := Step.refl.setCell _ (.inr (by rw [show ρ2 p = 2 from hp2]; simp)) _
  have s01 : Step [2, 3 + n, 9 + n] ρ ρ1 w w2 := m.st.mono (by simp)
  have hfull : Step [2, 3 + n, 9 + n] ρ ρ2 w _ := ((s01.trans (h3.mono (by simp))).trans (s4.mono (by simp))).trans (s5.mono (by simp))
  refine ⟨ρ2, hfull.mono (by intro r hr; simp at hr; exact SK_mem (by omega) (by omega)), ok4.later s5.kept.size, _, h.putF (hfull.mono (by simp)) hn u (x.K n) v (x.C n ++ [(c, t)]) ⟨(d.f n).kept, (d.f n).done ++ [c]⟩ ?_
    (by rw [now_more]; exact ((m.now.step h3 (by simp)).step s4 (by simp <;> omega)).step s5 (by simp <;> omega))
    ((h.kept n hn).step hfull (by simp <;> omega)) (l4.step s5 (by simp <;> omega) (by simp))
    (by rw [List.map_append, h.done n hn]; rfl) (h.len n hn) (fitL_more (h.fit n hn) hf)⟩
  rw [upd_self x.K n]
  exact b5
end Go.Proofs.Ytahmihdahgbhkaa

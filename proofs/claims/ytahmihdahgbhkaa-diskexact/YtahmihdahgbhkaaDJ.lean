/-
  One change appended to a list of changes; package disk's do and sync, walked.
  Conditions: as each theorem states them.
-/
import Derived.Test.YtahmihdahgbhkaaDI
namespace Go.Proofs.Ytahmihdahgbhkaa
open Go.RowKit

theorem infoKC : (Try.prog.info? 98).map (fun i => (i.zero, i.size, i.bytes)) = some (some (.agg #[.bool false, .int .i64 0, .slice none 0 0]), 3, 40) := by kernel_rfl
theorem chsC_one : ∀ (l : List (Ch × Value)), (∀ p ∈ l, p.2.oneCell' = true) → ∀ u ∈ chsC l, u.oneCell' = true
  | [], _, u, h => by cases h
  | g :: r, hl, u, h => by
    rcases List.mem_append.1 h with h | h
    · simp only [chC, List.mem_cons, List.not_mem_nil, or_false] at h
      rcases h with rfl | rfl | rfl
      · rfl
      · rfl
      · exact hl g (List.mem_cons_self ..)
    · exact chsC_one r (fun p hp => hl p (List.mem_cons_of_mem _ hp)) u h
theorem TX.one {w : World} {p : Ch × Value} (h : TX w p) : p.2.oneCell' = true := by
  obtain ⟨A, n, c, e⟩ := h.slice
  rw [e]
  rfl
theorem run_append_c (w : World) (ty : TypeId) (B n : Nat) (v : Value) (cs : List (Ch × Value)) (p : Ch × Value) (hown : w.ownsRow B 98 3 v cs.length (chsC cs))
    (hblk : w.heap[n]? = some (.cells #[.bool p.1.b.isNone, .int .i64 (p.1.n : Int), p.2] 98 (0, 0))) (hp : p.2.oneCell' = true) (hB : B ≤ w.heap.size) (hn : cs.length < 1000000) :
    ∃ u w', (Builtin.append_ #[73, 73] ty #[v, .slice (some ⟨n, 0, none⟩) 1 1]).run Try.prog w = .ok u w' ∧
      w'.ownsRow B 98 3 u (cs ++ [p]).length (chsC (cs ++ [p])) ∧ w.grownBy w' v.ownBlock ∧ (∀ k, u.ownBlock = some k → v.ownBlock = some k ∨ k = w.heap.size) := by
  obtain ⟨i0, hi0, hz0, hs0, hb0⟩ := info_parts infoKC
  obtain ⟨g, cap, w', h1, h2, h3, h4, _⟩ := run_append_lies (P := Try.prog) w 73 ty B 98 i0 _ 3 40 Try.underlying73 hi0 hz0 hs0 hb0 rfl (by omega) v cs.length (chsC cs) hown ⟨n, 0, none⟩ 1 1
    (chC p) rfl (World.news_of_block (cs := #[.bool p.1.b.isNone, .int .i64 (p.1.n : Int), p.2]) hblk) (by have := chsC_one [p] (by simpa using hp); simpa [chsC] using this) (by omega) (by unfold maxLen; omega) (by omega) hB _ rfl
  refine ⟨_, w', h1, ?_, h3, fun k hk => ?_⟩
  · rw [show chsC (cs ++ [p]) = chsC cs ++ chC p from by rw [chsC_append]; simp [chsC], List.length_append]
    exact h2
  · have : g = k := by simpa [Value.ownBlock] using hk
    subst this
    exact h4
theorem wpList_append_c {ops : Array Oper} {rest : List Oper} {o : Oper} {a : Act} {Q : Exit → Act → World → Prop} (w : World) (s x : Operand) (B n : Nat) (v : Value) (cs : List (Ch × Value)) (p : Ch × Value)
    (hgd : o.guard = none) (ho : o.op = .call { callee := .builtin .append, args := #[s, x], argTypes := #[73, 73] }) (hs : a.eval s = v) (hx : a.eval x = .slice (some ⟨n, 0, none⟩) 1 1)
    (hown : w.ownsRow B 98 3 v cs.length (chsC cs)) (hblk : w.heap[n]? = some (.cells #[.bool p.1.b.isNone, .int .i64 (p.1.n : Int), p.2] 98 (0, 0))) (hp : p.2.oneCell' = true) (hB : B ≤ w.heap.size) (hn : cs.length < 1000000)
    (h : ∀ u w', w'.ownsRow B 98 3 u (cs ++ [p]).length (chsC (cs ++ [p])) → w.grownBy w' v.ownBlock → (∀ k, u.ownBlock = some k → v.ownBlock = some k ∨ k = w.heap.size) → wpList Try.prog ops Q rest (a.put o.dst u) w') : wpList Try.prog ops Q (o :: rest) a w := by
  refine wpList_plain hgd fun K hK => ?_
  obtain ⟨u, w', hr, h2, h3, h4⟩ := run_append_c w o.type B n v cs p hown hblk hp hB hn
  unfold Oper.wp execOp
  simp only [ho, resolve, invoke, builtin, Sem.run_bind, Sem.run_pure, Result.andThen_ok, List.map_toArray, List.map_cons, List.map_nil, hs, hx, hr]
  exact hK _ _ (h u w' h2 h3 h4)
theorem step_append_c {ops : Array Oper} {o : Oper} {a : Act} {w : World} {K : Act → World → Prop} {Q : Exit → Act → World → Prop} {E : Prop} (s x : Operand) (B n : Nat) (v : Value) (cs : List (Ch × Value)) (p : Ch × Value)
    (hgd : o.guard = none) (ho : o.op = .call { callee := .builtin .append, args := #[s, x], argTypes := #[73, 73] }) (hs : a.eval s = v) (hx : a.eval x = .slice (some ⟨n, 0, none⟩) 1 1)
    (hown : w.ownsRow B 98 3 v cs.length (chsC cs)) (hblk : w.heap[n]? = some (.cells #[.bool p.1.b.isNone, .int .i64 (p.1.n : Int), p.2] 98 (0, 0))) (hp : p.2.oneCell' = true) (hB : B ≤ w.heap.size) (hn : cs.length < 1000000)
    (h : ∀ u w', w'.ownsRow B 98 3 u (cs ++ [p]).length (chsC (cs ++ [p])) → w.grownBy w' v.ownBlock → (∀ k, u.ownBlock = some k → v.ownBlock = some k ∨ k = w.heap.size) → K (a.put o.dst u) w') :
    if Region.wanted o (yielded ops a.tmps) = true then Oper.wp Try.prog o a w K Q else E := by
  have hw : Region.wanted o (yielded ops a.tmps) = true := by simp [Region.wanted, hgd]
  obtain ⟨u, w', hr, h2, h3, h4⟩ := run_append_c w o.type B n v cs p hown hblk hp hB hn
  rw [if_pos hw]
  unfold Oper.wp
  simp [execOp, ho, resolve, invoke, builtin, hs, hx, hr, Result.andThen]
  exact h u w' h2 h3 h4
/-- A list with one change more: its block, if it is new, serves the same. -/
theorem Lw.grown {w w' : World} {ρ : Ro} {B r s : Nat} {v u : Value} {cs : List (Ch × Value)} {p : Ch × Value} (h : Lw w ρ B r s v cs) (hr : RoOk ρ B w) (hp : TX w p) (hps : ∀ k, p.2.ownBlock = some k → ρ k = s) (hrs : s ≠ r)
    (hu : w'.ownsRow B 98 3 u (cs ++ [p]).length (chsC (cs ++ [p]))) (hg : w.grownBy w' v.ownBlock) (hn : ∀ k, u.ownBlock = some k → v.ownBlock = some k ∨ w.heap.size ≤ k) :
    ∃ ρ', Step [r] ρ ρ' w w' ∧ RoOk ρ' B w' ∧ Lw w' ρ' B r s u (cs ++ [p]) := by
  have hS : Step [r] ρ ρ w w' := ⟨⟨hg.os, hg.tape, hg.output, hg.size, fun k hk hm => hg.block k hk (fun e => hm (by rw [h.ro k e.symm]; simp))⟩, fun _ _ => rfl⟩
  have htx : ∀ q ∈ cs ++ [p], TX w q ∧ ∀ k, q.2.ownBlock = some k → ρ k = s := fun q hq => by
    rcases List.mem_append.1 hq with hq | hq
    · exact h.tx q hq
    · rw [List.mem_singleton.1 hq]; exact ⟨hp, hps⟩
  have hfin : ∀ ρ', Step [r] ρ ρ' w w' → (∀ k, u.ownBlock = some k → ρ' k = r) → Lw w' ρ' B r s u (cs ++ [p]) := fun ρ' hS' hro =>
    ⟨hu, hro, fun q hq => ⟨(htx q hq).1.heap fun k hk hlt => hS'.kept.block k hlt (by rw [(htx q hq).2 k hk]; simpa using hrs), fun k hk => (hS'.same k ((htx q hq).1.lt hk)).trans ((htx q hq).2 k hk)⟩⟩
  cases hb : u.ownBlock with
  | none => exact ⟨ρ, hS, hr.later hg.size, hfin ρ hS fun k hk => by rw [hb] at hk; cases hk⟩
  | some g =>
    by_cases hlt : g < w.heap.size
    · refine ⟨ρ, hS, hr.later hg.size, hfin ρ hS fun k hk => ?_⟩
      rcases hn k hk with e | e
      · exact h.ro k e
      · rw [hb] at hk
        injection hk with hk
        omega
    · have hl := World.ownsRow.lt hu g hb
      refine ⟨tagR ρ g r, hS.tag (by omega), (hr.later hg.size).tag hl.1 hl.2, hfin _ (hS.tag (by omega)) fun k hk => ?_⟩
      rw [hb] at hk
      injection hk with hk
      rw [← hk]
      exact tagR_at _ _ _
theorem ownsRow_form {w : World} {B : Nat} {e : TypeId} {size n : Nat} {v : Value} {xs : List Value} (h : w.ownsRow B e size v n xs) : ∃ A c, v = .slice A n c := by
  rcases h.2 with ⟨h, h0⟩ | ⟨g, cap, cur, h, _⟩
  · exact ⟨none, 0, by rw [h, h0]⟩
  · exact ⟨_, cap, h⟩

theorem upd_self {α : Type} (f : Nat → α) (n : Nat) : upd f n (f n) = f := by
  funext m
  unfold upd
  split
  · next h => rw [h]
  · rfl
theorem Step.grow {S T : List Nat} {ρ ρ1 ρ' : Ro} {w w1 w' : World} (h : Step S ρ ρ1 w w1) (k : Step T ρ1 ρ' w1 w') (hS : ∀ r ∈ T, r ∈ S) : Step S ρ ρ' w w' := h.trans (k.mono hS)
/-- The disk with one file changed. -/
theorem KAt.putF {w w' : World} {ρ ρ' : Ro} {B p n : Nat} {x : DkV} {d : Dk} (h : KAt w ρ B p x d) (hst : Step [2, 3 + n, 6 + n, 9 + n] ρ ρ' w w') (hn : n ≤ 2) (uN uK uL : Value) (uC : List (Ch × Value)) (g : Fl)
    (blk : Blk w' p (cellsK { x with N := upd x.N n uN, K := upd x.K n uK, L := upd x.L n uL }) 85) (rN : Rw w' ρ' B (3 + n) uN g.now) (rK : Rw w' ρ' B (6 + n) uK g.kept) (rL : Lw w' ρ' B (9 + n) 1 uL uC)
    (hd : uC.map Prod.fst = g.done) (hl : g.kept.length ≤ 4194304) (hf : fitL g.kept g.done) : KAt w' ρ' B p { x with N := upd x.N n uN, K := upd x.K n uK, L := upd x.L n uL, C := upd x.C n uC } (d.put n g) where
  blk := blk
  ro := (hst.same p h.lt).trans h.ro
  now := fun m hm => by
    by_cases e : m = n
    · subst e; simp only [upd_at, Dk.put_same]; exact rN
    · simp only [upd_else e, Dk.put_else d g e]; exact (h.now m hm).step hst (by simp <;> omega)
  kept := fun m hm => by
    by_cases e : m = n
    · subst e; simp only [upd_at, Dk.put_same]; exact rK
    · simp only [upd_else e, Dk.put_else d g e]; exact (h.kept m hm).step hst (by simp <;> omega)
  list := fun m hm => by
    by_cases e : m = n
    · subst e; simp only [upd_at]; exact rL
    · simp only [upd_else e]; exact (h.list m hm).step hst (by simp <;> omega) (by simp <;> omega)
  done := fun m hm => by
    by_cases e : m = n
    · subst e; simp only [upd_at, Dk.put_same]; exact hd
    · simp only [upd_else e, Dk.put_else d g e]; exact h.done m hm
  len := fun m hm => by
    by_cases e : m = n
    · subst e; simp only [Dk.put_same]; exact hl
    · simp only [Dk.put_else d g e]; exact h.len m hm
  fit := fun m hm => by
    by_cases e : m = n
    · subst e; simp only [Dk.put_same]; exact hf
    · simp only [Dk.put_else d g e]; exact h.fit m hm
  pw := h.pw
  calls0 := h.calls0
  calls1 := h.calls1

set_option maxHeartbeats 4000000 in
set_option maxRecDepth 100000 in
theorem do_any (w : World) (ρ : Ro) (B p n : Nat) (x : DkV) (d : Dk) (h : KAt w ρ B p x d) (hr : RoOk ρ B w) (hn : n ≤ 2) (c : Ch) (t : Value) (hB : B ≤ w.heap.size) (ht : TX w (c, t)) (hts : ∀ k, t.ownBlock = some k → ρ k = 1)
    (hf : fitC (d.f n).now c) (hl : (d.f n).done.length < 1000000) :
    Calls Try.prog 59 #[.pointer (some ⟨p, n * 3, none⟩), chA c t] w fun e w' => e = .returned (.tuple #[]) ∧ OpK [2, 3 + n, 9 + n] w ρ B p (d.put n ⟨(d.f n).kept, (d.f n).done ++ [c]⟩) w' := by
  unfold chA
  have HK := Lib.hid h
  obtain ⟨W0, hW0⟩ : ∃ W0, w.alloc (.cells #[.bool c.b.isNone, .int .i64 (c.n : Int), t] 98) = W0 := ⟨_, rfl⟩
  have hs0 : W0.heap.size = w.heap.size + 1 := by rw [← hW0]; simp
  have HST0 := Lib.hid (show Step [2, 3 + n, 9 + n] ρ ρ w W0.drew by
    have e : Step [2, 3 + n, 9 + n] ρ ρ w (w.alloc (.cells #[.bool c.b.isNone, .int .i64 (c.n : Int), t] 98)) := Step.refl.alloc _
    rw [hW0] at e
    exact ⟨⟨e.kept.os, e.kept.tape, e.kept.output, e.kept.size, e.kept.block⟩, e.same⟩)
  have hk0 : KAt W0.drew ρ B p x d := h.step ((show Step [] ρ ρ w W0.drew by
    have e : Step [] ρ ρ w (w.alloc (.cells #[.bool c.b.isNone, .int .i64 (c.n : Int), t] 98)) := Step.refl.alloc _
    rw [hW0] at e
    exact ⟨⟨e.kept.os, e.kept.tape, e.kept.output, e.kept.size, e.kept.block⟩, e.same⟩)) (by simp)
  have HK0 := Lib.hid hk0
  have HRO0 := Lib.hid (show RoOk ρ B W0.drew from hr.later HST0.out.kept.size)
  have HX0 := Lib.hid (show Blk W0.drew w.heap.size #[.bool c.b.isNone, .int .i64 (c.n : Int), t] 98 by rw [← hW0]; exact Blk.new w _ _)
  have HT0 := Lib.hid (show TX W0.drew (c, t) from ht.heap fun k _ hk => by rw [← hW0]; exact Below.heap_alloc w _ k hk)
  have hnt : ∀ k, (x.N n).ownBlock = some k → t.ownBlock ≠ some k := fun k hk e => by
    have e1 := (h.now n hn).ro k hk
    have e2 := hts k e
    omega
  have HM := Lib.hid (madeIn_any (c, t) (x.N n) (d.f n).now B W0.drew (hk0.now n hn).br hf HT0.out hnt (by show B ≤ W0.heap.size; omega) (by have := h.nowLen hn; omega))
  have HS := Lib.hid (show ∀ u w1, BR w1 B u (doC (d.f n).now c) → W0.drew.grownBy w1 (x.N n).ownBlock → (∀ k, u.ownBlock = some k → (x.N n).ownBlock = some k ∨ W0.heap.size ≤ k) →
      w1.cell? ⟨p, n * 3, none⟩ = some (x.N n) ∧ w1.frozen? ⟨p, n * 3, none⟩ = false from fun u w1 _ hg _ => by
    have : Blk w1 p (cellsK x) 85 := hk0.blk.heap (hg.block p hk0.lt (fun e => by
      have e1 := (h.now n hn).ro p e.symm
      have e2 := h.ro
      omega))
    exact ⟨this.c _ (cellsK_N x hn), this.fz _⟩)
  obtain ⟨tA, tn, tc, htv⟩ := ht.slice
  simp only at htv
  subst htv
  have hbl := h.lt
  have cN := hk0.cN hn
  have c0 := HX0.out.c 0 (u := .bool c.b.isNone) rfl
  have c1 := HX0.out.c 1 (u := .int .i64 (c.n : Int)) rfl
  have c2 := HX0.out.c 2 (u := .slice tA tn tc) rfl
  clear h hk0
  go_enter Try.func59, Try.ntmps59
  go_wp2_with fail
  go_region_law (go_simp; go_at_call 63; refine (HM.out).mono ?_; rintro e w1 ⟨u, rfl, hr1, hg1, hu1⟩; have s0 := (HS.out u w1 hr1 hg1 hu1).1; have z0 := (HS.out u w1 hr1 hg1 hu1).2; have HR1 := Lib.hid hr1; have HG1 := Lib.hid hg1; have HU1 := Lib.hid hu1; obtain ⟨uA, uc, rfl, _, _⟩ := hr1.slice; clear hr1 hg1 hu1)
  all_goals
    obtain ⟨ρ1, hst1, hro1, hrw1⟩ := (HK0.out.now n hn).grown HRO0.out HR1.out HG1.out HU1.out
    have hb1 : Blk w1 p (cellsK x) 85 := HK0.out.blk.kept hst1.kept (by rw [HK0.out.ro]; simp <;> omega)
    have hb2 := hb1.set (n * 3) (.slice uA (doC (d.f n).now c).length uc)
    rw [cellsK_setN x hn] at hb2
    have hst2 : Step [2, 3 + n, 9 + n] ρ ρ1 w (w1.setCell ⟨p, n * 3, none⟩ (.slice uA (doC (d.f n).now c).length uc)) := (HST0.out.grow hst1 (by simp)).setCell _ (.inr (by rw [show ρ p = 2 from HK.out.ro]; simp)) _
    have hro1p : ρ1 p = 2 := (hst1.same p HK0.out.lt).trans HK0.out.ro
    have hst12 : Step [2] ρ1 ρ1 w1 (w1.setCell ⟨p, n * 3, none⟩ (.slice uA (doC (d.f n).now c).length uc)) := Step.refl.setCell _ (.inr (by rw [show ρ1 p = 2 from hro1p]; simp)) _
    have hz : ρ w.heap.size = 0 := Classical.byContradiction fun e => Nat.lt_irrefl _ (hr _ e).2
    have hX2 : Blk (w1.setCell ⟨p, n * 3, none⟩ (.slice uA (doC (d.f n).now c).length uc)) w.heap.size #[.bool c.b.isNone, .int .i64 (c.n : Int), .slice tA tn tc] 98 :=
      (HX0.out.kept hst1.kept (by rw [hz]; simp <;> omega)).other (by simp <;> omega) _
    generalize w1.setCell ⟨p, n * 3, none⟩ (.slice uA (doC (d.f n).now c).length uc) = w2 at *
    have HT2 := Lib.hid (show TX w2 (c, .slice tA tn tc) from (HT0.out.heap fun k hk hlt => hst1.kept.block k hlt (by rw [hts k hk]; simp <;> omega)).heap fun k hk hlt => hst12.kept.block k hlt (by rw [hst1.same k (HT0.out.lt hk), hts k hk]; simp))
    have HTS2 := Lib.hid (show ∀ k, (Value.slice tA tn tc).ownBlock = some k → ρ1 k = 1 from fun k hk => (hst1.same k (HT0.out.lt hk)).trans (hts k hk))
    have HN2 := Lib.hid (hrw1.step hst12 (by simp <;> omega))
    have HL2 := Lib.hid (((HK0.out.list n hn).step hst1 (by simp <;> omega) (by simp <;> omega)).step hst12 (by simp <;> omega) (by simp))
    have HST2 := Lib.hid hst2
    have HB2 := Lib.hid hb2
    have HRO2 := Lib.hid (hro1.later hst12.kept.size)
    have HX2 := Lib.hid hX2
    have cL2 := hb2.c _ (cellsK_L _ hn)
    have d0 := hX2.c 0 (u := .bool c.b.isNone) rfl
    have d1 := hX2.c 1 (u := .int .i64 (c.n : Int)) rfl
    have d2 := hX2.c 2 (u := .slice tA tn tc) rfl
    have hp2 : p < w2.heap.size := hb2.lt
    have hsz2 := hst2.kept.size
    clear hst1 hro1 hrw1 hb1 hb2 hst2 hst12 hX2 s0 z0 HR1 HG1 HU1 c0 c1 c2 cN HM HS
    obtain ⟨W3, hW3⟩ : ∃ W3, w2.drew.alloc (.cells #[.bool c.b.isNone, .int .i64 (c.n : Int), .slice tA tn tc] 98) = W3 := ⟨_, rfl⟩
    have hst3 : Step [2, 3 + n, 9 + n] ρ1 ρ1 w2 W3 := by
      have e : Step [2, 3 + n, 9 + n] ρ1 ρ1 w2 (w2.alloc (.cells #[.bool c.b.isNone, .int .i64 (c.n : Int), .slice tA tn tc] 98)) := Step.refl.alloc _
      rw [← hW3]
      exact ⟨⟨e.kept.os, e.kept.tape, e.kept.output, e.kept.size, e.kept.block⟩, e.same⟩
    have hst3' : Step [] ρ1 ρ1 w2 W3 := by
      have e : Step [] ρ1 ρ1 w2 (w2.alloc (.cells #[.bool c.b.isNone, .int .i64 (c.n : Int), .slice tA tn tc] 98)) := Step.refl.alloc _
      rw [← hW3]
      exact ⟨⟨e.kept.os, e.kept.tape, e.kept.output, e.kept.size, e.kept.block⟩, e.same⟩
    have hs3 : W3.heap.size = w2.heap.size + 1 := by rw [← hW3]; simp
    have HL3 := Lib.hid (HL2.out.step hst3' (by simp) (by simp))
    have HB3 := Lib.hid (show Blk W3 p _ 85 from HB2.out.kept hst3'.kept (by simp))
    have cL3 := HB3.out.c _ (cellsK_L _ hn)
    have HT3 := Lib.hid (show TX W3 (c, .slice tA tn tc) from HT2.out.heap fun k hk hlt => hst3'.kept.block k hlt (by simp))
    have HBK := Lib.hid (show W3.heap[w2.heap.size]? = some (.cells #[.bool c.b.isNone, .int .i64 (c.n : Int), .slice tA tn tc] 98 (0, 0)) by rw [← hW3]; exact heap_alloc_new w2.drew _)
    have hlc : (x.C n).length < 1000000 := by
      have := HK.out.done n hn
      rw [← this] at hl
      simpa using hl
    have HS3 := Lib.hid (show ∀ w', W3.grownBy w' (x.L n).ownBlock → w'.cell? ⟨p, n * 3 + 2, none⟩ = some (x.L n) ∧ w'.frozen? ⟨p, n * 3 + 2, none⟩ = false from fun w' hg => by
      have : Blk w' p _ 85 := HB3.out.heap (hg.block p HB3.out.lt (fun e => by
        have e1 := HL2.out.ro p e.symm
        omega))
      exact ⟨this.c _ (cellsK_L _ hn), this.fz _⟩)
    clear hst3 hst3'
    go_wp2_with fail
    go_region_law (refine step_append_c _ _ B w2.heap.size (x.L n) (x.C n) (c, .slice tA tn tc) rfl rfl (by simp [Act.eval]) (by simp [Act.eval]) HL3.out.row HBK.out rfl (by omega) hlc ?_; intro u3 w3 h31 h32 h33; have s1 := (HS3.out w3 h32).1; have z1 := (HS3.out w3 h32).2; obtain ⟨uA3, uc3, rfl⟩ := ownsRow_form h31; have H31 := Lib.hid h31; have H32 := Lib.hid h32; have H33 := Lib.hid h33; clear h31 h32 h33)
    all_goals
      clear d0 d1 d2 cL2 cL3
      have hg3 : Lw W3 ρ1 B (9 + n) 1 (x.L n) (x.C n) := HL3.out
      obtain ⟨ρ2, hst4, hro4, hl4⟩ := hg3.grown (HRO2.out.later (by omega)) HT3.out HTS2.out (by omega) H31.out H32.out (fun k hk => (H33.out k hk).imp id (fun e => by omega))
      have hst3' : Step [] ρ1 ρ1 w2 W3 := by
        have e : Step [] ρ1 ρ1 w2 (w2.alloc (.cells #[.bool c.b.isNone, .int .i64 (c.n : Int), .slice tA tn tc] 98)) := Step.refl.alloc _
        rw [← hW3]
        exact ⟨⟨e.kept.os, e.kept.tape, e.kept.output, e.kept.size, e.kept.block⟩, e.same⟩
      clear s1 z1
      go_wp2_with fail
      go_end0
      have hlen : (x.C n ++ [(c, Value.slice tA tn tc)]).length = (x.C n).length + 1 := by simp
      rw [hlen] at hl4
      obtain ⟨w5, hw5⟩ : ∃ w5, w3.setCell ⟨p, n * 3 + 2, none⟩ (.slice uA3 ((x.C n).length + 1) uc3) = w5 := ⟨_, rfl⟩
      have hp1 : ρ1 p = 2 := (HST2.out.same p HK.out.lt).trans HK.out.ro
      have hp2' : ρ2 p = 2 := (hst4.same p HB3.out.lt).trans hp1
      have hst5 : Step [2] ρ2 ρ2 w3 w5 := by rw [← hw5]; exact Step.refl.setCell _ (.inr (by rw [show ρ2 p = 2 from hp2']; simp)) _
      have hb5 : Blk w5 p (cellsK { x with N := upd x.N n (.slice uA (doC (d.f n).now c).length uc), K := upd x.K n (x.K n), L := upd x.L n (.slice uA3 ((x.C n).length + 1) uc3) }) 85 := by
        have e1 : Blk w3 p _ 85 := HB3.out.kept hst4.kept (by rw [hp1]; simp <;> omega)
        have e2 := e1.set (n * 3 + 2) (.slice uA3 ((x.C n).length + 1) uc3)
        rw [hw5, cellsK_setL _ hn] at e2
        rw [upd_self x.K n]
        exact e2
      have hfull : Step [2, 3 + n, 9 + n] ρ ρ2 w w5 := ((HST2.out.grow hst3' (by simp)).grow hst4 (by simp)).grow hst5 (by simp)
      rw [hw5]
      exact ⟨rfl, ρ2, hfull, hro4.later hst5.kept.size, _, HK.out.putF (hfull.mono (by simp)) hn _ _ _ _ ⟨(d.f n).kept, (d.f n).done ++ [c]⟩ hb5
        (by rw [now_more]; exact ((HN2.out.step hst3' (by simp)).step hst4 (by simp <;> omega)).step hst5 (by simp <;> omega))
        ((HK.out.kept n hn).step hfull (by simp <;> omega)) (hl4.step hst5 (by simp <;> omega) (by simp))
        (by rw [List.map_append, HK.out.done n hn]; rfl) (HK.out.len n hn) (fitL_more (HK.out.fit n hn) hf)⟩
end Go.Proofs.Ytahmihdahgbhkaa

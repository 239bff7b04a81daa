/-
  Rows of rows of the call's own; package disk's Crash, walked.
  Conditions: as each theorem states them.
-/
import Derived.Test.YtahmihdahgbhkaaDV
namespace Go.Proofs.Ytahmihdahgbhkaa
open Go.RowKit

/-- A row of rows of bytes of the call's own; no two of them share memory. -/
structure OC (w : World) (B : Nat) (v : Value) (us : List Value) (ls : List (List UInt8)) : Prop where
  row : w.ownsRow B 37 1 v us.length us
  len : us.length = ls.length
  rows : ∀ i (h : i < us.length) (h' : i < ls.length), BR w B us[i] ls[i]
  sep : ∀ u ∈ us, ∀ k, u.ownBlock = some k → v.ownBlock ≠ some k
  pw : us.Pairwise fun a b => ∀ k, a.ownBlock = some k → b.ownBlock ≠ some k
section
variable {w w' : World} {B : Nat} {v : Value} {us : List Value} {ls : List (List UInt8)}
theorem OC.nil (w : World) (B : Nat) : OC w B (.slice none 0 0) [] [] := ⟨World.ownsRow_nil _ _ _ _, rfl, fun i h => absurd h (by simp), fun u hu => (nomatch hu), List.Pairwise.nil⟩
theorem OC.mem (h : OC w B v us ls) {u : Value} (hu : u ∈ us) : ∃ l, BR w B u l := by
  obtain ⟨i, hi, rfl⟩ := List.getElem_of_mem hu
  exact ⟨_, h.rows i hi (by rw [← h.len]; exact hi)⟩
theorem OC.kept {E : Nat → Prop} (h : OC w B v us ls) (hb : Kept E w w') (hE : ∀ k, B ≤ k → ¬ E k) : OC w' B v us ls :=
  ⟨ownsRow_blocks h.row fun k hk hlt => hb.block k hlt (hE k (World.ownsRow.lt h.row k hk).1), h.len, fun i h1 h2 => (h.rows i h1 h2).kept hb fun k hk => hE k ((h.rows i h1 h2).lt k hk).1, h.sep, h.pw⟩
theorem OC.later (h : OC w B v us ls) (hb : Below w.heap.size w w') : OC w' B v us ls :=
  ⟨ownsRow_blocks h.row fun k _ hlt => hb.block k hlt, h.len, fun i h1 h2 => (h.rows i h1 h2).later hb, h.sep, h.pw⟩
theorem OC.mono {B' : Nat} (h : OC w B v us ls) (hB : B' ≤ B) : OC w B' v us ls := ⟨ownsRow_mono h.row hB, h.len, fun i h1 h2 => (h.rows i h1 h2).mono hB, h.sep, h.pw⟩
theorem OC.slice (h : OC w B v us ls) : ∃ A c, v = .slice A ls.length c := by
  obtain ⟨A, c, hv⟩ := ownsRow_form h.row
  exact ⟨A, c, by rw [← h.len]; exact hv⟩
theorem OC.rc (h : OC w B v us ls) : RC w v ls := by
  have hc := fun g hg => World.ownsRow.cells (g := g) h.row hg
  rcases h.row.2 with ⟨rfl, hn⟩ | ⟨g, cap, cur, rfl, hg, hh, h1, h2, _⟩
  · have : ls = [] := List.eq_nil_of_length_eq_zero (by rw [← h.len]; exact hn)
    subst this
    exact RC.nil w
  · rw [h.len] at h1 ⊢
    refine ⟨_, cap, rfl, h1, h2, fun _ => ⟨g, 0, rfl, (Array.getElem?_eq_some_iff.1 hh).1, fun i hi => ?_⟩⟩
    have hi' : i < us.length := by rw [h.len]; exact hi
    have := hc g rfl i us[i] (by simp [hi'])
    rw [Addr.add_lit] at this
    exact ⟨_, this, (h.rows i hi' hi).rb⟩
end
theorem infoBs : (Try.prog.info? 37).map (fun i => (i.zero, i.size, i.bytes)) = some (some (.slice none 0 0), 1, 24) := by kernel_rfl
theorem run_append_v (w : World) (ty : TypeId) (B n : Nat) (v u : Value) (us : List Value) (ls : List (List UInt8)) (l : List UInt8) (hown : OC w B v us ls) (hu : BR w B u l) (hs : ∀ k, u.ownBlock = some k → v.ownBlock ≠ some k ∧ ∀ u' ∈ us, u'.ownBlock ≠ some k)
    (hblk : w.heap[n]? = some (.cells #[u] 37 (0, 0))) (hB : B ≤ w.heap.size) (hn : us.length < 1000000) :
    ∃ v' w', (Builtin.append_ #[22, 22] ty #[v, .slice (some ⟨n, 0, none⟩) 1 1]).run Try.prog w = .ok v' w' ∧ OC w' B v' (us ++ [u]) (ls ++ [l]) ∧ w.grownBy w' v.ownBlock := by
  obtain ⟨i0, hi0, hz0, hs0, hb0⟩ := info_parts infoBs
  have h1c : u.oneCell' = true := by obtain ⟨A, c, e, _⟩ := hu.slice; rw [e]; rfl
  obtain ⟨g, cap, w', h1, h2, h3, h4, _⟩ := run_append_lies (P := Try.prog) w 22 ty B 37 i0 _ 1 24 Try.underlying22 hi0 hz0 hs0 hb0 rfl (by omega) v us.length us hown.row ⟨n, 0, none⟩ 1 1
    [u] rfl (World.news_of_block (cs := #[u]) hblk) (by simpa using h1c) (by omega) (by unfold maxLen; omega) (by omega) hB _ rfl
  refine ⟨_, w', h1, ⟨by rw [List.length_append]; exact h2, by rw [List.length_append, List.length_append, hown.len]; rfl, fun i hi hi' => ?_, fun u' hu' k hk e => ?_, ?_⟩, h3⟩
  · by_cases hlt : i < us.length
    · rw [List.getElem_append_left hlt, List.getElem_append_left (by rw [← hown.len]; exact hlt)]
      exact (hown.rows i hlt (by rw [← hown.len]; exact hlt)).blocks fun j hj hjl => h3.block j hjl (fun e => hown.sep _ (List.getElem_mem hlt) j hj e.symm)
    · have hie : i = us.length := by simp at hi; omega
      subst hie
      rw [List.getElem_append_right (Nat.le_refl _), List.getElem_append_right (by rw [hown.len]; exact Nat.le_refl _)]
      simp only [Nat.sub_self, hown.len, List.getElem_cons_zero]
      exact hu.blocks fun j hj hjl => h3.block j hjl (fun e => (hs j hj).1 e.symm)
  · have e : g = k := by simpa [Value.ownBlock] using e
    subst e
    rcases List.mem_append.1 hu' with hm | hm
    · obtain ⟨l', hb'⟩ := hown.mem hm
      rcases h4 with h4 | h4
      · exact hown.sep _ hm g hk h4
      · have := (hb'.lt g hk).2
        omega
    · have hm := List.mem_singleton.1 hm
      subst hm
      rcases h4 with h4 | h4
      · exact (hs g hk).1 h4
      · have := (hu.lt g hk).2
        omega
  · rw [List.pairwise_append]
    refine ⟨hown.pw, List.pairwise_singleton _ _, fun a ha b hb k hk e => ?_⟩
    have hb := List.mem_singleton.1 hb
    subst hb
    exact (hs k e).2 a ha hk
theorem step_append_v {ops : Array Oper} {o : Oper} {a : Act} {w : World} {K : Act → World → Prop} {Q : Exit → Act → World → Prop} {E : Prop} (s x : Operand) (B n : Nat) (v u : Value) (us : List Value) (ls : List (List UInt8)) (l : List UInt8)
    (hgd : o.guard = none) (ho : o.op = .call { callee := .builtin .append, args := #[s, x], argTypes := #[22, 22] }) (hs : a.eval s = v) (hx : a.eval x = .slice (some ⟨n, 0, none⟩) 1 1)
    (hown : OC w B v us ls) (hu : BR w B u l) (hss : ∀ k, u.ownBlock = some k → v.ownBlock ≠ some k ∧ ∀ u' ∈ us, u'.ownBlock ≠ some k) (hblk : w.heap[n]? = some (.cells #[u] 37 (0, 0))) (hB : B ≤ w.heap.size) (hn : us.length < 1000000)
    (h : ∀ v' w', OC w' B v' (us ++ [u]) (ls ++ [l]) → w.grownBy w' v.ownBlock → K (a.put o.dst v') w') :
    if Region.wanted o (yielded ops a.tmps) = true then Oper.wp Try.prog o a w K Q else E := by
  have hw : Region.wanted o (yielded ops a.tmps) = true := by simp [Region.wanted, hgd]
  obtain ⟨v', w', hr, h2, h3⟩ := run_append_v w o.type B n v u us ls l hown hu hss hblk hB hn
  rw [if_pos hw]
  unfold Oper.wp
  simp [execOp, ho, resolve, invoke, builtin, hs, hx, hr, Result.andThen]
  exact h v' w' h2 h3
theorem wpList_append_v {ops : Array Oper} {rest : List Oper} {o : Oper} {a : Act} {Q : Exit → Act → World → Prop} (w : World) (s x : Operand) (B n : Nat) (v u : Value) (us : List Value) (ls : List (List UInt8)) (l : List UInt8)
    (hgd : o.guard = none) (ho : o.op = .call { callee := .builtin .append, args := #[s, x], argTypes := #[22, 22] }) (hs : a.eval s = v) (hx : a.eval x = .slice (some ⟨n, 0, none⟩) 1 1)
    (hown : OC w B v us ls) (hu : BR w B u l) (hss : ∀ k, u.ownBlock = some k → v.ownBlock ≠ some k ∧ ∀ u' ∈ us, u'.ownBlock ≠ some k) (hblk : w.heap[n]? = some (.cells #[u] 37 (0, 0))) (hB : B ≤ w.heap.size) (hn : us.length < 1000000)
    (h : ∀ v' w', OC w' B v' (us ++ [u]) (ls ++ [l]) → w.grownBy w' v.ownBlock → wpList Try.prog ops Q rest (a.put o.dst v') w') : wpList Try.prog ops Q (o :: rest) a w := by
  refine wpList_plain hgd fun K hK => ?_
  obtain ⟨v', w', hr, h2, h3⟩ := run_append_v w o.type B n v u us ls l hown hu hss hblk hB hn
  unfold Oper.wp execOp
  simp only [ho, resolve, invoke, builtin, Sem.run_bind, Sem.run_pure, Result.andThen_ok, List.map_toArray, List.map_cons, List.map_nil, hs, hx, hr]
  exact hK _ _ (h v' w' h2 h3)
/-- What a crash leaves of the first files, and how many picks it took. -/
def crashN (d : Dk) (l : List Int) : Nat → List (List UInt8) × Nat
  | 0 => ([], 0)
  | n + 1 => ((crashN d l n).1 ++ [(crashF (d.f n) (l.drop (crashN d l n).2)).1], (crashN d l n).2 + (crashF (d.f n) (l.drop (crashN d l n).2)).2)
theorem crashN_3 (d : Dk) (l : List Int) : (crashN d l 3).1 = crashD d l := by
  simp [crashN, crashD]
theorem crashN_len (d : Dk) (l : List Int) (n : Nat) : (crashN d l n).1.length = n := by
  induction n with
  | zero => rfl
  | succ n ih => simp [crashN, ih]

/-- So many files found. -/
def CRI (B q : Nat) (d : Dk) (l : List Int) (S : Nat → Prop) (W0 : World) (i : Nat) (v : Value) (wr : World) : Prop := (∃ us, OC wr B v us (crashN d l i).1) ∧ CHo wr q (l.drop (crashN d l i).2) S ∧ Kept (· = q) W0 wr
set_option maxHeartbeats 8000000 in
set_option maxRecDepth 100000 in
theorem Crash_any' (w : World) (ρ : Ro) (B p : Nat) (x : DkV) (d : Dk) (h : KAt w ρ B p x d) (hr : RoOk ρ B w) (_hB : B ≤ w.heap.size) (l : List Int) (pv : Value) (hpv : IA w pv l) (hl : ∀ m, (d.f m).done.length < 1000000) (hpp : l ≠ [] → ∀ k, pv.ownBlock = some k → k ≠ p) :
    Calls Try.prog 28 #[.pointer (some ⟨p, 0, none⟩), pv] w fun e w' => ∃ u, e = .returned u ∧ (∃ us, OC w' (w.heap.size + 1) u us (crashD d l)) ∧ OpK SK w ρ B p ⟨d.f, none⟩ w' := by
  obtain ⟨pA, pc, rfl, hplc, hpcm⟩ := hpv.slice
  have c9 := h.cOff
  have z9 := h.blk.fz 9
  have hbl := h.lt
  have hb1 := set_off w p x true h.blk
  have hst1 : Step [2] ρ ρ w (w.setCell ⟨p, 9, none⟩ (.bool true)) := Step.refl.setCell ⟨p, 9, none⟩ (.inr (by rw [show ρ p = 2 from h.ro]; simp)) _
  have hk1 : KAt (w.setCell ⟨p, 9, none⟩ (.bool true)) ρ B p { x with off := true } ⟨d.f, none⟩ := h.power (q := none) hb1 hst1 rfl h.calls0 h.calls1
  have hws : (w.setCell ⟨p, 9, none⟩ (.bool true)).heap.size = w.heap.size := by simp [World.setCell]
  have hq0 : ρ w.heap.size = 0 := Classical.byContradiction fun e => Nat.lt_irrefl _ (hr _ e).2
  obtain ⟨W0, hW0⟩ : ∃ W0, (w.setCell ⟨p, 9, none⟩ (.bool true)).alloc (.cells #[.slice pA l.length pc] 87) = W0 := ⟨_, rfl⟩
  have hk0 : KAt W0 ρ B p { x with off := true } ⟨d.f, none⟩ := by rw [← hW0]; exact hk1.step ((Step.refl (S := [])).alloc _) (by simp)
  have hw0s : W0.heap.size = w.heap.size + 1 := by rw [← hW0]; simp [hws]
  have HST := Lib.hid (show Step [2] ρ ρ w W0 by rw [← hW0]; exact hst1.alloc _)
  have HC0 := Lib.hid (show CHo W0 w.heap.size l (fun k => (Value.slice pA l.length pc).ownBlock = some k ∧ k < w.heap.size) from
    ⟨.slice pA l.length pc, by
      rw [← hW0]
      have := Blk.new (w.setCell ⟨p, 9, none⟩ (.bool true)) #[.slice pA l.length pc] 87
      rwa [hws] at this,
     hpv.heap (by omega) (fun hne k hk hlt => by
      rw [← hW0]
      exact (Below.heap_alloc _ _ k (by rw [hws]; exact hlt)).trans (Below.heap_setCell _ _ _ _ (fun e => hpp hne k hk e))),
     fun hne k hk => ⟨hk, by
      obtain ⟨A', c', hv, _, _, h3⟩ := hpv
      obtain ⟨b, o, hA, hlt, _⟩ := h3 hne
      injection hv with e1
      rw [e1, hA] at hk
      have : b = k := by simpa [Value.ownBlock] using hk
      omega⟩⟩)
  have HK0 := Lib.hid hk0
  have HR := Lib.hid hr
  clear h hb1 hst1 hk1 hk0 hpv
  go_enter Try.func28, Try.ntmps28
  go_wp2_with fail
  clear hW0 c9 z9
  go_loopw [6, 13] (fun fv iv wr => ∃ i : Nat, iv = .int .i64 i ∧ i ≤ 3 ∧ CRI (w.heap.size + 1) w.heap.size d l (fun k => (Value.slice pA l.length pc).ownBlock = some k ∧ k < w.heap.size) W0 i fv wr) (fun _ iv _ => 3 - (intOf iv).toNat)
  case atStart => exact ⟨0, rfl, Nat.zero_le _, ⟨_, OC.nil _ _⟩, HC0.out, Kept.refl⟩
  case round =>
    obtain ⟨i, rfl, hil, ⟨us, hoc⟩, hch, hke⟩ := hrel
    have HOC := Lib.hid hoc
    have HCH := Lib.hid hch
    have HKE := Lib.hid hke
    have hsz := hke.size
    have hkr := HK0.out.step (S := [0]) ⟨hke.mono fun k _ (e : k = w.heap.size) => by rw [e, hq0]; simp, fun _ _ => rfl⟩ (by simp <;> omega)
    have hblr := hkr.lt
    by_cases hlt : i < 3
    · have hlti : (i : Int) < 3 := by omega
      have HF := Lib.hid (found_any wr ρ B p i w.heap.size { x with off := true } ⟨d.f, none⟩ hkr (by omega) hq0 _ _ hch (fun e => Nat.lt_irrefl _ e.2) (fun k e => by omega) (hl i))
      have HLN := Lib.hid (crashN_len d l i)
      have HUL := Lib.hid hoc.len
      obtain ⟨fA, fc, hfv⟩ := hoc.slice
      rw [HLN.out] at hfv
      subst hfv
      clear hoc hch hke hkr
      go_wp2_with fail
      refine Calls.mono HF.out ?_
      rintro e w1 ⟨u, rfl, hu, hk1, hc1⟩
      have HU := Lib.hid hu
      have HC1 := Lib.hid hc1
      have HK1 := Lib.hid (HKE.out.trans hk1)
      have hoc1 := HOC.out.kept hk1 (fun k hk (e : k = w.heap.size) => by omega)
      have hss : ∀ k, u.ownBlock = some k → (Value.slice fA i fc).ownBlock ≠ some k ∧ ∀ u' ∈ us, u'.ownBlock ≠ some k := fun k hk => by
        have h5 := hu.lt k hk
        refine ⟨fun e => ?_, fun u' hu' e => ?_⟩
        · have := World.ownsRow.lt HOC.out.row k e
          omega
        · obtain ⟨l', hl'⟩ := HOC.out.mem hu'
          have := hl'.lt k e
          omega
      have hs1 := hk1.size
      obtain ⟨uA, uc, rfl, _, _⟩ := hu.slice
      have HOA := Lib.hid (show OC (w1.alloc (.cells #[.slice uA (crashF (d.f i) (l.drop (crashN d l i).2)).1.length uc] 37)) (w.heap.size + 1) _ us _ from hoc1.kept (E := fun _ => False) (Kept.refl.alloc _) (fun _ _ h => h))
      have HUA := Lib.hid (show BR (w1.alloc (.cells #[.slice uA (crashF (d.f i) (l.drop (crashN d l i).2)).1.length uc] 37)) (w.heap.size + 1) (.slice uA (crashF (d.f i) (l.drop (crashN d l i).2)).1.length uc) (crashF (d.f i) (l.drop (crashN d l i).2)).1 from (hu.alloc _).mono (by omega))
      have HBK := Lib.hid (heap_alloc_new w1 (.cells #[.slice uA (crashF (d.f i) (l.drop (crashN d l i).2)).1.length uc] 37))
      have HSS := Lib.hid hss
      clear hu hk1 hc1 hoc1 hss
      go_wp2_with (at_builtin; refine wpList_append_v _ _ _ (w.heap.size + 1) w1.heap.size (.slice fA i fc) (.slice uA (crashF (d.f i) (l.drop (crashN d l i).2)).1.length uc) us (crashN d l i).1 (crashF (d.f i) (l.drop (crashN d l i).2)).1 rfl rfl rfl rfl HOA.out HUA.out HSS.out HBK.out (by simp; omega) (by have := HUL.out; have := HLN.out; omega) ?_)
      intro v2 w2 hoc2 hg2
      have HOC2 := Lib.hid hoc2
      have hkk : Kept (fun k => w.heap.size + 1 ≤ k) w1 w2 := (Kept.refl.alloc _).grown hg2 fun k hk => .inr (by
        have := (World.ownsRow.lt HOA.out.row k hk).1
        omega)
      have HC2 := Lib.hid (HC1.out.kept hkk (fun k hk => by omega) (by omega))
      have HK2 := Lib.hid (show Kept (· = w.heap.size) W0 w2 from ⟨hkk.os.trans HK1.out.os, hkk.tape.trans HK1.out.tape, hkk.output.trans HK1.out.output, Nat.le_trans HK1.out.size hkk.size, fun k hk hn => by
        have hs := HK1.out.size
        refine Eq.trans ?_ (HK1.out.block k hk hn)
        exact hkk.block k (by omega) (by omega)⟩)
      clear hoc2 hg2 hkk
      go_wp2_with fail
      refine ⟨⟨i + 1, by go_num, by omega, ⟨_, HOC2.out⟩, ?_, HK2.out⟩, by simp [intOf]; omega⟩
      have := HC2.out
      rw [List.drop_drop] at this
      exact this
    · have hlti : ¬ ((i : Int) < 3) := by omega
      obtain rfl : i = 3 := by omega
      have h3 := crashN_3 d l
      rw [h3] at HOC
      have HKR := Lib.hid hkr
      clear hoc hch hke hkr
      go_wp2_with fail
      go_ret
      refine ⟨_, rfl, ⟨us, HOC.out⟩, ρ, ⟨⟨HKE.out.os.trans HST.out.kept.os, HKE.out.tape.trans HST.out.kept.tape, HKE.out.output.trans HST.out.kept.output, Nat.le_trans HST.out.kept.size hsz, fun k hk hn => ?_⟩, fun _ _ => rfl⟩, HR.out.later (Nat.le_trans HST.out.kept.size hsz), _, HKR.out⟩
      refine (HKE.out.block k (by omega) (by show ¬ (k = w.heap.size); omega)).trans (HST.out.kept.block k hk fun e => hn ?_)
      have e : ρ k = 2 := by simpa using e
      rw [e]
      exact SK_mem (by omega) (by omega)
theorem Crash_any (w : World) (ρ : Ro) (B p : Nat) (x : DkV) (d : Dk) (h : KAt w ρ B p x d) (hr : RoOk ρ B w) (hB : B ≤ w.heap.size) (l : List Int) (pv : Value) (hpv : IA w pv l) (hl : ∀ m, (d.f m).done.length < 1000000) (hpp : ∀ k, pv.ownBlock = some k → k ≠ p) :
    Calls Try.prog 28 #[.pointer (some ⟨p, 0, none⟩), pv] w fun e w' => ∃ u, e = .returned u ∧ (∃ us, OC w' (w.heap.size + 1) u us (crashD d l)) ∧ OpK SK w ρ B p ⟨d.f, none⟩ w' :=
  Crash_any' w ρ B p x d h hr hB l pv hpv hl fun _ => hpp
end Go.Proofs.Ytahmihdahgbhkaa

/-
  Package disk's applied: changes made one behind the other in a row of bytes of the call's own, walked.
  Conditions: as each theorem states them.
-/
import Derived.Test.YtahmihdahgbhkaaDE
namespace Go.Proofs.Ytahmihdahgbhkaa
open Go.RowKit

/-- The cells of changes with their texts. -/
def chC (p : Ch × Value) : List Value := [.bool p.1.b.isNone, .int .i64 (p.1.n : Int), p.2]
def chsC : List (Ch × Value) → List Value
  | [] => []
  | p :: r => chC p ++ chsC r
theorem chsC_append : ∀ (a b : List (Ch × Value)), chsC (a ++ b) = chsC a ++ chsC b
  | [], _ => rfl
  | g :: r, b => by simp only [List.cons_append, chsC, chsC_append r b, List.append_assoc]
theorem chsC_len : ∀ l : List (Ch × Value), (chsC l).length = l.length * 3
  | [] => rfl
  | g :: r => by simp only [chsC, List.length_append, chsC_len r, chC, List.length_cons, List.length_nil]; omega
theorem chsC_at : ∀ (l : List (Ch × Value)) (i : Nat) (hi : i < l.length) (j : Nat), j < 3 → (chsC l)[i * 3 + j]? = (chC l[i])[j]?
  | g :: r, 0, _, j, hj => by
    simp only [chsC, Nat.zero_mul, Nat.zero_add, List.getElem_cons_zero]
    rw [List.getElem?_append_left (by simp [chC]; omega)]
  | g :: r, i + 1, hi, j, hj => by
    simp only [chsC, List.getElem_cons_succ]
    rw [List.getElem?_append_right (by simp [chC]; omega), ← chsC_at r i (by simpa using hi) j hj]
    congr 1
    simp [chC]
    omega
theorem chsC_take (l : List (Ch × Value)) (i : Nat) : (chsC l).take (i * 3) = chsC (l.take i) := by
  by_cases h : i ≤ l.length
  · have e : chsC l = chsC (l.take i) ++ chsC (l.drop i) := by rw [← chsC_append, List.take_append_drop]
    rw [e]
    exact List.take_left' (by rw [chsC_len, List.length_take]; omega)
  · rw [List.take_of_length_le (by rw [chsC_len]; omega), List.take_of_length_le (by omega)]
/-- A change's text, if it has one, lies in memory. -/
def TX (w : World) (p : Ch × Value) : Prop := (p.1.b = none → p.2 = .slice none 0 0) ∧ ∀ b, p.1.b = some b → BR w 0 p.2 b ∧ b.length ≤ 4194304
theorem TX.slice {w : World} {p : Ch × Value} (h : TX w p) : ∃ A n c, p.2 = .slice A n c := by
  cases hb : p.1.b with
  | none => exact ⟨none, 0, 0, h.1 hb⟩
  | some b => obtain ⟨A, c, hv, _⟩ := (h.2 b hb).1.slice; exact ⟨A, _, c, hv⟩
theorem TX.lt {w : World} {p : Ch × Value} (h : TX w p) {k : Nat} (hk : p.2.ownBlock = some k) : k < w.heap.size := by
  cases hb : p.1.b with
  | none => rw [h.1 hb] at hk; cases hk
  | some b => exact ((h.2 b hb).1.lt k hk).2
theorem TX.heap {w w' : World} {p : Ch × Value} (h : TX w p) (hk : ∀ k, p.2.ownBlock = some k → k < w.heap.size → w'.heap[k]? = w.heap[k]?) : TX w' p := ⟨h.1, fun b hb => ⟨(h.2 b hb).1.blocks hk, (h.2 b hb).2⟩⟩
/-- Changes that can be read. -/
def CL (w : World) (v : Value) (cs : List (Ch × Value)) : Prop :=
  (∃ A c, v = .slice A cs.length c ∧ cs.length ≤ c ∧ c ≤ maxLen ∧ (cs ≠ [] → ∃ b o, A = some ⟨b, o, none⟩ ∧ b < w.heap.size ∧ ∀ j u, (chsC cs)[j]? = some u → w.cell? ⟨b, o + j, none⟩ = some u)) ∧ ∀ p ∈ cs, TX w p
theorem CL.slice {w : World} {v : Value} {l : List (Ch × Value)} (h : CL w v l) : ∃ A c, v = .slice A l.length c ∧ l.length ≤ c ∧ c < 9223372036854775808 := by
  obtain ⟨⟨A, c, hv, h1, h2, _⟩, _⟩ := h
  exact ⟨A, c, hv, h1, by unfold maxLen at h2; omega⟩
theorem CL.heap {w w' : World} {v : Value} {l : List (Ch × Value)} (h : CL w v l) (hs : w.heap.size ≤ w'.heap.size) (hk : ∀ k, v.ownBlock = some k → k < w.heap.size → w'.heap[k]? = w.heap[k]?)
    (ht : ∀ p ∈ l, ∀ k, p.2.ownBlock = some k → k < w.heap.size → w'.heap[k]? = w.heap[k]?) : CL w' v l := by
  obtain ⟨⟨A, c, rfl, h1, h2, h3⟩, h4⟩ := h
  refine ⟨⟨A, c, rfl, h1, h2, fun hne => ?_⟩, fun p hp => (h4 p hp).heap (ht p hp)⟩
  obtain ⟨b, o, hA, hlt, hc⟩ := h3 hne
  subst hA
  exact ⟨b, o, rfl, Nat.lt_of_lt_of_le hlt hs, fun j u hu => (World.cell?_of_block (a := ⟨b, o + j, none⟩) (hk b rfl hlt)).trans (hc j u hu)⟩
theorem CL.at {w : World} {A : Option Addr} {c n : Nat} {l : List (Ch × Value)} (h : CL w (.slice A n c) l) {i : Nat} (hi : i < l.length) :
    ∃ (b o : Nat), A = some ⟨b, o, none⟩ ∧ b < w.heap.size ∧ w.cell? ⟨b, o + i * 3, none⟩ = some (.bool (l[i]).1.b.isNone) ∧ w.cell? ⟨b, o + i * 3 + 1, none⟩ = some (.int .i64 ((l[i]).1.n : Int)) ∧ w.cell? ⟨b, o + i * 3 + 2, none⟩ = some (l[i]).2 := by
  obtain ⟨⟨A', c', hv, _, _, h3⟩, _⟩ := h
  obtain ⟨b, o, hA, hlt, hc⟩ := h3 (fun e => by rw [e] at hi; simp at hi)
  injection hv with h1 h2 h3
  subst h1
  have g : ∀ j u, j < 3 → (chC l[i])[j]? = some u → w.cell? ⟨b, o + i * 3 + j, none⟩ = some u := fun j u hj hu => by
    rw [Nat.add_assoc]
    exact hc _ u ((chsC_at l i hi j hj).trans hu)
  exact ⟨b, o, hA, hlt, g 0 _ (by omega) rfl, g 1 _ (by omega) rfl, g 2 _ (by omega) rfl⟩
/-- A change made, whichever. -/
theorem madeIn_any (p : Ch × Value) (v : Value) (l : List UInt8) (B : Nat) (w : World) (hv : BR w B v l) (hf : fitC l p.1) (ht : TX w p) (hne : ∀ k, v.ownBlock = some k → p.2.ownBlock ≠ some k) (hB : B ≤ w.heap.size) (h1 : l.length ≤ 10000000) :
    Calls Try.prog 63 #[chA p.1 p.2, v] w fun e w' => ∃ u, e = .returned u ∧ BR w' B u (doC l p.1) ∧ w.grownBy w' v.ownBlock ∧ (∀ k, u.ownBlock = some k → v.ownBlock = some k ∨ w.heap.size ≤ k) := by
  obtain ⟨⟨n, b⟩, t⟩ := p
  cases b with
  | none => exact (madeIn_cut n t v l B w hv hf.1).mono fun e w' ⟨u, h1, h2, h3, h4⟩ => ⟨u, h1, h2, h3, fun k hk => .inl (h4 k hk)⟩
  | some b => exact madeIn_write n b t v l B 0 w hv hf.1 (ht.2 b rfl).1 hne hB h1 (by have := (ht.2 b rfl).2; omega)

set_option maxHeartbeats 2000000 in
set_option maxRecDepth 100000 in
theorem applied_any (cs : List (Ch × Value)) (cv v : Value) (l : List UInt8) (B : Nat) (w : World) (hv : BR w B v l) (hc : CL w cv cs) (hB : B ≤ w.heap.size)
    (hf : fitL l (cs.map Prod.fst)) (hl : l.length ≤ 4194304) (h1 : ∀ k, v.ownBlock = some k → cv.ownBlock ≠ some k) (h2 : ∀ k, v.ownBlock = some k → ∀ p ∈ cs, p.2.ownBlock ≠ some k) :
    Calls Try.prog 62 #[v, cv] w fun e w' => ∃ u, e = .returned u ∧ BR w' B u ((cs.map Prod.fst).foldl doC l) ∧ w.grownBy w' v.ownBlock ∧ (∀ k, u.ownBlock = some k → v.ownBlock = some k ∨ w.heap.size ≤ k) := by
  obtain ⟨A, c, rfl, hlc, hcm⟩ := hc.slice
  have HC := Lib.hid hc
  have HV := Lib.hid hv
  go_enter Try.func62, Try.ntmps62
  go_wp2_with fail
  have HF := Lib.hid hf
  have HFT := Lib.hid (show cs.take cs.length = cs from List.take_length)
  clear hc hv hf
  go_loopw [0, 9] (fun u iv wr => ∃ i : Nat, iv = .int .i64 i ∧ i ≤ cs.length ∧ BR wr B u (((cs.take i).map Prod.fst).foldl doC l) ∧ w.grownBy wr v.ownBlock ∧ (∀ k, u.ownBlock = some k → v.ownBlock = some k ∨ w.heap.size ≤ k)) (fun _ iv _ => cs.length - (intOf iv).toNat)
  case atStart => exact ⟨0, rfl, Nat.zero_le _, HV.out, ⟨rfl, rfl, rfl, Nat.le_refl _, fun _ _ _ => rfl⟩, fun k hk => .inl hk⟩
  case round =>
    obtain ⟨i, rfl, hil, hrow, hg, hu⟩ := hrel
    have HR := Lib.hid hrow
    have HG := Lib.hid hg
    have HU := Lib.hid hu
    have hsz := hg.size
    clear hrow hg hu
    by_cases hlt : i < cs.length
    · have hlti : (i : Int) < (cs.length : Int) := by omega
      obtain ⟨b, o, rfl, hbl, c0, c1, c2⟩ := (HC.out.heap HG.out.size (fun k hk hl => HG.out.block k hl (fun e => h1 k e.symm hk)) (fun p hp k hk hl => HG.out.block k hl (fun e => h2 k e.symm p hp hk))).at (i := i) hlt
      have HTX := Lib.hid ((HC.out.heap HG.out.size (fun k hk hl => HG.out.block k hl (fun e => h1 k e.symm hk)) (fun p hp k hk hl => HG.out.block k hl (fun e => h2 k e.symm p hp hk))).2 _ (List.getElem_mem hlt))
      have HNE := Lib.hid (show ∀ k, u0.ownBlock = some k → (cs[i]).2.ownBlock ≠ some k from fun k hk e => by
        rcases HU.out k hk with h | h
        · exact h2 k h _ (List.getElem_mem hlt) e
        · have := (HC.out.2 _ (List.getElem_mem hlt)).lt e
          omega)
      obtain ⟨TA, tn, tc, htv⟩ := HTX.out.slice
      have HTS := Lib.hid (show ((cs.take (i + 1)).map Prod.fst).foldl doC l = doC (((cs.take i).map Prod.fst).foldl doC l) (cs[i]).1 by rw [List.take_add_one, List.getElem?_eq_getElem hlt, List.map_append, List.foldl_append]; rfl)
      have HFI := Lib.hid (show fitC (((cs.take i).map Prod.fst).foldl doC l) (cs[i]).1 by have := fitL_at HF.out i (by simpa using hlt); rwa [← List.map_take, List.getElem_map] at this)
      have HLI := Lib.hid (show (((cs.take i).map Prod.fst).foldl doC l).length ≤ 4194304 by have := fitL_len hl HF.out i; rwa [← List.map_take] at this)
      generalize ((cs.take i).map Prod.fst).foldl doC l = li at *
      generalize hp : cs[i] = p at *
      obtain ⟨pc, pt⟩ := p
      simp only at htv
      subst htv
      have HA := Lib.hid (show w.grownBy (wr.alloc (.cells #[.bool pc.b.isNone, .int .i64 (pc.n : Int), .slice TA tn tc] 98)) v.ownBlock from ⟨HG.out.os, HG.out.tape, HG.out.output, by simp; omega, fun k hk hn => (Below.heap_alloc wr _ k (by omega)).trans (HG.out.block k hk hn)⟩)
      have HM := Lib.hid (madeIn_any (pc, .slice TA tn tc) u0 li B (wr.alloc (.cells #[.bool pc.b.isNone, .int .i64 (pc.n : Int), .slice TA tn tc] 98)) (HR.out.alloc _) HFI.out (HTX.out.heap fun k _ hk => Below.heap_alloc wr _ k hk) HNE.out (by simp; omega) (by have := HLI.out; omega))
      clear HR HFI HTX HNE HLI HG
      go_wp2_with fail
      refine Calls.mono HM.out ?_
      rintro e w2 ⟨u2, rfl, hr2, hg2, hu2⟩
      have HR2 := Lib.hid hr2
      have HU2 := Lib.hid (show ∀ k, u2.ownBlock = some k → v.ownBlock = some k ∨ w.heap.size ≤ k from fun k hk => (hu2 k hk).elim (fun h => HU.out k h) (fun h => .inr (by simp at h; omega)))
      have HG2 := Lib.hid (show w.grownBy w2 v.ownBlock from ⟨hg2.os.trans HA.out.os, hg2.tape.trans HA.out.tape, hg2.output.trans HA.out.output, Nat.le_trans HA.out.size hg2.size, fun k hk hn => (hg2.block k (Nat.lt_of_lt_of_le hk HA.out.size) (fun e => (HU.out k e.symm).elim (fun h => hn h.symm) (fun h => by omega))).trans (HA.out.block k hk hn)⟩)
      clear hr2 hg2 hu2
      go_wp2_with fail
      refine ⟨⟨i + 1, by go_num, by omega, ?_, HG2.out, HU2.out⟩, by simp [intOf]; omega⟩
      rw [HTS.out]
      exact HR2.out
    · have hlti : ¬ ((i : Int) < (cs.length : Int)) := by omega
      obtain rfl : i = cs.length := by omega
      rw [HFT.out] at HR
      go_wp2_with fail
      go_ret
      exact ⟨_, rfl, HR.out, HG.out, HU.out⟩
end Go.Proofs.Ytahmihdahgbhkaa

/-
  Rows of numbers of the call's own; the page's copies and comparisons of lists, walked.
  Conditions: as each theorem states them.
-/
import Derived.Test.YtahmihdahgbhkaaDX
import Derived.Laws.OwnMore
import Derived.Deep.AppendLies
namespace Go.Proofs.Ytahmihdahgbhkaa
open Go.RowKit

def intsOf (l : List Int) : List Value := l.map fun a => Value.int .i64 a
/-- A row of numbers of the call's own. -/
def IRow (w : World) (B : Nat) (v : Value) (l : List Int) : Prop := w.ownsRow B 3 1 v l.length (intsOf l)
theorem infoI : (Try.prog.info? 3).map (fun i => (i.zero, i.size, i.bytes)) = some (some (.int .i64 0), 1, 8) := by kernel_rfl
theorem run_append_i (w : World) (ty : TypeId) (B n : Nat) (lv : Value) (l : List Int) (a : Int) (hown : IRow w B lv l)
    (hblk : w.heap[n]? = some (.cells #[.int .i64 a] 3 (0, 0))) (hB : B ≤ w.heap.size) (hn : l.length < 1000000) :
    ∃ g cap w', (Builtin.append_ #[38, 38] ty #[lv, .slice (some ⟨n, 0, none⟩) 1 1]).run Try.prog w = .ok (.slice (some ⟨g, 0, none⟩) (l.length + 1) cap) w' ∧
      IRow w' B (.slice (some ⟨g, 0, none⟩) (l.length + 1) cap) (l ++ [a]) ∧ w.grownBy w' lv.ownBlock := by
  obtain ⟨i0, hi0, hz0, hs0, hb0⟩ := info_parts infoI
  obtain ⟨g, cap, w', h1, h2, h3, _, _⟩ := run_append_lies (P := Try.prog) w 38 ty B 3 i0 _ 1 8 Try.underlying38 hi0 hz0 hs0 hb0 rfl (by omega) lv l.length (intsOf l) hown ⟨n, 0, none⟩ 1 1
    [.int .i64 a] rfl (World.news_of_block (cs := #[.int .i64 a]) hblk) (by simp [Value.oneCell']) (by omega) (by unfold maxLen; omega) (by omega) hB _ rfl
  refine ⟨g, cap, w', h1, ?_, h3⟩
  unfold IRow
  rw [show intsOf (l ++ [a]) = intsOf l ++ [.int .i64 a] from by simp [intsOf], List.length_append]
  exact h2
theorem wpList_append_i {ops : Array Oper} {rest : List Oper} {o : Oper} {a : Act} {Q : Exit → Act → World → Prop} (w : World) (s x : Operand) (B n : Nat) (lv : Value) (l : List Int) (t : Int)
    (hgd : o.guard = none) (ho : o.op = .call { callee := .builtin .append, args := #[s, x], argTypes := #[38, 38] }) (hs : a.eval s = lv) (hx : a.eval x = .slice (some ⟨n, 0, none⟩) 1 1)
    (hown : IRow w B lv l) (hblk : w.heap[n]? = some (.cells #[.int .i64 t] 3 (0, 0))) (hB : B ≤ w.heap.size) (hn : l.length < 1000000)
    (h : ∀ g cap w', IRow w' B (.slice (some ⟨g, 0, none⟩) (l.length + 1) cap) (l ++ [t]) → w.grownBy w' lv.ownBlock → wpList Try.prog ops Q rest (a.put o.dst (.slice (some ⟨g, 0, none⟩) (l.length + 1) cap)) w') : wpList Try.prog ops Q (o :: rest) a w := by
  refine wpList_plain hgd fun K hK => ?_
  obtain ⟨g, cap, w', hr, h2, h3⟩ := run_append_i w o.type B n lv l t hown hblk hB hn
  unfold Oper.wp execOp
  simp only [ho, resolve, invoke, builtin, Sem.run_bind, Sem.run_pure, Result.andThen_ok, List.map_toArray, List.map_cons, List.map_nil, hs, hx, hr]
  exact hK _ _ (h g cap w' h2 h3)
theorem irow_slice {w : World} {B : Nat} {v : Value} {l : List Int} (h : IRow w B v l) : ∃ A n c, v = .slice A n c := by
  rcases h.2 with ⟨h, h0⟩ | ⟨g, cap, cur, h, _⟩
  · exact ⟨none, 0, 0, by rw [h]⟩
  · exact ⟨_, _, cap, h⟩
theorem irow_ia {w : World} {B : Nat} {v : Value} {l : List Int} (h : IRow w B v l) : IA w v l := by
  have hh := h
  obtain ⟨h1, h2⟩ := h
  rcases h2 with ⟨hv, hn⟩ | ⟨g, cap, cur, hv, hg, hblk, r⟩
  · have h0 : l = [] := List.eq_nil_of_length_eq_zero hn
    subst h0
    subst hv
    exact IA.nil w
  · obtain ⟨r1, r2, _⟩ := r
    refine ⟨_, cap, hv, r1, r2, fun hne => ⟨g, 0, rfl, (Array.getElem?_eq_some_iff.1 hblk).1, fun j hj => ?_⟩⟩
    subst hv
    have := World.ownsRow.cellAt hh j (by omega)
    rw [Nat.zero_add, this]
    simp [intsOf, hj]
theorem IA.cell2 {w : World} {A : Option Addr} {n c : Nat} {l : List Int} (h : IA w (.slice A n c) l) {i : Nat} (hi : i < l.length) : ∃ b o, A = some ⟨b, o, none⟩ ∧ w.cell? ⟨b, o + i, none⟩ = some (.int .i64 l[i]) := by
  obtain ⟨b, o, h1, _, h3⟩ := h.cell hi
  exact ⟨b, o, h1, h3⟩

set_option maxHeartbeats 2000000 in
set_option maxRecDepth 100000 in
theorem copyInts_any (l : List Int) (v : Value) (w : World) (h : IA w v l) (h2 : l.length ≤ 10000) :
    Calls Try.prog 29 #[v] w fun e w' => ∃ u, e = .returned u ∧ IRow w' w.heap.size u l ∧ Below w.heap.size w w' := by
  have HU := Lib.hid h
  obtain ⟨A, c, rfl, hll, _⟩ := h.slice
  have HT := Lib.hid (show l.take l.length = l from List.take_length)
  have H2 := Lib.hid h2
  clear h h2
  go_enter Try.func29, Try.ntmps29
  go_wp2_with fail
  go_loopw [3, 4] (fun mv iv wr => ∃ (i : Nat), iv = .int .i64 i ∧ i ≤ l.length ∧ IRow wr w.heap.size mv (l.take i) ∧ Below w.heap.size w wr) (fun _ iv _ => l.length - (intOf iv).toNat)
  case atStart => exact ⟨0, rfl, Nat.zero_le _, World.ownsRow_nil _ _ _ _, Below.refl _ _⟩
  case round =>
    obtain ⟨i, rfl, hil, hrow, hb⟩ := hrel
    have HW := Lib.hid hrow
    have HB := Lib.hid hb
    have hsz := hb.size
    obtain ⟨gA, gn, gc, rfl⟩ := irow_slice hrow
    clear hrow
    by_cases hlt : i < l.length
    · have hlti : (i : Int) < (l.length : Int) := by omega
      obtain ⟨b, o, rfl, hcell⟩ := (HU.out.later hb).cell2 hlt
      clear hb
      have HTS := Lib.hid (show l.take (i + 1) = l.take i ++ [l[i]] by rw [List.take_add_one, List.getElem?_eq_getElem hlt]; rfl)
      generalize l[i] = x at *
      have hrl : (l.take i).length < 1000000 := by rw [List.length_take]; have := H2.out; omega
      have HRW := Lib.hid (show IRow (wr.alloc (.cells #[.int .i64 x] 3)) w.heap.size (.slice gA gn gc) (l.take i) from World.ownsRow.alloc HW.out _)
      have HBK := Lib.hid (show (wr.alloc (.cells #[.int .i64 x] 3)).heap[wr.heap.size]? = some (.cells #[.int .i64 x] 3 (0, 0)) from heap_alloc_new wr _)
      generalize l.take i = rows at *
      go_wp2_with (at_builtin; refine wpList_append_i _ (.tmp 11) (.tmp 16) w.heap.size wr.heap.size (.slice gA gn gc) rows x rfl rfl rfl rfl HRW.out HBK.out (by simp; omega) hrl ?_)
      intro g cap w2 hrow2 hgrow
      have HB2 := Lib.hid (show Below w.heap.size w w2 from (HB.out.alloc (by omega) _).grown hgrow (by simp; omega) (fun k hk => (World.ownsRow.lt HRW.out k hk).1))
      have HR2 := Lib.hid hrow2
      clear hrow2 hgrow
      go_wp2_with fail
      refine ⟨⟨i + 1, by go_num, by omega, ?_, HB2.out⟩, by simp [intOf]; omega⟩
      rw [HTS.out]
      exact HR2.out
    · have hlti : ¬ ((i : Int) < (l.length : Int)) := by omega
      obtain rfl : i = l.length := by omega
      rw [HT.out] at HW
      clear hb
      go_wp2_with fail
      go_ret
      exact ⟨_, rfl, HW.out, HB.out⟩

set_option maxHeartbeats 2000000 in
set_option maxRecDepth 100000 in
theorem copyCells_any (ls : List (List UInt8)) (v : Value) (w : World) (h : RC w v ls) (h1 : ls.length ≤ 10000) (h2 : ∀ l ∈ ls, l.length ≤ 10000000) :
    Calls Try.prog 10 #[v] w fun e w' => ∃ u, e = .returned u ∧ (∃ us, OC w' w.heap.size u us ls) ∧ Below w.heap.size w w' := by
  have HU := Lib.hid h
  obtain ⟨A, c, rfl, hll, _⟩ := h.slice
  have HT := Lib.hid (show ls.take ls.length = ls from List.take_length)
  have H1 := Lib.hid h1
  have H2 := Lib.hid h2
  clear h h1 h2
  go_enter Try.func10, Try.ntmps10
  go_wp2_with fail
  go_loopw [3, 4] (fun mv iv wr => ∃ (i : Nat), iv = .int .i64 i ∧ i ≤ ls.length ∧ (∃ us, OC wr w.heap.size mv us (ls.take i)) ∧ Below w.heap.size w wr) (fun _ iv _ => ls.length - (intOf iv).toNat)
  case atStart => exact ⟨0, rfl, Nat.zero_le _, ⟨[], OC.nil _ _⟩, Below.refl _ _⟩
  case round =>
    obtain ⟨i, rfl, hil, ⟨us, hoc⟩, hb⟩ := hrel
    have HW := Lib.hid hoc
    have HB := Lib.hid hb
    have hsz := hb.size
    obtain ⟨gA, gc, rfl⟩ := hoc.slice
    clear hoc
    by_cases hlt : i < ls.length
    · have hlti : (i : Int) < (ls.length : Int) := by omega
      have hi0 : (0 : Int) ≤ (i : Int) := by omega
      obtain ⟨b, o, u, rfl, hbl, hcell, hrb⟩ := (HU.out.later hb).at hlt
      clear hb
      have HTS := Lib.hid (show ls.take (i + 1) = ls.take i ++ [ls[i]] by rw [List.take_add_one, List.getElem?_eq_getElem hlt]; rfl)
      have HCB := Lib.hid (copyBytes_any _ u wr hrb (H2.out _ (List.getElem_mem hlt)))
      obtain ⟨uA, uc, rfl, _, _⟩ := hrb.slice
      generalize ls[i] = x at *
      have hul : us.length < 1000000 := by have h3 := HW.out.len; rw [List.length_take] at h3; have := H1.out; omega
      generalize ls.take i = rows at *
      clear hrb
      go_wp2_with fail
      refine Calls.mono HCB.out ?_
      rintro e w1 ⟨u1, rfl, hu1, hb1⟩
      obtain ⟨yA, yc, rfl, _, _⟩ := hu1.slice
      have hs1 := hb1.size
      have HOA := Lib.hid (show OC (w1.alloc (.cells #[.slice yA x.length yc] 37)) w.heap.size _ us rows from (HW.out.later hb1).kept (E := fun _ => False) (Kept.refl.alloc _) (fun _ _ h => h))
      have HUA := Lib.hid (show BR (w1.alloc (.cells #[.slice yA x.length yc] 37)) w.heap.size (.slice yA x.length yc) x from (hu1.alloc _).mono (by omega))
      have HBK := Lib.hid (heap_alloc_new w1 (.cells #[.slice yA x.length yc] 37))
      have HSS := Lib.hid (show ∀ k, (Value.slice yA x.length yc).ownBlock = some k → (Value.slice gA rows.length gc).ownBlock ≠ some k ∧ ∀ u' ∈ us, u'.ownBlock ≠ some k from fun k hk => by
        have h5 := hu1.lt k hk
        refine ⟨fun e => ?_, fun u' hu' e => ?_⟩
        · have := World.ownsRow.lt HW.out.row k e
          omega
        · obtain ⟨l', hl'⟩ := HW.out.mem hu'
          have := hl'.lt k e
          omega)
      have HB1 := Lib.hid (HB.out.trans (hb1.mono hsz))
      clear hu1 hb1
      go_wp2_with (at_builtin; refine wpList_append_v _ _ _ w.heap.size w1.heap.size (.slice gA rows.length gc) (.slice yA x.length yc) us rows x rfl rfl rfl rfl HOA.out HUA.out HSS.out HBK.out (by simp; omega) hul ?_)
      intro v2 w2 hoc2 hgrow
      have HB2 := Lib.hid (show Below w.heap.size w w2 from (HB1.out.alloc (by omega) _).grown hgrow (by simp; omega) (fun k hk => (World.ownsRow.lt HOA.out.row k hk).1))
      have HR2 := Lib.hid hoc2
      clear hoc2 hgrow
      go_wp2_with fail
      refine ⟨⟨i + 1, by go_num, by omega, ?_, HB2.out⟩, by simp [intOf]; omega⟩
      rw [HTS.out]
      exact ⟨_, HR2.out⟩
    · have hlti : ¬ ((i : Int) < (ls.length : Int)) := by omega
      obtain rfl : i = ls.length := by omega
      rw [HT.out] at HW
      clear hb
      go_wp2_with fail
      go_ret
      exact ⟨_, rfl, ⟨us, HW.out⟩, HB.out⟩

set_option maxHeartbeats 2000000 in
theorem eqCells_any (ls : List (List UInt8)) (u v : Value) (w : World) (hu : RC w u ls) (hv : RC w v ls) : Calls Try.prog 31 #[u, v] w fun e w' => e = .returned (.bool true) ∧ Below w.heap.size w w' := by
  have HU := Lib.hid hu
  have HV := Lib.hid hv
  obtain ⟨A, c, rfl, hll, _⟩ := hu.slice
  obtain ⟨A2, c2, rfl, _, _⟩ := hv.slice
  clear hu hv
  go_enter Try.func31, Try.ntmps31
  go_wp2_with fail
  go_loopw [5] (fun iv wr => ∃ i : Nat, iv = .int .i64 i ∧ i ≤ ls.length ∧ Below w.heap.size w wr) (fun iv _ => ls.length - (intOf iv).toNat)
  case atStart => exact ⟨0, rfl, Nat.zero_le _, Below.refl _ _⟩
  case round =>
    obtain ⟨i, rfl, hil, hb⟩ := hrel
    have HB := Lib.hid hb
    have hsz := hb.size
    by_cases hlt : i < ls.length
    · have hlti : (i : Int) < (ls.length : Int) := by omega
      have hi0 : (0 : Int) ≤ (i : Int) := by omega
      obtain ⟨b, o, x, rfl, _, hcell, hx⟩ := (HU.out.later hb).at hlt
      obtain ⟨b2, o2, y, rfl, _, hcell2, hy⟩ := (HV.out.later hb).at hlt
      have HEQ := Lib.hid (eqBytes_any _ x y wr.drew (hx.heap (Nat.le_refl _) fun _ _ _ => rfl) (hy.heap (Nat.le_refl _) fun _ _ _ => rfl))
      have HEQ0 := Lib.hid (eqBytes_any _ x y wr hx hy)
      obtain ⟨xA, xc, rfl, _, _⟩ := hx.slice
      obtain ⟨yA, yc, rfl, _, _⟩ := hy.slice
      generalize ls[i] = z at *
      clear hb hx hy
      go_wp2_with fail
      go_region_law (go_simp; go_at_call 20; refine (HEQ.out).mono ?_; rintro e w2 ⟨rfl, hb2⟩; have HB2 := Lib.hid (HB.out.trans ((show Below wr.drew.heap.size wr w2 from ⟨hb2.os, hb2.tape, hb2.output, hb2.size, hb2.block⟩).mono hsz)); clear hb2)
      all_goals
        go_wp2_with fail
        exact ⟨⟨i + 1, by go_num, by omega, HB2.out⟩, by simp [intOf]; omega⟩
    · have hlti : ¬ ((i : Int) < (ls.length : Int)) := by omega
      obtain rfl : i = ls.length := by omega
      clear hb
      go_wp2_with fail
      go_ret
      exact ⟨rfl, HB.out⟩
end Go.Proofs.Ytahmihdahgbhkaa

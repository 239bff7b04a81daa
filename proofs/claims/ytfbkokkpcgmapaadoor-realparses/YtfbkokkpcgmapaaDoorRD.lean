/-
  Rows of floats that a call has made by itself, one float appended; the floats at their ends, and any floats behind them: the statements' own functions edges and all, walked; bounds of floats.
  Conditions: as each theorem states them: a word is below 2 to the 64.
-/
import Derived.Test.YtfbkokkpcgmapaaDoorRC
import Derived.Laws.OwnMore
import Derived.Deep.AppendLies
import Derived.BigQuiet
import Derived.Deep.QuietTactic
import Derived.WalkSmall
import Derived.Below
import Derived.Deep.CutRange
import Derived.Deep.DeepCutAuto
namespace Go.Proofs.YtfbkokkpcgmapaaDoor
open Go.RowKit

/-- The cells of a row of floats. -/
def flsOf (l : List Nat) : List Value := l.map fun a => Value.float .f64 a
/-- A row of floats of the call's own. -/
def FRow (w : World) (B : Nat) (v : Value) (l : List Nat) : Prop := w.ownsRow B 26 1 v l.length (flsOf l)
theorem FRow.blocks {w w' : World} {B : Nat} {v : Value} {l : List Nat} (h : FRow w B v l) (hk : ∀ (j : Nat) (o : Obj), B ≤ j → w.heap[j]? = some o → w'.heap[j]? = some o) : FRow w' B v l := by
  obtain ⟨h1, h2⟩ := h
  refine ⟨h1, ?_⟩
  rcases h2 with h2 | ⟨g, cap, cur, hv, hg, hh, r⟩
  · exact .inl h2
  · exact .inr ⟨g, cap, cur, hv, hg, hk g _ hg hh, r⟩
theorem FRow.later {w w' : World} {B : Nat} {v : Value} {l : List Nat} (h : FRow w B v l) (hb : Below w.heap.size w w') : FRow w' B v l :=
  h.blocks fun j _ _ hj => (hb.block j (Array.getElem?_eq_some_iff.1 hj).1).trans hj
theorem FRow.mono {w : World} {B B' : Nat} {v : Value} {l : List Nat} (h : FRow w B v l) (hb : B' ≤ B) : FRow w B' v l := by
  obtain ⟨h1, h2⟩ := h
  refine ⟨h1, ?_⟩
  rcases h2 with h2 | ⟨g, cap, cur, hv, hg, r⟩
  · exact .inl h2
  · exact .inr ⟨g, cap, cur, hv, Nat.le_trans hb hg, r⟩
theorem infoF : (Tryd.prog.info? 26).map (fun i => (i.zero, i.size, i.bytes)) = some (some (.float .f64 0), 1, 8) := by kernel_rfl

theorem run_append_f (w : World) (ty : TypeId) (B n : Nat) (lv : Value) (l : List Nat) (a : Nat) (hown : FRow w B lv l)
    (hblk : w.heap[n]? = some (.cells #[.float .f64 a] 26 (0, 0))) (hB : B ≤ w.heap.size) (hn : l.length < 1000000) :
    ∃ g cap w', (Builtin.append_ #[23, 23] ty #[lv, .slice (some ⟨n, 0, none⟩) 1 1]).run Tryd.prog w = .ok (.slice (some ⟨g, 0, none⟩) (l.length + 1) cap) w' ∧
      FRow w' B (.slice (some ⟨g, 0, none⟩) (l.length + 1) cap) (l ++ [a]) ∧ w.grownBy w' lv.ownBlock := by
  obtain ⟨i0, hi0, hz0, hs0, hb0⟩ := info_parts infoF
  obtain ⟨g, cap, w', h1, h2, h3, _, _⟩ := run_append_lies (P := Tryd.prog) w 23 ty B 26 i0 _ 1 8 Tryd.underlying23 hi0 hz0 hs0 hb0 rfl (by omega) lv l.length (flsOf l) hown ⟨n, 0, none⟩ 1 1
    [.float .f64 a] rfl (World.news_of_block (cs := #[.float .f64 a]) hblk) (by simp [Value.oneCell']) (by omega) (by unfold maxLen; omega) (by omega) hB _ rfl
  refine ⟨g, cap, w', h1, ?_, h3⟩
  unfold FRow
  rw [show flsOf (l ++ [a]) = flsOf l ++ [.float .f64 a] from by simp [flsOf], List.length_append]
  exact h2

theorem wpList_append_f {ops : Array Oper} {rest : List Oper} {o : Oper} {a : Act} {Q : Exit → Act → World → Prop} (w : World) (s x : Operand) (B n : Nat) (lv : Value) (l : List Nat) (t : Nat)
    (hgd : o.guard = none) (ho : o.op = .call { callee := .builtin .append, args := #[s, x], argTypes := #[23, 23] }) (hs : a.eval s = lv) (hx : a.eval x = .slice (some ⟨n, 0, none⟩) 1 1)
    (hown : FRow w B lv l) (hblk : w.heap[n]? = some (.cells #[.float .f64 t] 26 (0, 0))) (hB : B ≤ w.heap.size) (hn : l.length < 1000000)
    (h : ∀ g cap w', FRow w' B (.slice (some ⟨g, 0, none⟩) (l.length + 1) cap) (l ++ [t]) → w.grownBy w' lv.ownBlock → wpList Tryd.prog ops Q rest (a.put o.dst (.slice (some ⟨g, 0, none⟩) (l.length + 1) cap)) w') : wpList Tryd.prog ops Q (o :: rest) a w := by
  refine wpList_plain hgd fun K hK => ?_
  obtain ⟨g, cap, w', hr, h2, h3⟩ := run_append_f w o.type B n lv l t hown hblk hB hn
  unfold Oper.wp execOp
  simp only [ho, resolve, invoke, builtin, Sem.run_bind, Sem.run_pure, Result.andThen_ok, List.map_toArray, List.map_cons, List.map_nil, hs, hx, hr]
  exact hK _ _ (h g cap w' h2 h3)

/-- Where the floats of a row lie. -/
theorem FRow.get {w : World} {B : Nat} {v : Value} {l : List Nat} (h : FRow w B v l) (hne : l ≠ []) : ∃ g cap, v = .slice (some ⟨g, 0, none⟩) l.length cap ∧ B ≤ g ∧ g < w.heap.size ∧ ∀ j (hj : j < l.length), w.cell? ⟨g, j, none⟩ = some (.float .f64 l[j]) := by
  have hh := h
  obtain ⟨h1, h2⟩ := h
  rcases h2 with ⟨hv, hn⟩ | ⟨g, cap, cur, hv, hg, hblk, _⟩
  · exact absurd (List.eq_nil_of_length_eq_zero hn) hne
  · refine ⟨g, cap, hv, hg, (Array.getElem?_eq_some_iff.1 hblk).1, fun j hj => ?_⟩
    subst hv
    have := World.ownsRow.cellAt hh j (by omega)
    rw [this]
    simp [flsOf, hj]
theorem frow_shape {w : World} {B : Nat} {v : Value} {l : List Nat} (h : FRow w B v l) : ∃ A c, v = .slice A l.length c := by
  rcases h.2 with ⟨h, h0⟩ | ⟨g, cap, cur, h, _⟩
  · exact ⟨none, 0, by rw [h, h0]⟩
  · exact ⟨_, cap, h⟩

theorem frow_slice {w : World} {B : Nat} {v : Value} {l : List Nat} (h : FRow w B v l) : ∃ A n c, v = .slice A n c := by
  obtain ⟨A, c, h⟩ := frow_shape h
  exact ⟨A, _, c, h⟩

theorem inf_plus (w : World) : Calls Tryd.prog 38 #[.int .i64 1] w fun e w' => e = .returned (.float .f64 9218868437227405312) ∧ w' = w := by
  have hf : ∀ w, (callFunc 42 #[.int .u64 9218868437227405312]).run Tryd.prog w = .ok (.value (.float .f64 9218868437227405312)) w := fun w => run_from 9218868437227405312 w
  go_enter Tryd.func38, Tryd.ntmps38
  go_wp2
  go_ret
  exact ⟨rfl, rfl⟩
theorem inf_minus (w : World) : Calls Tryd.prog 38 #[.int .i64 (-1)] w fun e w' => e = .returned (.float .f64 18442240474082181120) ∧ w' = w := by
  have hf : ∀ w, (callFunc 42 #[.int .u64 18442240474082181120]).run Tryd.prog w = .ok (.value (.float .f64 18442240474082181120)) w := fun w => run_from 18442240474082181120 w
  go_enter Tryd.func38, Tryd.ntmps38
  go_wp2
  go_ret
  exact ⟨rfl, rfl⟩
/-- The floats at their ends. -/
def edgeL : List Nat := [18442240474082181120, 18442240474082181119, 13830554455654793216, 9227875636482146304, 9227875636482146303, 9223372036854775809, 9223372036854775808, 0, 1, 4503599627370495, 4503599627370496, 4607182418800017408, 9218868437227405311, 9218868437227405312, 9221120237041090561]
set_option maxRecDepth 100000 in
theorem edges_any (w : World) : Calls Tryd.prog 39 #[] w fun e w' => e = .returned (.slice (some ⟨w.heap.size, 0, none⟩) 15 15) ∧ w' = w.alloc (.cells (flsOf edgeL).toArray 26) := by
  have HIp := Lib.hid (fun W => inf_plus W)
  have HIm := Lib.hid (fun W => inf_minus W)
  have HNN := Lib.hid (fun W => nan_any W)
  have hf0 : ∀ w, (callFunc 42 #[.int .u64 4503599627370496]).run Tryd.prog w = .ok (.value (.float .f64 4503599627370496)) w := fun w => run_from 4503599627370496 w
  have hf1 : ∀ w, (callFunc 42 #[.int .u64 4503599627370495]).run Tryd.prog w = .ok (.value (.float .f64 4503599627370495)) w := fun w => run_from 4503599627370495 w
  have hf2 : ∀ w, (callFunc 42 #[.int .u64 1]).run Tryd.prog w = .ok (.value (.float .f64 1)) w := fun w => run_from 1 w
  have hf3 : ∀ w, (callFunc 42 #[.int .u64 9223372036854775808]).run Tryd.prog w = .ok (.value (.float .f64 9223372036854775808)) w := fun w => run_from 9223372036854775808 w
  have hn0 : Op.unary .neg (.float .f64 4503599627370496) = pure (.float .f64 9227875636482146304) := rfl
  have hn1 : Op.unary .neg (.float .f64 4503599627370495) = pure (.float .f64 9227875636482146303) := rfl
  have hn2 : Op.unary .neg (.float .f64 1) = pure (.float .f64 9223372036854775809) := rfl
  go_enter Tryd.func39, Tryd.ntmps39
  go_wp2_with fail
  refine Calls.mono (HIm.out _) ?_
  rintro e w' ⟨rfl, rfl⟩
  go_wp2_with fail
  refine Calls.mono (HIp.out _) ?_
  rintro e w' ⟨rfl, rfl⟩
  go_wp2_with fail
  refine Calls.mono (HNN.out _) ?_
  rintro e w' ⟨rfl, rfl⟩
  go_wp2_with fail
  go_ret
  exact ⟨rfl, rfl⟩
theorem edges_row (w : World) : FRow (w.alloc (.cells (flsOf edgeL).toArray 26)) w.heap.size (.slice (some ⟨w.heap.size, 0, none⟩) 15 15) edgeL := World.ownsRow_lit w (flsOf edgeL).toArray 15 (Nat.le_refl _) (by unfold maxLen; omega) rfl

/-- A list of words in memory. -/
def UsAt (w : World) (v : Value) (l : List Nat) : Prop :=
  ∃ A c, v = .slice A l.length c ∧ l.length ≤ maxLen ∧ (∀ x ∈ l, x < 18446744073709551616) ∧ (l ≠ [] → ∃ b o, A = some ⟨b, o, none⟩ ∧ b < w.heap.size ∧ ∀ i (hi : i < l.length), w.cell? ⟨b, o + i, none⟩ = some (.int .u64 (l[i] : Int)))
theorem UsAt.cell {w : World} {A : Option Addr} {c n : Nat} {l : List Nat} (h : UsAt w (.slice A n c) l) {i : Nat} (hi : i < l.length) {B : Nat} {w' : World} (hB : B = w.heap.size) (hb : Below B w w') : ∃ b o, A = some ⟨b, o, none⟩ ∧ w'.cell? ⟨b, o + i, none⟩ = some (.int .u64 (l[i] : Int)) := by
  obtain ⟨A', c', hv, _, _, hc⟩ := h
  obtain ⟨b, o, hA, hbl, hat⟩ := hc (fun e => by rw [e] at hi; simp at hi)
  injection hv with h1 h2 h3
  subst h1
  exact ⟨b, o, hA, (hb.cell (p := ⟨b, o + i, none⟩) (by rw [hB]; exact hbl)).trans (hat i hi)⟩

/-- The floats of a call: those at their ends, and the words given, thirty at most. -/
def allL (l : List Nat) : List Nat := edgeL ++ l.take 30
theorem all_lt {l : List Nat} (h : ∀ x ∈ l, x < 18446744073709551616) : ∀ x ∈ allL l, x < 18446744073709551616 := by
  intro x hx
  rcases List.mem_append.1 hx with hx | hx
  · exact (show ∀ x ∈ edgeL, x < 18446744073709551616 by decide) x hx
  · exact h x (List.mem_of_mem_take hx)

set_option maxHeartbeats 2000000 in
set_option maxRecDepth 100000 in
theorem all_any (l : List Nat) (v : Value) (w : World) (h : UsAt w v l) :
    Calls Tryd.prog 13 #[v] w fun e w' => ∃ u, e = .returned u ∧ FRow w' w.heap.size u (allL l) ∧ Below w.heap.size w w' := by
  have HU := Lib.hid h
  obtain ⟨A, c, rfl, hlen, hlt, _⟩ := h
  have HL := Lib.hid hlt
  have HE := Lib.hid (fun W => edges_any W)
  have hll : l.length < 9223372036854775808 := by unfold maxLen at hlen; omega
  clear hlt hlen
  go_enter Tryd.func13, Tryd.ntmps13
  go_wp2_with fail
  refine Calls.mono (HE.out _) ?_
  rintro e w' ⟨rfl, rfl⟩
  have HR0 := Lib.hid (edges_row w)
  have HB0 := Lib.hid ((Below.refl w.heap.size w).alloc (Nat.le_refl _) (.cells (flsOf edgeL).toArray 26))
  generalize (w.alloc (.cells (flsOf edgeL).toArray 26)) = w0 at *
  go_wp2_with fail
  go_loopw [3, 4] (fun xv iv wr => ∃ (i : Nat), iv = .int .i64 i ∧ i ≤ l.length ∧ i ≤ 30 ∧ FRow wr w.heap.size xv (edgeL ++ l.take i) ∧ Below w.heap.size w wr) (fun _ iv _ => 31 - (intOf iv).toNat)
  case atStart => exact ⟨0, rfl, Nat.zero_le _, Nat.zero_le _, by simpa using HR0.out, HB0.out⟩
  case round =>
    obtain ⟨i, rfl, hil, hi30, hrow, hb⟩ := hrel
    have HW := Lib.hid hrow
    have HB := Lib.hid hb
    have hsz := hb.size
    obtain ⟨gA, gn, gc, rfl⟩ := frow_slice hrow
    clear hrow hb HE HR0 HB0
    by_cases hlt : i < l.length
    · have hlti : (i : Int) < (l.length : Int) := by omega
      by_cases h30 : i < 30
      · have h30i : (i : Int) < 30 := by omega
        obtain ⟨b, o, hA, hcell⟩ := HU.out.cell hlt rfl HB.out
        have hx := HL.out _ (List.getElem_mem hlt)
        have HT := Lib.hid (show l.take (i + 1) = l.take i ++ [l[i]] by rw [List.take_add_one, List.getElem?_eq_getElem hlt]; rfl)
        generalize l[i] = x at *
        subst hA
        have hf := run_from x
        have hedl : (edgeL ++ l.take i).length < 1000000 := by rw [List.length_append, show edgeL.length = 15 from rfl, List.length_take]; omega
        have HRW := Lib.hid (show FRow (wr.alloc (.cells #[.float .f64 x] 26)) w.heap.size (.slice gA gn gc) (edgeL ++ l.take i) from World.ownsRow.alloc HW.out _)
        have HBK := Lib.hid (show (wr.alloc (.cells #[.float .f64 x] 26)).heap[wr.heap.size]? = some (.cells #[.float .f64 x] 26 (0, 0)) from heap_alloc_new wr _)
        generalize hrr : edgeL ++ l.take i = rows at *
        clear HL hx
        go_wp2_with (at_builtin; refine wpList_append_f _ (.tmp 16) (.tmp 22) w.heap.size wr.heap.size (.slice gA gn gc) rows x rfl rfl rfl rfl HRW.out HBK.out (by simp; omega) hedl ?_)
        intro g cap w2 hrow2 hgrow
        have HB2 := Lib.hid (show Below w.heap.size w w2 from (HB.out.alloc (by omega) _).grown hgrow (by simp; omega) (fun k hk => (World.ownsRow.lt HRW.out k hk).1))
        have HR2 := Lib.hid hrow2
        clear hrow2 hgrow
        go_wp2_with fail
        refine ⟨⟨i + 1, by go_num, by omega, by omega, ?_, HB2.out⟩, by simp [intOf]; omega⟩
        have e : edgeL ++ l.take (i + 1) = rows ++ [x] := by rw [HT.out, ← hrr, List.append_assoc]
        rw [e]
        exact HR2.out
      · have h30i : ¬ ((i : Int) < 30) := by omega
        obtain rfl : i = 30 := by omega
        go_wp2_with fail
        go_ret
        exact ⟨_, rfl, HW.out, HB.out⟩
    · have hlti : ¬ ((i : Int) < (l.length : Int)) := by omega
      obtain rfl : i = l.length := by omega
      have HF := Lib.hid (show edgeL ++ l.take l.length = allL l by unfold allL; rw [List.take_length, List.take_of_length_le hi30])
      rw [HF.out] at HW
      go_wp2_with fail
      go_ret
      exact ⟨_, rfl, HW.out, HB.out⟩
end Go.Proofs.YtfbkokkpcgmapaaDoor

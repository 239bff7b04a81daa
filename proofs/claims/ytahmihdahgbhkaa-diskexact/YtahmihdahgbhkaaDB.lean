/-
  Bytes in memory: bytes that can be read, rows of bytes of the call's own; one row appended to another; the page's comparison and copy of bytes, bytes.Clone, walked.
  Conditions: as each theorem states them.
-/
import Derived.Test.YtahmihdahgbhkaaDA
import Derived.Laws.OwnMore
import Derived.Deep.AppendLies
import Derived.WalkSmall
namespace Go.Proofs.Ytahmihdahgbhkaa
open Go.RowKit

/-- A byte's cell, the cells of bytes. -/
def bcell (b : UInt8) : Value := .int .u8 (b.toNat : Int)
def bc (l : List UInt8) : List Value := l.map bcell
theorem bc_len (l : List UInt8) : (bc l).length = l.length := by simp [bc]
theorem bc_app (a b : List UInt8) : bc (a ++ b) = bc a ++ bc b := by simp [bc]
theorem bc_take (l : List UInt8) (k : Nat) : (bc l).take k = bc (l.take k) := by simp [bc, List.map_take]
theorem bc_drop (l : List UInt8) (k : Nat) : (bc l).drop k = bc (l.drop k) := by simp [bc, List.map_drop]
theorem bc_one (l : List UInt8) : ∀ u ∈ bc l, u.oneCell' = true := by
  intro u hu
  obtain ⟨b, _, rfl⟩ := List.mem_map.1 hu
  rfl
theorem bc_at {l : List UInt8} {i : Nat} (h : i < l.length) : (bc l)[i]? = some (bcell l[i]) := by simp [bc, h]

/-- Bytes that can be read. -/
def RB (w : World) (v : Value) (l : List UInt8) : Prop :=
  ∃ A c, v = .slice A l.length c ∧ l.length ≤ c ∧ c ≤ maxLen ∧ (l ≠ [] → ∃ b o, A = some ⟨b, o, none⟩ ∧ b < w.heap.size ∧ ∀ j u, (bc l)[j]? = some u → w.cell? ⟨b, o + j, none⟩ = some u)
theorem RB.slice {w : World} {v : Value} {l : List UInt8} (h : RB w v l) : ∃ A c, v = .slice A l.length c ∧ l.length ≤ c ∧ c < 9223372036854775808 := by
  obtain ⟨A, c, hv, h1, h2, _⟩ := h
  exact ⟨A, c, hv, h1, by unfold maxLen at h2; omega⟩
theorem RB.nil (w : World) : RB w (.slice none 0 0) [] := ⟨none, 0, rfl, Nat.le_refl _, Nat.zero_le _, fun h => absurd rfl h⟩
theorem RB.heap {w w' : World} {v : Value} {l : List UInt8} (h : RB w v l) (hs : w.heap.size ≤ w'.heap.size) (hk : ∀ k, v.ownBlock = some k → k < w.heap.size → w'.heap[k]? = w.heap[k]?) : RB w' v l := by
  obtain ⟨A, c, rfl, h1, h2, h3⟩ := h
  refine ⟨A, c, rfl, h1, h2, fun hne => ?_⟩
  obtain ⟨b, o, hA, hlt, hc⟩ := h3 hne
  subst hA
  exact ⟨b, o, rfl, Nat.lt_of_lt_of_le hlt hs, fun j u hu => (World.cell?_of_block (a := ⟨b, o + j, none⟩) (hk b rfl hlt)).trans (hc j u hu)⟩
theorem RB.later {w w' : World} {v : Value} {l : List UInt8} (h : RB w v l) (hb : Below w.heap.size w w') : RB w' v l := h.heap hb.size fun k _ hk => hb.block k hk
theorem RB.cell {w : World} {A : Option Addr} {n c : Nat} {l : List UInt8} (h : RB w (.slice A n c) l) {i : Nat} (hi : i < l.length) : ∃ b o, A = some ⟨b, o, none⟩ ∧ b < w.heap.size ∧ w.cell? ⟨b, o + i, none⟩ = some (.int .u8 (l[i].toNat : Int)) := by
  obtain ⟨A', c', hv, _, _, hc⟩ := h
  obtain ⟨b, o, hA, hlt, hat⟩ := hc (fun e => by rw [e] at hi; simp at hi)
  injection hv with h1
  subst h1
  exact ⟨b, o, hA, hlt, hat i _ (bc_at hi)⟩

/-- A row of bytes of the call's own. -/
def BR (w : World) (B : Nat) (v : Value) (l : List UInt8) : Prop := w.ownsRow B 5 1 v l.length (bc l)
section
variable {w w' : World} {B : Nat} {v : Value} {l : List UInt8}
theorem BR.blocks (h : BR w B v l) (hk : ∀ (j : Nat), v.ownBlock = some j → j < w.heap.size → w'.heap[j]? = w.heap[j]?) : BR w' B v l := by
  obtain ⟨h1, h2⟩ := h
  refine ⟨h1, ?_⟩
  rcases h2 with h2 | ⟨g, cap, cur, rfl, hg, hh, r⟩
  · exact .inl h2
  · exact .inr ⟨g, cap, cur, rfl, hg, (hk g rfl (Array.getElem?_eq_some_iff.1 hh).1).trans hh, r⟩
theorem BR.later (h : BR w B v l) (hb : Below w.heap.size w w') : BR w' B v l := h.blocks fun j _ hj => hb.block j hj
theorem BR.kept {E : Nat → Prop} (h : BR w B v l) (hb : Kept E w w') (hE : ∀ k, v.ownBlock = some k → ¬ E k) : BR w' B v l := h.blocks fun j hj hlt => hb.block j hlt (hE j hj)
theorem BR.mono {B' : Nat} (h : BR w B v l) (hb : B' ≤ B) : BR w B' v l := by
  obtain ⟨h1, h2⟩ := h
  refine ⟨h1, ?_⟩
  rcases h2 with h2 | ⟨g, cap, cur, hv, hg, r⟩
  · exact .inl h2
  · exact .inr ⟨g, cap, cur, hv, Nat.le_trans hb hg, r⟩
theorem BR.lt (h : BR w B v l) : ∀ k, v.ownBlock = some k → B ≤ k ∧ k < w.heap.size := World.ownsRow.lt h
theorem BR.form (h : BR w B v l) : (v = .slice none 0 0 ∧ l = []) ∨ ∃ g cap, v = .slice (some ⟨g, 0, none⟩) l.length cap ∧ B ≤ g ∧ g < w.heap.size ∧ l.length ≤ cap ∧ cap ≤ maxLen := by
  rcases h.2 with ⟨hv, hn⟩ | ⟨g, cap, cur, hv, hg, hh, h1, h2, _⟩
  · exact .inl ⟨hv, List.eq_nil_of_length_eq_zero hn⟩
  · exact .inr ⟨g, cap, hv, hg, (Array.getElem?_eq_some_iff.1 hh).1, h1, h2⟩
theorem BR.rb (h : BR w B v l) : RB w v l := by
  have hc := fun g hg => World.ownsRow.cells (g := g) h hg
  rcases h.form with ⟨rfl, rfl⟩ | ⟨g, cap, rfl, hg, hlt, h1, h2⟩
  · exact RB.nil w
  · refine ⟨_, cap, rfl, h1, h2, fun _ => ⟨g, 0, rfl, hlt, fun j u hu => ?_⟩⟩
    have := hc g rfl j u hu
    rwa [Addr.add_lit] at this
theorem BR.slice (h : BR w B v l) : ∃ A c, v = .slice A l.length c ∧ l.length ≤ c ∧ c < 9223372036854775808 := h.rb.slice
theorem BR.alloc (h : BR w B v l) (o : Obj) : BR (w.alloc o) B v l := World.ownsRow.alloc h o
end
theorem BR.nil (w : World) (B : Nat) : BR w B (.slice none 0 0) [] := World.ownsRow_nil w B 5 1
/-- A row cut behind its first k bytes. -/
theorem BR.cut {w : World} {B g n cap : Nat} {l : List UInt8} (h : BR w B (.slice (some ⟨g, 0, none⟩) n cap) l) {k : Nat} (hk : k ≤ l.length) : BR w B (.slice (some ⟨g, 0, none⟩) k cap) (l.take k) := by
  obtain ⟨h1, h2⟩ := h
  refine ⟨by simp [bc], ?_⟩
  rcases h2 with ⟨h2, _⟩ | ⟨g', cap', cur, hv, hg, hh, c1, c2, c3, c4⟩
  · simp at h2
  · injection hv with e1 e2 e3
    injection e1 with e1
    injection e1 with e1
    subst e1 e3
    rw [List.length_take, Nat.min_eq_left hk]
    refine .inr ⟨g, cap, cur, rfl, hg, hh, by omega, c2, c3, ?_⟩
    rw [← bc_take, ← c4, List.take_take, Nat.mul_one, Nat.mul_one, Nat.min_eq_left hk]

theorem info_parts {o : Option TypeInfo} {z : Value} {s b : Nat} (h : o.map (fun i => (i.zero, i.size, i.bytes)) = some (some z, s, b)) : ∃ i, o = some i ∧ i.zero = some z ∧ i.size = s ∧ i.bytes = b := by
  cases o with
  | none => simp at h
  | some i =>
    simp only [Option.map_some, Option.some.injEq, Prod.mk.injEq] at h
    exact ⟨i, rfl, h.1, h.2.1, h.2.2⟩
theorem infoB : (Try.prog.info? 5).map (fun i => (i.zero, i.size, i.bytes)) = some (some (.int .u8 0), 1, 1) := by kernel_rfl
/-- Bytes appended to a row of the call's own. -/
theorem run_append_b (w : World) (ty : TypeId) (B : Nat) (v x : Value) (l m : List UInt8) (hown : BR w B v l) (hx : RB w x m) (hB : B ≤ w.heap.size) (hn : l.length + m.length ≤ 100000000000000) :
    ∃ u w', (Builtin.append_ #[37, 37] ty #[v, x]).run Try.prog w = .ok u w' ∧ BR w' B u (l ++ m) ∧ w.grownBy w' v.ownBlock ∧ (∀ k, u.ownBlock = some k → v.ownBlock = some k ∨ k = w.heap.size) := by
  obtain ⟨i0, hi0, hz0, hs0, hb0⟩ := info_parts infoB
  obtain ⟨A, c, rfl, hmc, hcm, hcell⟩ := hx
  by_cases hm : m = []
  · subst hm
    refine ⟨v, w, ?_, by rw [List.append_nil]; exact hown, ⟨rfl, rfl, rfl, Nat.le_refl _, fun _ _ _ => rfl⟩, fun k hk => .inl hk⟩
    have hu : Try.prog.underlying 37 = some (.slice 5) := Try.underlying37
    rcases hown.form with ⟨rfl, _⟩ | ⟨g, cap, rfl, _, _, hlc, _⟩
    · cases A <;> simp [Builtin.append_, run_underlying hu, sizeOf, typeInfo, hi0, Builtin.lenOf, Builtin.firstCells, loadCells, loadCellsFrom]
    · cases A <;> simp [Builtin.append_, run_underlying hu, sizeOf, typeInfo, hi0, Builtin.lenOf, Builtin.firstCells, hlc, storeCells, loadCells, loadCellsFrom]
  · obtain ⟨b, o, rfl, hlt, hc⟩ := hcell hm
    have hpos : 0 < m.length := List.length_pos_iff.2 hm
    obtain ⟨g, cap, w', h1, h2, h3, h4, _⟩ := run_append_lies (P := Try.prog) w 37 ty B 5 i0 _ 1 1 Try.underlying37 hi0 hz0 hs0 hb0 rfl (by omega) v l.length (bc l) hown ⟨b, o, none⟩ m.length c
      (bc m) (by simp [bc]) (fun j u hu => by rw [Addr.add_lit]; exact hc j u hu) (bc_one m) hpos (by unfold maxLen; omega) (by omega) hB _ rfl
    refine ⟨_, w', h1, ?_, h3, fun k hk => ?_⟩
    · unfold BR
      rw [bc_app, List.length_append]
      exact h2
    · have : g = k := by simpa [Value.ownBlock] using hk
      subst this
      exact h4
theorem wpList_append_b {ops : Array Oper} {rest : List Oper} {o : Oper} {a : Act} {Q : Exit → Act → World → Prop} (w : World) (s x : Operand) (B : Nat) (v xv : Value) (l m : List UInt8)
    (hgd : o.guard = none) (ho : o.op = .call { callee := .builtin .append, args := #[s, x], argTypes := #[37, 37] }) (hs : a.eval s = v) (hx : a.eval x = xv)
    (hown : BR w B v l) (hxv : RB w xv m) (hB : B ≤ w.heap.size) (hn : l.length + m.length ≤ 100000000000000)
    (h : ∀ u w', BR w' B u (l ++ m) → w.grownBy w' v.ownBlock → (∀ k, u.ownBlock = some k → v.ownBlock = some k ∨ k = w.heap.size) → wpList Try.prog ops Q rest (a.put o.dst u) w') : wpList Try.prog ops Q (o :: rest) a w := by
  refine wpList_plain hgd fun K hK => ?_
  obtain ⟨u, w', hr, h2, h3, h4⟩ := run_append_b w o.type B v xv l m hown hxv hB hn
  unfold Oper.wp execOp
  simp only [ho, resolve, invoke, builtin, Sem.run_bind, Sem.run_pure, Result.andThen_ok, List.map_toArray, List.map_cons, List.map_nil, hs, hx, hr]
  exact hK _ _ (h u w' h2 h3 h4)
/-- One byte in a block of its own. -/
theorem RB.one (w : World) (x : UInt8) : RB (w.alloc (.cells #[.int .u8 (x.toNat : Int)] 5)) (.slice (some ⟨w.heap.size, 0, none⟩) 1 1) [x] :=
  BR.rb (B := w.heap.size) (World.ownsRow_lit w #[.int .u8 (x.toNat : Int)] 1 (Nat.le_refl _) (by unfold maxLen; omega) rfl)

set_option maxHeartbeats 2000000 in
theorem eqBytes_any (l : List UInt8) (u v : Value) (w : World) (hu : RB w u l) (hv : RB w v l) : Calls Try.prog 20 #[u, v] w fun e w' => e = .returned (.bool true) ∧ Below w.heap.size w w' := by
  have HU := Lib.hid hu
  have HV := Lib.hid hv
  obtain ⟨A, c, rfl, hll, _⟩ := hu.slice
  obtain ⟨A2, c2, rfl, _, _⟩ := hv.slice
  clear hu hv
  go_enter Try.func20, Try.ntmps20
  go_wp2_with fail
  go_loopw [5] (fun iv wr => ∃ i : Nat, iv = .int .i64 i ∧ i ≤ l.length ∧ Below w.heap.size w wr) (fun iv _ => l.length - (intOf iv).toNat)
  case atStart => exact ⟨0, rfl, Nat.zero_le _, Below.refl _ _⟩
  case round =>
    obtain ⟨i, rfl, hil, hb⟩ := hrel
    have HB := Lib.hid hb
    by_cases hlt : i < l.length
    · have hlti : (i : Int) < (l.length : Int) := by omega
      have hi0 : (0 : Int) ≤ (i : Int) := by omega
      obtain ⟨b, o, rfl, _, hcell⟩ := (HU.out.later hb).cell hlt
      obtain ⟨b2, o2, rfl, _, hcell2⟩ := (HV.out.later hb).cell hlt
      generalize l[i] = x at *
      clear hb
      go_wp2_with fail
      go_quiet (fail)
      go_wp2_with fail
      exact ⟨⟨i + 1, by go_num, by omega, below_drewN HB.out _⟩, by simp [intOf]; omega⟩
    · have hlti : ¬ ((i : Int) < (l.length : Int)) := by omega
      obtain rfl : i = l.length := by omega
      clear hb
      go_wp2_with fail
      go_ret
      exact ⟨rfl, HB.out⟩

set_option maxHeartbeats 2000000 in
set_option maxRecDepth 100000 in
theorem copyBytes_any (l : List UInt8) (v : Value) (w : World) (h : RB w v l) (h2 : l.length ≤ 10000000) :
    Calls Try.prog 33 #[v] w fun e w' => ∃ u, e = .returned u ∧ BR w' w.heap.size u l ∧ Below w.heap.size w w' := by
  have HU := Lib.hid h
  obtain ⟨A, c, rfl, hll, _⟩ := h.slice
  have HT := Lib.hid (show l.take l.length = l from List.take_length)
  have H2 := Lib.hid h2
  clear h h2
  go_enter Try.func33, Try.ntmps33
  go_wp2_with fail
  go_loopw [3, 4] (fun mv iv wr => ∃ (i : Nat), iv = .int .i64 i ∧ i ≤ l.length ∧ BR wr w.heap.size mv (l.take i) ∧ Below w.heap.size w wr) (fun _ iv _ => l.length - (intOf iv).toNat)
  case atStart => exact ⟨0, rfl, Nat.zero_le _, BR.nil _ _, Below.refl _ _⟩
  case round =>
    obtain ⟨i, rfl, hil, hrow, hb⟩ := hrel
    have HW := Lib.hid hrow
    have HB := Lib.hid hb
    have hsz := hb.size
    obtain ⟨gA, gc, rfl, _, _⟩ := hrow.slice
    clear hrow
    by_cases hlt : i < l.length
    · have hlti : (i : Int) < (l.length : Int) := by omega
      obtain ⟨b, o, rfl, _, hcell⟩ := (HU.out.later hb).cell hlt
      clear hb
      have HTS := Lib.hid (show l.take (i + 1) = l.take i ++ [l[i]] by rw [List.take_add_one, List.getElem?_eq_getElem hlt]; rfl)
      generalize l[i] = x at *
      have hrl : (l.take i).length + [x].length ≤ 100000000000000 := by rw [List.length_take]; have := H2.out; simp; omega
      have HRW := Lib.hid (HW.out.alloc (.cells #[.int .u8 (x.toNat : Int)] 5))
      have HBK := Lib.hid (RB.one wr x)
      generalize l.take i = rows at *
      go_wp2_with (at_builtin; refine wpList_append_b _ (.tmp 11) (.tmp 16) w.heap.size (.slice gA rows.length gc) _ rows [x] rfl rfl rfl rfl HRW.out HBK.out (by simp; omega) hrl ?_)
      intro u w2 hrow2 hgrow _
      have HB2 := Lib.hid (show Below w.heap.size w w2 from (HB.out.alloc (by omega) _).grown hgrow (by simp; omega) (fun k hk => (BR.lt HRW.out k hk).1))
      have HR2 := Lib.hid hrow2
      clear hrow2 hgrow
      go_wp2_with fail
      refine ⟨⟨i + 1, by go_num, by omega, ?_, HB2.out⟩, by simp [intOf]; omega⟩
      rw [HTS.out]
      exact HR2.out
    · have hlti : ¬ ((i : Int) < (l.length : Int)) := by omega
      obtain rfl : i = l.length := by omega
      rw [HT.out] at HW
      clear hb
      go_wp2_with fail
      go_ret
      exact ⟨_, rfl, HW.out, HB.out⟩
end Go.Proofs.Ytahmihdahgbhkaa

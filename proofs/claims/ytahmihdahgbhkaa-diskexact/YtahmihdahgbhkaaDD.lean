/-
  The statements' own writing over bytes, walked.
  Conditions: as each theorem states them.
-/
import Derived.Test.YtahmihdahgbhkaaDC
namespace Go.Proofs.Ytahmihdahgbhkaa
open Go.RowKit

/-- A row of whatever bytes of the call's own. -/
def ZR (w : World) (B : Nat) (v : Value) (zs : List Int) : Prop := w.ownsRow B 5 1 v zs.length (zs.map fun z => Value.int .u8 z)
theorem ZR.of {w : World} {B : Nat} {v : Value} {l : List UInt8} (h : BR w B v l) : ZR w B v (l.map fun b => (b.toNat : Int)) := by
  have h' : w.ownsRow B 5 1 v l.length (bc l) := h
  unfold ZR
  rw [List.length_map, List.map_map]
  exact h'
theorem run_append_z (w : World) (ty : TypeId) (B n : Nat) (v : Value) (zs : List Int) (z : Int) (hown : ZR w B v zs)
    (hblk : w.heap[n]? = some (.cells #[.int .u8 z] 5 (0, 0))) (hB : B ≤ w.heap.size) (hn : zs.length < 100000000) :
    ∃ u w', (Builtin.append_ #[37, 37] ty #[v, .slice (some ⟨n, 0, none⟩) 1 1]).run Try.prog w = .ok u w' ∧ w.grownBy w' v.ownBlock := by
  obtain ⟨i0, hi0, hz0, hs0, hb0⟩ := info_parts infoB
  obtain ⟨g, cap, w', h1, h2, h3, _, _⟩ := run_append_lies (P := Try.prog) w 37 ty B 5 i0 _ 1 1 Try.underlying37 hi0 hz0 hs0 hb0 rfl (by omega) v zs.length _ hown ⟨n, 0, none⟩ 1 1
    [.int .u8 z] rfl (World.news_of_block (cs := #[.int .u8 z]) hblk) (by simp [Value.oneCell']) (by omega) (by unfold maxLen; omega) (by omega) hB _ rfl
  exact ⟨_, w', h1, h3⟩
theorem wpList_append_z {ops : Array Oper} {rest : List Oper} {o : Oper} {a : Act} {Q : Exit → Act → World → Prop} (w : World) (s x : Operand) (B n : Nat) (v : Value) (zs : List Int) (z : Int)
    (hgd : o.guard = none) (ho : o.op = .call { callee := .builtin .append, args := #[s, x], argTypes := #[37, 37] }) (hs : a.eval s = v) (hx : a.eval x = .slice (some ⟨n, 0, none⟩) 1 1)
    (hown : ZR w B v zs) (hblk : w.heap[n]? = some (.cells #[.int .u8 z] 5 (0, 0))) (hB : B ≤ w.heap.size) (hn : zs.length < 100000000)
    (h : ∀ u w', w.grownBy w' v.ownBlock → wpList Try.prog ops Q rest (a.put o.dst u) w') : wpList Try.prog ops Q (o :: rest) a w := by
  refine wpList_plain hgd fun K hK => ?_
  obtain ⟨u, w', hr, h3⟩ := run_append_z w o.type B n v zs z hown hblk hB hn
  unfold Oper.wp execOp
  simp only [ho, resolve, invoke, builtin, Sem.run_bind, Sem.run_pure, Result.andThen_ok, List.map_toArray, List.map_cons, List.map_nil, hs, hx, hr]
  exact hK _ _ (h u w' h3)
theorem ZR.form {w : World} {B : Nat} {v : Value} {zs : List Int} (h : ZR w B v zs) : (v = .slice none 0 0 ∧ zs = []) ∨ ∃ g cap, v = .slice (some ⟨g, 0, none⟩) zs.length cap ∧ B ≤ g ∧ g < w.heap.size ∧ zs.length ≤ cap ∧ cap < 9223372036854775808 := by
  rcases h.2 with ⟨hv, hn⟩ | ⟨g, cap, cur, hv, hg, hh, h1, h2, _⟩
  · exact .inl ⟨hv, List.eq_nil_of_length_eq_zero hn⟩
  · exact .inr ⟨g, cap, hv, hg, (Array.getElem?_eq_some_iff.1 hh).1, h1, by unfold maxLen at h2; omega⟩
theorem ZR.stored {w : World} {B g cap n : Nat} {zs : List Int} (h : ZR w B (.slice (some ⟨g, 0, none⟩) n cap) zs) (hn : n = zs.length) (j : Nat) (z : Int) :
    ZR (w.setCell ⟨g, j, none⟩ (.int .u8 z)) B (.slice (some ⟨g, 0, none⟩) n cap) (zs.set j z) := by
  subst hn
  have := (World.ownsRow.stored (n := zs.length) h j (.int .u8 z)).1
  unfold ZR
  rw [List.length_set, List.map_set]
  exact this

set_option maxHeartbeats 2000000 in
set_option maxRecDepth 100000 in
theorem spoil_row (g cap B : Nat) (z0 : List Int) (w : World) (h : ZR w B (.slice (some ⟨g, 0, none⟩) z0.length cap) z0) (hB : B ≤ w.heap.size) (h2 : z0.length ≤ 10000000) (_hc : cap < 9223372036854775808) :
    Calls Try.prog 21 #[.slice (some ⟨g, 0, none⟩) z0.length cap] w fun e w' => e = .returned (.tuple #[]) ∧ Kept (· = g) w w' := by
  have HU := Lib.hid h
  obtain ⟨n, hn⟩ : ∃ n, z0.length = n := ⟨_, rfl⟩
  rw [hn] at HU h2 ⊢
  clear h
  go_enter Try.func21, Try.ntmps21
  go_wp2_with fail
  go_loopw [2] (fun iv wr => ∃ (i : Nat) (zs : List Int), iv = .int .i64 i ∧ i ≤ n ∧ zs.length = n ∧ ZR wr B (.slice (some ⟨g, 0, none⟩) n cap) zs ∧ Kept (· = g) w wr) (fun iv _ => n - (intOf iv).toNat)
  case atStart => exact ⟨0, z0, rfl, Nat.zero_le _, hn, HU.out, Kept.refl⟩
  case round =>
    obtain ⟨i, zs, rfl, hil, hzl, hrow, hk⟩ := hrel
    have HR := Lib.hid hrow
    have HK := Lib.hid hk
    clear hrow hk
    by_cases hlt : i < n
    · have hlti : (i : Int) < (n : Int) := by omega
      have hcell : wr.cell? ⟨g, i, none⟩ = some (.int .u8 (zs[i]'(by omega))) := by
        have := World.ownsRow.cellAt (n := zs.length) (by rw [hzl]; exact (show wr.ownsRow B 5 1 _ n _ from by have := HR.out; unfold ZR at this; rwa [hzl] at this)) i (by omega)
        rw [this]
        simp [show i < zs.length by omega]
      have hfz : wr.frozen? ⟨g, i, none⟩ = false := World.ownsRow.frozenAt (n := zs.length) (by rw [hzl]; exact (show wr.ownsRow B 5 1 _ n _ from by have := HR.out; unfold ZR at this; rwa [hzl] at this)) i
      generalize zs[i] = z at *
      go_wp2_with fail
      refine ⟨⟨i + 1, zs.set i _, by go_num, by omega, by simpa using hzl, HR.out.stored hzl.symm i _, HK.out.setCell _ (.inr rfl) _⟩, by simp [intOf]; omega⟩
    · have hlti : ¬ ((i : Int) < (n : Int)) := by omega
      have HRW := Lib.hid (show ZR (wr.alloc (.cells #[.int .u8 5] 5)) B (.slice (some ⟨g, 0, none⟩) n cap) zs from World.ownsRow.alloc HR.out _)
      have HBK := Lib.hid (heap_alloc_new wr (.cells #[.int .u8 5] 5))
      have hsz := HK.out.size
      go_wp2_with (at_builtin; refine wpList_append_z _ _ _ B wr.heap.size (.slice (some ⟨g, 0, none⟩) n cap) zs 5 rfl rfl rfl rfl HRW.out HBK.out (by simp; omega) (by omega) ?_)
      intro u w2 hgrow
      have HK2 := Lib.hid ((HK.out.alloc _).grown hgrow (fun k hk => .inr (by simpa [Value.ownBlock, eq_comm] using hk)))
      clear hgrow
      go_wp2_with fail
      go_end0
      exact ⟨rfl, HK2.out⟩

set_option maxHeartbeats 2000000 in
set_option maxRecDepth 100000 in
theorem spoil_any (l : List UInt8) (v : Value) (B : Nat) (w : World) (h : BR w B v l) (hB : B ≤ w.heap.size) (h2 : l.length ≤ 10000000) :
    Calls Try.prog 21 #[v] w fun e w' => e = .returned (.tuple #[]) ∧ Kept (fun k => v.ownBlock = some k) w w' := by
  rcases (ZR.of h).form with ⟨rfl, h0⟩ | ⟨g, cap, hv, _, _, _, hc⟩
  · clear h h0 h2 hB
    have HRW := Lib.hid (show ZR (w.alloc (.cells #[.int .u8 5] 5)) w.heap.size (.slice none 0 0) [] from World.ownsRow_nil _ _ _ _)
    have HBK := Lib.hid (heap_alloc_new w (.cells #[.int .u8 5] 5))
    have HK := Lib.hid (Kept.alloc (E := fun k => Value.ownBlock (.slice none 0 0) = some k) (w := w) Kept.refl (.cells #[.int .u8 5] 5))
    go_enter Try.func21, Try.ntmps21
    go_wp2_with fail
    go_loopw [2] (fun iv wr => iv = .int .i64 0 ∧ wr = w) (fun _ _ => 0)
    case atStart => exact ⟨rfl, rfl⟩
    case round =>
      obtain ⟨rfl, rfl⟩ := hrel
      go_wp2_with (at_builtin; refine wpList_append_z _ _ _ _ _ (.slice none 0 0) [] 5 rfl rfl rfl rfl HRW.out HBK.out (by simp) (by simp) ?_)
      intro u w2 hgrow
      have HK2 := Lib.hid (HK.out.grown hgrow (fun k hk => .inr hk))
      clear hgrow
      go_wp2_with fail
      go_end0
      exact ⟨rfl, HK2.out⟩
  · have hz := ZR.of h
    subst hv
    refine (spoil_row g cap B _ w hz hB (by simpa using h2) hc).mono ?_
    rintro e w' ⟨rfl, hk⟩
    exact ⟨rfl, hk.mono fun k _ (e : k = g) => by rw [e]; rfl⟩
end Go.Proofs.Ytahmihdahgbhkaa

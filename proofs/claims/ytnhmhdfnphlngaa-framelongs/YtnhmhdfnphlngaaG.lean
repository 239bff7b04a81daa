/-
  The closure of Feed and framer of package frame, walked: a framer that may be and a stream of bytes make of the reader what they make of it in the plain mathematics.
  Conditions: as each theorem states them.
-/
import Derived.Test.YtnhmhdfnphlngaaF
import Derived.RegionTactic
namespace Go.Proofs.Ytnhmhdfnphlngaa
open Go.RowKit

/-- The slice value v reads as the bytes x, in a block below H. -/
def BytesAt (w : World) (H : Nat) (v : Value) (x : List UInt8) : Prop :=
  ∃ A cap, v = .slice A x.length cap ∧ x.length ≤ cap ∧ (x ≠ [] → ∃ a : Addr, A = some a ∧ a.block < H ∧ ∀ j (hj : j < x.length), w.cell? (a.add j) = some (.int .u8 (x[j].toNat : Int)))

theorem block_add (a : Addr) (n : Nat) : (a.add n).block = a.block := by unfold Addr.add; split <;> rfl

theorem BytesAt.keep {w w' : World} {H : Nat} {v : Value} {x : List UInt8} (h : BytesAt w H v x) (hk : ∀ k, k < H → w'.heap[k]? = w.heap[k]?) : BytesAt w' H v x := by
  obtain ⟨A, cap, hv, hle, hx⟩ := h
  refine ⟨A, cap, hv, hle, fun hn => ?_⟩
  obtain ⟨a, hA, hb, hc⟩ := hx hn
  exact ⟨a, hA, hb, fun j hj => (World.cell?_of_block (by rw [block_add]; exact hk _ hb)).trans (hc j hj)⟩

theorem BytesAt.mono {w : World} {H H' : Nat} {v : Value} {x : List UInt8} (h : BytesAt w H v x) (hH : H ≤ H') : BytesAt w H' v x := by
  obtain ⟨A, cap, hv, hle, hx⟩ := h
  refine ⟨A, cap, hv, hle, fun hn => ?_⟩
  obtain ⟨a, hA, hb, hc⟩ := hx hn
  exact ⟨a, hA, by omega, hc⟩

/-- A block that has just been laid reads as its bytes. -/
theorem BytesAt.new (w : World) (x : List UInt8) (c : Nat) (e : TypeId) (fr : Nat × Nat) (hc : x.length ≤ c) : BytesAt (w.alloc (.cells (x.map byteCell).toArray e fr)) (w.heap.size + 1) (.slice (some ⟨w.heap.size, 0, none⟩) x.length c) x := by
  refine ⟨_, c, rfl, hc, fun _ => ⟨_, rfl, Nat.lt_succ_self _, fun j hj => ?_⟩⟩
  rw [Addr.add_lit]
  have h := heap_alloc_new w (.cells (x.map byteCell).toArray e fr)
  simp only [World.cell?, h]
  simp [hj, byteCell]

set_option maxHeartbeats 400000 in
theorem framer_any (w : World) (B g : Nat) (r : Rd) (h : RD w B g r) :
    Calls Try.prog 24 #[.pointer (some ⟨g, 0, none⟩)] w fun e w' => e = .returned (.agg #[.string ⟨r.rest.toArray⟩, .bool r.skip]) ∧ Below w.heap.size w w' := by
  obtain ⟨rest, skip, lines⟩ := r
  obtain ⟨rv, lv, hW, hr⟩ := h
  obtain ⟨gr, cap, rfl, hgr, hlt, hlc, hm, hcell⟩ := hr.cell
  have hca0 := fun o => (hW.alloc o).cell0
  have hca1 := fun o => (hW.alloc o).cell1
  have hcv : ∀ o, (convert 26 9 (.slice (some ⟨gr, 0, none⟩) rest.length cap)).run Try.prog (w.alloc o).drew = .ok (.string ⟨rest.toArray⟩) (w.alloc o).drew := fun o =>
    run_convert_bytes_back (P := Try.prog) (w.alloc o).drew 26 9 5 ⟨gr, 0, none⟩ cap rest Try.underlying26 Try.underlying5 Try.underlying9 (fun j hj => by
      rw [← hcell j hj]
      exact World.cell?_alloc_lt w o _ (by rw [block_add]; exact hlt))
  clear hcell hr hW
  go_enter Try.func24, Try.ntmps24
  go_wp2
  go_region
  go_wp2
  exact bodyPost_ret (v := .agg #[.string ⟨rest.toArray⟩, .bool skip]) (by simp [results, Try.results24, go_sem]) rfl ⟨rfl, ((Below.refl _ _).alloc (Nat.le_refl _) _).drew⟩

theorem take_snoc {α : Type} (x : List α) (j : Nat) (hj : j < x.length) : x.take (j + 1) = x.take j ++ [x[j]] := List.take_succ_eq_append_getElem hj

set_option maxHeartbeats 1000000 in
theorem feed1_good (s : ByteArray) (k : Bool) (x : List UInt8) (m : Int) (bf g bb : Nat) (bv : Value) (w : World) (hm : w.cell? ⟨0, 0, none⟩ = some (.int .i64 m)) (h0 : 0 < w.heap.size) (hs : s.size ≤ maxLen) (hv : validL s.data.toList k = true)
    (hf0 : w.cell? ⟨bf, 0, none⟩ = some (.string s)) (hf1 : w.cell? ⟨bf, 1, none⟩ = some (.bool k)) (hbv : w.cell? ⟨bb, 0, none⟩ = some bv) (hx : BytesAt w g bv x) (hxl : x.length < 1000000)
    (hg : w.heap[g]? = some (.cells #[.slice none 0 0, .bool false, .slice none 0 0] 52 (0, 0))) (hbb : bb < w.heap.size) (hne : bb ≠ g) :
    Calls Try.prog 22 #[.pointer (some ⟨bf, 0, none⟩), .pointer (some ⟨g, 0, none⟩), .pointer (some ⟨bb, 0, none⟩)] w fun e w' =>
      e = .returned (.tuple #[]) ∧ RD w' w.heap.size g ((Rd.of s.data.toList k).feed x) ∧ Kept w.heap.size g w w' := by
  have HV : Hid (validL s.data.toList k = true) := hv
  have hglt : g < w.heap.size := (Array.getElem?_eq_some_iff.1 hg).1
  clear hv
  obtain ⟨A, xcap, rfl, -, hxx⟩ := hx
  have HX := Lib.hid hxx
  clear hxx
  go_enter Try.func22, Try.ntmps22
  go_wp2_with fail
  refine (open_good s k m _ hm h0 hs HV.out).mono ?_
  rintro e w1 ⟨v, rfl, hr, hb⟩
  have hg1 := (hb.block g hglt).trans hg
  have hW1 : RW w1 w.heap.size g (.slice none 0 0) false (.slice none 0 0) [] := ⟨hg1, ⟨rfl, .inl ⟨rfl, rfl⟩⟩, hglt, hb.size⟩
  obtain ⟨gr, cap, rfl, -⟩ := hr.cell
  have hsl : s.data.toList.length = s.size := by simp
  rw [hsl] at hr
  clear hsl
  have hWa := hW1.set0 (.slice (some ⟨gr, 0, none⟩) s.size cap)
  have hra := hW1.rowSet hr 0 (.slice (some ⟨gr, 0, none⟩) s.size cap)
  have hWb := hWa.set1 k
  have hrb := hWa.rowSet hra 1 (.bool k)
  have hW2 := hWb.set2 (lines' := []) (lv' := .slice none 0 0) ⟨rfl, .inl ⟨rfl, rfl⟩⟩
  have hr2 := hWb.rowSet hrb 2 (.slice none 0 0)
  have hk2 := (((Kept.of_below (g := g) hb).set 0 (.slice (some ⟨gr, 0, none⟩) s.size cap)).set 1 (.bool k)).set 2 (.slice none 0 0)
  have hRD : RD _ w.heap.size g (Rd.of s.data.toList k) := ⟨_, _, hW2, hr2⟩
  have c1 := hW1.cell0
  have c2 := hWa.cell1
  have c3 := hWb.cell2
  have z1 := hW1.frozen 0
  have z2 := hWa.frozen 1
  have z3 := hWb.frozen 2
  have hbv2 := (World.cell?_of_block (a := ⟨bb, 0, none⟩) (hk2.block bb hbb hne)).trans hbv
  go_wp2_with fail
  go_loopw [9] (fun i wr => ∃ j : Nat, j ≤ x.length ∧ i = .int .i64 j ∧ RD wr w.heap.size g ((Rd.of s.data.toList k).feed (x.take j)) ∧ Kept w.heap.size g w wr) (fun i _ => x.length - (intOf i).toNat)
  case atStart => exact ⟨0, Nat.zero_le _, rfl, hRD, hk2⟩
  case round =>
    obtain ⟨j, hj, rfl, hRDj, hKj⟩ := hrel
    clear c1 c2 c3 z1 z2 z3 hbv2 hRD hk2 hr2 hW2 hrb hWb hra hWa hr hW1 hg1 hb hbv hf0 hf1 hg
    by_cases hlt : j < x.length
    · obtain ⟨a, rfl, hab, hac⟩ := HX.out (fun e => by rw [e] at hlt; exact absurd hlt (by simp))
      have hcj : wr.cell? (a.add j) = some (.int .u8 (x[j].toNat : Int)) := (World.cell?_of_block (by rw [block_add]; exact hKj.block _ (by omega) (by omega))).trans (hac j hlt)
      have hok := (Rd.ok_feed (Rd.ok_of HV.out) (x.take j)).1
      have hln := Rd.lines_feed (Rd.of s.data.toList k) (x.take j)
      have hl0 : (Rd.of s.data.toList k).lines.length = 0 := rfl
      have htl : (x.take j).length ≤ j := List.length_take_le _ _
      have hts := Lib.hid (take_snoc x j hlt)
      clear hac
      have hrl : ((Rd.of s.data.toList k).feed (x.take j)).rest.length < 100000 := by omega
      have hll : ((Rd.of s.data.toList k).feed (x.take j)).lines.length < 1000000 := by omega
      clear hok hln hl0 htl
      go_wp2_with fail
      refine (take_any _ w.heap.size g _ x[j] hRDj hrl hll).mono ?_
      rintro e w' ⟨rfl, h1, k1⟩
      rw [← Rd.feed_snoc, ← hts.out] at h1
      clear hcj
      go_wp2
      go_roundw
      case rel => exact ⟨j + 1, hlt, by go_num, h1, hKj.trans k1⟩
      case measure => simp [intOf]; omega
    · have hje : j = x.length := by omega
      have HJ := Lib.hid hje
      clear hje
      go_wp2
      go_end0
      refine ⟨rfl, ?_, hKj⟩
      rw [HJ.out, List.take_length] at hRDj
      exact hRDj
end Go.Proofs.Ytnhmhdfnphlngaa

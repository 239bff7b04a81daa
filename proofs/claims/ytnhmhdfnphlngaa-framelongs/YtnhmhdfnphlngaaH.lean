/-
  Feed of package frame, walked: for a framer that may be it answers the framer behind the bytes and the lines that end within them, as the plain mathematics has them; any other is refused; nothing that was there is turned.
  Conditions: the library's variable internal/bytealg.MaxLen holds some number; the bytes are fewer than 1000000.
-/
import Derived.Test.YtnhmhdfnphlngaaG
import Derived.Deep.RegionWith
namespace Go.Proofs.Ytnhmhdfnphlngaa
open Go.RowKit

theorem enter22 (args : Array Value) (w : World) : (callFunc 22 args).run Try.prog w = .ok (.enter 22 args) w := enters_of Try.func22 (by kernel_rfl) rfl args w

theorem feed1_bad (s : ByteArray) (k : Bool) (m : Int) (b : Nat) (p q : Value) (w : World) (hm : w.cell? ⟨0, 0, none⟩ = some (.int .i64 m)) (h0 : 0 < w.heap.size) (hv : validL s.data.toList k = false)
    (hc0 : w.cell? ⟨b, 0, none⟩ = some (.string s)) (hc1 : w.cell? ⟨b, 1, none⟩ = some (.bool k)) :
    Calls Try.prog 22 #[.pointer (some ⟨b, 0, none⟩), p, q] w fun e w' => e = .panicked [{ v := .iface 60 (.agg #[.int .i64 1]), recovered := false }] ∧ Below w.heap.size w w' := by
  have HV : Hid (validL s.data.toList k = false) := hv
  clear hv
  go_enter Try.func22, Try.ntmps22
  go_wp2_with fail
  refine (open_bad s k m _ hm h0 HV.out).mono ?_
  rintro e w1 ⟨rfl, hb⟩
  go_wp2
  exact ⟨rfl, rfl, hb⟩

/-- The five blocks that Feed lays ahead of the work. -/
def feedW (w : World) (s : ByteArray) (k : Bool) (bv : Value) : World :=
  (((w.alloc (.cells #[.string s, .bool k] 25)).alloc (.cells #[bv] 26)).alloc (.cells #[.string ⟨#[]⟩, .bool false] 25)).alloc (.cells #[.slice none 0 0, .bool false, .slice none 0 0] 52)

theorem feedW_below (w : World) (s : ByteArray) (k : Bool) (bv : Value) : Below w.heap.size w (feedW w s k bv) :=
  ((((Below.refl _ _).alloc (Nat.le_refl _) _).alloc (by simp) _).alloc (by simp; omega) _).alloc (by simp; omega) _

theorem feedW_size (w : World) (s : ByteArray) (k : Bool) (bv : Value) : (feedW w s k bv).heap.size = w.heap.size + 4 := by simp [feedW]

theorem pushes (h : Array Obj) (a b c d o : Obj) : (((((h.push a).push b).push c).push d).push o)[h.size]? = some a ∧ (((((h.push a).push b).push c).push d).push o)[h.size + 1]? = some b ∧
    (((((h.push a).push b).push c).push d).push o)[h.size + 2]? = some c ∧ (((((h.push a).push b).push c).push d).push o)[h.size + 3]? = some d := by
  refine ⟨?_, ?_, ?_, ?_⟩
  all_goals simp only [Array.getElem?_push, Array.size_push]
  · rw [if_neg (by omega), if_neg (by omega), if_neg (by omega), if_neg (by omega), if_pos trivial]
  · rw [if_neg (by omega), if_neg (by omega), if_neg (by omega), if_pos trivial]
  · rw [if_neg (by omega), if_neg (by omega), if_pos trivial]
  · rw [if_neg (by omega), if_pos trivial]

theorem RW.other {w : World} {B g : Nat} {rv lv : Value} {skip : Bool} {lines : List (List UInt8 × Bool)} (h : RW w B g rv skip lv lines) {b : Nat} (hb : b < B) (hne : g ≠ b) (i : Nat) (u : Value) :
    RW (w.setCell ⟨b, i, none⟩ u) B g rv skip lv lines :=
  ⟨(Below.heap_setCell _ _ _ _ hne).trans h.blk, ownsRow_setCell_below h.own hb u, h.lt, by simpa [World.setCell] using h.le⟩

theorem ByteRow.other {w : World} {B b : Nat} {v : Value} {l : List UInt8} (h : ByteRow w B 5 v l) (hb : b < B) (i : Nat) (u : Value) : ByteRow (w.setCell ⟨b, i, none⟩ u) B 5 v l :=
  h.keep fun k hk => Below.heap_setCell _ _ _ _ (by have := (h.lt k hk).1; simp; omega)

theorem ownsRow_from {w : World} {B B' : Nat} {e : TypeId} {size n : Nat} {v : Value} {xs : List Value} (hB : B' ≤ B) (h : w.ownsRow B e size v n xs) : w.ownsRow B' e size v n xs := by
  refine ⟨h.1, ?_⟩
  rcases h.2 with h | ⟨g, cap, cur, hv, hb, r⟩
  · exact .inl h
  · exact .inr ⟨g, cap, cur, hv, by omega, r⟩

theorem set_two {w : World} {b : Nat} {a0 a1 : Value} {t : TypeId} (h : w.heap[b]? = some (.cells #[a0, a1] t (0, 0))) (v0 v1 : Value) :
    ((w.setCell ⟨b, 0, none⟩ v0).setCell ⟨b, 1, none⟩ v1).heap[b]? = some (.cells #[v0, v1] t (0, 0)) := by simp [World.setCell, Array.getElem?_modify, h]

theorem feedW_blocks (w : World) (s : ByteArray) (k : Bool) (bv : Value) (o : Obj) :
    ((feedW w s k bv).alloc o).heap[w.heap.size]? = some (.cells #[.string s, .bool k] 25 (0, 0)) ∧ ((feedW w s k bv).alloc o).heap[w.heap.size + 1]? = some (.cells #[bv] 26 (0, 0)) ∧
    ((feedW w s k bv).alloc o).heap[w.heap.size + 2]? = some (.cells #[.string ⟨#[]⟩, .bool false] 25 (0, 0)) ∧
    ((feedW w s k bv).alloc o).heap[w.heap.size + 3]? = some (.cells #[.slice none 0 0, .bool false, .slice none 0 0] 52 (0, 0)) := pushes w.heap _ _ _ _ _

set_option maxHeartbeats 400000 in
theorem feed_bad (s : ByteArray) (k : Bool) (m : Int) (A : Option Addr) (n c : Nat) (w : World) (hm : w.cell? ⟨0, 0, none⟩ = some (.int .i64 m)) (h0 : 0 < w.heap.size) (hv : validL s.data.toList k = false) :
    Calls Try.prog 13 #[.agg #[.string s, .bool k], .slice A n c] w fun e w' => e = .returned (.tuple #[.agg #[.string ⟨#[]⟩, .bool false], .slice none 0 0, .int .i64 1]) ∧ Below w.heap.size w w' := by
  have hmf : ∀ (fn : Fn) (first cap : Array Value) (w : World), (Instr.makeFunc fn first cap).run Try.prog w = .ok (.func fn first cap) w := fun _ _ _ _ => rfl
  have HV : Hid (validL s.data.toList k = false) := hv
  clear hv
  have hb4 := (feedW_below w s k (.slice A n c)).alloc (o := .cells #[.int .i64 0] 30) (by rw [feedW_size]; omega)
  have hm' := (hb4.cell (p := ⟨0, 0, none⟩) h0).trans hm
  have hblk := feedW_blocks w s k (.slice A n c) (.cells #[.int .i64 0] 30)
  have HB := Lib.hid hblk
  clear hblk
  go_enter Try.func13, Try.ntmps13
  go_wp2_with fail
  have hblk := HB.out
  refine (catch_fault 22 _ 1 (feedW w s k (.slice A n c)) (fun w' => Below (w.heap.size + 5) ((feedW w s k (.slice A n c)).alloc (.cells #[.int .i64 0] 30)) w') (enter22 _) ?_).mono ?_
  · refine (feed1_bad s k m w.heap.size _ _ _ hm' (by simp) HV.out (by simp [World.cell?, hblk.1]) (by simp [World.cell?, hblk.1])).mono ?_
    rintro e w' ⟨rfl, hb⟩
    have hsz : ((feedW w s k (.slice A n c)).alloc (.cells #[.int .i64 0] 30)).heap.size = w.heap.size + 5 := by simp [feedW]
    rw [hsz] at hb
    exact ⟨rfl, hb, (hb.block _ (by rw [feedW_size]; omega)).trans (heap_alloc_new _ _)⟩
  rintro e w' ⟨rfl, w1, hb, rfl⟩
  rw [feedW_size]
  have hres : w1.heap[w.heap.size + 2]? = some (.cells #[.string ⟨#[]⟩, .bool false] 25 (0, 0)) := (hb.block _ (by omega)).trans hblk.2.2.1
  have hsz := hb.size
  have hsz5 : ((feedW w s k (.slice A n c)).alloc (.cells #[.int .i64 0] 30)).heap.size = w.heap.size + 5 := by simp [feedW]
  rw [hsz5] at hsz
  have hb5 := ((hb4.trans (hb.mono (by omega))).alloc (by omega) (.cells #[.int .i64 1] 60)).setCell (p := ⟨w.heap.size + 4, 0, none⟩) (by simp) (.int .i64 1)
  have hres5 : ((w1.alloc (.cells #[.int .i64 1] 60)).setCell ⟨w.heap.size + 4, 0, none⟩ (.int .i64 1)).heap[w.heap.size + 2]? = some (.cells #[.string ⟨#[]⟩, .bool false] 25 (0, 0)) :=
    (Below.heap_setCell _ _ _ _ (by simp)).trans ((Below.heap_alloc _ _ _ (by omega)).trans hres)
  clear hres hsz hsz5 hm' hb4 hb hblk HB
  generalize (w1.alloc (.cells #[.int .i64 1] 60)).setCell ⟨w.heap.size + 4, 0, none⟩ (.int .i64 1) = w5 at *
  have q0 : w5.cell? ⟨w.heap.size + 1 + 1, 0, none⟩ = some (.string ⟨#[]⟩) := by simp [World.cell?, hres5]
  have q1 : w5.cell? ⟨w.heap.size + 1 + 1, 1, none⟩ = some (.bool false) := by simp [World.cell?, hres5]
  have z0 : ∀ i, w5.frozen? ⟨w.heap.size + 1 + 1, i, none⟩ = false := fun i => by simp [World.frozen?, hres5]
  have HR := Lib.hid hres5
  clear hres5
  go_wp2
  have hfin := set_two (b := w.heap.size + 1 + 1) HR.out (.string ⟨#[]⟩) (.bool false)
  have f0 : ((w5.setCell ⟨w.heap.size + 1 + 1, 0, none⟩ (.string ⟨#[]⟩)).setCell ⟨w.heap.size + 1 + 1, 1, none⟩ (.bool false)).cell? ⟨w.heap.size + 1 + 1, 0, none⟩ = some (.string ⟨#[]⟩) := by simp only [World.cell?, hfin]; rfl
  have f1 : ((w5.setCell ⟨w.heap.size + 1 + 1, 0, none⟩ (.string ⟨#[]⟩)).setCell ⟨w.heap.size + 1 + 1, 1, none⟩ (.bool false)).cell? ⟨w.heap.size + 1 + 1, 1, none⟩ = some (.bool false) := by simp only [World.cell?, hfin]; rfl
  exact bodyPost_ret (v := .tuple #[.agg #[.string ⟨#[]⟩, .bool false], .slice none 0 0, .int .i64 1]) (by simp [results, Try.results13, go_sem, f0, f1]) rfl ⟨rfl, (hb5.setCell (by simp; omega) _).setCell (by simp; omega) _⟩

set_option maxHeartbeats 1000000 in
theorem feed_good (s : ByteArray) (k : Bool) (x : List UInt8) (m : Int) (bv : Value) (w : World) (hm : w.cell? ⟨0, 0, none⟩ = some (.int .i64 m)) (h0 : 0 < w.heap.size) (hs : s.size ≤ maxLen) (hv : validL s.data.toList k = true)
    (hx : BytesAt w w.heap.size bv x) (hxl : x.length < 1000000) :
    Calls Try.prog 13 #[.agg #[.string s, .bool k], bv] w fun e w' => ∃ lv, e = .returned (.tuple #[.agg #[.string ⟨((Rd.of s.data.toList k).feed x).rest.toArray⟩, .bool ((Rd.of s.data.toList k).feed x).skip], lv, .int .i64 0]) ∧
      w'.ownsRow w.heap.size 49 2 lv ((Rd.of s.data.toList k).feed x).lines.length (lineCells ((Rd.of s.data.toList k).feed x).lines) ∧ Below w.heap.size w w' := by
  have hmf : ∀ (fn : Fn) (first cap : Array Value) (w : World), (Instr.makeFunc fn first cap).run Try.prog w = .ok (.func fn first cap) w := fun _ _ _ _ => rfl
  have HV : Hid (validL s.data.toList k = true) := hv
  clear hv
  have hx' := hx
  obtain ⟨A, xc, rfl, -⟩ := hx'
  have hb4 := (feedW_below w s k (.slice A x.length xc)).alloc (o := .cells #[.int .i64 0] 30) (by rw [feedW_size]; omega)
  have hm' := (hb4.cell (p := ⟨0, 0, none⟩) h0).trans hm
  have HB := Lib.hid (feedW_blocks w s k (.slice A x.length xc) (.cells #[.int .i64 0] 30))
  have hsz5 : ((feedW w s k (.slice A x.length xc)).alloc (.cells #[.int .i64 0] 30)).heap.size = w.heap.size + 5 := by simp [feedW]
  have HS := Lib.hid hsz5
  clear hsz5
  generalize hR : (Rd.of s.data.toList k).feed x = R
  have HR := Lib.hid hR
  clear hR
  go_enter Try.func13, Try.ntmps13
  go_wp2_with fail
  have hblk := HB.out
  refine (catch_ret 22 _ (feedW w s k (.slice A x.length xc)) (fun w' => RD w' (w.heap.size + 5) (w.heap.size + 3) R ∧ Kept (w.heap.size + 5) (w.heap.size + 3) ((feedW w s k (.slice A x.length xc)).alloc (.cells #[.int .i64 0] 30)) w') (enter22 _) ?_).mono ?_
  · refine (feed1_good s k x m w.heap.size (w.heap.size + 3) (w.heap.size + 1) (.slice A x.length xc) _ hm' (by simp) hs HV.out (by simp [World.cell?, hblk.1]) (by simp [World.cell?, hblk.1]) (by simp [World.cell?, hblk.2.1]) ?_ hxl hblk.2.2.2 (by rw [HS.out]; omega) (by omega)).mono ?_
    · exact (hx.keep hb4.block).mono (by omega)
    rintro e w' ⟨rfl, hrd, hk⟩
    rw [HS.out, HR.out] at hrd
    rw [HS.out] at hk
    exact ⟨rfl, ⟨hrd, hk⟩, (hk.block _ (by rw [feedW_size]; omega) (by rw [feedW_size]; omega)).trans (heap_alloc_new _ _)⟩
  rintro e w' ⟨rfl, w1, ⟨hrd, hk⟩, rfl⟩
  rw [feedW_size]
  obtain ⟨rv, lv, hW1, hr1⟩ := hrd
  have hW5 := hW1.other (b := w.heap.size + 4) (by omega) (by omega) 0 (.int .i64 0)
  have hr5 := hr1.other (b := w.heap.size + 4) (by omega) 0 (.int .i64 0)
  have hres5 : (w1.setCell ⟨w.heap.size + 4, 0, none⟩ (.int .i64 0)).heap[w.heap.size + 1 + 1]? = some (.cells #[.string ⟨#[]⟩, .bool false] 25 (0, 0)) :=
    (Below.heap_setCell _ _ _ _ (by simp)).trans ((hk.block (w.heap.size + 2) (by omega) (by omega)).trans hblk.2.2.1)
  have hb5 : Below w.heap.size w (w1.setCell ⟨w.heap.size + 4, 0, none⟩ (.int .i64 0)) :=
    (hb4.trans ⟨hk.os, hk.tape, hk.output, hk.size, fun j hj => hk.block j (by omega) (by omega)⟩).setCell (by simp) _
  clear hW1 hr1 hk hb4 hblk HB hm' HS HR hx HV
  generalize w1.setCell ⟨w.heap.size + 4, 0, none⟩ (.int .i64 0) = w5 at *
  have hsz := hW5.le
  have c2 : w5.cell? ⟨w.heap.size + 1 + 1 + 1, 2, none⟩ = some lv := hW5.cell2
  have q0 : w5.cell? ⟨w.heap.size + 1 + 1, 0, none⟩ = some (.string ⟨#[]⟩) := by simp [World.cell?, hres5]
  have q1 : w5.cell? ⟨w.heap.size + 1 + 1, 1, none⟩ = some (.bool false) := by simp [World.cell?, hres5]
  have z0 : ∀ i, w5.frozen? ⟨w.heap.size + 1 + 1, i, none⟩ = false := fun i => by simp [World.frozen?, hres5]
  have hl3 : w.heap.size + 1 + 1 + 1 < w5.heap.size := by omega
  have hl2 : w.heap.size + 1 + 1 < w5.heap.size := by omega
  have hRD : RD w5.drew (w.heap.size + 5) (w.heap.size + 1 + 1 + 1) R := ⟨rv, lv, hW5.drew, hr5⟩
  have HR := Lib.hid hres5
  clear hres5
  go_wp2_with fail
  go_region_with (go_at_call 24; refine (framer_any _ _ _ R hRD).mono ?_; rintro e w6 ⟨rfl, hb6⟩; have d2 := (hb6.cell (p := ⟨w.heap.size + 1 + 1 + 1, 2, none⟩) hl3).trans c2; have d0 := (hb6.cell (p := ⟨w.heap.size + 1 + 1, 0, none⟩) hl2).trans q0; have d1 := (hb6.cell (p := ⟨w.heap.size + 1 + 1, 1, none⟩) hl2).trans q1; have y0 := (hb6.frozen (p := ⟨w.heap.size + 1 + 1, 0, none⟩) hl2).trans (z0 0); have y1 := (hb6.frozen (p := ⟨w.heap.size + 1 + 1, 1, none⟩) hl2).trans (z0 1))
  all_goals
    go_wp2
    have hr6 : w6.heap[w.heap.size + 1 + 1]? = some (.cells #[.string ⟨#[]⟩, .bool false] 25 (0, 0)) := (hb6.block _ hl2).trans HR.out
    have hfin := set_two hr6 (.string ⟨R.rest.toArray⟩) (.bool R.skip)
    have f0 : ((w6.setCell ⟨w.heap.size + 1 + 1, 0, none⟩ (.string ⟨R.rest.toArray⟩)).setCell ⟨w.heap.size + 1 + 1, 1, none⟩ (.bool R.skip)).cell? ⟨w.heap.size + 1 + 1, 0, none⟩ = some (.string ⟨R.rest.toArray⟩) := by simp only [World.cell?, hfin]; rfl
    have f1 : ((w6.setCell ⟨w.heap.size + 1 + 1, 0, none⟩ (.string ⟨R.rest.toArray⟩)).setCell ⟨w.heap.size + 1 + 1, 1, none⟩ (.bool R.skip)).cell? ⟨w.heap.size + 1 + 1, 1, none⟩ = some (.bool R.skip) := by simp only [World.cell?, hfin]; rfl
    refine bodyPost_ret (v := .tuple #[.agg #[.string ⟨R.rest.toArray⟩, .bool R.skip], lv, .int .i64 0]) (by simp [results, Try.results13, go_sem, f0, f1]) rfl ⟨lv, rfl, ?_, ?_⟩
    · refine ownsRow_from (B := w.heap.size + 5) (by omega) (ownsRow_setCell_below (ownsRow_setCell_below (hW5.own.kept (w' := w6) (row := none) ⟨hb6.os, hb6.tape, hb6.output, hb6.size, fun j hj _ => hb6.block j hj⟩ ?_) (by simp) _) (by simp) _)
      cases hlv : lv.ownBlock with
      | none => exact .inl rfl
      | some q => exact .inr (by simp)
    · exact ((hb5.drew.trans (hb6.mono (show w.heap.size ≤ w5.heap.size by omega))).setCell (by simp; omega) _).setCell (by simp; omega) _
end Go.Proofs.Ytnhmhdfnphlngaa

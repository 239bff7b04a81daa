/-
  The statements' own writing over a list of bytes, walked.
  Conditions: as each theorem states them.
-/
import Derived.Test.YtahmihdahgbhkaaRP
namespace Go.Proofs.Ytahmihdahgbhkaa
open Go.RowKit

/-- A list of rows of which the first ones were written over. -/
structure Sp (w0 w : World) (B g i : Nat) (us : List Value) (ls : List (List UInt8)) : Prop where
  blk : ∃ cur, Blk w g cur 37 ∧ ∀ j (hj : j < us.length), i ≤ j → cur[j]? = some us[j]
  rows : ∀ j (h : j < us.length) (h' : j < ls.length), i ≤ j → BR w B us[j] ls[j]
  kept : Kept (fun k => k = g ∨ ∃ u ∈ us, u.ownBlock = some k) w0 w
theorem Sp.start {w : World} {B g cap : Nat} {us : List Value} {ls : List (List UInt8)} (h : OC w B (.slice (some ⟨g, 0, none⟩) ls.length cap) us ls) : Sp w w B g 0 us ls := by
  have hc := World.ownsRow.cells (g := g) h.row rfl
  refine ⟨?_, fun j h1 h2 _ => h.rows j h1 h2, Kept.refl⟩
  rcases h.row.2 with ⟨hv, hn⟩ | ⟨g', cap', cur, hv, hg, hh, _⟩
  · cases hv
  · injection hv with e1
    injection e1 with e1
    injection e1 with e1
    subst e1
    refine ⟨cur, hh, fun j hj _ => ?_⟩
    have := hc j us[j] (by simp [hj])
    rw [Addr.add_lit, Nat.zero_add] at this
    simpa [World.cell?, hh] using this
theorem Sp.next {w0 w w1 : World} {B g i cap n : Nat} {us : List Value} {ls : List (List UInt8)} {v0 : Value} {ls0 : List (List UInt8)} {wz : World} (ho : OC wz B v0 us ls0) (hv0 : v0 = .slice (some ⟨g, 0, none⟩) n cap) (h : Sp w0 w B g i us ls) (hi : i < us.length)
    (hk : Kept (fun k => us[i].ownBlock = some k) w w1) : Sp w0 (w1.setCell ⟨g, i, none⟩ (.slice none 0 0)) B g (i + 1) us ls := by
  subst hv0
  obtain ⟨cur, hb, hc⟩ := h.blk
  have hgi : us[i].ownBlock ≠ some g := fun e => ho.sep _ (List.getElem_mem hi) g e rfl
  refine ⟨⟨_, (hb.kept hk hgi).set i (.slice none 0 0), fun j hj hij => ?_⟩, fun j h1 h2 hij => ?_, ?_⟩
  · rw [Array.getElem?_setIfInBounds_ne (by omega)]
    exact hc j hj (by omega)
  · have hgj : us[j].ownBlock ≠ some g := fun e => ho.sep _ (List.getElem_mem h1) g e rfl
    have hpw := List.pairwise_iff_getElem.1 ho.pw i j hi h1 (by omega)
    refine ((h.rows j h1 h2 (by omega)).kept hk fun k hk e => hpw k e hk).kept (E := (· = g)) ((Kept.refl (E := (· = g))).setCell ⟨g, i, none⟩ (.inr rfl) _) fun k hk e => ?_
    rw [show k = g from e] at hk
    exact hgj hk
  · exact (h.kept.trans (hk.mono fun k _ e => .inr ⟨_, List.getElem_mem hi, e⟩)).setCell ⟨g, i, none⟩ (.inr (.inl rfl)) _
theorem Sp.drew {w0 w : World} {B g i : Nat} {us : List Value} {ls : List (List UInt8)} (h : Sp w0 w B g i us ls) : Sp w0 w.drew B g i us ls := by
  obtain ⟨⟨cur, h1, h2⟩, h3, h4⟩ := h
  exact ⟨⟨cur, h1, h2⟩, fun j a b c => (h3 j a b c).blocks fun _ _ _ => rfl, ⟨h4.os, h4.tape, h4.output, h4.size, h4.block⟩⟩

set_option maxHeartbeats 2000000 in
set_option maxRecDepth 100000 in
theorem spoilCells_any (ls : List (List UInt8)) (us : List Value) (v : Value) (B : Nat) (w : World) (h : OC w B v us ls) (hB : B ≤ w.heap.size) (h2 : ∀ l ∈ ls, l.length ≤ 10000000) :
    Calls Try.prog 32 #[v] w fun e w' => e = .returned (.tuple #[]) ∧ Kept (fun k => v.ownBlock = some k ∨ ∃ u ∈ us, u.ownBlock = some k) w w' := by
  have HU := Lib.hid h
  have HL := Lib.hid h2
  have HLN := Lib.hid h.len
  rcases h.row.2 with ⟨rfl, hn⟩ | ⟨g, cap, cur, hv, hg, hh, hlc, hcm, _⟩
  · clear h h2 hn
    go_enter Try.func32, Try.ntmps32
    go_wp2_with fail
    go_loopw [2] (fun iv wr => iv = .int .i64 0 ∧ wr = w) (fun _ _ => 0)
    case atStart => exact ⟨rfl, rfl⟩
    case round =>
      obtain ⟨rfl, rfl⟩ := hrel
      go_wp2_with fail
      go_end0
      exact ⟨rfl, Kept.refl⟩
  · have hcm2 : cap < 9223372036854775808 := by unfold maxLen at hcm; omega
    rw [h.len] at hv hlc
    subst hv
    have HS := Lib.hid (Sp.start h)
    have HE := Lib.hid (show ∀ w', Kept (fun k => k = g ∨ ∃ u ∈ us, u.ownBlock = some k) w w' → Kept (fun k => (Value.slice (some ⟨g, 0, none⟩) ls.length cap).ownBlock = some k ∨ ∃ u ∈ us, u.ownBlock = some k) w w' from fun w' hk => hk.mono fun k _ e => e.imp (fun e => by rw [e]; rfl) id)
    clear h h2 hh
    go_enter Try.func32, Try.ntmps32
    go_wp2_with fail
    go_loopw [2] (fun iv wr => ∃ i : Nat, iv = .int .i64 i ∧ i ≤ ls.length ∧ Sp w wr B g i us ls) (fun iv _ => ls.length - (intOf iv).toNat)
    case atStart => exact ⟨0, rfl, Nat.zero_le _, HS.out⟩
    case round =>
      obtain ⟨i, rfl, hil, hsp⟩ := hrel
      have HSP := Lib.hid hsp
      have hsz := hsp.kept.size
      by_cases hlt : i < ls.length
      · have hlti : (i : Int) < (ls.length : Int) := by omega
        have hi0 : (0 : Int) ≤ (i : Int) := by omega
        have hiu : i < us.length := by rw [HLN.out]; exact hlt
        obtain ⟨cur2, hb2, hc2⟩ := hsp.blk
        have hcell := hb2.c i (hc2 i hiu (Nat.le_refl _))
        have hrow := hsp.rows i hiu hlt (Nat.le_refl _)
        have HSB := Lib.hid (spoil_any _ _ B wr hrow (by omega) (HL.out _ (List.getElem_mem hlt)))
        have HBK := Lib.hid hb2
        have hgi : us[i].ownBlock ≠ some g := fun e => HU.out.sep _ (List.getElem_mem hiu) g e rfl
        have HGI := Lib.hid hgi
        have HN := Lib.hid (fun w1 (hk : Kept (fun k => us[i].ownBlock = some k) wr w1) => Sp.next HU.out rfl HSP.out hiu hk)
        have HZ := Lib.hid (fun w1 (hk : Kept (fun k => us[i].ownBlock = some k) wr w1) => show Blk w1 g cur2 37 from hb2.kept hk hgi)
        have hci := hc2 i hiu (Nat.le_refl _)
        obtain ⟨xA, xc, hxe, _, _⟩ := hrow.slice
        rw [hxe] at hcell hci HSB HN HZ HGI
        generalize ls[i] = z at *
        have hgl := hb2.lt
        clear hsp hb2 hc2 hrow hgi hxe
        go_wp2_with fail
        refine Calls.mono HSB.out ?_
        rintro e w1 ⟨rfl, hk1⟩
        have hz := HZ.out w1 hk1
        have c1 := hz.c i hci
        have z1 := hz.fz i
        have HNX := Lib.hid (HN.out w1 hk1)
        have hs1 := hk1.size
        clear hz hk1
        go_wp2_with fail
        exact ⟨⟨i + 1, by go_num, by omega, HNX.out⟩, by simp [intOf]; omega⟩
      · have hlti : ¬ ((i : Int) < (ls.length : Int)) := by omega
        obtain rfl : i = ls.length := by omega
        clear hsp
        go_wp2_with fail
        go_end0
        exact ⟨rfl, HE.out _ HSP.out.kept⟩
end Go.Proofs.Ytahmihdahgbhkaa

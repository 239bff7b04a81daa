/-
  Bytes of package reply and the page's Bytes, walked: they answer a reply as it is sent, or the error of form.
  Conditions: as each theorem states them: the reply's texts lie in memory; the library's table of powers of ten is as its initialiser lays it.
-/
import Derived.Test.YtlefeebhilfkjaaDoorN
import Derived.Lib.LaidTab
import Derived.Lib.AppendIntMem
namespace Go.Proofs.YtlefeebhilfkjaaDoor
open Go.RowKit

/-- The library's table of powers of ten is as it is laid. -/
def Tab (w : World) : Prop := Lib.TabIs Tryd.prog w "internal/strconv.uint64pow10" .u64 Lib.pow10Tab

theorem gTab : Tryd.prog.globalNamed "internal/strconv.uint64pow10" = some 0 := by kernel_rfl

theorem Tab.keep {w w' : World} {B : Nat} (h : Tab w) (hb : Below B w w') (h0 : 0 < B) : Tab w' := by
  unfold Tab Lib.TabIs World.var? at h ⊢
  rw [gTab] at h ⊢
  simp only [Option.bind_some] at h ⊢
  rw [hb.block 0 h0]
  exact h

theorem itoa_any (n : Nat) (w : World) (ht : Tab w) (h1 : 200 ≤ n) (h2 : n ≤ 599) :
    Calls Tryd.prog 28 #[.int .i64 n] w fun e w' => e = .returned (.string ⟨(digs n).toArray⟩) ∧ Below w.heap.size w w' := by
  refine (Tryd.strconv_Itoa (n : Int) (by omega) (by omega) w ht).mono ?_
  rintro e w' ⟨rfl, k, os, rfl⟩
  rw [itoa_digs n (by omega) h1]
  exact ⟨rfl, Lib.below_grow _ w (Nat.le_refl _) k os⟩

theorem builder_blocks {B b : Nat} {bs : List Value} {w w' : World} (h : Lib.IsBuilderF 46 5 B b bs w)
    (hk : ∀ (j : Nat) (c : Array Value) (t : TypeId) (fz : Nat × Nat), (t = 46 ∨ t = 5) → w.heap[j]? = some (.cells c t fz) → w'.heap[j]? = some (.cells c t fz)) : Lib.IsBuilderF 46 5 B b bs w' := by
  have key : ∀ p, Lib.BuilderAtF 46 5 B b p bs w → Lib.BuilderAtF 46 5 B b p bs w' := by
    rintro p ⟨hB, v, hbk, hown, hne⟩
    refine ⟨hB, v, hk _ _ _ _ (.inl rfl) hbk, ⟨hown.1, ?_⟩, hne⟩
    rcases hown.2 with h0 | ⟨g, cap, cur, fz, hv, hBg, hg, rest⟩
    · exact .inl h0
    · exact .inr ⟨g, cap, cur, fz, hv, hBg, hk _ _ _ _ (.inr rfl) hg, rest⟩
  rcases h with h | h
  · exact .inl (key _ h)
  · exact .inr (key _ h)

theorem builder_below {B b : Nat} {bs : List Value} {w w' : World} (h : Lib.IsBuilderF 46 5 B b bs w) (hb : Below w.heap.size w w') : Lib.IsBuilderF 46 5 B b bs w' :=
  builder_blocks h fun j _ _ _ _ hj => (hb.block j (Array.getElem?_eq_some_iff.1 hj).1).trans hj

theorem writeL (B b : Nat) (bs l : List UInt8) (w : World) (h : Lib.IsBuilderF 46 5 B b (Lib.byteCells bs) w) (hlen : bs.length + l.length ≤ 100000) (hBw : B ≤ w.heap.size) :
    Calls Tryd.prog 27 #[.pointer (some ⟨b, 0, none⟩), .string ⟨l.toArray⟩] w fun e w' => e = .returned (.tuple #[.int .i64 l.length, .nilIface]) ∧ Lib.IsBuilderF 46 5 B b (Lib.byteCells (bs ++ l)) w' ∧ Below B w w' := by
  have := writeString_any B b (Lib.byteCells bs) ⟨l.toArray⟩ w h (by rw [Lib.byteCells_length]; show bs.length + l.length ≤ _; omega) hBw
  rw [Lib.byteCells_append]
  exact this.mono fun _ _ h => ⟨h.1, h.2.1, h.2.2.1⟩

theorem writeB (B b : Nat) (bs : List UInt8) (c : UInt8) (z : Int) (hz : z = (c.toNat : Int)) (w : World) (h : Lib.IsBuilderF 46 5 B b (Lib.byteCells bs) w) (hlen : bs.length ≤ 100000) (hBw : B ≤ w.heap.size) :
    Calls Tryd.prog 29 #[.pointer (some ⟨b, 0, none⟩), .int .u8 z] w fun e w' => e = .returned .nilIface ∧ Lib.IsBuilderF 46 5 B b (Lib.byteCells (bs ++ [c])) w' ∧ Below B w w' := by
  subst hz
  have := writeByte_any B b (Lib.byteCells bs) (c.toNat : Int) w h (by rw [Lib.byteCells_length]; omega) hBw
  rw [Lib.byteCells_append]
  exact this.mono fun _ _ h => ⟨h.1, h.2.1, h.2.2.1⟩

set_option maxHeartbeats 1000000 in
theorem writeLine_any (B b n : Nat) (bs s : List UInt8) (more : Bool) (w : World) (h : Lib.IsBuilderF 46 5 B b (Lib.byteCells bs) w) (hlen : bs.length + s.length ≤ 90000) (hBw : B ≤ w.heap.size) (ht : Tab w) (h1 : 200 ≤ n) (h2 : n ≤ 599) :
    Calls Tryd.prog 17 #[.pointer (some ⟨b, 0, none⟩), .int .i64 n, .bool more, .string ⟨s.toArray⟩] w fun e w' => e = .returned (.tuple #[]) ∧ Lib.IsBuilderF 46 5 B b (Lib.byteCells (bs ++ lineB n (if more = true then 45 else 32) s)) w' ∧ Below B w w' := by
  have HB := Lib.hid h
  have HT := Lib.hid (itoa_any n w ht h1 h2)
  have hdl : (digs n).length = 3 := rfl
  clear h ht
  go_enter Tryd.func17, Tryd.ntmps17
  go_wp2_with fail
  refine Calls.mono HT.out ?_
  rintro e w1 ⟨rfl, hb1⟩
  have hs1 := hb1.size
  have HB1 := Lib.hid (hb1.mono hBw)
  have hi1 := builder_below HB.out hb1
  clear hb1 HT
  go_wp2_with fail
  refine (writeL B b bs (digs n) _ hi1 (by omega) (by omega)).mono ?_
  rintro e w2 ⟨rfl, hi2, hb2⟩
  have hs2 := hb2.size
  have HB2 := Lib.hid (HB1.out.trans hb2)
  clear hi1 hb2
  cases more with
  | true =>
    go_wp2_with fail
    refine (writeB B b (bs ++ digs n) 45 45 rfl _ hi2 (by simp; omega) (by omega)).mono ?_
    rintro e w3 ⟨rfl, hi3, hb3⟩
    have hs3 := hb3.size
    have HB3 := Lib.hid (HB2.out.trans hb3)
    clear hi2 hb3
    go_wp2_with fail
    refine (writeL B b (bs ++ digs n ++ [45]) s _ hi3 (by simp; omega) (by omega)).mono ?_
    rintro e w4 ⟨rfl, hi4, hb4⟩
    have hs4 := hb4.size
    have HB4 := Lib.hid (HB3.out.trans hb4)
    clear hi3 hb4
    go_wp2_with fail
    refine (writeL B b (bs ++ digs n ++ [45] ++ s) [13, 10] _ hi4 (by simp; omega) (by omega)).mono ?_
    rintro e w5 ⟨rfl, hi5, hb5⟩
    have HB5 := Lib.hid (HB4.out.trans hb5)
    have HI5 := Lib.hid hi5
    clear hi4 hb5 hi5
    go_wp2_with fail
    go_end0
    refine ⟨rfl, ?_, HB5.out⟩
    have := HI5.out
    simpa [lineB] using this
  | false =>
    go_wp2_with fail
    refine (writeB B b (bs ++ digs n) 32 32 rfl _ hi2 (by simp; omega) (by omega)).mono ?_
    rintro e w3 ⟨rfl, hi3, hb3⟩
    have hs3 := hb3.size
    have HB3 := Lib.hid (HB2.out.trans hb3)
    clear hi2 hb3
    go_wp2_with fail
    refine (writeL B b (bs ++ digs n ++ [32]) s _ hi3 (by simp; omega) (by omega)).mono ?_
    rintro e w4 ⟨rfl, hi4, hb4⟩
    have hs4 := hb4.size
    have HB4 := Lib.hid (HB3.out.trans hb4)
    clear hi3 hb4
    go_wp2_with fail
    refine (writeL B b (bs ++ digs n ++ [32] ++ s) [13, 10] _ hi4 (by simp; omega) (by omega)).mono ?_
    rintro e w5 ⟨rfl, hi5, hb5⟩
    have HB5 := Lib.hid (HB4.out.trans hb5)
    have HI5 := Lib.hid hi5
    clear hi4 hb5 hi5
    go_wp2_with fail
    go_end0
    refine ⟨rfl, ?_, HB5.out⟩
    have := HI5.out
    simpa [lineB] using this
end Go.Proofs.YtlefeebhilfkjaaDoor

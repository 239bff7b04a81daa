/-
  The law FrameParts, walked: at every stream and every way to part it that can be read it answers true and turns nothing that was there.
  Conditions: as the theorem states them.
-/
import Derived.Test.YtnhmhdfnphlngaaT
import Derived.Deep.RegionHeld3
namespace Go.Proofs.Ytnhmhdfnphlngaa
open Go.RowKit

/-- The slice value v reads as whole numbers, in a block below H. -/
def IntsAt (w : World) (H : Nat) (v : Value) (n : Nat) : Prop :=
  ∃ A cap, v = .slice A n cap ∧ (0 < n → ∃ a : Addr, A = some a ∧ a.block < H ∧ ∀ j, j < n → ∃ z : Int, w.cell? (a.add j) = some (.int .i64 z))

theorem own_keep {w w' : World} {B : Nat} {e : TypeId} {size n : Nat} {v : Value} {xs : List Value} (h : w.ownsRow B e size v n xs) (hk : ∀ k, v.ownBlock = some k → w'.heap[k]? = w.heap[k]?) : w'.ownsRow B e size v n xs := by
  refine ⟨h.1, ?_⟩
  rcases h.2 with h | ⟨g, cap, cur, rfl, hb, hg, r⟩
  · exact .inl h
  · exact .inr ⟨g, cap, cur, rfl, hb, (hk g rfl).trans hg, r⟩

theorem add_again (a : Addr) (i j : Nat) : (a.add i).add j = a.add (i + j) := by
  unfold Addr.add
  by_cases hi : i = 0 <;> by_cases hj : j = 0 <;> simp [hi, hj, Nat.add_assoc]

theorem own_set_type {w : World} {B : Nat} {e : TypeId} {size n : Nat} {v : Value} {xs : List Value} (h : w.ownsRow B e size v n xs) {b : Nat} {cs : Array Value} {t : TypeId} {fz : Nat × Nat} (hb : w.heap[b]? = some (.cells cs t fz)) (hne : e ≠ t) (i : Nat) (u : Value) :
    (w.setCell ⟨b, i, none⟩ u).ownsRow B e size v n xs := by
  refine ⟨h.1, ?_⟩
  rcases h.2 with h | ⟨g, cap, cur, rfl, hB, hg, r⟩
  · exact .inl h
  · refine .inr ⟨g, cap, cur, rfl, hB, (Below.heap_setCell _ _ _ _ (fun e => ?_)).trans hg, r⟩
    have e' : g = b := e
    subst e'
    rw [hg] at hb
    injection hb with hb
    injection hb with _ ht
    exact hne ht

/-- In the midst of a stream: the framer lies in block nb, the lines so far in a row behind it; below nb all is as it was in w0. -/
structure PT (w0 wr : World) (nb : Nat) (gv : Value) (r : Rd) : Prop where
  blk : wr.heap[nb]? = some (.cells #[.string ⟨r.rest.toArray⟩, .bool r.skip] 25 (0, 0))
  own : wr.ownsRow (nb + 1) 49 2 gv r.lines.length (lineCells r.lines)
  bel : Below nb w0 wr
  le : nb + 1 ≤ wr.heap.size

section
variable {w0 wr w' : World} {nb : Nat} {gv gv' : Value} {r : Rd}
theorem PT.c0 (h : PT w0 wr nb gv r) : wr.cell? ⟨nb, 0, none⟩ = some (.string ⟨r.rest.toArray⟩) := by simp [World.cell?, h.blk]
theorem PT.c1 (h : PT w0 wr nb gv r) : wr.cell? ⟨nb, 1, none⟩ = some (.bool r.skip) := by simp [World.cell?, h.blk]
theorem PT.z (h : PT w0 wr nb gv r) (i : Nat) : wr.frozen? ⟨nb, i, none⟩ = false := by simp [World.frozen?, h.blk]
theorem PT.later (h : PT w0 wr nb gv r) (hb : Below wr.heap.size wr w') : PT w0 w' nb gv r := by
  have hle := h.le
  exact ⟨(hb.block nb (by omega)).trans h.blk, own_later h.own hb, h.bel.trans (hb.mono (by omega)), Nat.le_trans hle hb.size⟩
theorem PT.set (h : PT w0 wr nb gv r) (rest : List UInt8) (k : Bool) : PT w0 ((wr.setCell ⟨nb, 0, none⟩ (.string ⟨rest.toArray⟩)).setCell ⟨nb, 1, none⟩ (.bool k)) nb gv ⟨rest, k, r.lines⟩ :=
  ⟨set_two h.blk _ _, ownsRow_setCell_below (ownsRow_setCell_below h.own (by simp) _) (by simp) _, (h.bel.setCell (Nat.le_refl _) _).setCell (Nat.le_refl _) _, by simpa [World.setCell] using h.le⟩
theorem PT.grown {lines' : List (List UInt8 × Bool)} (h : PT w0 wr nb gv r) (hg : wr.grownBy w' gv.ownBlock) (ho : w'.ownsRow (nb + 1) 49 2 gv' lines'.length (lineCells lines')) : PT w0 w' nb gv' ⟨r.rest, r.skip, lines'⟩ := by
  have hle := h.le
  have hne : ∀ k, k < nb + 1 → some k ≠ gv.ownBlock := fun k hk e => by have := (h.own.lt k e.symm).1; omega
  exact ⟨(hg.block nb (by omega) (hne nb (by omega))).trans h.blk, ho, h.bel.grown hg (by omega) (fun k hk => by have := (h.own.lt k hk).1; omega), Nat.le_trans hle hg.size⟩
end

set_option maxHeartbeats 2000000 in
set_option maxRecDepth 100000 in
theorem parts_any (m : Int) (x : List UInt8) (n : Nat) (xv sv : Value) (w : World) (hm : w.cell? ⟨0, 0, none⟩ = some (.int .i64 m)) (h0 : 0 < w.heap.size) (hx : BytesAt w w.heap.size xv x) (hs : IntsAt w w.heap.size sv n) (hxl : x.length ≤ maxLen) (hnl : n ≤ maxLen) :
    Calls Try.prog 5 #[.agg #[xv, sv]] w fun e w' => e = .returned (.bool true) ∧ Below w.heap.size w w' := by
  unfold maxLen at hxl hnl
  have hx' := hx
  obtain ⟨A, xc, rfl, hxc, hxx⟩ := hx'
  obtain ⟨Z, zc, rfl, hzz⟩ := hs
  have HX := Lib.hid hxx
  have HZ := Lib.hid hzz
  clear hxx hzz
  by_cases hbig : x.length ≤ 5000 ∧ n ≤ 2000
  · obtain ⟨hx5, hn2⟩ := hbig
    have d1 : decide ((5000 : Int) < (x.length : Int)) = false := by simp; omega
    have d2 : decide ((2000 : Int) < (n : Int)) = false := by simp; omega
    have hm1 : ∀ o, (w.alloc o).cell? ⟨0, 0, none⟩ = some (.int .i64 m) := fun o => (World.cell?_alloc_lt w o _ h0).trans hm
    have hv0 := Lib.hid (show validL (ByteArray.mk #[]).data.toList false = true from by decide)
    go_enter Try.func5, Try.ntmps5
    go_wp2_with fail
    refine (feed_good ⟨#[]⟩ false x m _ _ (hm1 _) (by simp) (by unfold maxLen; simp [ByteArray.size]) hv0.out ((hx.keep (fun k hk => Below.heap_alloc w _ k hk)).mono (by simp)) (by omega)).mono ?_
    rintro e w1 ⟨lv, rfl, hol, hb1⟩
    have hBw1 : Below w.heap.size w w1 := ((Below.refl _ _).alloc (Nat.le_refl _) _).trans (hb1.mono (by simp))
    have hpb : w1.heap[w.heap.size]? = some (.cells #[.slice A x.length xc, .slice Z n zc] 45 (0, 0)) := (hb1.block _ (by simp)).trans (heap_alloc_new _ _)
    have hlt1 : w.heap.size < w1.heap.size := by have := hb1.size; simp at this; omega
    generalize hR : (Rd.of (ByteArray.mk #[]).data.toList false).feed x = R at *
    have HR := Lib.hid hR
    clear hR hb1
    -- the world at the loop's head
    have hola := (hol.alloc (.cells #[.string ⟨R.rest.toArray⟩, .bool R.skip] 25)).alloc (.cells #[.string ⟨#[]⟩, .bool false] 25)
    have hsz0 : ((w1.alloc (.cells #[.string ⟨R.rest.toArray⟩, .bool R.skip] 25)).alloc (.cells #[.string ⟨#[]⟩, .bool false] 25)).heap.size = w1.heap.size + 2 := by simp
    have hP0 : PT ((w1.alloc (.cells #[.string ⟨R.rest.toArray⟩, .bool R.skip] 25)).alloc (.cells #[.string ⟨#[]⟩, .bool false] 25)) ((w1.alloc (.cells #[.string ⟨R.rest.toArray⟩, .bool R.skip] 25)).alloc (.cells #[.string ⟨#[]⟩, .bool false] 25)) (w1.heap.size + 1) (.slice none 0 0) ((Rd.of [] false).feed (x.take 0)) :=
      ⟨by have := heap_alloc_new (w1.alloc (.cells #[.string ⟨R.rest.toArray⟩, .bool R.skip] 25)) (.cells #[.string ⟨#[]⟩, .bool false] 25); rw [show (w1.alloc (.cells #[.string ⟨R.rest.toArray⟩, .bool R.skip] 25)).heap.size = w1.heap.size + 1 from by simp] at this; exact this, ⟨rfl, .inl ⟨rfl, rfl⟩⟩, Below.refl _ _, by simp⟩
    have hab : ((w1.alloc (.cells #[.string ⟨R.rest.toArray⟩, .bool R.skip] 25)).alloc (.cells #[.string ⟨#[]⟩, .bool false] 25)).heap[w1.heap.size]? = some (.cells #[.string ⟨R.rest.toArray⟩, .bool R.skip] 25 (0, 0)) :=
      (Below.heap_alloc _ _ _ (by simp)).trans (heap_alloc_new _ _)
    have hpb0 : ((w1.alloc (.cells #[.string ⟨R.rest.toArray⟩, .bool R.skip] 25)).alloc (.cells #[.string ⟨#[]⟩, .bool false] 25)).heap[w.heap.size]? = some (.cells #[.slice A x.length xc, .slice Z n zc] 45 (0, 0)) :=
      (Below.heap_alloc _ _ _ (by simp; omega)).trans ((Below.heap_alloc _ _ _ hlt1).trans hpb)
    have hBw0 : Below w.heap.size w ((w1.alloc (.cells #[.string ⟨R.rest.toArray⟩, .bool R.skip] 25)).alloc (.cells #[.string ⟨#[]⟩, .bool false] 25)) := (hBw1.alloc (by omega) _).alloc (by simp; omega) _
    have hol0 : ((w1.alloc (.cells #[.string ⟨R.rest.toArray⟩, .bool R.skip] 25)).alloc (.cells #[.string ⟨#[]⟩, .bool false] 25)).ownsRow (w.heap.size + 1) 49 2 lv R.lines.length (lineCells R.lines) := by simpa using hola
    have hlvlt : ∀ q, lv.ownBlock = some q → q < w1.heap.size := fun q hq => (hol.lt q hq).2
    have HP0 := Lib.hid hP0
    have HAB := Lib.hid hab
    have HPB := Lib.hid hpb0
    have HOL := Lib.hid hol0
    have HLV := Lib.hid hlvlt
    clear hola hsz0 hP0 hab hpb0 hol0 hlvlt hol hpb hm1
    go_wp2_with fail
    generalize hw0 : (w1.alloc (.cells #[.string ⟨R.rest.toArray⟩, .bool R.skip] 25)).alloc (.cells #[.string ⟨#[]⟩, .bool false] 25) = w0 at *
    have HW0 := Lib.hid hw0
    clear hw0
    go_loopw [7, 8, 9] (fun gv at_ kv wr => ∃ p kk : Nat, p ≤ 20000 ∧ kk ≤ p ∧ at_ = .int .i64 p ∧ kv = .int .i64 kk ∧ PT w0 wr (w1.heap.size + 1) gv ((Rd.of [] false).feed (x.take p))) (fun _ at_ _ _ => x.length - (intOf at_).toNat)
    case atStart => exact ⟨0, 0, by omega, Nat.le_refl _, rfl, rfl, HP0.out⟩
    case round =>
      obtain ⟨p, kk, hp2, hkp, rfl, rfl, hP⟩ := hrel
      have hpbr := (hP.bel.block w.heap.size (by omega)).trans HPB.out
      have px : wr.cell? ⟨w.heap.size, 0, none⟩ = some (.slice A x.length xc) := by simp [World.cell?, hpbr]
      have pz : wr.cell? ⟨w.heap.size, 1, none⟩ = some (.slice Z n zc) := by simp [World.cell?, hpbr]
      have hBr : Below w.heap.size w wr := hBw0.trans (hP.bel.mono (by omega))
      have hm1 := (hBr.cell (p := ⟨0, 0, none⟩) h0).trans hm
      have hszr := hBr.size
      have c0 := hP.c0
      have c1 := hP.c1
      clear hpbr
      by_cases hlt : p < x.length
      · obtain ⟨a, rfl, hab, hac⟩ := HX.out (fun e => by rw [e] at hlt; exact absurd hlt (by simp))
        have HAC := Lib.hid hac
        clear hac
        go_upto_if 48 with (fail)
        go_cut [10] (fun nv wc => ∃ q : Nat, 1 ≤ q ∧ q ≤ 6000 ∧ nv = .int .i64 q ∧ wr = wc)
        case first =>
          by_cases hk : kk < n
          · obtain ⟨za, rfl, hzb, hzc⟩ := HZ.out (by omega)
            obtain ⟨z, hz⟩ := hzc kk hk
            have hzr : wr.cell? (za.add kk) = some (.int .i64 z) := (hBr.cell (by rw [block_add]; exact hzb)).trans hz
            have hki : (kk : Int) < (n : Int) := by omega
            clear hzc hz
            go_wp2_with (go_at_call 17; refine (within_any _ _).mono ?_; rintro e w' ⟨y, ⟨hy0, hy1⟩, rfl, rfl⟩)
            go_meet
            case rel => exact ⟨(1 + y).toNat, by omega, by omega, by rw [Int.toNat_of_nonneg (by omega)], rfl⟩
          · have hki : ¬ (kk : Int) < (n : Int) := by omega
            go_wp2_with fail
            go_meet
            case rel => exact ⟨1 + x.length / 7, by omega, by omega, by go_num, rfl⟩
        case rest =>
          obtain ⟨q, hq1, hq6, rfl, rfl⟩ := hcut
          go_wp2_with fail
          generalize hr : (Rd.of [] false).feed (x.take p) = r at *
          have Hr := Lib.hid hr
          clear hr
          have hvr : Hid (validL (ByteArray.mk r.rest.toArray).data.toList r.skip = true) := by
            have h4 := Rd.valid_feed (r := Rd.of [] false) (by decide) (x.take p)
            rw [Hr.out] at h4
            exact h4
          have hrs : (ByteArray.mk r.rest.toArray).size ≤ maxLen := by
            have h4 := (Rd.ok_feed (Rd.ok_of (l := []) (k := false) (by decide)) (x.take p)).1
            rw [Hr.out] at h4
            have : (ByteArray.mk r.rest.toArray).size = r.rest.length := rfl
            unfold maxLen
            omega
          have hrl : r.lines.length ≤ p := by
            have h1 := Rd.lines_feed (Rd.of [] false) (x.take p)
            have h2 : (Rd.of [] false).lines.length = 0 := rfl
            have h3 : (x.take p).length ≤ p := List.length_take_le _ _
            rw [Hr.out] at h1
            omega
          obtain ⟨hi, hmin, hi1, hi2, hi3⟩ : ∃ hi : Nat, min ((p : Int) + (q : Int)) (x.length : Int) = (hi : Int) ∧ p ≤ hi ∧ hi ≤ xc ∧ hi - p = ((x.drop p).take q).length := by
            refine ⟨min (p + q) x.length, by omega, by omega, by omega, ?_⟩
            simp
            omega
          have hyl : ((x.drop p).take q).length < 1000000 := by omega
          have hbytes : Hid (∀ W : World, Below w.heap.size w W → BytesAt W W.heap.size (.slice (some (a.add p)) (hi - p) (xc - p)) ((x.drop p).take q)) := fun W hW => by
            refine ⟨some (a.add p), xc - p, by rw [hi3], by omega, fun _ => ⟨a.add p, rfl, by rw [block_add]; exact Nat.lt_of_lt_of_le hab hW.size, fun j hj => ?_⟩⟩
            have hj' : p + j < x.length := by simp at hj; omega
            rw [add_again, hW.cell (by rw [block_add]; exact hab), HAC.out (p + j) hj']
            simp
          have hnb1 : w1.heap.size + 1 < wr.heap.size := hP.le
          have h0c : 0 < wr.heap.size := by omega
          generalize hy : (x.drop p).take q = y at *
          have HY := Lib.hid hy
          have HI3 := Lib.hid hi3
          clear hy hi3
          generalize hry : (Rd.of r.rest r.skip).feed y = ry
          have HRY := Lib.hid hry
          clear hry
          go_cut [11, 12, 13] (fun pv lw ev wd => Fed wr wd ry pv lw ∧ ev = .int .i64 0)
          case first =>
            have hsum : IntKind.i64.wrap ((p : Int) + (q : Int)) = (p : Int) + (q : Int) := IntWalk.i64_in _ (by omega)
            have hw1 : (0 : Int) ≤ (p : Int) := by omega
            have hw2 : (p : Int) ≤ (hi : Int) := by omega
            have hw3 : (hi : Int) ≤ (xc : Int) := by omega
            have hw4 : ¬ xc = p := by omega
            have hn1 : ¬ w1.heap.size + 1 = wr.heap.size := by omega
            have hn2 : ¬ wr.heap.size = w1.heap.size + 1 := by omega
            have hn3 : ¬ w.heap.size = wr.heap.size := by omega
            have hn4 : ¬ wr.heap.size = w.heap.size := by omega
            have hcm : ∀ o, (wr.alloc o).cell? ⟨0, 0, none⟩ = some (.int .i64 m) := fun o => (World.cell?_alloc_lt _ o _ (by simp; omega)).trans hm1
            have HS : Hid (∀ W : World, Below wr.heap.size wr W → W.cell? ⟨w1.heap.size + 1, 0, none⟩ = some (.string ⟨r.rest.toArray⟩) ∧ W.cell? ⟨w1.heap.size + 1, 1, none⟩ = some (.bool r.skip) ∧ W.cell? ⟨w.heap.size, 0, none⟩ = some (.slice (some a) x.length xc)) := fun W hW =>
              ⟨(hW.cell (p := ⟨w1.heap.size + 1, 0, none⟩) hnb1).trans c0, (hW.cell (p := ⟨w1.heap.size + 1, 1, none⟩) hnb1).trans c1, (hW.cell (p := ⟨w.heap.size, 0, none⟩) (show w.heap.size < wr.heap.size by omega)).trans px⟩
            go_region_held3 (fun W => W.cell? ⟨w1.heap.size + 1, 0, none⟩ = some (.string ⟨r.rest.toArray⟩) ∧ W.cell? ⟨w1.heap.size + 1, 1, none⟩ = some (.bool r.skip) ∧ W.cell? ⟨w.heap.size, 0, none⟩ = some (.slice (some a) x.length xc))
              (first | exact HS.out _ (Below.refl _ _).drew | exact HS.out _ ((Below.refl _ _).alloc (Nat.le_refl _) _).drew | exact HS.out _ hk5 | exact HS.out _ (hk5.alloc hk5.size _) | exact HS.out _ ((hk5.setCell (Nat.le_refl _) _).setCell (Nat.le_refl _) _))
              (first | (go_at_call 13; refine (feed_good ⟨r.rest.toArray⟩ r.skip y m _ _ (by first | exact hm1 | exact hcm _) (by first | exact h0c | (simp; done)) hrs hvr.out (hbytes.out _ (by first | exact hBr.drew | exact (hBr.alloc hszr _).drew)) hyl).mono ?_; rw [show (Rd.of (ByteArray.mk r.rest.toArray).data.toList r.skip).feed y = ry from HRY.out]; rintro e w5 ⟨lw, rfl, how, hb5⟩; (have hk5 : Below wr.heap.size wr w5 := (by first | exact (Below.refl _ _).drew.trans hb5 | exact (((Below.refl _ _).alloc (Nat.le_refl _) _).drew).trans (hb5.mono (Nat.le_succ_of_le (Nat.le_refl _))) | exact (((Below.refl _ _).alloc (Nat.le_refl _) _).drew).trans (hb5.mono (by simp)))); (have e0 := fun h => hb5.cell (p := ⟨wr.heap.size, 0, none⟩) h); (have e1 := fun h => hb5.cell (p := ⟨wr.heap.size, 1, none⟩) h); (have f0 := fun i h => hb5.frozen (p := ⟨wr.heap.size, i, none⟩) h)))
            all_goals
              go_wp2_with fail
              go_meet
              case rel =>
                first
                | exact ⟨Fed.after hb5 how, rfl⟩
                | exact ⟨Fed.ahead hb5 how, rfl⟩
          case rest =>
            obtain ⟨⟨n11, B11, rfl, hblk, how, hbw⟩, rfl⟩ := hcut
            have hPd := hP.later hbw
            have hryl : ry.lines.length ≤ y.length := by
              have h1 := Rd.lines_feed (Rd.of r.rest r.skip) y
              have h2 : (Rd.of r.rest r.skip).lines.length = 0 := rfl
              rw [HRY.out] at h1
              omega
            have x0 : wc.cell? ⟨n11, 0, none⟩ = some (.string ⟨ry.rest.toArray⟩) := by simp [World.cell?, hblk]
            have x1 : wc.cell? ⟨n11, 1, none⟩ = some (.bool ry.skip) := by simp [World.cell?, hblk]
            have b0 := hPd.c0
            have b1 := hPd.c1
            have z0 := hPd.z 0
            have z1 := hPd.z 1
            have hP3 := hPd.set ry.rest ry.skip
            have hlw3 := own_set_type (own_set_type how hPd.blk (by decide) 0 (.string ⟨ry.rest.toArray⟩)) (b := w1.heap.size + 1) (cs := #[.string ⟨ry.rest.toArray⟩, .bool r.skip]) (t := 25) (fz := (0, 0)) (by simp [World.setCell, Array.getElem?_modify, hPd.blk]) (by decide) 1 (.bool ry.skip)
            have hnext : Hid ((Rd.of [] false).feed (x.take (p + q)) = ⟨ry.rest, ry.skip, r.lines ++ ry.lines⟩) := by
              show _ = _
              rw [List.take_add, Rd.feed_append, Hr.out, HY.out, Rd.feed_more, HRY.out]
            have HP3 := Lib.hid hP3
            have HL3 := Lib.hid hlw3
            have hz1' : ∀ v, (wc.setCell ⟨w1.heap.size + 1, 0, none⟩ v).frozen? ⟨w1.heap.size + 1, 1, none⟩ = false := fun v => by
              have h1 : (wc.setCell ⟨w1.heap.size + 1, 0, none⟩ v).heap[w1.heap.size + 1]? = some (.cells #[v, .bool r.skip] 25 (0, 0)) := by simp [World.setCell, Array.getElem?_modify, hPd.blk]
              simp [World.frozen?, h1]
            clear hP3 hlw3 hblk how hPd hP c0 c1 px pz
            go_wp2_with (first | (go_at_call 8; refine (num_any _ _).mono ?_; rintro e w' ⟨rfl, rfl⟩) | (at_builtin; refine wpList_append_lines _ (.tmp 77) (.tmp 78) (w1.heap.size + 1 + 1) B11 u7 u12 r.lines ry.lines rfl rfl rfl rfl HP3.out.own HL3.out HP3.out.le (by omega) (by omega) ?_))
            intro gv' w7 hown7 hgrow7
            have hP7 := HP3.out.grown (lines' := r.lines ++ ry.lines) hgrow7 (by simpa using hown7)
            go_wp2
            exact ⟨⟨p + q, kk + 1, by omega, by omega, by go_num, by go_num, by rw [hnext.out]; exact hP7⟩, by simp [intOf]; omega⟩
      · have hxt := Lib.hid (show x.take p = x from List.take_of_length_le (by omega))
        have hrR : (Rd.of [] false).feed (x.take p) = R := by rw [hxt.out]; exact HR.out
        rw [hrR] at hP c0 c1
        clear hrR
        have habr := (hP.bel.block w1.heap.size (by omega)).trans HAB.out
        have a0 : wr.cell? ⟨w1.heap.size, 0, none⟩ = some (.string ⟨R.rest.toArray⟩) := by simp [World.cell?, habr]
        have a1 : wr.cell? ⟨w1.heap.size, 1, none⟩ = some (.bool R.skip) := by simp [World.cell?, habr]
        have hlr := Lib.hid (own_keep HOL.out (w' := wr) (fun q hq => hP.bel.block q (by have := HLV.out q hq; omega)))
        have hgr := Lib.hid hP.own
        have hRl : R.lines.length < 1000000 := by
          have h1 := Rd.lines_feed (Rd.of [] false) x
          have h2 : (Rd.of [] false).lines.length = 0 := rfl
          have h3 : (Rd.of [] false).feed x = R := HR.out
          rw [h3] at h1
          omega
        have hRv : Hid (validL (ByteArray.mk R.rest.toArray).data.toList R.skip = true) := by
          have h3 : (Rd.of [] false).feed x = R := HR.out
          have h4 := Rd.valid_feed (r := Rd.of [] false) (by decide) x
          rw [h3] at h4
          exact h4
        have hRs : (ByteArray.mk R.rest.toArray).size ≤ maxLen := by
          have h3 : (Rd.of [] false).feed x = R := HR.out
          have h4 := (Rd.ok_feed (Rd.ok_of (l := []) (k := false) (by decide)) x).1
          rw [h3] at h4
          have : (ByteArray.mk R.rest.toArray).size = R.rest.length := rfl
          unfold maxLen
          omega
        have hHP := Lib.hid hP
        clear habr hP
        go_wp2_with (first | (go_at_call 8; refine (num_any _ _).mono ?_; rintro e w' ⟨rfl, rfl⟩) | (go_at_call 15; refine (eqLines_same R.lines _ _ _ _ _ hgr.out hlr.out hRl).mono ?_; rintro e w6 ⟨rfl, hb6⟩; (have hk6 := hBr.trans (hb6.mono hszr)); (have hs6 := hk6.size); (have hP6 := hHP.out.later hb6); (have e0 := hP6.c0); (have e1 := hP6.c1); (have hm6 := (hk6.cell (p := ⟨0, 0, none⟩) h0).trans hm)) | (go_at_call 9; refine (check_any _ _ m _ hm6 (by omega) hRs).mono ?_; rintro e w7 ⟨rfl, hb7⟩; rw [hRv.out]; (have hk7 := hk6.trans (hb7.mono hs6)); (have hm7 := (hk7.cell (p := ⟨0, 0, none⟩) h0).trans hm); simp only [errOf, if_true]) | (go_at_call 11; refine (wakes_any m _ hm7 (by have := hk7.size; omega)).mono ?_; rintro e w8 ⟨rfl, hb8⟩))
        go_ret
        exact ⟨rfl, hk7.trans (hb8.mono hk7.size)⟩
  · by_cases h5 : 5000 < x.length
    · have d1 : decide ((5000 : Int) < (x.length : Int)) = true := by simp; omega
      go_enter Try.func5, Try.ntmps5
      go_wp2
      go_ret
      exact ⟨rfl, (Below.refl _ _).alloc (Nat.le_refl _) _⟩
    · have d1 : decide ((5000 : Int) < (x.length : Int)) = false := by simp; omega
      have d2 : decide ((2000 : Int) < (n : Int)) = true := by simp; omega
      go_enter Try.func5, Try.ntmps5
      go_wp2
      go_ret
      exact ⟨rfl, (Below.refl _ _).alloc (Nat.le_refl _) _⟩
end Go.Proofs.Ytnhmhdfnphlngaa

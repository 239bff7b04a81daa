/-
  Package grey's add, walked.
  Conditions: as each theorem states them.
-/
import Derived.Test.YtaglobnfdgencaaDoorGJ
namespace Go.Proofs.YtaglobnfdgencaaDoor
open Go.RowKit

set_option maxHeartbeats 2000000 in
theorem add_any (l : List Gy) (g : Gy) (v : Value) (B : Nat) (w : World) (h : GO w B v l) (hs : Srt l) (hl : l.length ≤ 32) (hB : B ≤ w.heap.size) :
    Calls Tryd.prog 25 #[v, gV g] w fun e w' => ∃ u, e = .returned u ∧ GO w' B u (insL (roomL l) g) ∧ Below B w w' ∧ Keeps v w w' := by
  obtain ⟨A, c, rfl, hlc, hc⟩ := h.slice
  have HG1 := Lib.hid (show GO (w.alloc (.cells #[.string g.k, .int .i64 g.b, .int .i64 g.l, .bool g.p] 53)) B (.slice A l.length c) l from World.ownsRow.alloc h _)
  have HE1 := Lib.hid (EAt.new w g)
  have HB1 := Lib.hid ((Below.refl B w).alloc hB (.cells #[.string g.k, .int .i64 g.b, .int .i64 g.l, .bool g.p] 53))
  have HLT := Lib.hid h.lt
  have HK1 := Lib.hid (show Keeps (.slice A l.length c) w (w.alloc (.cells #[.string g.k, .int .i64 g.b, .int .i64 g.l, .bool g.p] 53)) from Keeps.of ((Below.refl _ w).alloc (Nat.le_refl _) _))
  clear h
  unfold gV
  by_cases h32 : l.length = 32
  · have hq : ((l.length : Int) == 32) = true := by rw [h32]; rfl
    have h0 : 0 < l.length := by omega
    have HI0 := Lib.hid (show roomL l = l.eraseIdx (stI l) from if_pos h32)
    have HST := Lib.hid (stalest_any l (.slice A l.length c) _ HG1.out.gr h0 (by omega))
    clear h32
    go_enter Tryd.func25, Tryd.ntmps25
    go_wp2_with fail
    refine Calls.mono HST.out ?_
    rintro e w2 ⟨s, rfl, hst, hb2⟩
    have HS := Lib.hid hst
    have hsl := hst.lt
    have HG2 := Lib.hid (HG1.out.later hb2)
    have HE2 := Lib.hid (HE1.out.later hb2)
    have HB2 := Lib.hid (HB1.out.trans (hb2.mono (by simp; omega)))
    have HK2 := Lib.hid (HK1.out.trans HB1.out.size (Keeps.of hb2))
    clear hst hb2
    have hw1 : IntKind.i64.wrap ((s : Int) + 1) = (s : Int) + 1 := wrap_id (by omega) (by omega)
    have HD := Lib.hid (delete_any l (.slice A l.length c) B s w2 HG2.out hsl)
    go_wp2_with fail
    refine Calls.mono HD.out ?_
    rintro e w3 ⟨u3, rfl, hg3, hb3, ho3, hk3⟩
    have HG3 := Lib.hid hg3
    have HB3 := Lib.hid (HB2.out.trans hb3)
    have HE := Lib.hid (show EAt w3 w.heap.size g from (hk3 _ HE2.out.lt (fun e => by have := (HLT.out _ e).2; omega)).trans HE2.out)
    have hlen : (l.eraseIdx s).length ≤ 32 := by have := List.length_eraseIdx_le l s; omega
    have hsr : Srt (l.eraseIdx s) := hs.erase s
    have HI := Lib.hid (show insL (roomL l) g = insL (l.eraseIdx s) g by rw [HI0.out, HS.out.eq])
    have HK3 := Lib.hid (HK2.out.trans HB2.out.size hk3)
    clear hg3 hb3 hk3 hs
    generalize l.eraseIdx s = m at *
    obtain ⟨A3, C3, rfl, _, _⟩ := HG3.out.slice
    have HO := Lib.hid ho3.symm
    clear ho3
    have e0 := HE.out.c0
    have HP := Lib.hid (place_any m g.k (.slice A3 m.length C3) w3 HG3.out.gr hsr (by omega))
    go_wp2_with fail
    refine Calls.mono HP.out ?_
    rintro e w4 ⟨p, q, rfl, hat, hb4⟩
    have HAT := Lib.hid hat
    have HG4 := Lib.hid (HG3.out.later hb4)
    have HE4 := Lib.hid (HE.out.later hb4)
    have HB4 := Lib.hid (HB3.out.trans (hb4.mono (Nat.le_trans hB HB3.out.size)))
    have g0 := HE4.out.c0
    have g1 := HE4.out.c1
    have g2 := HE4.out.c2
    have g3 := HE4.out.c3
    have HK4 := Lib.hid (HK3.out.trans HB3.out.size (Keeps.of hb4))
    clear hat hb4
    have HIN := Lib.hid (insert_any m g (.slice A3 m.length C3) B p w4.heap.size (w4.alloc (.cells #[.string g.k, .int .i64 g.b, .int .i64 g.l, .bool g.p] 53)) (World.ownsRow.alloc HG4.out _) (EAt.new w4 g) (fun k hk he => by have := (HG4.out.lt k hk).2; omega) HAT.out.le (by have := HB4.out.size; simp; omega) (by omega))
    go_wp2_with fail
    refine Calls.mono HIN.out ?_
    rintro e w6 ⟨u6, rfl, hg6, hb6, hk6⟩
    have HG6 := Lib.hid (show GO w6 B u6 (insL (roomL l) g) from by rw [HI.out, HAT.out.ins]; exact hg6)
    have HB6 := Lib.hid ((HB4.out.alloc (Nat.le_trans hB HB4.out.size) _).trans hb6)
    obtain ⟨A6, C6, rfl, _, _⟩ := HG6.out.slice
    have HK6 := Lib.hid (show Keeps (.slice A l.length c) w w6 from (HK4.out.trans HB4.out.size (Keeps.of ((Below.refl _ w4).alloc (Nat.le_refl _) _))).trans (by have := HB4.out.size; simp; omega) (hk6.own HO.out))
    clear hg6 hb6 hk6
    go_wp2_with fail
    go_ret
    exact ⟨_, rfl, HG6.out, HB6.out, HK6.out⟩
  · have hq : ((l.length : Int) == 32) = false := by rw [beq_eq_false_iff_ne]; omega
    have HI := Lib.hid (show insL (roomL l) g = insL l g by unfold roomL; rw [if_neg h32])
    have HE := HE1
    clear h32
    go_enter Tryd.func25, Tryd.ntmps25
    have e0 := HE.out.c0
    have HP := Lib.hid (place_any l g.k (.slice A l.length c) _ HG1.out.gr hs (by omega))
    go_wp2_with fail
    refine Calls.mono HP.out ?_
    rintro e w4 ⟨p, q, rfl, hat, hb4⟩
    have HAT := Lib.hid hat
    have HG4 := Lib.hid (HG1.out.later hb4)
    have HE4 := Lib.hid (HE.out.later hb4)
    have HB4 := Lib.hid (HB1.out.trans (hb4.mono (Nat.le_trans hB HB1.out.size)))
    have g0 := HE4.out.c0
    have g1 := HE4.out.c1
    have g2 := HE4.out.c2
    have g3 := HE4.out.c3
    have HK4 := Lib.hid (HK1.out.trans HB1.out.size (Keeps.of hb4))
    clear hat hb4
    have HIN := Lib.hid (insert_any l g (.slice A l.length c) B p w4.heap.size (w4.alloc (.cells #[.string g.k, .int .i64 g.b, .int .i64 g.l, .bool g.p] 53)) (World.ownsRow.alloc HG4.out _) (EAt.new w4 g) (fun k hk he => by have := (HG4.out.lt k hk).2; omega) HAT.out.le (by have := HB4.out.size; simp; omega) (by omega))
    go_wp2_with fail
    refine Calls.mono HIN.out ?_
    rintro e w6 ⟨u6, rfl, hg6, hb6, hk6⟩
    have HG6 := Lib.hid (show GO w6 B u6 (insL (roomL l) g) from by rw [HI.out, HAT.out.ins]; exact hg6)
    have HB6 := Lib.hid ((HB4.out.alloc (Nat.le_trans hB HB4.out.size) _).trans hb6)
    obtain ⟨A6, C6, rfl, _, _⟩ := HG6.out.slice
    have HK6 := Lib.hid (show Keeps (.slice A l.length c) w w6 from (HK4.out.trans HB4.out.size (Keeps.of ((Below.refl _ w4).alloc (Nat.le_refl _) _))).trans (by have := HB4.out.size; simp; omega) (hk6.own rfl))
    clear hg6 hb6 hk6
    go_wp2_with fail
    go_ret
    exact ⟨_, rfl, HG6.out, HB6.out, HK6.out⟩
end Go.Proofs.YtaglobnfdgencaaDoor

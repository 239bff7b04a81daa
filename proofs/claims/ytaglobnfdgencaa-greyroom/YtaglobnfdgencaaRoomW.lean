/-
  GreyRoom: the law's walk.
  Conditions: as each theorem states them.
-/
import Derived.Test.YtaglobnfdgencaaGX
import Derived.Laws.IdiomStrings
namespace Go.Proofs.Ytaglobnfdgencaa
open Go.RowKit

/-- The key of each asking; the list behind so many; the smallest Last. -/
def keyAt (i : Nat) : ByteArray := ⟨#[UInt8.ofNat (122 - i % 26), UInt8.ofNat (97 + i / 26), UInt8.ofNat (97 + i % 26)]⟩
def listAt : Nat → List Gy
  | 0 => []
  | i + 1 => (askL (listAt i) (keyAt i) (10 + i) 0).1
def leastL (l : List Gy) : Int := l.foldl (fun a g => min a g.l) 1099511627776
def chk (i : Nat) : Bool :=
  let l := listAt i
  let x := listAt (i + 1)
  mayL l (keyAt i) (10 + i) 0 && ((askL l (keyAt i) (10 + i) 0).2 && (x.length == min (i + 1) 32 && (x.any (fun g => eqK g.k (keyAt i)) && (leastL x == 10 + max 0 ((i : Int) + 1 - 32) && decide (Srt x)))))
theorem chk_all : (List.range 42).all chk = true := by decide +kernel
structure Good (i : Nat) : Prop where
  may : mayL (listAt i) (keyAt i) (10 + i) 0 = true
  pass : (askL (listAt i) (keyAt i) (10 + i) 0).2 = true
  len : (listAt (i + 1)).length = min (i + 1) 32
  there : (listAt (i + 1)).any (fun g => eqK g.k (keyAt i)) = true
  least : leastL (listAt (i + 1)) = 10 + max 0 ((i : Int) + 1 - 32)
  srt : Srt (listAt (i + 1))
theorem good {i : Nat} (h : i < 42) : Good i := by
  have := List.all_eq_true.1 chk_all i (List.mem_range.2 h)
  unfold chk at this
  simp only [Bool.and_eq_true, beq_iff_eq, decide_eq_true_eq] at this
  obtain ⟨h1, h2, h3, h4, h5, h6⟩ := this
  exact ⟨h1, h2, h3, h4, h5, h6⟩
theorem listAt_len {i : Nat} (h : i ≤ 42) : (listAt i).length ≤ 32 := by
  cases i with
  | zero => exact Nat.zero_le _
  | succ i => rw [(good (show i < 42 by omega)).len]; omega
theorem bytes3 (a b c : UInt8) (x y z : Int) (hx : x = (a.toNat : Int)) (hy : y = (b.toNat : Int)) (hz : z = (c.toNat : Int)) (w : World) :
    (convert 43 9 (.slice (some ⟨w.heap.size, 0, none⟩) 3 3)).run Try.prog (w.alloc (.cells #[.int .u8 x, .int .u8 y, .int .u8 z] 5)) = .ok (.string ⟨#[a, b, c]⟩) (w.alloc (.cells #[.int .u8 x, .int .u8 y, .int .u8 z] 5)) := by
  subst hx hy hz
  refine run_convert_bytes_back (P := Try.prog) _ 43 9 5 ⟨w.heap.size, 0, none⟩ 3 [a, b, c] Try.underlying43 Try.underlying5 Try.underlying9 (fun j hj => ?_)
  have h := heap_alloc_new w (.cells #[.int .u8 (a.toNat : Int), .int .u8 (b.toNat : Int), .int .u8 (c.toNat : Int)] 5)
  rw [Addr.add_lit, Nat.zero_add, Lib.cell_of_heap h]
  match j, hj with
  | 0, _ => rfl
  | 1, _ => rfl
  | 2, _ => rfl
  | j + 3, hj => exact absurd hj (by simp)
/-- The inner loop, so far. -/
def Rel2 (X : List Gy) (key : ByteArray) (w0 : World) (tv lv kv : Value) (w : World) : Prop :=
  ∃ k : Nat, kv = .int .i64 k ∧ k ≤ X.length ∧ tv = .bool ((X.take k).any fun g => eqK g.k key) ∧ lv = .int .i64 (leastL (X.take k)) ∧ Below w0.heap.size w0 w
theorem Rel2.mk {X : List Gy} {key : ByteArray} {w0 : World} {t : Bool} {l k' : Int} {w : World} (k : Nat) (h0 : k' = k) (h1 : k ≤ X.length) (h2 : t = (X.take k).any fun g => eqK g.k key) (h3 : l = leastL (X.take k)) (h4 : Below w0.heap.size w0 w) :
    Rel2 X key w0 (.bool t) (.int .i64 l) (.int .i64 k') w := ⟨k, by rw [h0], h1, by rw [h2], by rw [h3], h4⟩
theorem any_next {X : List Gy} {key : ByteArray} {k : Nat} (h : k < X.length) : ((X.take (k + 1)).any fun g => eqK g.k key) = (((X.take k).any fun g => eqK g.k key) || eqK (X[k]).k key) := by
  rw [take_next h, List.any_append]
  simp
theorem least_next {X : List Gy} {k : Nat} (h : k < X.length) : leastL (X.take (k + 1)) = min (leastL (X.take k)) (X[k]).l := by
  unfold leastL
  rw [take_next h, List.foldl_append]
  rfl

set_option maxHeartbeats 8000000 in
set_option maxRecDepth 100000 in
theorem room_any (u1 u2 : Value) (G : List Gy) (L : List Ac) (w : World) (hG : GR w u1 G) (hL : AcsAt w u2 L) :
    Calls Try.prog 5 #[.agg #[u1, u2]] w fun e w' => e = .returned (.bool true) ∧ Below w.heap.size w w' := by
  obtain ⟨A1, c1, rfl, _, _⟩ := hG.slice
  obtain ⟨A2, c2, rfl, hlc2⟩ := hL.slice
  have HS := Lib.hid (SAt.new w (.slice A1 G.length c1) (.slice A2 L.length c2))
  have HB0 := Lib.hid ((Below.refl w.heap.size w).alloc (Nat.le_refl _) (.cells #[.slice A1 G.length c1, .slice A2 L.length c2] 25))
  obtain ⟨wb, hwb⟩ : ∃ wb, w.alloc (.cells #[.slice A1 G.length c1, .slice A2 L.length c2] 25) = wb := ⟨_, rfl⟩
  have HLB := Lib.hid (show w.heap.size + 1 ≤ wb.heap.size by rw [← hwb]; simp)
  rw [hwb] at HS HB0
  have HWK := Lib.hid (fun W => wakes_any W)
  have HNM := Lib.hid (fun W => num_any 0 W)
  have HWB := Lib.hid hwb
  clear hG hL hwb
  go_enter Try.func5, Try.ntmps5
  go_wp2_with fail
  rw [HWB.out]
  go_loopw [3, 4] (fun lv iv wr => ∃ i : Nat, iv = .int .i64 i ∧ i ≤ 42 ∧ GO wr (w.heap.size + 1) lv (listAt i) ∧ Below (w.heap.size + 1) wb wr) (fun _ iv _ => 43 - (intOf iv).toNat)
  case atStart => exact ⟨0, rfl, Nat.zero_le _, GO.nil _ _, Below.refl _ _⟩
  case round =>
    obtain ⟨i, rfl, hi42, hrow, hb⟩ := hrel
    have SB := Lib.hid hb
    have LL := Lib.hid hrow
    have HLEN := Lib.hid (listAt_len hi42)
    obtain ⟨lA, lC, rfl, _, _⟩ := hrow.slice
    clear hrow hb
    by_cases hlt : i < 42
    · have hlti : (i : Int) < 42 := by omega
      have HGD := Lib.hid (good hlt)
      have HI := Lib.hid hlt
      obtain ⟨m, hm⟩ : ∃ m, listAt i = m := ⟨_, rfl⟩
      have HM := Lib.hid hm
      rw [hm] at LL HLEN ⊢
      obtain ⟨r, hr⟩ : ∃ r : Int, (i : Int).tmod 26 = r := ⟨_, rfl⟩
      obtain ⟨d, hd⟩ : ∃ d : Int, (i : Int).tdiv 26 = d := ⟨_, rfl⟩
      have hr2 : (i : Int) % 26 = r := by rw [← hr, Int.tmod_eq_emod_of_nonneg (by omega)]
      have hd2 : (i : Int) / 26 = d := by rw [← hd, Int.tdiv_eq_ediv_of_nonneg (by omega)]
      have hr0 : r = ((i % 26 : Nat) : Int) := by omega
      have hd0 : d = ((i / 26 : Nat) : Int) := by omega
      have p1 : IntKind.i64.wrap (122 - r) = 122 - r := wrap_id (by omega) (by omega)
      have p2 : IntKind.i64.wrap (97 + d) = 97 + d := wrap_id (by omega) (by omega)
      have p3 : IntKind.i64.wrap (97 + r) = 97 + r := wrap_id (by omega) (by omega)
      have p4 : IntKind.i64.wrap (10 + (i : Int)) = 10 + (i : Int) := wrap_id (by omega) (by omega)
      have p5 : IntKind.i64.wrap ((i : Int) + 1) = (i : Int) + 1 := wrap_id (by omega) (by omega)
      have p6 : IntKind.i64.wrap ((i : Int) + 1 - 32) = (i : Int) + 1 - 32 := wrap_id (by omega) (by omega)
      obtain ⟨x, hx, hx2⟩ : ∃ x : Int, IntKind.u8.wrap (122 - r) = x ∧ x = ((UInt8.ofNat (122 - i % 26)).toNat : Int) := ⟨122 - r, by simp [IntKind.wrap, IntKind.bits, IntKind.signed]; omega, by simp; omega⟩
      obtain ⟨y, hy, hy2⟩ : ∃ y : Int, IntKind.u8.wrap (97 + d) = y ∧ y = ((UInt8.ofNat (97 + i / 26)).toNat : Int) := ⟨97 + d, by simp [IntKind.wrap, IntKind.bits, IntKind.signed]; omega, by simp; omega⟩
      obtain ⟨z, hz, hz2⟩ : ∃ z : Int, IntKind.u8.wrap (97 + r) = z ∧ z = ((UInt8.ofNat (97 + i % 26)).toNat : Int) := ⟨97 + r, by simp [IntKind.wrap, IntKind.bits, IntKind.signed]; omega, by simp; omega⟩
      obtain ⟨key, hkey⟩ : ∃ key, keyAt i = key := ⟨_, rfl⟩
      have hcv : (convert 43 9 (.slice (some ⟨wr.heap.size, 0, none⟩) 3 3)).run Try.prog (wr.alloc (.cells #[.int .u8 x, .int .u8 y, .int .u8 z] 5)) = .ok (.string key) (wr.alloc (.cells #[.int .u8 x, .int .u8 y, .int .u8 z] 5)) := by
        rw [← hkey]
        exact bytes3 _ _ _ x y z hx2 hy2 hz2 wr
      have HKEY := Lib.hid hkey
      clear hx2 hy2 hz2 hr0 hd0 hm hkey
      have HRN := Lib.hid (show GO (wr.alloc (.cells #[.int .u8 x, .int .u8 y, .int .u8 z] 5)) (w.heap.size + 1) (.slice lA m.length lC) m from World.ownsRow.alloc LL.out _)
      have SB1 := Lib.hid (SB.out.alloc (Nat.le_trans HLB.out SB.out.size) (.cells #[.int .u8 x, .int .u8 y, .int .u8 z] 5))
      obtain ⟨v0, hv0⟩ : ∃ v0, wr.alloc (.cells #[.int .u8 x, .int .u8 y, .int .u8 z] 5) = v0 := ⟨_, rfl⟩
      rw [hv0] at HRN SB1
      have HV0 := Lib.hid hv0
      clear hv0
      obtain ⟨X, hX⟩ : ∃ X, listAt (i + 1) = X := ⟨_, rfl⟩
      have HX := Lib.hid (show X = (askL m key (10 + (i : Int)) 0).1 by rw [← hX, ← HM.out, ← HKEY.out]; rfl)
      have HX2 := Lib.hid (show (askL m key (10 + (i : Int)) 0).2 = true by rw [← HM.out, ← HKEY.out]; exact HGD.out.pass)
      have HXM := Lib.hid (show mayL m key (10 + (i : Int)) 0 = true by rw [← HM.out, ← HKEY.out]; exact HGD.out.may)
      have HXL := Lib.hid (show X.length = min (i + 1) 32 by rw [← hX]; exact HGD.out.len)
      have HXT := Lib.hid (show (X.any fun g => eqK g.k key) = true by rw [← hX, ← HKEY.out]; exact HGD.out.there)
      have HXE := Lib.hid (show leastL X = 10 + max 0 ((i : Int) + 1 - 32) by rw [← hX]; exact HGD.out.least)
      have HXS := Lib.hid (show Srt X by rw [← hX]; exact HGD.out.srt)
      have HXI := Lib.hid hX
      have HAK := Lib.hid (ask_any m key (10 + (i : Int)) 0 (.slice lA m.length lC) v0 HRN.out.gr (by have := HLEN.out; omega))
      rw [show outA m key (10 + (i : Int)) 0 = (X, true) by unfold outA; rw [if_pos HXM.out, HX.out, ← HX2.out], HXM.out] at HAK
      rw [show errN true = 0 from rfl] at HAK
      clear hX
      go_upto_region 6 with (fail)
      rw [HV0.out]
      clear hcv hx hy hz p1 p2 p3 hr hd hr2 hd2
      go_wp2_with fail
      refine Calls.mono HAK.out ?_
      rintro e v1 ⟨ux, rfl, hgx, hb1⟩
      have SB2 := Lib.hid (SB1.out.trans (hb1.mono (Nat.le_trans HLB.out SB1.out.size)))
      have XX := Lib.hid (hgx.mono (show w.heap.size + 1 ≤ v0.heap.size from Nat.le_trans HLB.out SB1.out.size))
      obtain ⟨xA, xC, rfl, _, _⟩ := XX.out.slice
      clear hgx hb1
      have hmn : (if (32 : Int) < (i : Int) + 1 then 32 else (i : Int) + 1) = (X.length : Int) := by have := HXL.out; split <;> omega
      go_wp2_with fail
      refine Calls.mono (HNM.out _) ?_
      rintro e w' ⟨rfl, he⟩
      have he := he.symm
      subst he
      go_upto_region 9 with (fail)
      clear hmn
      go_wp2_with fail
      go_loopw [9, 10, 11] (fun tv lv kv w2 => Rel2 X key v1 tv lv kv w2) (fun _ _ kv _ => X.length - (intOf kv).toNat)
      case atStart => exact Rel2.mk 0 rfl (Nat.zero_le _) rfl rfl (Below.refl _ _)
      case round =>
        obtain ⟨k, rfl, hkl, rfl, rfl, hb⟩ := hrel
        have HB := Lib.hid hb
        clear hb
        by_cases hlt2 : k < X.length
        · have hltk : (k : Int) < (X.length : Int) := by omega
          obtain ⟨b, o, hA, hbl, c0, c1, c2, c3⟩ := XX.out.gr.at (i := k) hlt2 rfl HB.out
          subst hA
          have HAN := Lib.hid (any_next (key := key) hlt2)
          have HLN := Lib.hid (least_next hlt2)
          obtain ⟨g, hg⟩ : ∃ g, X[k] = g := ⟨_, rfl⟩
          rw [hg] at c0 c1 c2 c3 HAN HLN
          have HG := Lib.hid hg
          clear hg
          obtain ⟨t, ht⟩ : ∃ t, ((X.take k).any fun g => eqK g.k key) = t := ⟨_, rfl⟩
          obtain ⟨l0, hl0⟩ : ∃ l0, leastL (X.take k) = l0 := ⟨_, rfl⟩
          obtain ⟨e, he⟩ : ∃ e, eqK g.k key = e := ⟨_, rfl⟩
          have hek := eq_of_toList g.k key
          rw [he] at hek
          rw [ht, he] at HAN
          rw [hl0] at HLN
          rw [ht, hl0]
          have hmi : (if g.l < l0 then g.l else l0) = min l0 g.l := by split <;> omega
          obtain ⟨l1, hl1⟩ : ∃ l1, min l0 g.l = l1 := ⟨_, rfl⟩
          rw [hl1] at HLN hmi
          have q5 : IntKind.i64.wrap ((k : Int) + 1) = (k : Int) + 1 := wrap_id (by omega) (by have := HXL.out; omega)
          clear ht hl0 he hl1
          cases t with
          | true =>
            by_cases h0 : k = 0
            · skip
              have hk0 : decide (0 < k) = false := decide_eq_false (by omega)
              have HK0 := Lib.hid h0
              clear h0
              go_upto_region 15 with (fail)
              go_quiet (fail)
              go_wp2_with fail
              refine ⟨Rel2.mk (k + 1) (by first | rfl | omega | (simp; done)) hlt2 (by rw [HAN.out]; rfl) (by rw [HLN.out]) (below_drewN HB.out _), by simp [intOf]; omega⟩
            · skip
              obtain ⟨j, rfl⟩ : ∃ j, k = j + 1 := ⟨k - 1, by omega⟩
              have hj1 : j < X.length := by omega
              have hk0 : decide ((0 : Int) < ((j + 1 : Nat) : Int)) = true := decide_eq_true (by omega)
              obtain ⟨b', o', hA, _, d0, _, _, _⟩ := XX.out.gr.at (i := j) hj1 rfl HB.out
              simp only [Option.some.injEq, Addr.mk.injEq, and_true] at hA
              obtain ⟨rfl, rfl⟩ := hA
              obtain ⟨y2, hy2⟩ : ∃ y2, (X[j]).k = y2 := ⟨_, rfl⟩
              rw [hy2] at d0
              have hbyt := lt_of_toList y2 g.k
              rw [show ltK y2 g.k = true by have := HXS.out.get (show j < j + 1 by omega) hlt2; rw [HG.out, hy2] at this; exact this] at hbyt
              clear hy2 h0
              go_upto_region 15 with (fail)
              go_quiet (fail)
              go_wp2_with fail
              refine ⟨Rel2.mk (j + 1 + 1) (by first | rfl | omega | (simp; done)) hlt2 (by rw [HAN.out]; rfl) (by rw [HLN.out]) (below_drewN HB.out _), by simp [intOf]; omega⟩
          | false =>
            by_cases h0 : k = 0
            · skip
              have hk0 : decide (0 < k) = false := decide_eq_false (by omega)
              have HK0 := Lib.hid h0
              clear h0
              go_upto_region 15 with (fail)
              go_quiet (fail)
              go_wp2_with fail
              refine ⟨Rel2.mk (k + 1) (by first | rfl | omega | (simp; done)) hlt2 (by rw [HAN.out]; rfl) (by rw [HLN.out]) (below_drewN HB.out _), by simp [intOf]; omega⟩
            · skip
              obtain ⟨j, rfl⟩ : ∃ j, k = j + 1 := ⟨k - 1, by omega⟩
              have hj1 : j < X.length := by omega
              have hk0 : decide ((0 : Int) < ((j + 1 : Nat) : Int)) = true := decide_eq_true (by omega)
              obtain ⟨b', o', hA, _, d0, _, _, _⟩ := XX.out.gr.at (i := j) hj1 rfl HB.out
              simp only [Option.some.injEq, Addr.mk.injEq, and_true] at hA
              obtain ⟨rfl, rfl⟩ := hA
              obtain ⟨y2, hy2⟩ : ∃ y2, (X[j]).k = y2 := ⟨_, rfl⟩
              rw [hy2] at d0
              have hbyt := lt_of_toList y2 g.k
              rw [show ltK y2 g.k = true by have := HXS.out.get (show j < j + 1 by omega) hlt2; rw [HG.out, hy2] at this; exact this] at hbyt
              clear hy2 h0
              go_upto_region 15 with (fail)
              go_quiet (fail)
              go_wp2_with fail
              refine ⟨Rel2.mk (j + 1 + 1) (by first | rfl | omega | (simp; done)) hlt2 (by rw [HAN.out]; rfl) (by rw [HLN.out]) (below_drewN HB.out _), by simp [intOf]; omega⟩
        · have hltk : ¬ ((k : Int) < (X.length : Int)) := by omega
          obtain rfl : k = X.length := by omega
          rw [List.take_length, HXT.out, HXE.out]
          obtain ⟨Q, hQ⟩ : ∃ Q : Int, max 0 ((i : Int) + 1 - 32) = Q := ⟨_, rfl⟩
          rw [hQ]
          have hQ2 : (if (32 : Int) < (i : Int) + 1 then (i : Int) + 1 - 32 else 0) = Q := by rw [← hQ]; split <;> omega
          have hQ3 : IntKind.i64.wrap (10 + Q) = 10 + Q := wrap_id (by omega) (by omega)
          have HB2 := Lib.hid (SB2.out.trans (HB.out.mono (Nat.le_trans HLB.out SB2.out.size)))
          have XX2 := Lib.hid (XX.out.later HB.out)
          clear hQ
          go_wp2_with fail
          refine ⟨⟨i + 1, by go_num, by omega, ?_, HB2.out⟩, by simp [intOf]; omega⟩
          rw [HXI.out]
          exact XX2.out
    · have hlti : ¬ ((i : Int) < 42) := by omega
      have HSr := Lib.hid (HS.out.later SB.out (Nat.lt_succ_self _))
      have s1 := HSr.out.c1
      have slt := HSr.out.lt
      have HBW := Lib.hid (HB0.out.trans (SB.out.mono (Nat.le_succ _)))
      go_wp2_with fail
      refine Calls.mono (HWK.out _) ?_
      rintro e v1 ⟨rfl, hb1⟩
      have HB1 := Lib.hid (HBW.out.trans (hb1.mono HBW.out.size))
      clear hb1
      go_wp2_with fail
      go_ret
      exact ⟨rfl, HB1.out⟩
end Go.Proofs.Ytaglobnfdgencaa

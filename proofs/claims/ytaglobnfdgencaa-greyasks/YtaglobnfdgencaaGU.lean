/-
  Comparison of entries and of lists; the page's question whether one may ask; the law's Within and Greys (which writes over a list), walked.
  Conditions: as each theorem states them.
-/
import Derived.Test.YtaglobnfdgencaaGT
namespace Go.Proofs.Ytaglobnfdgencaa
open Go.RowKit

def eqGy (a b : Gy) : Bool := a.k.toList == b.k.toList && (a.b == b.b && (a.l == b.l && a.p == b.p))
theorem eqGy_iff (a b : Gy) : eqGy a b = true ↔ a = b := by
  obtain ⟨k, x, y, z⟩ := a
  obtain ⟨k', x', y', z'⟩ := b
  unfold eqGy
  rw [eq_of_toList]
  simp only [Bool.and_eq_true, beq_iff_eq, eqK_iff, Gy.mk.injEq]
theorem eq_grey (a b : Gy) (w : World) : (binOp .eql 45 (gV a) (gV b)).run Try.prog w = .ok (.bool (eqGy a b)) w := by
  obtain ⟨k, x, y, z⟩ := a
  obtain ⟨k', x', y', z'⟩ := b
  simp only [eqGy, gV]
  cases h1 : (k.toList == k'.toList) <;> cases h2 : (x == x') <;> cases h3 : (y == y')
  all_goals simp only [beq_eq_false_iff_ne, beq_iff_eq, ne_eq] at h2 h3
  all_goals simp [go_sem, h1, h2, h3]
  cases z <;> cases z' <;> rfl
theorem in_grey (a b : Gy) (w : World) : (Op.equalIn 10000 45 (gV a) (gV b)).run Try.prog w = .ok (eqGy a b) w := by
  have h := eq_grey a b w
  unfold gV at *
  rw [run_eql_struct] at h
  generalize (Op.equalIn 10000 45 _ _).run Try.prog w = X at h ⊢
  cases X with
  | ok x w' =>
    simp only [Result.andThen] at h
    cases h
    rfl
  | halt x w' => cases h
theorem neq_grey (a b : Gy) (w : World) : (binOp .neq 45 (gV a) (gV b)).run Try.prog w = .ok (.bool (!eqGy a b)) w := by
  have h := in_grey a b w
  unfold gV at *
  rw [run_neq_struct, h]
  rfl
set_option maxHeartbeats 1000000 in
theorem eqs_any (a b : List Gy) (va vb : Value) (w : World) (ha : GR w va a) (hb : GR w vb b) (hl : a.length < 1000000) :
    Calls Try.prog 12 #[va, vb] w fun e w' => ∃ r, e = .returned (.bool r) ∧ (r = true ↔ a = b) ∧ Below w.heap.size w w' := by
  have HU := Lib.hid ha
  have HV := Lib.hid hb
  obtain ⟨A, c, rfl, hlc, hc⟩ := ha.slice
  obtain ⟨A2, c2, rfl, hlc2, hc2⟩ := hb.slice
  clear ha hb
  by_cases hn : a.length = b.length
  · have HNL := Lib.hid hn
    have hn1 : ((a.length : Int) == (b.length : Int)) = true := by rw [hn]; exact beq_self_eq_true _
    have hn2 : b.length = a.length := hn.symm
    clear hn
    go_enter Try.func12, Try.ntmps12
    go_wp2_with fail
    go_loopw [5] (fun iv wr => ∃ i : Nat, iv = .int .i64 i ∧ i ≤ a.length ∧ Hid (∀ j (h1 : j < a.length) (h2 : j < b.length), j < i → a[j] = b[j]) ∧ Below w.heap.size w wr) (fun iv _ => a.length - (intOf iv).toNat)
    case atStart => exact ⟨0, rfl, Nat.zero_le _, fun _ _ _ h => absurd h (Nat.not_lt_zero _), Below.refl _ _⟩
    case round =>
      obtain ⟨i, rfl, hil, I, hb⟩ := hrel
      have HB := Lib.hid hb
      clear hb
      by_cases hlt : i < a.length
      · have hlti : (i : Int) < (a.length : Int) := by omega
        have hlt2 : i < b.length := by rw [← HNL.out]; exact hlt
        obtain ⟨ba, oa, hA, hbl, c0, c1, c2, c3⟩ := HU.out.at (i := i) hlt rfl HB.out
        subst hA
        obtain ⟨bb, ob, hA2, hbl2, d0, d1, d2, d3⟩ := HV.out.at (i := i) hlt2 rfl HB.out
        subst hA2
        obtain ⟨x, hx⟩ : ∃ x, a[i] = x := ⟨_, rfl⟩
        obtain ⟨y, hy⟩ : ∃ y, b[i] = y := ⟨_, rfl⟩
        rw [hx] at c0 c1 c2 c3
        rw [hy] at d0 d1 d2 d3
        have HX := Lib.hid hx
        have HY := Lib.hid hy
        have hE := neq_grey x y
        obtain ⟨q, hq⟩ : ∃ q, eqGy x y = q := ⟨_, rfl⟩
        have HQ := Lib.hid hq
        rw [hq] at hE
        unfold gV at hE
        clear hx hy hq
        cases q with
        | true =>
          go_wp2_with fail
          go_quiet (fail)
          go_wp2_with fail
          refine ⟨⟨i + 1, by go_num, by omega, fun j h1 h2 h3 => ?_, below_drewN HB.out nq⟩, by simp [intOf]; omega⟩
          by_cases h' : j = i
          · subst h'; rw [HX.out, HY.out]; exact (eqGy_iff x y).1 HQ.out
          · exact I.out j h1 h2 (by omega)
        | false =>
          go_wp2_with fail
          go_quiet (fail)
          go_wp2_with fail
          go_ret
          refine ⟨false, rfl, ⟨fun h => (by cases h), fun h => ?_⟩, below_drewN HB.out nq⟩
          have : x = y := by
            rw [← HX.out, ← HY.out]
            simp only [h]
          rw [(eqGy_iff x y).2 this] at HQ
          exact HQ.out.symm
      · have hlti : ¬ ((i : Int) < (a.length : Int)) := by omega
        obtain rfl : i = a.length := by omega
        go_wp2_with fail
        go_ret
        exact .inr ⟨rfl, List.ext_getElem HNL.out fun j h1 h2 => I.out j h1 h2 h1, HB.out⟩
  · have hn1 : ((a.length : Int) == (b.length : Int)) = false := by rw [beq_eq_false_iff_ne]; omega
    have HNL := Lib.hid hn
    clear hn
    go_enter Try.func12, Try.ntmps12
    go_wp2_with fail
    go_ret
    exact ⟨false, rfl, ⟨fun h => (by cases h), fun h => absurd (by rw [h]) HNL.out⟩, Below.refl _ _⟩

theorem may_any (l : List Gy) (key : ByteArray) (now wait : Int) (v : Value) (w : World) (h : GR w v l) (hl : l.length < 1000000) :
    Calls Try.prog 13 #[v, .string key, .int .i64 now, .int .i64 wait] w fun e w' => e = .returned (.bool (mayL l key now wait)) ∧ Below w.heap.size w w' := by
  have HV := Lib.hid (rGreys_any l v w h hl)
  obtain ⟨A, c, rfl, _, _⟩ := h.slice
  have H2 := Lib.hid (fun W => rNum_any now 1099511627776 W)
  have H3 := Lib.hid (fun W => rNum_any wait 1099511627776 W)
  have HM := Lib.hid (show mayL l key now wait = (okL l && inB (key.size : Int) 1 700 && inB now 0 1099511627776 && inB wait 0 1099511627776) from rfl)
  clear h
  generalize mayL l key now wait = m at *
  generalize okL l = q1 at *
  obtain ⟨z, hz⟩ : ∃ z : Int, (key.size : Int) = z := ⟨_, rfl⟩
  rw [hz] at HM
  generalize inB now 0 1099511627776 = q3 at *
  generalize inB wait 0 1099511627776 = q4 at *
  cases q1 with
  | false =>
    go_enter Try.func13, Try.ntmps13
    go_wp2_with fail
    refine Calls.mono HV.out ?_
    rintro e w1 ⟨rfl, hb1⟩
    have HB := Lib.hid hb1
    clear hb1
    go_wp2_with fail
    go_ret
    exact ⟨by rw [HM.out]; rfl, HB.out⟩
  | true =>
    by_cases h1 : 1 ≤ z
    · by_cases h2 : z ≤ 700
      · have HI := Lib.hid (inB_iff.2 ⟨h1, h2⟩)
        cases q3 with
        | false =>
          go_enter Try.func13, Try.ntmps13
          go_wp2_with fail
          refine Calls.mono HV.out ?_
          rintro e w1 ⟨rfl, hb1⟩
          have HB := Lib.hid hb1
          clear hb1
          go_wp2_with fail
          refine Calls.mono (H2.out _) ?_
          rintro e w' ⟨rfl, he⟩
          have he := he.symm
          subst he
          go_wp2_with fail
          go_ret
          exact ⟨by rw [HM.out, HI.out]; rfl, HB.out⟩
        | true =>
          go_enter Try.func13, Try.ntmps13
          go_wp2_with fail
          refine Calls.mono HV.out ?_
          rintro e w1 ⟨rfl, hb1⟩
          have HB := Lib.hid hb1
          clear hb1
          go_wp2_with fail
          refine Calls.mono (H2.out _) ?_
          rintro e w' ⟨rfl, he⟩
          have he := he.symm
          subst he
          go_wp2_with fail
          refine Calls.mono (H3.out _) ?_
          rintro e w' ⟨rfl, he⟩
          have he := he.symm
          subst he
          go_wp2_with fail
          go_ret
          exact ⟨by rw [HM.out, HI.out]; rfl, HB.out⟩
      · have HI := Lib.hid (inB_not.2 (fun h => h2 h.2 : ¬ (1 ≤ z ∧ z ≤ 700)))
        have h2d : decide (z ≤ 700) = false := decide_eq_false h2
        go_enter Try.func13, Try.ntmps13
        go_wp2_with fail
        refine Calls.mono HV.out ?_
        rintro e w1 ⟨rfl, hb1⟩
        have HB := Lib.hid hb1
        clear hb1
        go_wp2_with fail
        go_ret
        exact ⟨by rw [HM.out, HI.out]; rfl, HB.out⟩
    · have HI := Lib.hid (inB_not.2 (fun h => h1 h.1 : ¬ (1 ≤ z ∧ z ≤ 700)))
      have h1d : decide (1 ≤ z) = false := decide_eq_false h1
      go_enter Try.func13, Try.ntmps13
      go_wp2_with fail
      refine Calls.mono HV.out ?_
      rintro e w1 ⟨rfl, hb1⟩
      have HB := Lib.hid hb1
      clear hb1
      go_wp2_with fail
      go_ret
      exact ⟨by rw [HM.out, HI.out]; rfl, HB.out⟩

theorem eqs_same (a : List Gy) (va vb : Value) (w : World) (ha : GR w va a) (hb : GR w vb a) (hl : a.length < 1000000) :
    Calls Try.prog 12 #[va, vb] w fun e w' => e = .returned (.bool true) ∧ Below w.heap.size w w' :=
  (eqs_any a a va vb w ha hb hl).mono fun _ _ ⟨r, he, hr, hbl⟩ => ⟨by rw [he, hr.2 rfl], hbl⟩

set_option maxHeartbeats 1000000 in
theorem spoil_any (l : List Gy) (v : Value) (B : Nat) (w : World) (h : GO w B v l) (hl : l.length < 1000000) (hB : B ≤ w.heap.size) :
    Calls Try.prog 15 #[v] w fun e w' => e = .returned (.tuple #[]) ∧ Below B w w' ∧ Keeps v w w' := by
  have HO := Lib.hid h
  obtain ⟨A, c, rfl, hlc, hc⟩ := h.slice
  clear h
  go_enter Try.func15, Try.ntmps15
  go_wp2_with fail
  go_loopw [2] (fun iv wr => ∃ (i : Nat) (m : List Gy), iv = .int .i64 i ∧ i ≤ l.length ∧ m.length = l.length ∧ GO wr B (.slice A l.length c) m ∧ Below B w wr ∧ Keeps (.slice A l.length c) w wr) (fun iv _ => l.length - (intOf iv).toNat)
  case atStart => exact ⟨0, l, rfl, Nat.zero_le _, rfl, HO.out, Below.refl _ _, fun _ _ _ => rfl⟩
  case round =>
    obtain ⟨i, m, rfl, hil, hm, hrow, hb, hkp⟩ := hrel
    have HKP := Lib.hid hkp
    have HW := Lib.hid hrow
    have HB := Lib.hid hb
    clear hrow hb hkp
    by_cases hlt : i < l.length
    · have hlti : (i : Int) < (l.length : Int) := by omega
      obtain ⟨g, cap, cur, hv, hBg, hr⟩ := HW.out.row (by omega)
      injection hv with e1 e2 e3
      subst e1
      subst e3
      obtain ⟨c0, c1, c2, c3⟩ := hr.at (show i < m.length by omega)
      have z0 := hr.fz (i * 4)
      have z1 := hr.fz (i * 4 + 1)
      have z2 := hr.fz (i * 4 + 2)
      have z3 := hr.fz (i * 4 + 3)
      have hltg := hr.lt
      obtain ⟨cur', hr5⟩ := hr.put i (by omega) ⟨⟨#[63]⟩, 0, 0, false⟩
      have HR5 := Lib.hid hr5
      have HB5 := Lib.hid (below_set4 HB.out hBg (i * 4) ⟨⟨#[63]⟩, 0, 0, false⟩)
      have HM := Lib.hid hm
      have HK5 := Lib.hid (HKP.out.trans HB.out.size (fun k _ hn => by
        have hk : k ≠ g := fun e => hn (by rw [e]; rfl)
        show (set4 wr g (i * 4) ⟨⟨#[63]⟩, 0, 0, false⟩).heap[k]? = _
        rw [set4_row _ hr.blk]
        exact setRow_other wr g k _ hk))
      have hcs := (⟨c0, c1, c2, c3⟩ : _ ∧ _ ∧ _ ∧ _)
      clear c0 c1 c2 c3
      generalize m[i] = y at hcs
      obtain ⟨c0, c1, c2, c3⟩ := hcs
      clear hr hr5 hm e2
      go_wp2_with fail
      refine ⟨⟨i + 1, m.set i ⟨⟨#[63]⟩, 0, 0, false⟩, by go_num, by omega, by rw [List.length_set]; exact HM.out, ?_, HB5.out, HK5.out⟩, by simp [intOf]; omega⟩
      have := HR5.out.go hBg
      rw [List.length_set, HM.out] at this
      exact this
    · have hlti : ¬ ((i : Int) < (l.length : Int)) := by omega
      obtain rfl : i = l.length := by omega
      have HRW := Lib.hid (show GO (wr.alloc (.cells #[.string ⟨#[]⟩, .int .i64 0, .int .i64 0, .bool false] 45)) B (.slice A m.length c) m by rw [hm]; exact World.ownsRow.alloc HW.out _)
      have HBK := Lib.hid (show (wr.alloc (.cells #[.string ⟨#[]⟩, .int .i64 0, .int .i64 0, .bool false] 45)).heap[wr.heap.size]? = some (.cells #[.string ⟨#[]⟩, .int .i64 0, .int .i64 0, .bool false] 45 (0, 0)) from heap_alloc_new wr _)
      have hBr : B ≤ wr.heap.size := Nat.le_trans hB HB.out.size
      rw [← hm]
      go_wp2_with (at_builtin; refine wpList_append_g _ (.tmp 13) (.tmp 15) B wr.heap.size (.slice A m.length c) m ⟨⟨#[]⟩, 0, 0, false⟩ rfl rfl rfl rfl HRW.out HBK.out (by simp; omega) (by omega) ?_)
      intro g cap w2 hrow2 hgrow
      have HB2 := Lib.hid (show Below B w w2 from below_grown_g (HB.out.alloc (by omega) _) (by simp; omega) HRW.out (by cases A <;> exact hgrow))
      have HK2 := Lib.hid ((HKP.out.trans HB.out.size (Keeps.of ((Below.refl _ wr).alloc (Nat.le_refl _) _))).trans (by have := HB.out.size; simp; omega) (show Keeps (.slice A l.length c) _ w2 from fun k hk hn => (show (wr.alloc (.cells #[.string ⟨#[]⟩, .int .i64 0, .int .i64 0, .bool false] 45)).grownBy w2 (Value.slice A l.length c).ownBlock by cases A <;> exact hgrow).block k hk (fun e => hn e.symm)))
      clear hrow2 hgrow
      go_wp2_with fail
      go_end0
      exact ⟨rfl, HB2.out, HK2.out⟩
end Go.Proofs.Ytaglobnfdgencaa

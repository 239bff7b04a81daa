/-
  HealthGoods: the statement's own walk; rows of floats that a call has made by itself, one float appended.
  Conditions: as each theorem states them: the argument lies in memory.
-/
import Derived.Test.YthkgahdnjhjobaaHO
import Derived.Laws.OwnMore
import Derived.Deep.AppendLies
import Derived.Deep.CutRange
import Derived.Deep.DeepCutAuto
import Derived.Deep.RegionWith
import Derived.Deep.QuietTactic
import Derived.BigQuiet
import Derived.WalkSmall
namespace Go.Proofs.Ythkgahdnjhjobaa
open Go.RowKit

/-- The cells of a row of floats. -/
def flsOf (l : List Nat) : List Value := l.map fun a => Value.float .f64 a
/-- A row of floats of the call's own. -/
def FRow (w : World) (B : Nat) (v : Value) (l : List Nat) : Prop := w.ownsRow B 27 1 v l.length (flsOf l)
theorem FRow.blocks {w w' : World} {B : Nat} {v : Value} {l : List Nat} (h : FRow w B v l) (hk : ∀ (j : Nat) (o : Obj), B ≤ j → w.heap[j]? = some o → w'.heap[j]? = some o) : FRow w' B v l := by
  obtain ⟨h1, h2⟩ := h
  refine ⟨h1, ?_⟩
  rcases h2 with h2 | ⟨g, cap, cur, hv, hg, hh, r⟩
  · exact .inl h2
  · exact .inr ⟨g, cap, cur, hv, hg, hk g _ hg hh, r⟩
theorem FRow.later {w w' : World} {B : Nat} {v : Value} {l : List Nat} (h : FRow w B v l) (hb : Below w.heap.size w w') : FRow w' B v l :=
  h.blocks fun j _ _ hj => (hb.block j (Array.getElem?_eq_some_iff.1 hj).1).trans hj
theorem FRow.mono {w : World} {B B' : Nat} {v : Value} {l : List Nat} (h : FRow w B v l) (hb : B' ≤ B) : FRow w B' v l := by
  obtain ⟨h1, h2⟩ := h
  refine ⟨h1, ?_⟩
  rcases h2 with h2 | ⟨g, cap, cur, hv, hg, r⟩
  · exact .inl h2
  · exact .inr ⟨g, cap, cur, hv, Nat.le_trans hb hg, r⟩
theorem infoF : (Try.prog.info? 27).map (fun i => (i.zero, i.size, i.bytes)) = some (some (.float .f64 0), 1, 8) := by kernel_rfl
theorem run_append_f (w : World) (ty : TypeId) (B n : Nat) (lv : Value) (l : List Nat) (a : Nat) (hown : FRow w B lv l)
    (hblk : w.heap[n]? = some (.cells #[.float .f64 a] 27 (0, 0))) (hB : B ≤ w.heap.size) (hn : l.length < 1000000) :
    ∃ g cap w', (Builtin.append_ #[47, 47] ty #[lv, .slice (some ⟨n, 0, none⟩) 1 1]).run Try.prog w = .ok (.slice (some ⟨g, 0, none⟩) (l.length + 1) cap) w' ∧
      FRow w' B (.slice (some ⟨g, 0, none⟩) (l.length + 1) cap) (l ++ [a]) ∧ w.grownBy w' lv.ownBlock := by
  obtain ⟨i0, hi0, hz0, hs0, hb0⟩ := info_parts infoF
  obtain ⟨g, cap, w', h1, h2, h3, _, _⟩ := run_append_lies (P := Try.prog) w 47 ty B 27 i0 _ 1 8 Try.underlying47 hi0 hz0 hs0 hb0 rfl (by omega) lv l.length (flsOf l) hown ⟨n, 0, none⟩ 1 1
    [.float .f64 a] rfl (World.news_of_block (cs := #[.float .f64 a]) hblk) (by simp [Value.oneCell']) (by omega) (by unfold maxLen; omega) (by omega) hB _ rfl
  refine ⟨g, cap, w', h1, ?_, h3⟩
  unfold FRow
  rw [show flsOf (l ++ [a]) = flsOf l ++ [.float .f64 a] from by simp [flsOf], List.length_append]
  exact h2
theorem wpList_append_f {ops : Array Oper} {rest : List Oper} {o : Oper} {a : Act} {Q : Exit → Act → World → Prop} (w : World) (s x : Operand) (B n : Nat) (lv : Value) (l : List Nat) (t : Nat)
    (hgd : o.guard = none) (ho : o.op = .call { callee := .builtin .append, args := #[s, x], argTypes := #[47, 47] }) (hs : a.eval s = lv) (hx : a.eval x = .slice (some ⟨n, 0, none⟩) 1 1)
    (hown : FRow w B lv l) (hblk : w.heap[n]? = some (.cells #[.float .f64 t] 27 (0, 0))) (hB : B ≤ w.heap.size) (hn : l.length < 1000000)
    (h : ∀ g cap w', FRow w' B (.slice (some ⟨g, 0, none⟩) (l.length + 1) cap) (l ++ [t]) → w.grownBy w' lv.ownBlock → wpList Try.prog ops Q rest (a.put o.dst (.slice (some ⟨g, 0, none⟩) (l.length + 1) cap)) w') : wpList Try.prog ops Q (o :: rest) a w := by
  refine wpList_plain hgd fun K hK => ?_
  obtain ⟨g, cap, w', hr, h2, h3⟩ := run_append_f w o.type B n lv l t hown hblk hB hn
  unfold Oper.wp execOp
  simp only [ho, resolve, invoke, builtin, Sem.run_bind, Sem.run_pure, Result.andThen_ok, List.map_toArray, List.map_cons, List.map_nil, hs, hx, hr]
  exact hK _ _ (h g cap w' h2 h3)
/-- Where the floats of a row lie. -/
theorem FRow.get {w : World} {B : Nat} {v : Value} {l : List Nat} (h : FRow w B v l) (hne : l ≠ []) : ∃ g cap, v = .slice (some ⟨g, 0, none⟩) l.length cap ∧ B ≤ g ∧ g < w.heap.size ∧ ∀ j (hj : j < l.length), w.cell? ⟨g, j, none⟩ = some (.float .f64 l[j]) := by
  have hh := h
  obtain ⟨h1, h2⟩ := h
  rcases h2 with ⟨hv, hn⟩ | ⟨g, cap, cur, hv, hg, hblk, _⟩
  · exact absurd (List.eq_nil_of_length_eq_zero hn) hne
  · refine ⟨g, cap, hv, hg, (Array.getElem?_eq_some_iff.1 hblk).1, fun j hj => ?_⟩
    subst hv
    have := World.ownsRow.cellAt hh j (by omega)
    rw [this]
    simp [flsOf, hj]
theorem frow_shape {w : World} {B : Nat} {v : Value} {l : List Nat} (h : FRow w B v l) : ∃ A c, v = .slice A l.length c := by
  rcases h.2 with ⟨h, h0⟩ | ⟨g, cap, cur, h, _⟩
  · exact ⟨none, 0, by rw [h, h0]⟩
  · exact ⟨_, cap, h⟩
theorem frow_slice {w : World} {B : Nat} {v : Value} {l : List Nat} (h : FRow w B v l) : ∃ A n c, v = .slice A n c := by
  obtain ⟨A, c, h⟩ := frow_shape h
  exact ⟨A, _, c, h⟩

/-- The floors at their ends, and the score itself. -/
def goodL (n a : Nat) : List Nat := [0, 9223372036854775808, 4607182418800017408, n, 9218868437227405312, 18442240474082181120, a]
theorem good_row (w : World) (n a : Nat) : FRow (w.alloc (.cells (flsOf (goodL n a)).toArray 27)) w.heap.size (.slice (some ⟨w.heap.size, 0, none⟩) 7 7) (goodL n a) := World.ownsRow_lit w (flsOf (goodL n a)).toArray 7 (Nat.le_refl _) (by unfold maxLen; omega) rfl

theorem HAt.drew {w : World} {b s : Nat} {c : Int} (h : HAt w b s c) : HAt w.drew b s c := h
theorem SAt.drew {w : World} {b : Nat} {p q r t : Value} (h : SAt w b p q r t) : SAt w.drew b p q r t := h
theorem bool_same (b : Bool) : (b != b) = false := by cases b <;> rfl

set_option maxHeartbeats 8000000 in
set_option maxRecDepth 100000 in
theorem goods_any (a : Nat) (cn : Int) (fl : List Nat) (v2 v3 : Value) (w : World) (ha : a < 18446744073709551616) (h : UsAt w v3 fl) :
    Calls Try.prog 4 #[.agg #[.int .u64 (a : Int), .int .i64 cn, v2, v3]] w fun e w' => e = .returned (.bool true) ∧ Below w.heap.size w w' := by
  have HU := Lib.hid h
  obtain ⟨A0, c0, rfl, hlen0, _, _⟩ := h
  have hll : fl.length < 9223372036854775808 := by unfold maxLen at hlen0; omega
  have hst := store_float
  have hfa := run_from a
  clear hlen0
  go_enter Try.func4, Try.ntmps4
  go_upto_region 1 with (fail)
  go_cut [3] (fun pv wc => pv = .pointer (some ⟨w.heap.size + 1, 0, none⟩) ∧ HAt wc (w.heap.size + 1) a cn ∧ SAt wc w.heap.size (.int .u64 (a : Int)) (.int .i64 cn) v2 (.slice A0 fl.length c0) ∧ Below w.heap.size w wc)
  case first =>
    go_region_with (fail)
    all_goals
      go_wp2_with fail
      go_meet
      case rel => exact ⟨rfl, (HAt.new1 w _ a cn).drew, ((SAt.new w _ _ _ _).alloc _).drew, (((Below.refl _ w).alloc (Nat.le_refl _) _).alloc (by simp) _).drew⟩
  case rest =>
    obtain ⟨rfl, hH, hS, hB⟩ := hcut
    have HH := Lib.hid hH
    have HS := Lib.hid hS
    have HB := Lib.hid hB
    have e0 := hH.c0
    have e1 := hH.c1
    have e2 := hH.lt
    clear hH hS hB
    generalize wc = w2 at *
    obtain ⟨B, hBw⟩ : ∃ B, w.heap.size + 1 = B := ⟨_, rfl⟩
    rw [hBw] at HH e0 e1 e2 ⊢
    clear hBw hfa
    obtain ⟨n, hn⟩ : ∃ n, n = 9221120237041090561 := ⟨_, rfl⟩
    have HNN := Lib.hid (fun W => nan_any W)
    rw [← hn] at HNN
    have HNZ := Lib.hid (fun W => negZero_any W)
    have HIP := Lib.hid (fun W => inf_plus W)
    have HIM := Lib.hid (fun W => inf_minus W)
    clear hn
    go_upto_region 2 with (fail)
    go_cut [4] (fun lv wc => FRow wc w2.heap.size lv (goodL n a) ∧ Below w2.heap.size w2 wc)
    case first =>
      go_region_with (first
        | (go_at_call 19; refine (HNZ.out _).mono ?_; rintro e w' ⟨rfl, rfl⟩)
        | (go_at_call 20; refine (HNN.out _).mono ?_; rintro e w' ⟨rfl, rfl⟩)
        | (go_at_call 21; refine (HIP.out _).mono ?_; rintro e w' ⟨rfl, rfl⟩)
        | (go_at_call 21; refine (HIM.out _).mono ?_; rintro e w' ⟨rfl, rfl⟩))
      all_goals
        go_wp2_with fail
        go_meet
        case rel => exact ⟨(good_row w2 n a).later (Below.refl _ _).drew, ((Below.refl _ w2).alloc (Nat.le_refl _) _).drew⟩
    case rest =>
      obtain ⟨hR, hb0⟩ := hcut
      have HR0 := Lib.hid hR
      have HB0 := Lib.hid hb0
      obtain ⟨rA, rn, rc, rfl⟩ := frow_slice hR
      have hGL : (goodL n a).length = 7 := rfl
      have HGO := Lib.hid (show ∀ k, (goodL n a ++ fl.take k).length = 7 + (fl.take k).length by intro k; rw [List.length_append, hGL])
      have HLA : Hid (∀ y ∈ fl, y < 18446744073709551616) := Lib.hid (by obtain ⟨_, _, _, _, h, _⟩ := HU.out; exact h)
      clear hR hb0 e0 e1 e2 HNN HNZ HIP HIM hGL
      generalize goodL n a = G at *
      generalize wc = w3 at *
      have hs2 : w.heap.size ≤ w2.heap.size := HB.out.size
      go_wp2_with fail
      go_loopw [4, 5] (fun xv iv wr => ∃ (i : Nat), iv = .int .i64 i ∧ i ≤ fl.length ∧ i ≤ 20 ∧ FRow wr w2.heap.size xv (G ++ fl.take i) ∧ Below w2.heap.size w2 wr) (fun _ iv _ => 21 - (intOf iv).toNat)
      case atStart => exact ⟨0, rfl, Nat.zero_le _, Nat.zero_le _, by simpa using HR0.out, HB0.out⟩
      case round =>
        obtain ⟨i, rfl, hil, hi20, hrow, hb⟩ := hrel
        have HW := Lib.hid hrow
        have HBr := Lib.hid hb
        have HSr := Lib.hid (HS.out.later hb)
        have hp3 := HSr.out.c3
        have hsz := hb.size
        obtain ⟨gA, gn, gc, rfl⟩ := frow_slice hrow
        clear hrow hb HR0 HB0
        by_cases hin : i < fl.length ∧ i < 20
        · have hlti : (i : Int) < (fl.length : Int) := by omega
          have h20i : (i : Int) < 20 := by omega
          obtain ⟨b, o, hA, hcell⟩ := HU.out.cell hin.1 rfl (HB.out.trans (HBr.out.mono hs2))
          have HT := Lib.hid (show fl.take (i + 1) = fl.take i ++ [fl[i]'hin.1] by rw [List.take_add_one, List.getElem?_eq_getElem hin.1]; rfl)
          generalize fl[i]'hin.1 = x at *
          subst hA
          have hf := run_from x
          have hedl : (G ++ fl.take i).length < 1000000 := by rw [HGO.out, List.length_take]; omega
          have HRW := Lib.hid (show FRow (wr.alloc (.cells #[.float .f64 x] 27)) w2.heap.size (.slice gA gn gc) (G ++ fl.take i) from World.ownsRow.alloc HW.out _)
          have HBK := Lib.hid (show (wr.alloc (.cells #[.float .f64 x] 27)).heap[wr.heap.size]? = some (.cells #[.float .f64 x] 27 (0, 0)) from heap_alloc_new wr _)
          generalize hrr : G ++ fl.take i = rows at *
          go_wp2_with (at_builtin; refine wpList_append_f _ (.tmp 35) (.tmp 42) w2.heap.size wr.heap.size (.slice gA gn gc) rows x rfl rfl rfl rfl HRW.out HBK.out (by simp; omega) hedl ?_)
          intro g cap w4 hrow2 hgrow
          have HB4 := Lib.hid (show Below w2.heap.size w2 w4 from (HBr.out.alloc (by omega) _).grown hgrow (by simp; omega) (fun k hk => (World.ownsRow.lt HRW.out k hk).1))
          have HR4 := Lib.hid hrow2
          clear hrow2 hgrow
          go_wp2_with fail
          refine ⟨⟨i + 1, by go_num, by omega, by omega, ?_, HB4.out⟩, by simp [intOf]; omega⟩
          have e : G ++ fl.take (i + 1) = rows ++ [x] := by rw [HT.out, ← hrr, List.append_assoc]
          rw [e]
          exact HR4.out
        obtain ⟨g, cap, hgv, hgw, hgs, hgc⟩ := HW.out.get (by intro h; have := HGO.out i; rw [h] at this; simp at this; omega)
        injection hgv with hg1 hg2 hg3
        subst hg1 hg2 hg3
        have HGC := Lib.hid hgc
        have hXl : (G ++ fl.take i).length ≤ 27 := by rw [HGO.out, List.length_take]; omega
        have HXB := Lib.hid (show ∀ y ∈ fl, y < 18446744073709551616 from HLA.out)
        generalize G ++ fl.take i = X at *
        have Hr := Lib.hid (HH.out.later HBr.out)
        have HBW := Lib.hid (HB.out.trans (HBr.out.mono hs2))
        have hszw : w.heap.size ≤ wr.heap.size := HBW.out.size
        clear hgc HXB HLA HGO HH HS HB HU
        generalize hq : okH a cn = q at *
        have HRH := Lib.hid (fun W => rHealth_any a cn W ha)
        have HRG := Lib.hid (fun y W (h : okH a cn = true) => rGood_any a cn y W h)
        have HFG := Lib.hid (fun y W => good_any a cn y W ha)
        have HN0 := Lib.hid (fun W => num_any 0 W)
        have HN1 := Lib.hid (fun W => num_any 1 W)
        have HWK := Lib.hid (fun W => wakes_any W)
        rw [hq] at HRH HFG
        unfold hV at HRH HRG HFG
        have HQ := Lib.hid hq
        clear hq
        by_cases hlt : i < fl.length
        · have hlti : (i : Int) < (fl.length : Int) := by omega
          have h20i : decide ((i : Int) < 20) = false := decide_eq_false (by omega)
          generalize wr = wo at *
          go_wp2_with fail
          go_loopw [6] (fun jv wj => ∃ j : Nat, jv = .int .i64 j ∧ j ≤ X.length ∧ Below wo.heap.size wo wj) (fun jv _ => X.length - (intOf jv).toNat)
          case atStart => exact ⟨0, rfl, Nat.zero_le _, Below.refl _ _⟩
          case round =>
            obtain ⟨j, rfl, hj, hb⟩ := hrel
            have HBj := Lib.hid hb
            have HHj := Lib.hid (Hr.out.later hb)
            have HGj := Lib.hid (fun (k : Nat) (hk : k < X.length) W (hW : Below wo.heap.size wo W) => (hW.cell (p := ⟨g, k, none⟩) hgs).trans (HGC.out k hk))
            have hszo := hb.size
            clear hb
            by_cases hjt : j < X.length
            · have hjti : (j : Int) < (X.length : Int) := by omega
              have HGj := Lib.hid (HGj.out j hjt)
              generalize X[j] = y at *
              have e0 := HHj.out.c0
              have e1 := HHj.out.c1
              go_wp2_with fail
              refine Calls.mono (HRH.out _) ?_
              rintro e w31 ⟨rfl, hb31⟩
              have HB31 := Lib.hid (HBj.out.trans (hb31.mono hszo))
              have HH31 := Lib.hid (HHj.out.later hb31)
              have hsz31 := HB31.out.size
              clear hb31 e0 e1
              have e0 := HH31.out.c0
              have e1 := HH31.out.c1
              have e2 := HGj.out _ HB31.out
              cases q with
              | true =>
                have HG1 := Lib.hid (fun W => HRG.out y W HQ.out)
                have HF1 := Lib.hid (HFG.out y)
                rw [Bool.true_and] at HF1
                generalize goodF a y = gq at *
                go_upto_region 12 with (fail)
                go_cut [7, 8] (fun bv qv wc => bv = .int .i64 0 ∧ qv = .bool gq ∧ Below w31.heap.size w31 wc)
                case first =>
                  go_region_with (go_at_call 22; refine (HG1.out _).mono ?_; rintro e w32 ⟨rfl, hb32⟩)
                  all_goals
                    go_wp2_with fail
                    go_meet
                    case rel => exact ⟨rfl, rfl, (Below.refl _ _).drew.trans hb32⟩
                case rest =>
                  obtain ⟨rfl, rfl, hb33⟩ := hcut
                  have HB33 := Lib.hid (HB31.out.trans (hb33.mono hsz31))
                  have HH33 := Lib.hid (HH31.out.later hb33)
                  have hsz33 := HB33.out.size
                  generalize wc = w33 at *
                  clear hb33 e0 e1 e2
                  have e0 := HH33.out.c0
                  have e1 := HH33.out.c1
                  have e2 := HGj.out _ HB33.out
                  go_upto_region 13 with (fail)
                  go_cut [9, 10] (fun qv bv wc => bv = .int .i64 0 ∧ qv = .bool gq ∧ Below w33.heap.size w33 wc)
                  case first =>
                    go_region_with (go_at_call 23; refine (HF1.out _).mono ?_; rintro e w34 ⟨rfl, hb34⟩)
                    all_goals
                      go_wp2_with fail
                      go_meet
                      case rel => exact ⟨rfl, rfl, (Below.refl _ _).drew.trans hb34⟩
                  case rest =>
                    obtain ⟨rfl, rfl, hb35⟩ := hcut
                    have HB35 := Lib.hid (HB33.out.trans (hb35.mono hsz33))
                    generalize wc = w35 at *
                    clear hb35 e0 e1 e2
                    have hbs := bool_same gq
                    go_wp2_with fail
                    refine Calls.mono (HN0.out _) ?_
                    rintro e w' ⟨rfl, he⟩
                    have he := he.symm
                    subst he
                    go_wp2_with fail
                    exact ⟨⟨j + 1, by go_num, by omega, HB35.out⟩, by simp [intOf]; omega⟩
              | false =>
                have HF1 := Lib.hid (HFG.out y)
                rw [Bool.false_and] at HF1
                go_upto_region 13 with (fail)
                go_cut [9, 10] (fun qv bv wc => bv = .int .i64 1 ∧ qv = .bool false ∧ Below w31.heap.size w31 wc)
                case first =>
                  go_region_with (go_at_call 23; refine (HF1.out _).mono ?_; rintro e w34 ⟨rfl, hb34⟩)
                  all_goals
                    go_wp2_with fail
                    go_meet
                    case rel => exact ⟨rfl, rfl, (Below.refl _ _).drew.trans hb34⟩
                case rest =>
                  obtain ⟨rfl, rfl, hb35⟩ := hcut
                  have HB35 := Lib.hid (HB31.out.trans (hb35.mono hsz31))
                  generalize wc = w35 at *
                  clear hb35 e0 e1 e2
                  go_wp2_with fail
                  refine Calls.mono (HN1.out _) ?_
                  rintro e w' ⟨rfl, he⟩
                  have he := he.symm
                  subst he
                  go_wp2_with fail
                  exact ⟨⟨j + 1, by go_num, by omega, HB35.out⟩, by simp [intOf]; omega⟩
            have hjti : ¬ ((j : Int) < (X.length : Int)) := by omega
            go_wp2_with fail
            refine Calls.mono (HWK.out _) ?_
            rintro e w40 ⟨rfl, hb⟩
            have HB40 := Lib.hid (HBW.out.trans ((HBj.out.trans (hb.mono hszo)).mono hszw))
            clear hb
            go_wp2_with fail
            go_ret
            exact ⟨rfl, HB40.out⟩
        · have hlti : decide ((i : Int) < (fl.length : Int)) = false := decide_eq_false (by omega)
          generalize wr = wo at *
          go_wp2_with fail
          go_loopw [6] (fun jv wj => ∃ j : Nat, jv = .int .i64 j ∧ j ≤ X.length ∧ Below wo.heap.size wo wj) (fun jv _ => X.length - (intOf jv).toNat)
          case atStart => exact ⟨0, rfl, Nat.zero_le _, Below.refl _ _⟩
          case round =>
            obtain ⟨j, rfl, hj, hb⟩ := hrel
            have HBj := Lib.hid hb
            have HHj := Lib.hid (Hr.out.later hb)
            have HGj := Lib.hid (fun (k : Nat) (hk : k < X.length) W (hW : Below wo.heap.size wo W) => (hW.cell (p := ⟨g, k, none⟩) hgs).trans (HGC.out k hk))
            have hszo := hb.size
            clear hb
            by_cases hjt : j < X.length
            · have hjti : (j : Int) < (X.length : Int) := by omega
              have HGj := Lib.hid (HGj.out j hjt)
              generalize X[j] = y at *
              have e0 := HHj.out.c0
              have e1 := HHj.out.c1
              go_wp2_with fail
              refine Calls.mono (HRH.out _) ?_
              rintro e w31 ⟨rfl, hb31⟩
              have HB31 := Lib.hid (HBj.out.trans (hb31.mono hszo))
              have HH31 := Lib.hid (HHj.out.later hb31)
              have hsz31 := HB31.out.size
              clear hb31 e0 e1
              have e0 := HH31.out.c0
              have e1 := HH31.out.c1
              have e2 := HGj.out _ HB31.out
              cases q with
              | true =>
                have HG1 := Lib.hid (fun W => HRG.out y W HQ.out)
                have HF1 := Lib.hid (HFG.out y)
                rw [Bool.true_and] at HF1
                generalize goodF a y = gq at *
                go_upto_region 12 with (fail)
                go_cut [7, 8] (fun bv qv wc => bv = .int .i64 0 ∧ qv = .bool gq ∧ Below w31.heap.size w31 wc)
                case first =>
                  go_region_with (go_at_call 22; refine (HG1.out _).mono ?_; rintro e w32 ⟨rfl, hb32⟩)
                  all_goals
                    go_wp2_with fail
                    go_meet
                    case rel => exact ⟨rfl, rfl, (Below.refl _ _).drew.trans hb32⟩
                case rest =>
                  obtain ⟨rfl, rfl, hb33⟩ := hcut
                  have HB33 := Lib.hid (HB31.out.trans (hb33.mono hsz31))
                  have HH33 := Lib.hid (HH31.out.later hb33)
                  have hsz33 := HB33.out.size
                  generalize wc = w33 at *
                  clear hb33 e0 e1 e2
                  have e0 := HH33.out.c0
                  have e1 := HH33.out.c1
                  have e2 := HGj.out _ HB33.out
                  go_upto_region 13 with (fail)
                  go_cut [9, 10] (fun qv bv wc => bv = .int .i64 0 ∧ qv = .bool gq ∧ Below w33.heap.size w33 wc)
                  case first =>
                    go_region_with (go_at_call 23; refine (HF1.out _).mono ?_; rintro e w34 ⟨rfl, hb34⟩)
                    all_goals
                      go_wp2_with fail
                      go_meet
                      case rel => exact ⟨rfl, rfl, (Below.refl _ _).drew.trans hb34⟩
                  case rest =>
                    obtain ⟨rfl, rfl, hb35⟩ := hcut
                    have HB35 := Lib.hid (HB33.out.trans (hb35.mono hsz33))
                    generalize wc = w35 at *
                    clear hb35 e0 e1 e2
                    have hbs := bool_same gq
                    go_wp2_with fail
                    refine Calls.mono (HN0.out _) ?_
                    rintro e w' ⟨rfl, he⟩
                    have he := he.symm
                    subst he
                    go_wp2_with fail
                    exact ⟨⟨j + 1, by go_num, by omega, HB35.out⟩, by simp [intOf]; omega⟩
              | false =>
                have HF1 := Lib.hid (HFG.out y)
                rw [Bool.false_and] at HF1
                go_upto_region 13 with (fail)
                go_cut [9, 10] (fun qv bv wc => bv = .int .i64 1 ∧ qv = .bool false ∧ Below w31.heap.size w31 wc)
                case first =>
                  go_region_with (go_at_call 23; refine (HF1.out _).mono ?_; rintro e w34 ⟨rfl, hb34⟩)
                  all_goals
                    go_wp2_with fail
                    go_meet
                    case rel => exact ⟨rfl, rfl, (Below.refl _ _).drew.trans hb34⟩
                case rest =>
                  obtain ⟨rfl, rfl, hb35⟩ := hcut
                  have HB35 := Lib.hid (HB31.out.trans (hb35.mono hsz31))
                  generalize wc = w35 at *
                  clear hb35 e0 e1 e2
                  go_wp2_with fail
                  refine Calls.mono (HN1.out _) ?_
                  rintro e w' ⟨rfl, he⟩
                  have he := he.symm
                  subst he
                  go_wp2_with fail
                  exact ⟨⟨j + 1, by go_num, by omega, HB35.out⟩, by simp [intOf]; omega⟩
            have hjti : ¬ ((j : Int) < (X.length : Int)) := by omega
            go_wp2_with fail
            refine Calls.mono (HWK.out _) ?_
            rintro e w40 ⟨rfl, hb⟩
            have HB40 := Lib.hid (HBW.out.trans ((HBj.out.trans (hb.mono hszo)).mono hszw))
            clear hb
            go_wp2_with fail
            go_ret
            exact ⟨rfl, HB40.out⟩
end Go.Proofs.Ythkgahdnjhjobaa

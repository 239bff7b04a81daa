/-
  RealLeasts: the least and the greatest one of any floats are the page's: the statement's own walk.
  Conditions: as each theorem states them: the words given lie in memory; the library's two tables are as their initialisers lay them.
-/
import Derived.Test.YtfbkokkpcgmapaaDoorRG
import Derived.Test.YtfbkokkpcgmapaaDoorRHClassesW
import Derived.Test.YtfbkokkpcgmapaaDoorRL
namespace Go.Proofs.YtfbkokkpcgmapaaDoor
open Go.RowKit

theorem wpList_append_fs {ops : Array Oper} {rest : List Oper} {o : Oper} {a : Act} {Q : Exit → Act → World → Prop} (w : World) (s x : Operand) (B g p c : Nat) (lv : Value) (l : List Nat)
    (hgd : o.guard = none) (ho : o.op = .call { callee := .builtin .append, args := #[s, x], argTypes := #[23, 23] }) (hs : a.eval s = lv) (hx : a.eval x = .slice (some ⟨g, p, none⟩) l.length c)
    (hown : FRow w B lv []) (hcell : ∀ j (hj : j < l.length), w.cell? ⟨g, p + j, none⟩ = some (.float .f64 l[j])) (hB : B ≤ w.heap.size) (hn : l.length < 1000000)
    (h : ∀ v' w', FRow w' B v' l → w.grownBy w' lv.ownBlock → wpList Tryd.prog ops Q rest (a.put o.dst v') w') : wpList Tryd.prog ops Q (o :: rest) a w := by
  refine wpList_plain hgd fun K hK => ?_
  obtain ⟨i0, hi0, hz0, hs0, hb0⟩ := info_parts infoF
  obtain ⟨v', w', hr, h2, h3, _, _⟩ := run_append_own_at (P := Tryd.prog) w B 23 o.type 26 i0 _ 1 8 Tryd.underlying23 hi0 hz0 hs0 hb0 rfl (by omega) lv 0 [] hown ⟨g, p, none⟩ l.length c
    (flsOf l) (by simp [flsOf]) (fun j u hu => by
      unfold flsOf at hu
      rw [List.getElem?_map] at hu
      obtain ⟨y, hy, rfl⟩ := Option.map_eq_some_iff.1 hu
      obtain ⟨hj, rfl⟩ := List.getElem?_eq_some_iff.1 hy
      rw [Addr.add_lit]
      exact hcell j hj) (fun u hu => by
      unfold flsOf at hu
      obtain ⟨y, _, rfl⟩ := List.mem_map.1 hu
      rfl) (by unfold maxLen; omega) (by omega) hB
  unfold Oper.wp execOp
  simp only [ho, resolve, invoke, builtin, Sem.run_bind, Sem.run_pure, Result.andThen_ok, List.map_toArray, List.map_cons, List.map_nil, hs, hx, hr]
  refine hK _ _ (h v' w' ?_ h3)
  unfold FRow
  simpa using h2

set_option maxHeartbeats 8000000 in
set_option maxRecDepth 100000 in
theorem leasts_any (l : List Nat) (v : Value) (w : World) (h : UsAt w v l) (hT : Tabs w) :
    Calls Tryd.prog 5 #[v] w fun e w' => e = .returned (.bool true) ∧ Below w.heap.size w w' := by
  have HT := Lib.hid hT
  have HA := Lib.hid (all_any l v w h)
  have HLT := Lib.hid (all_lt (show ∀ x ∈ l, x < 18446744073709551616 by obtain ⟨_, _, _, _, h, _⟩ := h; exact h))
  have HU := Lib.hid h
  obtain ⟨A0, c0, rfl, hlen0, _, _⟩ := h
  have hll : l.length < 9223372036854775808 := by unfold maxLen at hlen0; omega
  clear hT hlen0
  go_enter Tryd.func5, Tryd.ntmps5
  go_wp2_with fail
  refine Calls.mono HA.out ?_
  rintro e w1 ⟨u, rfl, hrow, hb1⟩
  have HB1 := Lib.hid hb1
  have HT1 := Lib.hid (HT.out.keep hb1)
  obtain ⟨g, cap, hv1, hg, hgs, hcell⟩ := hrow.get (by unfold allL edgeL; simp)
  subst hv1
  have hcap0 : (allL l).length ≤ cap := by
    rcases hrow.2 with ⟨h, _⟩ | ⟨_, _, _, h, _, _, hc, _⟩
    · cases h
    · injection h with _ _ h3
      rw [h3]
      exact hc
  have HCELL := Lib.hid hcell
  have hsz1 := hb1.size
  have hX : (allL l).length ≤ 45 := by unfold allL; rw [List.length_append, show edgeL.length = 15 from rfl, List.length_take]; omega
  have hX0 : 15 ≤ (allL l).length := by unfold allL; rw [List.length_append, show edgeL.length = 15 from rfl]; omega
  generalize allL l = X at *
  clear hrow hb1 hcell HA HT hg hll
  go_wp2_with fail
  have hcap : X.length ≤ cap := hcap0
  go_loopw [4] (fun iv wr => ∃ n : Nat, iv = .int .i64 n ∧ n ≤ X.length + 1 ∧ Below w1.heap.size w1 wr) (fun iv _ => X.length + 1 - (intOf iv).toNat)
  case atStart => exact ⟨0, rfl, Nat.zero_le _, Below.refl _ _⟩
  case round =>
    obtain ⟨n, rfl, hn, hb⟩ := hrel
    have HB := Lib.hid hb
    have hszr := hb.size
    clear hb
    by_cases hlt : n ≤ X.length
    · have hlti : (n : Int) ≤ (X.length : Int) := by omega
      obtain ⟨m, hm⟩ : ∃ m, X.length = m + n := ⟨X.length - n, by omega⟩
      have hmi : (X.length : Int) - (n : Int) = (m : Int) := by omega
      have hml : (m : Int) ≤ (X.length : Int) := by omega
      have hLn : (X.drop m).length = n := by rw [List.length_drop]; omega
      have hcl : ∀ j (hj : j < (X.drop m).length), (wr.alloc (.cells #[] 26)).cell? ⟨g, m + j, none⟩ = some (.float .f64 (X.drop m)[j]) := fun j hj => by
        rw [List.getElem_drop]
        exact ((HB.out.alloc (by omega) _).cell (p := ⟨g, m + j, none⟩) hgs).trans (HCELL.out (m + j) (by omega))
      have HCL := Lib.hid hcl
      have HRW := Lib.hid (show FRow (wr.alloc (.cells #[] 26)) w1.heap.size (.slice (some ⟨wr.heap.size, 0, none⟩) 0 0) [] from World.ownsRow_lit wr #[] 0 hszr (by unfold maxLen; omega) rfl)
      have HLD := Lib.hid (show ∀ x ∈ X.drop m, x < 18446744073709551616 from fun x hx => HLT.out x (List.mem_of_mem_drop hx))
      have HGJ := Lib.hid (show ∀ j, j < n → ∃ a, X[m + j]? = some a ∧ (X.drop m)[j]? = some a from fun j hj => ⟨X[m + j]'(by omega), List.getElem?_eq_getElem (by omega), by rw [List.getElem?_drop]; exact List.getElem?_eq_getElem (by omega)⟩)
      clear hcl
      generalize hD : X.drop m = D at *
      by_cases hcm : m < cap
      · have hcmi : (m : Int) < (cap : Int) := by omega
        go_wp2_with (at_builtin; refine wpList_append_fs _ (.tmp 15) (.tmp 21) w1.heap.size g m (cap - m) (.slice (some ⟨wr.heap.size, 0, none⟩) 0 0) D rfl rfl rfl (by first | rfl | (rw [hLn]; rfl)) HRW.out HCL.out (by simp; omega) (by omega) ?_)
        intro v2 w2 hrow2 hgrow
        have HB2 := Lib.hid (show Below w1.heap.size w1 w2 from (HB.out.alloc (by omega) _).grown hgrow (by simp; omega) (fun k hk => (World.ownsRow.lt HRW.out k hk).1))
        have hFs := hrow2.at (by omega)
        have HF1 := Lib.hid (fun k => fLeast_any D v2 (w2.drewN k) (hFs.drew k) HLD.out)
        have HF2 := Lib.hid (fun k => rLeast_any D v2 (w2.drewN k) (hFs.drew k) HLD.out)
        have HF3 := Lib.hid (fun k => fMost_any D v2 (w2.drewN k) (hFs.drew k) HLD.out)
        have HF4 := Lib.hid (fun k => rMost_any D v2 (w2.drewN k) (hFs.drew k) HLD.out)
        have HE1 := Lib.hid (fun W => eqFloat_any (leastF D) (leastF D) W)
        have HE2 := Lib.hid (fun W => eqFloat_any (mostF D) (mostF D) W)
        rw [eq_self] at HE1 HE2
        generalize leastF D = y1 at *
        generalize mostF D = y2 at *
        have HR2 := Lib.hid hrow2
        obtain ⟨gA, gn, gc, rfl⟩ := frow_slice hrow2
        clear hrow2 hgrow hFs HRW HCL
        go_wp2_with fail
        refine Calls.mono (HF1.out 0) ?_
        rintro e w3 ⟨rfl, k1, rfl⟩
        rw [World.drewN_zero]
        go_wp2_with fail
        refine Calls.mono (HF2.out _) ?_
        rintro e w3 ⟨rfl, k2, rfl⟩
        rw [World.drewN_drewN]
        go_wp2_with fail
        refine Calls.mono (HE1.out _) ?_
        rintro e w3 ⟨rfl, rfl⟩
        go_wp2_with fail
        refine Calls.mono (HF3.out _) ?_
        rintro e w3 ⟨rfl, k3, rfl⟩
        rw [World.drewN_drewN]
        go_wp2_with fail
        refine Calls.mono (HF4.out _) ?_
        rintro e w3 ⟨rfl, k4, rfl⟩
        rw [World.drewN_drewN]
        go_wp2_with fail
        refine Calls.mono (HE2.out _) ?_
        rintro e w3 ⟨rfl, rfl⟩
        have HB3 := Lib.hid (below_drew HB2.out (k1 + k2 + k3 + k4))
        have HR3 := Lib.hid (show FRow (w2.drewN (k1 + k2 + k3 + k4)) w1.heap.size (.slice gA gn gc) D from HR2.out.blocks fun j o _ h => h)
        generalize w2.drewN (k1 + k2 + k3 + k4) = w3 at *
        clear HF1 HF2 HF3 HF4 HE1 HE2 HB2 HR2 HB
        go_wp2_with fail
        go_loopw [6] (fun jv wj => ∃ j : Nat, jv = .int .i64 j ∧ j ≤ n ∧ Below w3.heap.size w3 wj) (fun jv _ => n - (intOf jv).toNat)
        case atStart => exact ⟨0, rfl, Nat.zero_le _, Below.refl _ _⟩
        case round =>
          obtain ⟨j, rfl, hj, hb⟩ := hrel
          have HBj := Lib.hid hb
          have hsz3 := HB3.out.size
          clear hb
          by_cases hjt : j < n
          · have hjti : (j : Int) < (n : Int) := by omega
            obtain ⟨a, hx1, hx2⟩ := HGJ.out j hjt
            obtain ⟨hi1, hx1⟩ := List.getElem?_eq_some_iff.1 hx1
            obtain ⟨hi2, hx2⟩ := List.getElem?_eq_some_iff.1 hx2
            obtain ⟨g2, cap2, hv2, _, hg2, hcell2⟩ := HR3.out.get (fun e => by rw [e] at hi2; simp at hi2)
            have hc2 := (HBj.out.cell (p := ⟨g2, j, none⟩) hg2).trans (hcell2 j hi2)
            have hc1 := (HBj.out.cell (p := ⟨g, m + j, none⟩) (Nat.lt_of_lt_of_le hgs hsz3)).trans ((HB3.out.cell (p := ⟨g, m + j, none⟩) hgs).trans (HCELL.out (m + j) hi1))
            rw [hx1] at hc1
            rw [hx2] at hc2
            injection hv2 with hA hgn hcc
            subst hA hcc
            have hgi : (j : Int) < (gn : Int) := by omega
            have hsum : (m : Int) + (j : Int) < (X.length : Int) := by omega
            have hfa := run_bits a
            have hne := int_same (a : Int)
            clear hcell2 hx1 hx2 hi1 hi2
            go_wp2_with fail
            go_quiet (fail)
            go_wp2_with fail
            exact ⟨⟨j + 1, by go_num, by omega, below_drew HBj.out _⟩, by simp [intOf]; omega⟩
          · have hjti : ¬ ((j : Int) < (n : Int)) := by omega
            have HBo := Lib.hid (HB3.out.trans (HBj.out.mono hsz3))
            go_wp2_with fail
            exact ⟨⟨n + 1, by go_num, by omega, HBo.out⟩, by simp [intOf]; omega⟩

      · have hn0 : n = 0 := by omega
        obtain rfl : m = cap := by omega
        have hXm : X.length = m := by omega
        have hD0 : D = [] := List.eq_nil_of_length_eq_zero (by omega)
        have hrow2 : FRow (wr.alloc (.cells #[] 26)) w1.heap.size (.slice (some ⟨wr.heap.size, 0, none⟩) 0 0) D := by rw [hD0]; exact HRW.out
        have HB2 := Lib.hid (show Below w1.heap.size w1 (wr.alloc (.cells #[] 26)) from HB.out.alloc (by omega) _)
        go_wp2_with fail
        generalize (wr.alloc (.cells #[] 26)) = w2 at *
        have hFs := hrow2.at (by omega)
        have HF1 := Lib.hid (fun k => fLeast_any D (.slice (some ⟨wr.heap.size, 0, none⟩) 0 0) (w2.drewN k) (hFs.drew k) HLD.out)
        have HF2 := Lib.hid (fun k => rLeast_any D (.slice (some ⟨wr.heap.size, 0, none⟩) 0 0) (w2.drewN k) (hFs.drew k) HLD.out)
        have HF3 := Lib.hid (fun k => fMost_any D (.slice (some ⟨wr.heap.size, 0, none⟩) 0 0) (w2.drewN k) (hFs.drew k) HLD.out)
        have HF4 := Lib.hid (fun k => rMost_any D (.slice (some ⟨wr.heap.size, 0, none⟩) 0 0) (w2.drewN k) (hFs.drew k) HLD.out)
        have HE1 := Lib.hid (fun W => eqFloat_any (leastF D) (leastF D) W)
        have HE2 := Lib.hid (fun W => eqFloat_any (mostF D) (mostF D) W)
        rw [eq_self] at HE1 HE2
        generalize leastF D = y1 at *
        generalize mostF D = y2 at *
        have HR2 := Lib.hid hrow2
        clear hrow2 hFs HRW HCL
        refine Calls.mono (HF1.out 0) ?_
        rintro e w3 ⟨rfl, k1, rfl⟩
        rw [World.drewN_zero]
        go_wp2_with fail
        refine Calls.mono (HF2.out _) ?_
        rintro e w3 ⟨rfl, k2, rfl⟩
        rw [World.drewN_drewN]
        go_wp2_with fail
        refine Calls.mono (HE1.out _) ?_
        rintro e w3 ⟨rfl, rfl⟩
        go_wp2_with fail
        refine Calls.mono (HF3.out _) ?_
        rintro e w3 ⟨rfl, k3, rfl⟩
        rw [World.drewN_drewN]
        go_wp2_with fail
        refine Calls.mono (HF4.out _) ?_
        rintro e w3 ⟨rfl, k4, rfl⟩
        rw [World.drewN_drewN]
        go_wp2_with fail
        refine Calls.mono (HE2.out _) ?_
        rintro e w3 ⟨rfl, rfl⟩
        have HB3 := Lib.hid (below_drew HB2.out (k1 + k2 + k3 + k4))
        have HR3 := Lib.hid (show FRow (w2.drewN (k1 + k2 + k3 + k4)) w1.heap.size (.slice (some ⟨wr.heap.size, 0, none⟩) 0 0) D from HR2.out.blocks fun j o _ h => h)
        generalize w2.drewN (k1 + k2 + k3 + k4) = w3 at *
        clear HF1 HF2 HF3 HF4 HE1 HE2 HB2 HR2 HB
        go_wp2_with fail
        go_loopw [6] (fun jv wj => ∃ j : Nat, jv = .int .i64 j ∧ j ≤ n ∧ Below w3.heap.size w3 wj) (fun jv _ => n - (intOf jv).toNat)
        case atStart => exact ⟨0, rfl, Nat.zero_le _, Below.refl _ _⟩
        case round =>
          obtain ⟨j, rfl, hj, hb⟩ := hrel
          have HBj := Lib.hid hb
          have hsz3 := HB3.out.size
          clear hb
          have hjti : ¬ ((j : Int) < (n : Int)) := by omega
          have HBo := Lib.hid (HB3.out.trans (HBj.out.mono hsz3))
          go_wp2_with fail
          exact ⟨⟨n + 1, by go_num, by omega, HBo.out⟩, by simp [intOf]⟩
    have hlti : ¬ ((n : Int) ≤ (X.length : Int)) := by omega
    obtain rfl : n = X.length + 1 := by omega
    have HW := Lib.hid (wakes_any wr (HT1.out.keep HB.out))
    have HBW := Lib.hid (HB1.out.trans (HB.out.mono hsz1))
    clear HB1 HB
    go_wp2_with fail
    refine Calls.mono HW.out ?_
    rintro e w2 ⟨rfl, hb⟩
    have HB2 := Lib.hid (HBW.out.trans (hb.mono (Nat.le_trans hsz1 hszr)))
    clear hb
    go_wp2_with fail
    go_ret
    exact ⟨rfl, HB2.out⟩
end Go.Proofs.YtfbkokkpcgmapaaDoor

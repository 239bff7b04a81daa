/-
  readLines, walked: it answers the reply that some lines are, in memory of the call's own, or panics with a fault.
  Conditions: as the theorem states them: the lines lie in memory.
-/
import Derived.Test.YtlefeebhilfkjaaDoorE
namespace Go.Proofs.YtlefeebhilfkjaaDoor
open Go.RowKit

/-- How readLines ends. -/
def readsEnd (B : Nat) (r : Res) (e : Ending) (w' : World) : Prop :=
  (r.err = 0 ∧ ∃ lv, e = .returned (.agg #[.int .i64 r.code, lv]) ∧ StrRow w' B lv r.rows) ∨ (r.err ≠ 0 ∧ e = pan r.err)

theorem readsEnd_form {B : Nat} {r : Res} {w' : World} (h : r = .form) : readsEnd B r (pan 1) w' := by
  subst h
  exact .inr ⟨by decide, rfl⟩
theorem readsEnd_cut {B : Nat} {r : Res} {w' : World} (h : r = .cut) : readsEnd B r (pan 7) w' := by
  subst h
  exact .inr ⟨by decide, rfl⟩

theorem go_none {l : List (List UInt8)} {more : Bool} {code : Nat} {acc : List (List UInt8)} {j : Nat} (h : j < l.length) (hn : lineL l[j] = none) : goL more code acc (l.drop j) = .form := by
  rw [List.drop_eq_getElem_cons h, goL, hn]
theorem go_some {l : List (List UInt8)} {more : Bool} {code : Nat} {acc : List (List UInt8)} {j : Nat} (h : j < l.length) {c : Nat} {m : Bool} {x : List UInt8} (hn : lineL l[j] = some (c, m, x)) :
    goL more code acc (l.drop j) = if more = false ∨ (acc ≠ [] ∧ c ≠ code) then .form else goL m c (acc ++ [x]) (l.drop (j + 1)) := by
  rw [List.drop_eq_getElem_cons h, goL, hn]
theorem go_end {l : List (List UInt8)} {more : Bool} {code : Nat} {acc : List (List UInt8)} : goL more code acc (l.drop l.length) = if more then .cut else ⟨0, code, acc⟩ := by
  rw [List.drop_length, goL]

theorem drew_below (w : World) (n : Nat) : Below w.heap.size w (w.drewN n) := ⟨rfl, rfl, rfl, Nat.le_refl _, fun _ _ => rfl⟩

theorem row_shape {w : World} {B : Nat} {v : Value} {rows : List (List UInt8)} (h : StrRow w B v rows) : ∃ A n c, v = .slice A n c := by
  rcases h.2 with ⟨h, _⟩ | ⟨g, cap, cur, h, _⟩
  · exact ⟨_, _, _, h⟩
  · exact ⟨_, _, _, h⟩

set_option maxHeartbeats 2000000 in
set_option maxRecDepth 100000 in
theorem readLines_any (l : List (List UInt8)) (v : Value) (w : World) (hl : TextsAt w v l) :
    Calls Tryd.prog 24 #[v] w fun e w' => readsEnd w.heap.size (parseL l) e w' ∧ Below w.heap.size w w' := by
  obtain ⟨A, c, rfl, hll, hlm, hl⟩ := hl
  by_cases h16 : l.length ≤ 16
  · have ht : parseL l = goL true 0 [] l := if_pos h16
    rw [ht]
    have HL := Lib.hid hl
    have HM := Lib.hid hlm
    clear hl hlm ht
    go_enter Tryd.func24, Tryd.ntmps24
    go_wp2_with fail
    go_loopw [4, 17] (fun mv iv wr => ∃ (j : Nat) (more : Bool) (code : Nat) (acc : List (List UInt8)) (lv : Value), j ≤ l.length ∧ acc.length = j ∧ mv = .bool more ∧ iv = .int .i64 j ∧ Below w.heap.size w wr ∧ RAt wr w.heap.size 0 (.slice none 0 0) ∧ RAt wr (w.heap.size + 1) code lv ∧ StrRow wr (w.heap.size + 2) lv acc ∧ goL true 0 [] l = goL more code acc (l.drop j)) (fun _ iv _ => l.length - (intOf iv).toNat)
    case atStart =>
      refine ⟨0, true, 0, [], .slice none 0 0, Nat.zero_le _, rfl, rfl, rfl, ((Below.refl _ w).alloc (Nat.le_refl _) _).alloc (by simp) _, ?_, ?_, StrRow.zero _ _, rfl⟩
      · exact RAt.alloc (heap_alloc_new w _) _
      · have := heap_alloc_new (w.alloc (.cells #[.int .i64 0, .slice none 0 0] 26)) (.cells #[.int .i64 0, .slice none 0 0] 26)
        rw [World.size_alloc] at this
        exact this
    case round =>
      obtain ⟨j, more, code, acc, lv, hj, hacc, rfl, rfl, hb, hr0, hr1, hrow, hgo⟩ := hrel
      have HB := Lib.hid hb
      have HR0 := Lib.hid hr0
      have HR1 := Lib.hid hr1
      have HW := Lib.hid hrow
      have HG := Lib.hid hgo
      have hsz := hb.size
      have hlt1 := hr1.lt
      clear hb hr0 hr1 hrow hgo
      by_cases hlt : j < l.length
      · obtain ⟨b, o, rfl, hab, hac⟩ := HL.out (fun e => by rw [e] at hlt; exact absurd hlt (by simp))
        have hc : wr.cell? ⟨b, o + j, none⟩ = some (.string ⟨l[j].toArray⟩) := (HB.out.cell (p := ⟨b, o + j, none⟩) hab).trans (hac j hlt)
        have hsm : l[j].length ≤ maxLen := by have := HM.out _ (List.getElem_mem hlt); unfold maxLen; omega
        have hc1 : wr.cell? ⟨w.heap.size + 1, 0, none⟩ = some (.int .i64 code) := HR1.out.c0
        have hz0 : wr.frozen? ⟨w.heap.size + 1, 0, none⟩ = false := HR1.out.fz 0
        obtain ⟨gA, gn, gc, rfl⟩ := row_shape HW.out
        clear hac
        cases hln : lineL l[j] with
        | none =>
          have HE := Lib.hid (show goL true 0 [] l = .form by rw [HG.out, go_none hlt hln])
          have HN := Lib.hid hln
          clear hln
          go_wp2_with fail
          refine (readLine_any l[j] _ hsm).mono ?_
          rintro e w1 ⟨he, n, rfl⟩
          rw [HN.out] at he
          obtain rfl : e = pan 1 := he
          exact ⟨rfl, readsEnd_form HE.out, HB.out.trans ((drew_below wr n).mono hsz)⟩
        | some q =>
          obtain ⟨cd, m, x⟩ := q
          have HS := Lib.hid (go_some (more := more) (code := code) (acc := acc) hlt hln)
          have HN := Lib.hid hln
          have hcd := (line_text hln).2
          clear hln
          by_cases hbad : more = false ∨ (acc ≠ [] ∧ cd ≠ code)
          · have HE := Lib.hid (show goL true 0 [] l = .form by rw [HG.out, HS.out, if_pos hbad])
            have hb1 := fun n => HB.out.trans ((drew_below wr n).mono hsz)
            have HB1 := Lib.hid hb1
            clear hb1
            cases more with
            | false =>
              clear hbad
              go_wp2_with fail
              refine (readLine_any l[j] _ hsm).mono ?_
              rintro e w1 ⟨he, n, rfl⟩
              rw [HN.out] at he
              obtain rfl : e = .returned (.tuple #[.int .i64 cd, .bool m, .string ⟨x.toArray⟩]) := he
              go_wp2_with fail
              exact ⟨rfl, readsEnd_form HE.out, HB1.out n⟩
            | true =>
              have hbad' : acc ≠ [] ∧ cd ≠ code := hbad.elim (fun h => by cases h) id
              have hj0 : (0 : Int) < (j : Int) := by
                have := List.length_pos_iff.2 hbad'.1
                omega
              have hne : ((cd : Int) != (code : Int)) = true := by
                rw [bne_iff_ne]
                have := hbad'.2
                omega
              clear hbad hbad'
              go_wp2_with fail
              refine (readLine_any l[j] _ hsm).mono ?_
              rintro e w1 ⟨he, n, rfl⟩
              rw [HN.out] at he
              obtain rfl : e = .returned (.tuple #[.int .i64 cd, .bool m, .string ⟨x.toArray⟩]) := he
              go_wp2_with fail
              exact ⟨rfl, readsEnd_form HE.out, HB1.out n⟩
          · have HE := Lib.hid (show goL true 0 [] l = goL m cd (acc ++ [x]) (l.drop (j + 1)) by rw [HG.out, HS.out, if_neg hbad])
            have hmore : more = true := by
              cases more with
              | true => rfl
              | false => exact absurd (.inl rfl) hbad
            subst hmore
            have hor : (j = 0) ∨ (0 < j ∧ cd = code) := by
              rcases Nat.eq_zero_or_pos j with h | h
              · exact .inl h
              · refine .inr ⟨h, Decidable.byContradiction fun hne => hbad (.inr ⟨?_, hne⟩)⟩
                intro e
                rw [e] at hacc
                simp at hacc
                omega
            clear hbad
            rcases hor with h0 | ⟨h0, hcc⟩
            · have hj0 : ¬ ((0 : Int) < (j : Int)) := by omega
              clear h0
              go_wp2_with fail
              refine (readLine_any l[j] _ hsm).mono ?_
              rintro e w1 ⟨he, n, rfl⟩
              rw [HN.out] at he
              obtain rfl : e = .returned (.tuple #[.int .i64 cd, .bool m, .string ⟨x.toArray⟩]) := he
              have hr1' := ((HR1.out.later (drew_below wr n)).set0 cd)
              have hc2 : ((wr.drewN n).setCell ⟨w.heap.size + 1, 0, none⟩ (.int .i64 cd)).cell? ⟨w.heap.size + 1, 1, none⟩ = some (.slice gA gn gc) := hr1'.c1
              have HRA := Lib.hid (hr1'.alloc (.cells #[.string ⟨x.toArray⟩] 9))
              have HRB := Lib.hid (((HR0.out.later (drew_below wr n)).other (p := ⟨w.heap.size + 1, 0, none⟩) (by simp) (.int .i64 cd)).alloc (.cells #[.string ⟨x.toArray⟩] 9))
              have HRW := Lib.hid (show StrRow (((wr.drewN n).setCell ⟨w.heap.size + 1, 0, none⟩ (.int .i64 cd)).alloc (.cells #[.string ⟨x.toArray⟩] 9)) (w.heap.size + 2) (.slice gA gn gc) acc from
                World.ownsRow.alloc (ownsRow_setCell_below (w := wr.drewN n) HW.out (a := ⟨w.heap.size + 1, 0, none⟩) (Nat.lt_succ_self _) _) _)
              have HBK := Lib.hid (show (((wr.drewN n).setCell ⟨w.heap.size + 1, 0, none⟩ (.int .i64 cd)).alloc (.cells #[.string ⟨x.toArray⟩] 9)).heap[wr.heap.size]? = some (.cells #[.string ⟨x.toArray⟩] 9 (0, 0)) from by
                have := heap_alloc_new ((wr.drewN n).setCell ⟨w.heap.size + 1, 0, none⟩ (.int .i64 cd)) (.cells #[.string ⟨x.toArray⟩] 9)
                rw [World.size_setCell] at this
                exact this)
              have HBB := Lib.hid (((HB.out.trans ((drew_below wr n).mono hsz)).setCell (p := ⟨w.heap.size + 1, 0, none⟩) (Nat.le_succ _) (.int .i64 cd)).alloc (by rw [World.size_setCell]; exact hsz) (.cells #[.string ⟨x.toArray⟩] 9))
              clear hr1'
              go_wp2_with (at_builtin; refine wpList_append_str _ (.tmp 46) (.tmp 48) (w.heap.size + 2) wr.heap.size (.slice gA gn gc) acc x rfl rfl rfl rfl HRW.out HBK.out (by simp; omega) (by omega) ?_)
              intro g cap w2 hrow2 hgrow
              have hr2 : RAt w2 (w.heap.size + 1) cd (.slice gA gn gc) := HRA.out.kept hgrow (fun e => by have := (World.ownsRow.lt HRW.out _ e.symm).1; omega)
              have hr3 : RAt w2 w.heap.size 0 (.slice none 0 0) := HRB.out.kept hgrow (fun e => by have := (World.ownsRow.lt HRW.out _ e.symm).1; omega)
              have hc3 : w2.cell? ⟨w.heap.size + 1, 1, none⟩ = some (.slice gA gn gc) := hr2.c1
              have hz3 : w2.frozen? ⟨w.heap.size + 1, 1, none⟩ = false := hr2.fz 1
              have hb2 : Below w.heap.size w w2 := HBB.out.grown hgrow (by simp; omega) (fun k hk => by have := (World.ownsRow.lt HRW.out k hk).1; omega)
              have H2 := Lib.hid hr2
              have H3 := Lib.hid hr3
              have H4 := Lib.hid hrow2
              have H5 := Lib.hid hb2
              clear hr2 hr3 hrow2 hb2
              go_wp2_with fail
              exact ⟨⟨j + 1, m, cd, acc ++ [x], _, hlt, by simp [hacc], rfl, by go_num, H5.out.setCell (p := ⟨w.heap.size + 1, 1, none⟩) (Nat.le_succ _) _, H3.out.other (p := ⟨w.heap.size + 1, 1, none⟩) (by simp) _, H2.out.set1 _,
                ownsRow_setCell_below H4.out (a := ⟨w.heap.size + 1, 1, none⟩) (Nat.lt_succ_self _) _, HE.out⟩, by simp [intOf]; omega⟩
            · have hj0 : (0 : Int) < (j : Int) := by omega
              have hne : ((cd : Int) != (code : Int)) = false := by rw [hcc]; simp
              clear h0 hcc
              go_wp2_with fail
              refine (readLine_any l[j] _ hsm).mono ?_
              rintro e w1 ⟨he, n, rfl⟩
              rw [HN.out] at he
              obtain rfl : e = .returned (.tuple #[.int .i64 cd, .bool m, .string ⟨x.toArray⟩]) := he
              have hr1' := ((HR1.out.later (drew_below wr n)).set0 cd)
              have hc2 : ((wr.drewN n).setCell ⟨w.heap.size + 1, 0, none⟩ (.int .i64 cd)).cell? ⟨w.heap.size + 1, 1, none⟩ = some (.slice gA gn gc) := hr1'.c1
              have HRA := Lib.hid (hr1'.alloc (.cells #[.string ⟨x.toArray⟩] 9))
              have HRB := Lib.hid (((HR0.out.later (drew_below wr n)).other (p := ⟨w.heap.size + 1, 0, none⟩) (by simp) (.int .i64 cd)).alloc (.cells #[.string ⟨x.toArray⟩] 9))
              have HRW := Lib.hid (show StrRow (((wr.drewN n).setCell ⟨w.heap.size + 1, 0, none⟩ (.int .i64 cd)).alloc (.cells #[.string ⟨x.toArray⟩] 9)) (w.heap.size + 2) (.slice gA gn gc) acc from
                World.ownsRow.alloc (ownsRow_setCell_below (w := wr.drewN n) HW.out (a := ⟨w.heap.size + 1, 0, none⟩) (Nat.lt_succ_self _) _) _)
              have HBK := Lib.hid (show (((wr.drewN n).setCell ⟨w.heap.size + 1, 0, none⟩ (.int .i64 cd)).alloc (.cells #[.string ⟨x.toArray⟩] 9)).heap[wr.heap.size]? = some (.cells #[.string ⟨x.toArray⟩] 9 (0, 0)) from by
                have := heap_alloc_new ((wr.drewN n).setCell ⟨w.heap.size + 1, 0, none⟩ (.int .i64 cd)) (.cells #[.string ⟨x.toArray⟩] 9)
                rw [World.size_setCell] at this
                exact this)
              have HBB := Lib.hid (((HB.out.trans ((drew_below wr n).mono hsz)).setCell (p := ⟨w.heap.size + 1, 0, none⟩) (Nat.le_succ _) (.int .i64 cd)).alloc (by rw [World.size_setCell]; exact hsz) (.cells #[.string ⟨x.toArray⟩] 9))
              clear hr1'
              go_wp2_with (at_builtin; refine wpList_append_str _ (.tmp 46) (.tmp 48) (w.heap.size + 2) wr.heap.size (.slice gA gn gc) acc x rfl rfl rfl rfl HRW.out HBK.out (by simp; omega) (by omega) ?_)
              intro g cap w2 hrow2 hgrow
              have hr2 : RAt w2 (w.heap.size + 1) cd (.slice gA gn gc) := HRA.out.kept hgrow (fun e => by have := (World.ownsRow.lt HRW.out _ e.symm).1; omega)
              have hr3 : RAt w2 w.heap.size 0 (.slice none 0 0) := HRB.out.kept hgrow (fun e => by have := (World.ownsRow.lt HRW.out _ e.symm).1; omega)
              have hc3 : w2.cell? ⟨w.heap.size + 1, 1, none⟩ = some (.slice gA gn gc) := hr2.c1
              have hz3 : w2.frozen? ⟨w.heap.size + 1, 1, none⟩ = false := hr2.fz 1
              have hb2 : Below w.heap.size w w2 := HBB.out.grown hgrow (by simp; omega) (fun k hk => by have := (World.ownsRow.lt HRW.out k hk).1; omega)
              have H2 := Lib.hid hr2
              have H3 := Lib.hid hr3
              have H4 := Lib.hid hrow2
              have H5 := Lib.hid hb2
              clear hr2 hr3 hrow2 hb2
              go_wp2_with fail
              exact ⟨⟨j + 1, m, cd, acc ++ [x], _, hlt, by simp [hacc], rfl, by go_num, H5.out.setCell (p := ⟨w.heap.size + 1, 1, none⟩) (Nat.le_succ _) _, H3.out.other (p := ⟨w.heap.size + 1, 1, none⟩) (by simp) _, H2.out.set1 _,
                ownsRow_setCell_below H4.out (a := ⟨w.heap.size + 1, 1, none⟩) (Nat.lt_succ_self _) _, HE.out⟩, by simp [intOf]; omega⟩
      · obtain rfl : j = l.length := by omega
        have HN := Lib.hid (go_end (l := l) (more := more) (code := code) (acc := acc))
        cases more with
        | true =>
          have HE := Lib.hid (show goL true 0 [] l = .cut by rw [HG.out, HN.out, if_pos rfl])
          go_wp2_with fail
          exact ⟨rfl, readsEnd_cut HE.out, HB.out⟩
        | false =>
          have HE := Lib.hid (show goL true 0 [] l = ⟨0, code, acc⟩ by rw [HG.out, HN.out]; rfl)
          have hc1 : wr.cell? ⟨w.heap.size + 1, 0, none⟩ = some (.int .i64 code) := HR1.out.c0
          have hc2 : wr.cell? ⟨w.heap.size + 1, 1, none⟩ = some lv := HR1.out.c1
          have hc3 : wr.cell? ⟨w.heap.size, 0, none⟩ = some (.int .i64 0) := HR0.out.c0
          have hc4 : wr.cell? ⟨w.heap.size, 1, none⟩ = some (.slice none 0 0) := HR0.out.c1
          have hz3 : wr.frozen? ⟨w.heap.size, 0, none⟩ = false := HR0.out.fz 0
          have hz4 : wr.frozen? ⟨w.heap.size, 1, none⟩ = false := HR0.out.fz 1
          obtain ⟨gA, gn, gc, rfl⟩ := row_shape HW.out
          go_wp2_with fail
          have hf := (HR0.out.set0 code).set1 (.slice gA gn gc)
          have hf0 := hf.c0
          have hf1 := hf.c1
          refine bodyPost_ret (v := .agg #[.int .i64 code, .slice gA gn gc]) (by simp [results, Tryd.results24, go_sem, hf0, hf1]) rfl ?_
          refine ⟨?_, (HB.out.setCell (p := ⟨w.heap.size, 0, none⟩) (Nat.le_refl _) _).setCell (p := ⟨w.heap.size, 1, none⟩) (Nat.le_refl _) _⟩
          rw [HE.out]
          exact .inl ⟨rfl, _, rfl, StrRow.mono (ownsRow_setCell_below (ownsRow_setCell_below HW.out (a := ⟨w.heap.size, 0, none⟩) (Nat.lt_add_of_pos_right (by decide)) _) (a := ⟨w.heap.size, 1, none⟩) (Nat.lt_add_of_pos_right (by decide)) _) (Nat.le_add_right _ 2)⟩
  · have ht : parseL l = .form := if_neg h16
    rw [ht]
    have h16' : (16 : Int) < (l.length : Int) := by omega
    clear hl hlm ht
    go_enter Tryd.func24, Tryd.ntmps24
    go_wp2_with fail
    exact ⟨rfl, readsEnd_form rfl, (Below.refl _ w).alloc (Nat.le_refl _) _⟩
end Go.Proofs.YtlefeebhilfkjaaDoor

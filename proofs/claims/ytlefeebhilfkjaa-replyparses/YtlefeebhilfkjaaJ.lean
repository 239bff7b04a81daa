/-
  The page's Parse, walked: it answers what the plain mathematics says, in memory of the call's own.
  Conditions: as the theorem states them: the lines lie in memory.
-/
import Derived.Test.YtlefeebhilfkjaaI
import Derived.Deep.RegionLaw
import Derived.Laws.Concat
import Derived.Deep.CutRange
import Derived.Deep.Cut
import Derived.Deep.DeepCutAuto
namespace Go.Proofs.Ytlefeebhilfkjaa
open Go.RowKit

/-- A line of three bytes with a blank behind it; any other line. -/
def pad (s : List UInt8) : List UInt8 := if s.length = 3 then s ++ [32] else s

/-- A line as the page takes it apart. -/
def lineQ : List UInt8 → Option (Nat × Bool × List UInt8)
  | a :: b :: d :: g :: u => if codB a b d = true ∧ (g = 45 ∨ g = 32) ∧ textOk u = true then some (cod a b d, decide (g = 45), u) else none
  | _ => none

theorem line_pad (s : List UInt8) : lineL s = lineQ (pad s) := by
  match s with
  | [] => rfl
  | [_] => rfl
  | [_, _] => rfl
  | [a, b, d] =>
    show (if codB a b d = true then restL (cod a b d) [] else none) = lineQ [a, b, d, 32]
    rw [lineQ]
    by_cases h : codB a b d = true
    · rw [if_pos h, if_pos ⟨h, .inr rfl, rfl⟩]
      rfl
    · rw [if_neg h, if_neg (fun k => h k.1)]
  | a :: b :: d :: g :: u =>
    have hp : pad (a :: b :: d :: g :: u) = a :: b :: d :: g :: u := if_neg (by simp)
    rw [hp, lineQ, lineL, restL]
    by_cases h : codB a b d = true
    · rw [if_pos h]
      by_cases k : (g = 45 ∨ g = 32) ∧ textOk u = true
      · rw [if_pos k, if_pos ⟨h, k⟩]
      · rw [if_neg k, if_neg (fun x => k x.2)]
    · rw [if_neg h, if_neg (fun k => h k.1)]

/-- Is a line none, or a last one too early? -/
def badL (r : Option (Nat × Bool × List UInt8)) (last : Bool) : Bool :=
  match r with
  | none => true
  | some (_, m, _) => !m && !last

theorem pg_bad {l : List (List UInt8)} {more : Bool} {code : Nat} {acc : List (List UInt8)} {j : Nat} (h : j < l.length) (hb : badL (lineL l[j]) (decide (j + 1 = l.length)) = true) : pgL more code acc (l.drop j) = .form := by
  rw [List.drop_eq_getElem_cons h, pgL]
  cases hl : lineL l[j] with
  | none => rfl
  | some r =>
    obtain ⟨c, m, x⟩ := r
    rw [hl] at hb
    simp only [badL, Bool.and_eq_true, Bool.not_eq_true', decide_eq_false_iff_not] at hb
    show (if (m = false ∧ l.drop (j + 1) ≠ []) ∨ (acc ≠ [] ∧ c ≠ code) then Res.form else _) = _
    rw [if_pos (.inl ⟨hb.1, fun e => hb.2 (by have := List.drop_eq_nil_iff.1 e; omega)⟩)]

theorem pg_ok {l : List (List UInt8)} {more : Bool} {code : Nat} {acc : List (List UInt8)} {j : Nat} (h : j < l.length) {c : Nat} {m : Bool} {x : List UInt8} (hl : lineL l[j] = some (c, m, x)) (hb : badL (lineL l[j]) (decide (j + 1 = l.length)) = false) :
    pgL more code acc (l.drop j) = if acc ≠ [] ∧ c ≠ code then .form else pgL m c (acc ++ [x]) (l.drop (j + 1)) := by
  rw [List.drop_eq_getElem_cons h, pgL, hl]
  rw [hl] at hb
  show (if (m = false ∧ l.drop (j + 1) ≠ []) ∨ (acc ≠ [] ∧ c ≠ code) then Res.form else _) = _
  have hno : ¬ (m = false ∧ l.drop (j + 1) ≠ []) := by
    rintro ⟨rfl, h2⟩
    apply h2
    simp [badL] at hb
    rw [hb, List.drop_length]
  by_cases hc : acc ≠ [] ∧ c ≠ code
  · rw [if_pos (.inr hc), if_pos hc]
  · rw [if_neg (fun e => e.elim hno hc), if_neg hc]

theorem pg_end {l : List (List UInt8)} {more : Bool} {code : Nat} {acc : List (List UInt8)} : pgL more code acc (l.drop l.length) = if more then .cut else ⟨0, code, acc⟩ := by
  rw [List.drop_length, pgL]

theorem bad_false {s : List UInt8} {last : Bool} (h : badL (lineQ s) last = false) : ∃ a b d g u, s = a :: b :: d :: g :: u ∧ codB a b d = true ∧ textOk u = true ∧ lineQ s = some (cod a b d, decide (g = 45), u) := by
  match s, h with
  | a :: b :: d :: g :: u, h =>
    by_cases k : codB a b d = true ∧ (g = 45 ∨ g = 32) ∧ textOk u = true
    · exact ⟨a, b, d, g, u, rfl, k.1, k.2.2, if_pos k⟩
    · rw [lineQ, if_neg k] at h
      cases h
  | [], h => cases h
  | [_], h => cases h
  | [_, _], h => cases h
  | [_, _, _], h => cases h

theorem byte_eq {c d : UInt8} : ((c.toNat : Int) == (d.toNat : Int)) = decide (c = d) := by
  by_cases h : c = d
  · subst h; simp
  · rw [byte_ne h]; simp [h]

theorem step_append_str {ops : Array Oper} {o : Oper} {a : Act} {K : Act → World → Prop} {Q : Exit → Act → World → Prop} {E : Prop} (w : World) (s x : Operand) (B n : Nat) (lv : Value) (rows : List (List UInt8)) (t : List UInt8)
    (hgd : o.guard = none) (ho : o.op = .call { callee := .builtin .append, args := #[s, x], argTypes := #[24, 24] }) (hs : a.eval s = lv) (hx : a.eval x = .slice (some ⟨n, 0, none⟩) 1 1)
    (hown : StrRow w B lv rows) (hblk : w.heap[n]? = some (.cells #[.string ⟨t.toArray⟩] 9 (0, 0))) (hB : B ≤ w.heap.size) (hn : rows.length < 1000000)
    (h : ∀ g cap w', StrRow w' B (.slice (some ⟨g, 0, none⟩) (rows.length + 1) cap) (rows ++ [t]) → w.grownBy w' lv.ownBlock → K (a.put o.dst (.slice (some ⟨g, 0, none⟩) (rows.length + 1) cap)) w') :
    if Region.wanted o (yielded ops a.tmps) = true then Oper.wp Try.prog o a w K Q else E := by
  have hw : Region.wanted o (yielded ops a.tmps) = true := by simp [Region.wanted, hgd]
  rw [if_pos hw]
  obtain ⟨g, cap, w', hr, h2, h3⟩ := run_append_str w o.type B n lv rows t hown hblk hB hn
  unfold Oper.wp execOp
  simp only [ho, resolve, invoke, builtin, Sem.run_bind, Sem.run_pure, Result.andThen_ok, List.map_toArray, List.map_cons, List.map_nil, hs, hx, hr]
  exact h g cap w' h2 h3

theorem add_str (a b : List UInt8) (w : World) (h : a.length + b.length ≤ 100000) : (Op.stringOp .add ⟨a.toArray⟩ ⟨b.toArray⟩).run Try.prog w = .ok (.string ⟨(a ++ b).toArray⟩) w :=
  run_string_add_lists (P := Try.prog) w a b (by omega) (by omega)

set_option maxHeartbeats 2000000 in
set_option maxRecDepth 100000 in
theorem pageParse_any (l : List (List UInt8)) (v : Value) (w : World) (hl : TextsAt w v l) :
    Calls Try.prog 8 #[v] w fun e w' => ∃ lv, e = .returned (.tuple #[.agg #[.int .i64 (parseL l).code, lv], .int .i64 (parseL l).err]) ∧ StrRow w' w.heap.size lv (parseL l).rows ∧ Below w.heap.size w w' := by
  obtain ⟨A, c, rfl, hll, hlm, hl⟩ := hl
  by_cases h16 : l.length ≤ 16
  · have ht : parseL l = pgL true 0 [] l := (if_pos h16).trans (go_page l 0 [])
    rw [ht]
    have HL := Lib.hid hl
    have HM := Lib.hid hlm
    clear hl hlm ht
    go_enter Try.func8, Try.ntmps8
    go_wp2_with fail
    go_loopw [5, 6] (fun mv iv wr => ∃ (j : Nat) (more : Bool) (code : Nat) (acc : List (List UInt8)) (lv : Value), j ≤ l.length ∧ acc.length = j ∧ mv = .bool more ∧ iv = .int .i64 j ∧ Below w.heap.size w wr ∧ RAt wr w.heap.size 0 (.slice none 0 0) ∧ RAt wr (w.heap.size + 1) code lv ∧ StrRow wr (w.heap.size + 2) lv acc ∧ pgL true 0 [] l = pgL more code acc (l.drop j)) (fun _ iv _ => l.length - (intOf iv).toNat)
    case atStart =>
      refine ⟨0, true, 0, [], .slice none 0 0, Nat.zero_le _, rfl, rfl, rfl, ((Below.refl _ w).alloc (Nat.le_refl _) _).alloc (by simp) _, ?_, ?_, StrRow.zero _ _, rfl⟩
      · exact RAt.alloc (heap_alloc_new w _) _
      · have := heap_alloc_new (w.alloc (.cells #[.int .i64 0, .slice none 0 0] 26)) (.cells #[.int .i64 0, .slice none 0 0] 26)
        rw [World.size_alloc] at this
        exact this
    case round =>
      obtain ⟨j, more, code, acc, lv, hj, hacc, rfl, rfl, hb, hr0, hr1, hrow, hgo⟩ := hrel
      obtain ⟨gA, gn, gc, rfl⟩ := row_shape hrow
      have HB := Lib.hid hb
      have HR0 := Lib.hid hr0
      have HR1 := Lib.hid hr1
      have HW := Lib.hid hrow
      have HG := Lib.hid hgo
      have hsz := hb.size
      have hlt1 := hr1.lt
      clear hb hr0 hr1 hrow hgo
      by_cases hlt : j < l.length
      · obtain ⟨b, o, rfl, hab, hac⟩ := HL.out (fun e => by rw [e] at hlt; exact absurd hlt (by simp))
        have hc : wr.cell? ⟨b, o + j, none⟩ = some (.string ⟨l[j].toArray⟩) := (HB.out.cell (p := ⟨b, o + j, none⟩) hab).trans (hac j hlt)
        have hsm : l[j].length ≤ 140737488355328 := HM.out _ (List.getElem_mem hlt)
        have hc1 : wr.cell? ⟨w.heap.size + 1, 0, none⟩ = some (.int .i64 code) := HR1.out.c0
        have hz0 : wr.frozen? ⟨w.heap.size + 1, 0, none⟩ = false := HR1.out.fz 0
        clear hac
        go_upto_if 26 with (fail)
        have HQ := Lib.hid (line_pad l[j])
        have hpl : (pad l[j]).length ≤ 140737488355329 := by 
          unfold pad
          split
          · simp
            omega
          · omega
        go_cut [7] (fun sv wc => sv = .string ⟨(pad l[j]).toArray⟩ ∧ wr = wc)
        case first =>
          by_cases h3 : l[j].length = 3
          · have h3b : ((l[j].length : Int) == 3) = true := by rw [h3]; rfl
            have hadd := fun w => add_str l[j] [32] w (by rw [h3]; decide)
            have HP := Lib.hid (show pad l[j] = l[j] ++ [32] from if_pos h3)
            go_wp2_with fail
            go_meet
            case rel => exact ⟨by rw [HP.out], rfl⟩
          · have h3b : ((l[j].length : Int) == 3) = false := by rw [beq_eq_false_iff_ne]; omega
            have HP := Lib.hid (show pad l[j] = l[j] from if_neg h3)
            go_wp2_with fail
            go_meet
            case rel => exact ⟨by rw [HP.out], rfl⟩
        case rest =>
          obtain ⟨rfl, rfl⟩ := hcut
          obtain ⟨s, hs⟩ : ∃ s, s = pad l[j] := ⟨_, rfl⟩
          rw [← hs] at HQ hpl ⊢
          clear hs
          obtain ⟨last, hlast⟩ : ∃ b, b = decide (j + 1 = l.length) := ⟨_, rfl⟩
          have hlastI : decide ((j : Int) < (l.length : Int) - 1) = !last := by
            rw [hlast]
            by_cases he : j + 1 = l.length
            · rw [decide_eq_true he, decide_eq_false (by omega)]; rfl
            · rw [decide_eq_false he, decide_eq_true (by omega)]; rfl
          have HLT := Lib.hid hlast
          clear hlast
          obtain ⟨bad, hbad⟩ : ∃ b, b = badL (lineQ s) last := ⟨_, rfl⟩
          have HBAD := Lib.hid hbad
          go_upto_region 11 with (fail)
          go_cut [84] (fun bv wc => bv = .bool bad ∧ wr = wc)
          case first =>
            by_cases h4 : s.length < 4
            · have h4i : (s.length : Int) < 4 := by omega
              have HBD := Lib.hid (show bad = true by
                rw [hbad]
                match s, h4 with
                | [], _ => rfl
                | [_], _ => rfl
                | [_, _], _ => rfl
                | [_, _, _], _ => rfl)
              clear hbad
              go_wp2_with fail
              go_meet
              case rel => exact ⟨by rw [HBD.out], rfl⟩
            · obtain ⟨a, b1, d, g, u, hsu⟩ : ∃ a b1 d g u, s = a :: b1 :: d :: g :: u := by
                match s, h4 with
                | a :: b1 :: d :: g :: u, _ => exact ⟨a, b1, d, g, u, rfl⟩
                | [], h => exact absurd (Nat.lt_of_sub_eq_succ rfl) h
                | [_], h => exact absurd (Nat.lt_of_sub_eq_succ rfl) h
                | [_, _], h => exact absurd (Nat.lt_of_sub_eq_succ rfl) h
                | [_, _, _], h => exact absurd (Nat.lt_of_sub_eq_succ rfl) h
              have hq : lineQ s = if codB a b1 d = true ∧ (g = 45 ∨ g = 32) ∧ textOk u = true then some (cod a b1 d, decide (g = 45), u) else none := by rw [hsu]; rfl
              have hsl : s.length = u.length + 4 := by rw [hsu]; rfl
              have hp0 : 0 < (⟨s.toArray⟩ : ByteArray).size := by show 0 < s.length; omega
              have hp1 : 1 < (⟨s.toArray⟩ : ByteArray).size := by show 1 < s.length; omega
              have hp2 : 2 < (⟨s.toArray⟩ : ByteArray).size := by show 2 < s.length; omega
              have hp3 : 3 < (⟨s.toArray⟩ : ByteArray).size := by show 3 < s.length; omega
              have e0 : ((⟨s.toArray⟩ : ByteArray)[0]'hp0) = a := by subst hsu; rfl
              have e1 : ((⟨s.toArray⟩ : ByteArray)[1]'hp1) = b1 := by subst hsu; rfl
              have e2 : ((⟨s.toArray⟩ : ByteArray)[2]'hp2) = d := by subst hsu; rfl
              have e3 : ((⟨s.toArray⟩ : ByteArray)[3]'hp3) = g := by subst hsu; rfl
              have HY := Lib.hid (show (⟨s.toArray⟩ : ByteArray).extract 4 s.length = ⟨u.toArray⟩ by subst hsu; exact tail_eq a b1 d g u)
              have hum : u.length ≤ maxLen := by unfold maxLen; omega
              have h4i : (4 : Int) ≤ (s.length : Int) := by omega
              have h4j : ¬ ((s.length : Int) < 4) := by omega
              clear hsu
              cases htx : textOk u with
              | false =>
                have HTX := Lib.hid htx
                have HBD := Lib.hid (show bad = true by rw [hbad, hq, if_neg (fun k => by rw [htx] at k; exact Bool.false_ne_true k.2.2)]; rfl)
                clear hq hbad htx e0 e1 e2 e3 hsl
                go_wp2_with fail
                rw [HY.out]
                refine (words_any u _ hum).mono ?_
                rintro e w1 ⟨rfl, rfl⟩
                rw [HTX.out]
                go_wp2_with fail
                go_meet
                case rel => exact ⟨by rw [HBD.out], rfl⟩
              | true =>
                have HTX := Lib.hid htx
                by_cases c0 : a.toNat < 50
                · have f0 : ((((⟨s.toArray⟩ : ByteArray)[0]'hp0).toNat : Nat) : Int) < 50 := by rw [e0]; omega
                  have HBD := Lib.hid (show bad = true by
                    rw [hbad, hq, if_neg]
                    · rfl
                    · intro k
                      have h := k.1
                      simp only [codB, digB, Bool.and_eq_true, decide_eq_true_eq] at h
                      omega)
                  clear hq hbad htx e0 e1 e2 e3 hsl c0
                  go_wp2_with fail
                  rw [HY.out]
                  refine (words_any u _ hum).mono ?_
                  rintro e w1 ⟨rfl, rfl⟩
                  rw [HTX.out]
                  go_wp2_with fail
                  go_meet
                  case rel => exact ⟨by rw [HBD.out], rfl⟩
                · have f0 : ¬ (((((⟨s.toArray⟩ : ByteArray)[0]'hp0).toNat : Nat) : Int) < 50) := by rw [e0]; omega
                  by_cases c1 : 53 < a.toNat
                  · have f1 : (53 : Int) < ((((⟨s.toArray⟩ : ByteArray)[0]'hp0).toNat : Nat) : Int) := by rw [e0]; omega
                    have HBD := Lib.hid (show bad = true by
                      rw [hbad, hq, if_neg]
                      · rfl
                      · intro k
                        have h := k.1
                        simp only [codB, digB, Bool.and_eq_true, decide_eq_true_eq] at h
                        omega)
                    clear hq hbad htx e0 e1 e2 e3 hsl c0 c1
                    go_wp2_with fail
                    rw [HY.out]
                    refine (words_any u _ hum).mono ?_
                    rintro e w1 ⟨rfl, rfl⟩
                    rw [HTX.out]
                    go_wp2_with fail
                    go_meet
                    case rel => exact ⟨by rw [HBD.out], rfl⟩
                  · have f1 : ¬ ((53 : Int) < ((((⟨s.toArray⟩ : ByteArray)[0]'hp0).toNat : Nat) : Int)) := by rw [e0]; omega
                    by_cases c2 : b1.toNat < 48
                    · have f2 : ((((⟨s.toArray⟩ : ByteArray)[1]'hp1).toNat : Nat) : Int) < 48 := by rw [e1]; omega
                      have HBD := Lib.hid (show bad = true by
                        rw [hbad, hq, if_neg]
                        · rfl
                        · intro k
                          have h := k.1
                          simp only [codB, digB, Bool.and_eq_true, decide_eq_true_eq] at h
                          omega)
                      clear hq hbad htx e0 e1 e2 e3 hsl c0 c1 c2
                      go_wp2_with fail
                      rw [HY.out]
                      refine (words_any u _ hum).mono ?_
                      rintro e w1 ⟨rfl, rfl⟩
                      rw [HTX.out]
                      go_wp2_with fail
                      go_meet
                      case rel => exact ⟨by rw [HBD.out], rfl⟩
                    · have f2 : ¬ (((((⟨s.toArray⟩ : ByteArray)[1]'hp1).toNat : Nat) : Int) < 48) := by rw [e1]; omega
                      by_cases c3 : 57 < b1.toNat
                      · have f3 : (57 : Int) < ((((⟨s.toArray⟩ : ByteArray)[1]'hp1).toNat : Nat) : Int) := by rw [e1]; omega
                        have HBD := Lib.hid (show bad = true by
                          rw [hbad, hq, if_neg]
                          · rfl
                          · intro k
                            have h := k.1
                            simp only [codB, digB, Bool.and_eq_true, decide_eq_true_eq] at h
                            omega)
                        clear hq hbad htx e0 e1 e2 e3 hsl c0 c1 c2 c3
                        go_wp2_with fail
                        rw [HY.out]
                        refine (words_any u _ hum).mono ?_
                        rintro e w1 ⟨rfl, rfl⟩
                        rw [HTX.out]
                        go_wp2_with fail
                        go_meet
                        case rel => exact ⟨by rw [HBD.out], rfl⟩
                      · have f3 : ¬ ((57 : Int) < ((((⟨s.toArray⟩ : ByteArray)[1]'hp1).toNat : Nat) : Int)) := by rw [e1]; omega
                        by_cases c4 : d.toNat < 48
                        · have f4 : ((((⟨s.toArray⟩ : ByteArray)[2]'hp2).toNat : Nat) : Int) < 48 := by rw [e2]; omega
                          have HBD := Lib.hid (show bad = true by
                            rw [hbad, hq, if_neg]
                            · rfl
                            · intro k
                              have h := k.1
                              simp only [codB, digB, Bool.and_eq_true, decide_eq_true_eq] at h
                              omega)
                          clear hq hbad htx e0 e1 e2 e3 hsl c0 c1 c2 c3 c4
                          go_wp2_with fail
                          rw [HY.out]
                          refine (words_any u _ hum).mono ?_
                          rintro e w1 ⟨rfl, rfl⟩
                          rw [HTX.out]
                          go_wp2_with fail
                          go_meet
                          case rel => exact ⟨by rw [HBD.out], rfl⟩
                        · have f4 : ¬ (((((⟨s.toArray⟩ : ByteArray)[2]'hp2).toNat : Nat) : Int) < 48) := by rw [e2]; omega
                          by_cases c5 : 57 < d.toNat
                          · have f5 : (57 : Int) < ((((⟨s.toArray⟩ : ByteArray)[2]'hp2).toNat : Nat) : Int) := by rw [e2]; omega
                            have HBD := Lib.hid (show bad = true by
                              rw [hbad, hq, if_neg]
                              · rfl
                              · intro k
                                have h := k.1
                                simp only [codB, digB, Bool.and_eq_true, decide_eq_true_eq] at h
                                omega)
                            clear hq hbad htx e0 e1 e2 e3 hsl c0 c1 c2 c3 c4 c5
                            go_wp2_with fail
                            rw [HY.out]
                            refine (words_any u _ hum).mono ?_
                            rintro e w1 ⟨rfl, rfl⟩
                            rw [HTX.out]
                            go_wp2_with fail
                            go_meet
                            case rel => exact ⟨by rw [HBD.out], rfl⟩
                          · have f5 : ¬ ((57 : Int) < ((((⟨s.toArray⟩ : ByteArray)[2]'hp2).toNat : Nat) : Int)) := by rw [e2]; omega
                            have HD0 := Lib.hid (show decide (((((⟨s.toArray⟩ : ByteArray)[0]'hp0).toNat : Nat) : Int) < 50) = false from decide_eq_false f0)
                            have HD1 := Lib.hid (show decide ((53 : Int) < ((((⟨s.toArray⟩ : ByteArray)[0]'hp0).toNat : Nat) : Int)) = false from decide_eq_false f1)
                            have HD2 := Lib.hid (show decide (((((⟨s.toArray⟩ : ByteArray)[1]'hp1).toNat : Nat) : Int) < 48) = false from decide_eq_false f2)
                            have HD3 := Lib.hid (show decide ((57 : Int) < ((((⟨s.toArray⟩ : ByteArray)[1]'hp1).toNat : Nat) : Int)) = false from decide_eq_false f3)
                            have HD4 := Lib.hid (show decide (((((⟨s.toArray⟩ : ByteArray)[2]'hp2).toNat : Nat) : Int) < 48) = false from decide_eq_false f4)
                            have HD5 := Lib.hid (show decide ((57 : Int) < ((((⟨s.toArray⟩ : ByteArray)[2]'hp2).toNat : Nat) : Int)) = false from decide_eq_false f5)
                            have hcd : codB a b1 d = true := by
                              simp only [codB, digB, Bool.and_eq_true, decide_eq_true_eq]
                              omega
                            by_cases h45 : g = 45
                            · have f6 : (((((⟨s.toArray⟩ : ByteArray)[3]'hp3).toNat : Nat) : Int) != 45) = false := by rw [e3, h45]; rfl
                              have HBD := Lib.hid (show bad = false by rw [hbad, hq, if_pos ⟨hcd, .inl h45, htx⟩]; simp [badL, h45])
                              clear hq hbad htx e0 e1 e2 e3 hsl c0 c1 c2 c3 c4 c5 hcd h45
                              go_wp2_with fail
                              rw [HY.out]
                              refine (words_any u _ hum).mono ?_
                              rintro e w1 ⟨rfl, rfl⟩
                              rw [HTX.out]
                              go_wp2_with fail
                              go_meet
                              case rel => exact ⟨by rw [HBD.out, HD0.out, HD1.out, HD2.out, HD3.out, HD4.out, HD5.out]; rfl, rfl⟩
                            · have f6 : (((((⟨s.toArray⟩ : ByteArray)[3]'hp3).toNat : Nat) : Int) != 45) = true := by
                                rw [e3, bne_iff_ne]
                                intro e
                                exact h45 (UInt8.toNat_inj.1 (by show g.toNat = 45; omega))
                              by_cases h32 : g = 32
                              · have f7 : (((((⟨s.toArray⟩ : ByteArray)[3]'hp3).toNat : Nat) : Int) != 32) = false := by rw [e3, h32]; rfl
                                have HBD := Lib.hid (show bad = !last by rw [hbad, hq, if_pos ⟨hcd, .inr h32, htx⟩]; simp [badL, h45])
                                clear hq hbad htx e0 e1 e2 e3 hsl c0 c1 c2 c3 c4 c5 hcd h45 h32
                                go_wp2_with fail
                                rw [HY.out]
                                refine (words_any u _ hum).mono ?_
                                rintro e w1 ⟨rfl, rfl⟩
                                rw [HTX.out]
                                go_wp2_with fail
                                go_meet
                                case rel => exact ⟨by rw [HBD.out, ← hlastI, HD0.out, HD1.out, HD2.out, HD3.out, HD4.out, HD5.out]; rfl, rfl⟩
                              · have f7 : (((((⟨s.toArray⟩ : ByteArray)[3]'hp3).toNat : Nat) : Int) != 32) = true := by
                                  rw [e3, bne_iff_ne]
                                  intro e
                                  exact h32 (UInt8.toNat_inj.1 (by show g.toNat = 32; omega))
                                have HBD := Lib.hid (show bad = true by rw [hbad, hq, if_neg (fun k => k.2.1.elim h45 h32)]; rfl)
                                clear hq hbad htx e0 e1 e2 e3 hsl c0 c1 c2 c3 c4 c5 hcd h45 h32
                                go_wp2_with fail
                                rw [HY.out]
                                refine (words_any u _ hum).mono ?_
                                rintro e w1 ⟨rfl, rfl⟩
                                rw [HTX.out]
                                go_wp2_with fail
                                go_meet
                                case rel => exact ⟨by rw [HBD.out], rfl⟩
          case rest =>
            obtain ⟨rfl, rfl⟩ := hcut
            cases bad with
            | true =>
              have HE := Lib.hid (show pgL true 0 [] l = .form by rw [HG.out]; exact pg_bad hlt (by rw [HQ.out, ← HLT.out]; exact HBAD.out.symm))
              have hc3 : wr.cell? ⟨w.heap.size, 0, none⟩ = some (.int .i64 0) := HR0.out.c0
              have hc4 : wr.cell? ⟨w.heap.size, 1, none⟩ = some (.slice none 0 0) := HR0.out.c1
              have hz3 : wr.frozen? ⟨w.heap.size, 0, none⟩ = false := HR0.out.fz 0
              have hz4 : wr.frozen? ⟨w.heap.size, 1, none⟩ = false := HR0.out.fz 1
              clear hbad
              go_wp2_with fail
              have hf := (HR0.out.set0 0).set1 (.slice none 0 0)
              have hf0 := hf.c0
              have hf1 := hf.c1
              refine bodyPost_ret (v := .tuple #[.agg #[.int .i64 0, .slice none 0 0], .int .i64 1]) (by simp [results, Try.results8, go_sem, hf0, hf1]) rfl ?_
              rw [HE.out]
              exact ⟨.slice none 0 0, rfl, StrRow.zero _ _, (HB.out.setCell (p := ⟨w.heap.size, 0, none⟩) (Nat.le_refl _) _).setCell (p := ⟨w.heap.size, 1, none⟩) (Nat.le_refl _) _⟩
            | false =>
              obtain ⟨a, b1, d, g, u, hsu, hcod, htx, hlq⟩ := bad_false (HBAD.out.symm)
              clear hbad
              have HPG := Lib.hid (show pgL true 0 [] l = if acc ≠ [] ∧ cod a b1 d ≠ code then .form else pgL (decide (g = 45)) (cod a b1 d) (acc ++ [u]) (l.drop (j + 1)) by
                rw [HG.out]
                exact pg_ok hlt (HQ.out.trans hlq) (by rw [HQ.out, ← HLT.out]; exact HBAD.out.symm))
              have hp0 : 0 < (⟨s.toArray⟩ : ByteArray).size := by show 0 < s.length; rw [hsu]; simp
              have hp1 : 1 < (⟨s.toArray⟩ : ByteArray).size := by show 1 < s.length; rw [hsu]; simp
              have hp2 : 2 < (⟨s.toArray⟩ : ByteArray).size := by show 2 < s.length; rw [hsu]; simp
              have hp3 : 3 < (⟨s.toArray⟩ : ByteArray).size := by show 3 < s.length; rw [hsu]; simp
              have HE0 := Lib.hid (show ((⟨s.toArray⟩ : ByteArray)[0]'hp0) = a by subst hsu; rfl)
              have HE1 := Lib.hid (show ((⟨s.toArray⟩ : ByteArray)[1]'hp1) = b1 by subst hsu; rfl)
              have HE2 := Lib.hid (show ((⟨s.toArray⟩ : ByteArray)[2]'hp2) = d by subst hsu; rfl)
              have HE3 := Lib.hid (show ((⟨s.toArray⟩ : ByteArray)[3]'hp3) = g by subst hsu; rfl)
              have HY := Lib.hid (show (⟨s.toArray⟩ : ByteArray).extract 4 s.length = ⟨u.toArray⟩ by subst hsu; exact tail_eq a b1 d g u)
              have h4i : (4 : Int) ≤ (s.length : Int) := by rw [hsu]; simp; omega
              have h0i : (0 : Int) < (s.length : Int) := by omega
              have h1i : (1 : Int) < (s.length : Int) := by omega
              have h0n : 0 < s.length := by omega
              have hne : s ≠ [] := by intro e; rw [e] at h0n; exact absurd h0n (by simp)
              have h2i : (2 : Int) < (s.length : Int) := by omega
              have h3i : (3 : Int) < (s.length : Int) := by omega
              clear hsu hlq htx
              have HCV := Lib.hid (show (100 * ((((a.toNat : Nat) : Int) - 48) % 256) + 10 * ((((b1.toNat : Nat) : Int) - 48) % 256) + (((d.toNat : Nat) : Int) - 48) % 256) = ((cod a b1 d : Nat) : Int) by
                have h := hcod
                simp only [codB, digB, Bool.and_eq_true, decide_eq_true_eq] at h
                unfold cod
                omega)
              have hcl := cod_lt hcod
              clear hcod
              go_upto_region 13 with (fail)
              go_cut [8] (fun cv wc => cv = .int .i64 (cod a b1 d) ∧ ∃ n, wc = wr.drewN n)
              case first =>
                go_quiet (fail)
                go_wp2_with fail
                go_meet
                case rel => exact ⟨by rw [HE0.out, HE1.out, HE2.out, HCV.out], _, rfl⟩
              case rest =>
                obtain ⟨rfl, nq, hwc⟩ := hcut
                have HB1 := Lib.hid (show Below w.heap.size w wc by rw [hwc]; exact HB.out.trans ((drew_below wr nq).mono hsz))
                have HR0' := Lib.hid (show RAt wc w.heap.size 0 (.slice none 0 0) by rw [hwc]; exact HR0.out.later (drew_below wr nq))
                have HR1' := Lib.hid (show RAt wc (w.heap.size + 1) code (.slice gA gn gc) by rw [hwc]; exact HR1.out.later (drew_below wr nq))
                have HW' := Lib.hid (show StrRow wc (w.heap.size + 2) (.slice gA gn gc) acc by rw [hwc]; exact HW.out)
                clear hwc HB HR0 HR1 HW HE0 HE1 HE2 HCV hc hc1 hz0 h0i h1i h2i h0n hne hp0 hp1 hp2 hsz hlt1
                have hsz := HB1.out.size
                have hlt1 := HR1'.out.lt
                have hc1 : wc.cell? ⟨w.heap.size + 1, 0, none⟩ = some (.int .i64 code) := HR1'.out.c0
                have hz0 : wc.frozen? ⟨w.heap.size + 1, 0, none⟩ = false := HR1'.out.fz 0
                by_cases hbc : acc ≠ [] ∧ cod a b1 d ≠ code
                · have HE := Lib.hid (show pgL true 0 [] l = .form by rw [HPG.out, if_pos hbc])
                  have hj0 : (0 : Int) < (j : Int) := by
                    have := List.length_pos_iff.2 hbc.1
                    omega
                  have hne : ((cod a b1 d : Int) != (code : Int)) = true := by
                    rw [bne_iff_ne]
                    have := hbc.2
                    omega
                  have hc3 : wc.cell? ⟨w.heap.size, 0, none⟩ = some (.int .i64 0) := HR0'.out.c0
                  have hc4 : wc.cell? ⟨w.heap.size, 1, none⟩ = some (.slice none 0 0) := HR0'.out.c1
                  have hz3 : wc.frozen? ⟨w.heap.size, 0, none⟩ = false := HR0'.out.fz 0
                  have hz4 : wc.frozen? ⟨w.heap.size, 1, none⟩ = false := HR0'.out.fz 1
                  clear hbc
                  go_wp2_with fail
                  have hf := (HR0'.out.set0 0).set1 (.slice none 0 0)
                  have hf0 := hf.c0
                  have hf1 := hf.c1
                  refine bodyPost_ret (v := .tuple #[.agg #[.int .i64 0, .slice none 0 0], .int .i64 1]) (by simp [results, Try.results8, go_sem, hf0, hf1]) rfl ?_
                  rw [HE.out]
                  exact ⟨.slice none 0 0, rfl, StrRow.zero _ _, (HB1.out.setCell (p := ⟨w.heap.size, 0, none⟩) (Nat.le_refl _) _).setCell (p := ⟨w.heap.size, 1, none⟩) (Nat.le_refl _) _⟩
                · have HE := Lib.hid (show pgL true 0 [] l = pgL (decide (g = 45)) (cod a b1 d) (acc ++ [u]) (l.drop (j + 1)) by rw [HPG.out, if_neg hbc])
                  have hgo : ¬ ((0 : Int) < (j : Int)) ∨ ((0 : Int) < (j : Int) ∧ ((cod a b1 d : Int) != (code : Int)) = false) := by
                    rcases Nat.eq_zero_or_pos j with h | h
                    · exact .inl (by omega)
                    · refine .inr ⟨by omega, ?_⟩
                      rw [bne_eq_false_iff_eq]
                      have : cod a b1 d = code := Decidable.byContradiction fun hne => hbc ⟨fun e => by rw [e] at hacc; simp at hacc; omega, hne⟩
                      omega
                  clear hbc
                  generalize cod a b1 d = cd at *
                  have hr1' := HR1'.out.set0 cd
                  have HRA := Lib.hid hr1'
                  have hc2 : (wc.setCell ⟨w.heap.size + 1, 0, none⟩ (.int .i64 cd)).cell? ⟨w.heap.size + 1, 1, none⟩ = some (.slice gA gn gc) := hr1'.c1
                  have HRB := Lib.hid (HR0'.out.other (p := ⟨w.heap.size + 1, 0, none⟩) (by simp) (.int .i64 cd))
                  have HRW := Lib.hid (show StrRow (wc.setCell ⟨w.heap.size + 1, 0, none⟩ (.int .i64 cd)) (w.heap.size + 2) (.slice gA gn gc) acc from ownsRow_setCell_below HW'.out (a := ⟨w.heap.size + 1, 0, none⟩) (Nat.lt_succ_self _) _)
                  have HBB := Lib.hid (HB1.out.setCell (p := ⟨w.heap.size + 1, 0, none⟩) (Nat.le_succ _) (.int .i64 cd))
                  clear hr1'
                  go_upto_region 14 with (fail)
                  go_cut [109] (fun bv wd => bv = .bool false ∧ wd = wc)
                  case first =>
                    rcases hgo with h0 | ⟨h0, hne⟩
                    · go_wp2_with fail
                      go_meet
                      case rel => exact ⟨rfl, rfl⟩
                    · have HNE := Lib.hid hne
                      go_wp2_with fail
                      go_meet
                      case rel => first | exact ⟨rfl, rfl⟩ | exact ⟨by rw [HNE.out], rfl⟩
                  case rest =>
                    obtain ⟨rfl, rfl⟩ := hcut
                    clear hgo
                    go_upto_region 17 with (fail)
                    generalize hwx : wc.setCell ⟨w.heap.size + 1, 0, none⟩ (.int .i64 cd) = wx at *
                    clear hwx
                    have hxsz : w.heap.size + 2 ≤ wx.heap.size := HRA.out.lt
                    have hx0 := HRA.out.c0
                    have hxa := fun o => (HRA.out.alloc o).c1
                    have HRA2 := Lib.hid (show RAt ((wx.alloc (.cells #[.string ⟨u.toArray⟩] 9)).drew) (w.heap.size + 1) cd (.slice gA gn gc) from HRA.out.alloc _)
                    have HRB2 := Lib.hid (show RAt ((wx.alloc (.cells #[.string ⟨u.toArray⟩] 9)).drew) w.heap.size 0 (.slice none 0 0) from HRB.out.alloc _)
                    have HRW2 := Lib.hid (show StrRow ((wx.alloc (.cells #[.string ⟨u.toArray⟩] 9)).drew) (w.heap.size + 2) (.slice gA gn gc) acc from World.ownsRow.alloc HRW.out _)
                    have HBK := Lib.hid (show ((wx.alloc (.cells #[.string ⟨u.toArray⟩] 9)).drew).heap[wx.heap.size]? = some (.cells #[.string ⟨u.toArray⟩] 9 (0, 0)) from heap_alloc_new wx _)
                    have HBB2 := Lib.hid (show Below w.heap.size w ((wx.alloc (.cells #[.string ⟨u.toArray⟩] 9)).drew) from (HBB.out.alloc (by omega) _).drew)
                    have hyy : (⟨s.toArray⟩ : ByteArray).extract 4 s.length = ⟨u.toArray⟩ := HY.out
                    go_region_law (refine step_append_str _ (.tmp 114) (.tmp 117) (w.heap.size + 2) wx.heap.size (.slice gA gn gc) acc u rfl rfl rfl rfl HRW2.out HBK.out (by simp; omega) (by omega) ?_; intro g2 cap2 w2 hown2 hgrow; have hr2 : RAt w2 (w.heap.size + 1) cd (.slice gA gn gc) := (HRA2.out.kept hgrow (fun e => (by have := (World.ownsRow.lt HRW2.out _ e.symm).1; omega))); have hd2 := hr2.c1; have hy2 := hr2.fz 1; have HR2 := Lib.hid hr2; clear hr2)
                    all_goals
                      have H3 := Lib.hid (show RAt w2 w.heap.size 0 (.slice none 0 0) from HRB2.out.kept hgrow (fun e => by have := (World.ownsRow.lt HRW2.out _ e.symm).1; omega))
                      have H4 := Lib.hid hown2
                      have H5 := Lib.hid (HBB2.out.grown hgrow (by simp; omega) (fun k hk => by have := (World.ownsRow.lt HRW2.out k hk).1; omega))
                      clear hown2 hx0 hxa hd2 hy2 hyy
                      rw [hacc] at H4
                      go_wp2_with fail
                      exact ⟨⟨j + 1, decide (g = 45), cd, acc ++ [u], _, hlt, by simp [hacc], by rw [HE3.out]; exact congrArg Value.bool (byte_eq (c := g) (d := 45)), by go_num, H5.out.setCell (p := ⟨w.heap.size + 1, 1, none⟩) (Nat.le_succ _) _, H3.out.other (p := ⟨w.heap.size + 1, 1, none⟩) (by simp) _, HR2.out.set1 _,
                        ownsRow_setCell_below H4.out (a := ⟨w.heap.size + 1, 1, none⟩) (Nat.lt_succ_self _) _, HE.out⟩, by simp [intOf]; omega⟩
      · obtain rfl : j = l.length := by omega
        have HN := Lib.hid (pg_end (l := l) (more := more) (code := code) (acc := acc))
        have hc3 : wr.cell? ⟨w.heap.size, 0, none⟩ = some (.int .i64 0) := HR0.out.c0
        have hc4 : wr.cell? ⟨w.heap.size, 1, none⟩ = some (.slice none 0 0) := HR0.out.c1
        have hz3 : wr.frozen? ⟨w.heap.size, 0, none⟩ = false := HR0.out.fz 0
        have hz4 : wr.frozen? ⟨w.heap.size, 1, none⟩ = false := HR0.out.fz 1
        cases more with
        | true =>
          have HE := Lib.hid (show pgL true 0 [] l = .cut by rw [HG.out, HN.out, if_pos rfl])
          go_wp2_with fail
          have hf := (HR0.out.set0 0).set1 (.slice none 0 0)
          have hf0 := hf.c0
          have hf1 := hf.c1
          refine bodyPost_ret (v := .tuple #[.agg #[.int .i64 0, .slice none 0 0], .int .i64 7]) (by simp [results, Try.results8, go_sem, hf0, hf1]) rfl ?_
          rw [HE.out]
          exact ⟨.slice none 0 0, rfl, StrRow.zero _ _, (HB.out.setCell (p := ⟨w.heap.size, 0, none⟩) (Nat.le_refl _) _).setCell (p := ⟨w.heap.size, 1, none⟩) (Nat.le_refl _) _⟩
        | false =>
          have HE := Lib.hid (show pgL true 0 [] l = ⟨0, code, acc⟩ by rw [HG.out, HN.out]; rfl)
          have hc1 : wr.cell? ⟨w.heap.size + 1, 0, none⟩ = some (.int .i64 code) := HR1.out.c0
          have hc2 : wr.cell? ⟨w.heap.size + 1, 1, none⟩ = some (.slice gA gn gc) := HR1.out.c1
          go_wp2_with fail
          have hf := (HR0.out.set0 code).set1 (.slice gA gn gc)
          have hf0 := hf.c0
          have hf1 := hf.c1
          refine bodyPost_ret (v := .tuple #[.agg #[.int .i64 code, .slice gA gn gc], .int .i64 0]) (by simp [results, Try.results8, go_sem, hf0, hf1]) rfl ?_
          rw [HE.out]
          exact ⟨_, rfl, StrRow.mono (ownsRow_setCell_below (ownsRow_setCell_below HW.out (a := ⟨w.heap.size, 0, none⟩) (Nat.lt_add_of_pos_right (by decide)) _) (a := ⟨w.heap.size, 1, none⟩) (Nat.lt_add_of_pos_right (by decide)) _) (Nat.le_add_right _ 2),
            (HB.out.setCell (p := ⟨w.heap.size, 0, none⟩) (Nat.le_refl _) _).setCell (p := ⟨w.heap.size, 1, none⟩) (Nat.le_refl _) _⟩
  · have ht : parseL l = .form := if_neg h16
    rw [ht]
    have h16' : (16 : Int) < (l.length : Int) := by omega
    clear hl hlm ht
    go_enter Try.func8, Try.ntmps8
    go_wp2_with fail
    have hf : RAt (w.alloc (.cells #[.int .i64 0, .slice none 0 0] 26)) w.heap.size 0 (.slice none 0 0) := heap_alloc_new w _
    have hf0 := hf.c0
    have hf1 := hf.c1
    refine bodyPost_ret (v := .tuple #[.agg #[.int .i64 0, .slice none 0 0], .int .i64 1]) (by simp [results, Try.results8, go_sem]) rfl ?_
    exact ⟨.slice none 0 0, rfl, StrRow.zero _ _, (Below.refl _ w).alloc (Nat.le_refl _) _⟩
end Go.Proofs.Ytlefeebhilfkjaa

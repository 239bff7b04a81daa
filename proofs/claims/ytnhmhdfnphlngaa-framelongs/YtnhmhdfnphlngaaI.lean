/-
  The page's own Feed, walked: for a framer that may be it answers the framer behind the bytes and the lines that end within them, as the plain mathematics has them.
  Conditions: the bytes are fewer than 1000000.
-/
import Derived.Test.YtnhmhdfnphlngaaX
import Derived.IntWalk
namespace Go.Proofs.Ytnhmhdfnphlngaa
open Go.RowKit

theorem endsL_snoc (rest : List UInt8) (c : UInt8) : endsL (rest ++ [c]) = true ↔ c = 10 ∧ endsCR rest = true := by
  rcases List.eq_nil_or_concat rest with rfl | ⟨l, d, rfl⟩
  · simp [endsL, endsCR]
  · rw [List.concat_eq_append]
    have h := endsL_take (l ++ [d] ++ [c]) l.length (by simp)
    have ht : (l ++ [d] ++ [c]).take (l.length + 2) = l ++ [d] ++ [c] := List.take_of_length_le (by simp)
    rw [ht] at h
    rw [h]
    simp [endsCR]
    exact And.comm

theorem take_skip_line (rest : List UInt8) (lines : List (List UInt8 × Bool)) (c : UInt8) (h : Rd.ok ⟨rest, true, lines⟩) (h1 : rest = [13]) (h2 : c = 10) : Rd.take ⟨rest, true, lines⟩ c = ⟨[], false, lines ++ [([], true)]⟩ := by
  rw [← Rd.page_take h]; simp [Rd.page, h1, h2]
theorem take_skip_more (rest : List UInt8) (lines : List (List UInt8 × Bool)) (c : UInt8) (h : Rd.ok ⟨rest, true, lines⟩) (h1 : ¬ (rest = [13] ∧ c = 10)) : Rd.take ⟨rest, true, lines⟩ c = ⟨tailB c, true, lines⟩ := by
  rw [← Rd.page_take h]; simp [Rd.page, h1]
theorem take_end (rest : List UInt8) (lines : List (List UInt8 × Bool)) (c : UInt8) (h : endsL (rest ++ [c]) = true) : Rd.take ⟨rest, false, lines⟩ c = ⟨[], false, lines ++ [((rest ++ [c]).take ((rest ++ [c]).length - 2), false)]⟩ := by
  have h1 := (endsL_snoc rest c).1 h
  have h2 : (rest ++ [c]).take ((rest ++ [c]).length - 2) = rest.dropLast := by
    rw [List.dropLast_eq_take, List.take_append_of_le_length (by simp)]
    congr 1
    simp
  rw [h2]
  simp [Rd.take, h1]
theorem take_long (rest : List UInt8) (lines : List (List UInt8 × Bool)) (c : UInt8) (h : endsL (rest ++ [c]) = false) (hl : 512 ≤ rest.length + 1) : Rd.take ⟨rest, false, lines⟩ c = ⟨tailB c, true, lines⟩ := by
  have h1 : ¬ (c = 10 ∧ endsCR rest = true) := fun e => by rw [(endsL_snoc rest c).2 e] at h; cases h
  simp [Rd.take, h1, hl]
theorem take_rest (rest : List UInt8) (lines : List (List UInt8 × Bool)) (c : UInt8) (h : endsL (rest ++ [c]) = false) (hl : ¬ 512 ≤ rest.length + 1) : Rd.take ⟨rest, false, lines⟩ c = ⟨rest ++ [c], false, lines⟩ := by
  have h1 : ¬ (c = 10 ∧ endsCR rest = true) := fun e => by rw [(endsL_snoc rest c).2 e] at h; cases h
  simp [Rd.take, h1, hl]

/-- The page's framer in block N, its lines in a row from N + 2 on. -/
structure PG (w wr : World) (N : Nat) (lv : Value) (r : Rd) (S : ByteArray) : Prop where
  blk : wr.heap[N]? = some (.cells #[.string S, .bool r.skip] 25 (0, 0))
  str : S.data.toList = r.rest
  res : wr.heap[N + 1]? = some (.cells #[.string ⟨#[]⟩, .bool false] 25 (0, 0))
  own : wr.ownsRow (N + 2) 49 2 lv r.lines.length (lineCells r.lines)
  bel : Below N w wr
  le : N + 2 ≤ wr.heap.size

section
variable {w wr w2 : World} {N : Nat} {lv lv' : Value} {r : Rd} {S : ByteArray}
theorem PG.c0 (h : PG w wr N lv r S) : wr.cell? ⟨N, 0, none⟩ = some (.string S) := by simp [World.cell?, h.blk]
theorem PG.c1 (h : PG w wr N lv r S) : wr.cell? ⟨N, 1, none⟩ = some (.bool r.skip) := by simp [World.cell?, h.blk]
theorem PG.z (h : PG w wr N lv r S) (i : Nat) : wr.frozen? ⟨N, i, none⟩ = false := by simp [World.frozen?, h.blk]
theorem PG.d0 (h : PG w wr N lv r S) : wr.cell? ⟨N + 1, 0, none⟩ = some (.string ⟨#[]⟩) := by simp [World.cell?, h.res]
theorem PG.d1 (h : PG w wr N lv r S) : wr.cell? ⟨N + 1, 1, none⟩ = some (.bool false) := by simp [World.cell?, h.res]
theorem PG.y (h : PG w wr N lv r S) (i : Nat) : wr.frozen? ⟨N + 1, i, none⟩ = false := by simp [World.frozen?, h.res]
theorem PG.set0 (h : PG w wr N lv r S) (T : ByteArray) : PG w (wr.setCell ⟨N, 0, none⟩ (.string T)) N lv ⟨T.data.toList, r.skip, r.lines⟩ T :=
  ⟨by simp [World.setCell, Array.getElem?_modify, h.blk], rfl, (Below.heap_setCell _ _ _ _ (by simp)).trans h.res, ownsRow_setCell_below h.own (by simp) _, h.bel.setCell (Nat.le_refl _) _, by simpa [World.setCell] using h.le⟩
theorem PG.set1 (h : PG w wr N lv r S) (b : Bool) : PG w (wr.setCell ⟨N, 1, none⟩ (.bool b)) N lv ⟨r.rest, b, r.lines⟩ S :=
  ⟨by simp [World.setCell, Array.getElem?_modify, h.blk], h.str, (Below.heap_setCell _ _ _ _ (by simp)).trans h.res, ownsRow_setCell_below h.own (by simp) _, h.bel.setCell (Nat.le_refl _) _, by simpa [World.setCell] using h.le⟩
theorem PG.drewN (h : PG w wr N lv r S) (n : Nat) : PG w (wr.drewN n) N lv r S :=
  ⟨h.blk, h.str, h.res, h.own, h.bel.trans ⟨rfl, rfl, rfl, Nat.le_refl _, fun _ _ => rfl⟩, h.le⟩
theorem PG.alloc (h : PG w wr N lv r S) (o : Obj) : PG w (wr.alloc o) N lv r S := by
  have hle := h.le
  exact ⟨(Below.heap_alloc _ _ _ (by omega)).trans h.blk, h.str, (Below.heap_alloc _ _ _ (by omega)).trans h.res, h.own.alloc o, h.bel.alloc (by omega) o, by simp; omega⟩
theorem PG.grown {lines' : List (List UInt8 × Bool)} (h : PG w wr N lv r S) (hg : wr.grownBy w2 lv.ownBlock) (ho : w2.ownsRow (N + 2) 49 2 lv' lines'.length (lineCells lines')) : PG w w2 N lv' ⟨r.rest, r.skip, lines'⟩ S := by
  have hle := h.le
  have hne : ∀ k, k < N + 2 → some k ≠ lv.ownBlock := fun k hk e => by have := (h.own.lt k e.symm).1; omega
  exact ⟨(hg.block _ (by omega) (hne _ (by omega))).trans h.blk, h.str, (hg.block _ (by omega) (hne _ (by omega))).trans h.res, ho, h.bel.grown hg (by omega) (fun k hk => by have := (h.own.lt k hk).1; omega), Nat.le_trans hle hg.size⟩
end

theorem str_ext {S T : ByteArray} (h : S.data.toList = T.data.toList) : S = T := by
  cases S; cases T
  simp only [ByteArray.mk.injEq]
  exact Array.toList_inj.1 h

theorem str_append (S T : ByteArray) : (S ++ T).data.toList = S.data.toList ++ T.data.toList := by
  simp

set_option maxHeartbeats 2000000 in
set_option maxRecDepth 100000 in
theorem feed_ref (s : ByteArray) (k : Bool) (x : List UInt8) (bv : Value) (w : World) (hv : validL s.data.toList k = true) (hx : BytesAt w w.heap.size bv x) (hxl : x.length < 1000000) :
    Calls Try.prog 14 #[.agg #[.string s, .bool k], bv] w fun e w' => ∃ lv, e = .returned (.tuple #[.agg #[.string ⟨((Rd.of s.data.toList k).feed x).rest.toArray⟩, .bool ((Rd.of s.data.toList k).feed x).skip], lv]) ∧
      w'.ownsRow w.heap.size 49 2 lv ((Rd.of s.data.toList k).feed x).lines.length (lineCells ((Rd.of s.data.toList k).feed x).lines) ∧ Below w.heap.size w w' := by
  have HV := Lib.hid hv
  clear hv
  obtain ⟨A, xc, rfl, hxc, hxx⟩ := hx
  have HX := Lib.hid hxx
  clear hxx
  go_enter Try.func14, Try.ntmps14
  go_wp2_with fail
  go_loopw [6, 7] (fun lv i wr => ∃ (j : Nat) (S : ByteArray), j ≤ x.length ∧ i = .int .i64 j ∧ PG w wr w.heap.size lv ((Rd.of s.data.toList k).feed (x.take j)) S) (fun _ i _ => x.length - (intOf i).toNat)
  case atStart => exact ⟨0, s, Nat.zero_le _, rfl, ⟨(Below.heap_alloc _ _ _ (by simp)).trans (heap_alloc_new _ _), rfl, by
      have := heap_alloc_new (w.alloc (.cells #[.string s, .bool k] 25)) (.cells #[.string ⟨#[]⟩, .bool false] 25)
      simpa using this, ⟨rfl, .inl ⟨rfl, rfl⟩⟩, ((Below.refl _ _).alloc (Nat.le_refl _) _).alloc (by simp) _, by simp⟩⟩
  case round =>
    obtain ⟨j, S, hj, rfl, hP⟩ := hrel
    have hok := Rd.ok_feed (Rd.ok_of HV.out) (x.take j)
    have hln := Rd.lines_feed (Rd.of s.data.toList k) (x.take j)
    have hl0 : (Rd.of s.data.toList k).lines.length = 0 := rfl
    have htl : (x.take j).length ≤ j := List.length_take_le _ _
    have hll : ((Rd.of s.data.toList k).feed (x.take j)).lines.length < 1000000 := by omega
    clear hln hl0 htl
    by_cases hlt : j < x.length
    · have hsn := Lib.hid (show (Rd.of s.data.toList k).feed (x.take (j + 1)) = ((Rd.of s.data.toList k).feed (x.take j)).take x[j] from by rw [take_snoc x j hlt, Rd.feed_snoc])
      obtain ⟨a, rfl, hab, hac⟩ := HX.out (fun e => by rw [e] at hlt; exact absurd hlt (by simp))
      have hcj : wr.cell? (a.add j) = some (.int .u8 (x[j].toNat : Int)) := (hP.bel.cell (by rw [block_add]; exact hab)).trans (hac j hlt)
      clear hac
      generalize (Rd.of s.data.toList k).feed (x.take j) = R at *
      obtain ⟨rest, skip, lines⟩ := R
      cases skip with
      | true =>
        have c0 := hP.c0
        have c1 := hP.c1
        have z0 := hP.z 0
        have z1 := hP.z 1
        have hst := hP.str
        simp only at c1 hst hll
        by_cases hq : rest = [13] ∧ x[j] = 10
        · obtain ⟨rfl, hc10⟩ := hq
          have hsn' := Lib.hid (hsn.out.trans (take_skip_line [13] lines x[j] hok rfl hc10))
          have hS : (S.toList == [13]) = true := by rw [Lib.toList_data, hst]; rfl
          have hx10 : ((x[j].toNat : Int) == 10) = true := by rw [hc10]; rfl
          have hHst := Lib.hid hst
          clear hst hc10 hsn hok
          have hPa := hP.alloc (.cells #[.string ⟨#[]⟩, .bool true] 49)
          go_wp2_with (at_builtin; refine wpList_append_line _ (.tmp 29) (.tmp 31) (w.heap.size + 2) wr.heap.size u6 lines [] true rfl rfl rfl rfl hPa.own (heap_alloc_new wr _) hPa.le hll ?_)
          intro g2 cap2 w2 hown2 hgrow
          have hP2 := hPa.grown (lines' := lines ++ [([], true)]) hgrow (by simpa using hown2)
          have e0 := hP2.c0
          have e1 := hP2.c1
          have v0 := hP2.z 0
          have v1 := hP2.z 1
          clear c0 c1 z0 z1
          have hP3 := hP2.set0 ⟨#[]⟩
          have e31 := hP3.c1
          have v31 := hP3.z 1
          go_wp2
          exact ⟨⟨j + 1, ⟨#[]⟩, hlt, by go_num, by rw [hsn'.out]; exact hP3.set1 false⟩, by simp [intOf]; omega⟩
        · have hsn' := Lib.hid (hsn.out.trans (take_skip_more rest lines x[j] hok hq))
          have hP3 := hP.set0 ⟨(tailB x[j]).toArray⟩
          have hfin : PG w (wr.setCell ⟨w.heap.size, 0, none⟩ (.string ⟨(tailB x[j]).toArray⟩)) w.heap.size u6 ⟨tailB x[j], true, lines⟩ ⟨(tailB x[j]).toArray⟩ := hP3
          by_cases h13 : rest = [13]
          · have hS : (S.toList == [13]) = true := by rw [Lib.toList_data, hst, h13]; rfl
            have hx10 : ((x[j].toNat : Int) == 10) = false := byte_ne (d := 10) (fun e => hq ⟨h13, e⟩)
            clear hst hsn hok hq h13 hP3
            go_wp2_with (go_at_call 25; refine (tail_any _ _).mono ?_; rintro e w' ⟨rfl, rfl⟩)
            exact ⟨⟨j + 1, _, hlt, by go_num, by rw [hsn'.out]; exact hfin⟩, by simp [intOf]; omega⟩
          · have hS : (S.toList == [13]) = false := by rw [Lib.toList_data, hst]; simpa using h13
            clear hst hsn hok hq h13 hP3
            go_wp2_with (go_at_call 25; refine (tail_any _ _).mono ?_; rintro e w' ⟨rfl, rfl⟩)
            exact ⟨⟨j + 1, _, hlt, by go_num, by rw [hsn'.out]; exact hfin⟩, by simp [intOf]; omega⟩
      | false =>
        have c0 := hP.c0
        have c1 := hP.c1
        have hst := hP.str
        simp only at c1 hst hll
        have hw1 : IntKind.i64.wrap ((j : Int) + 1) = (j : Int) + 1 := IntWalk.i64_in _ (by omega)
        have hw2 : (0 : Int) ≤ (j : Int) + 1 := by omega
        have hw3 : ((j : Int) + 1).toNat = j + 1 := by omega
        have hw4 : (j : Int) + 1 ≤ (xc : Int) := by omega
        have hw5 : (j : Int) ≤ (j : Int) + 1 := by omega
        have hw6 : (0 : Int) ≤ (j : Int) := by omega
        have hw7 : ¬ xc = j := by omega
        have hcv0 : ∀ nq, (convert 26 9 (.slice (some (a.add j)) 1 (xc - j))).run Try.prog (wr.drewN nq) = .ok (.string ⟨#[x[j]]⟩) (wr.drewN nq) := fun nq =>
          run_convert_bytes_back (P := Try.prog) (wr.drewN nq) 26 9 5 (a.add j) (xc - j) [x[j]] Try.underlying26 Try.underlying5 Try.underlying9 (fun i hi => by
            match i, hi with
            | 0, _ => exact hcj)
        obtain ⟨T, hT, hTs, hcv⟩ : ∃ T : ByteArray, T.data.toList = [x[j]] ∧ T.size = 1 ∧ ∀ nq, (convert 26 9 (.slice (some (a.add j)) 1 (xc - j))).run Try.prog (wr.drewN nq) = .ok (.string T) (wr.drewN nq) := ⟨⟨#[x[j]]⟩, rfl, rfl, hcv0⟩
        clear hcv0
        have hSs : S.size < 512 := by
          have := hok.1
          simp only at this
          rw [← hst] at this
          simpa using this
        have hadd : ∀ nq, (Op.stringOp .add S T).run Try.prog (wr.drewN nq) = .ok (.string (S ++ T)) (wr.drewN nq) := fun nq => run_string_add (P := Try.prog) (w := wr.drewN nq) S T (by omega) (by omega)
        have hST := Lib.hid (show (S ++ T).data.toList = rest ++ [x[j]] from by rw [str_append, hst, hT])
        have hSTs := Lib.hid (show (S ++ T).size = rest.length + 1 from by
          have h1 : (S ++ T).data.toList.length = rest.length + 1 := by rw [hST.out]; simp
          simpa using h1)
        have HT := Lib.hid hT
        have hTle : T.size ≤ 1 := by omega
        have hsum : ¬ 9223372036854775807 < S.size + T.size := by omega
        have Hst := Lib.hid hst
        clear hT hTs hst
        go_wp2_with fail
        go_quiet (fail)
        replace hP := hP.drewN nq
        clear hadd hcv hcj c0 c1 hw1 hw2 hw3 hw4 hw5 hw6 hw7
        generalize S ++ T = U at *
        generalize wr.drewN nq = W at *
        have c0 := hP.c0
        have c1 := hP.c1
        have z0 := hP.z 0
        have z1 := hP.z 1
        have hUs : U.size < 1000000 := by have := hSTs.out; have := hok.1; simp only at this; omega
        simp only at c1
        cases hE : endsL (rest ++ [x[j]]) with
        | true =>
          have HE := Lib.hid hE
          have hsn' := Lib.hid (hsn.out.trans (take_end rest lines x[j] hE))
          have h2 : 2 ≤ U.size := by
            have h3 : 2 ≤ (rest ++ [x[j]]).length := by
              rcases Nat.lt_or_ge (rest ++ [x[j]]).length 2 with h' | h'
              · unfold endsL at hE
                rw [decide_eq_false (by omega)] at hE
                simp at hE
              · exact h'
            have := hSTs.out
            simp at h3
            omega
          clear hE hsn
          have hext := Lib.hid (show U.extract 0 (U.size - 2) = ⟨((rest ++ [x[j]]).take ((rest ++ [x[j]]).length - 2)).toArray⟩ from str_ext (by
            rw [Lib.extract_data, hST.out, hSTs.out]
            simp))
          have hPa := hP.alloc (.cells #[.string (U.extract 0 (U.size - 2)), .bool false] 49)
          have hblk := Lib.hid (show (W.alloc (.cells #[.string (U.extract 0 (U.size - 2)), .bool false] 49)).heap[W.heap.size]? = some (.cells #[.string ⟨((rest ++ [x[j]]).take ((rest ++ [x[j]]).length - 2)).toArray⟩, .bool false] 49 (0, 0)) from by rw [heap_alloc_new, hext.out])
          go_wp2_with (first | (go_at_call 21; refine (ends_ref _ _ hUs).mono ?_; rintro e w' ⟨rfl, rfl⟩; rw [hST.out, HE.out]) | (at_builtin; refine wpList_append_line _ (.tmp 51) (.tmp 58) (w.heap.size + 2) W.heap.size u6 lines _ false rfl rfl rfl rfl hPa.own hblk.out hPa.le hll ?_))
          intro g2 cap2 w2 hown2 hgrow
          have hP2 := hPa.grown (lines' := lines ++ [((rest ++ [x[j]]).take ((rest ++ [x[j]]).length - 2), false)]) hgrow (by simpa using hown2)
          have e0 := hP2.c0
          have v0 := hP2.z 0
          clear c0 c1 z0 z1
          have hP3 := hP2.set0 ⟨#[]⟩
          go_wp2
          exact ⟨⟨j + 1, ⟨#[]⟩, hlt, by go_num, by rw [hsn'.out]; exact hP3⟩, by simp [intOf]; omega⟩
        | false =>
          have HE := Lib.hid hE
          by_cases hln : 512 ≤ rest.length + 1
          · have hsn' := Lib.hid (hsn.out.trans (take_long rest lines x[j] hE hln))
            have hUl : 512 ≤ U.size := by have := hSTs.out; omega
            clear hE hsn hln
            have hP3 := hP.set0 ⟨(tailB x[j]).toArray⟩
            have e31 := hP3.c1
            have v31 := hP3.z 1
            have hfin : PG w ((W.setCell ⟨w.heap.size, 0, none⟩ (.string ⟨(tailB x[j]).toArray⟩)).setCell ⟨w.heap.size, 1, none⟩ (.bool true)) w.heap.size u6 ⟨tailB x[j], true, lines⟩ ⟨(tailB x[j]).toArray⟩ := hP3.set1 true
            go_wp2_with (first | (go_at_call 21; refine (ends_ref _ _ hUs).mono ?_; rintro e w' ⟨rfl, rfl⟩; rw [hST.out, HE.out]) | (go_at_call 25; refine (tail_any _ _).mono ?_; rintro e w' ⟨rfl, rfl⟩))
            exact ⟨⟨j + 1, _, hlt, by go_num, by rw [hsn'.out]; exact hfin⟩, by simp [intOf]; omega⟩
          · have hsn' := Lib.hid (hsn.out.trans (take_rest rest lines x[j] hE hln))
            have hUl : ¬ 512 ≤ U.size := by have := hSTs.out; omega
            clear hE hsn hln
            have hP3 := hP.set0 U
            go_wp2_with (go_at_call 21; refine (ends_ref _ _ hUs).mono ?_; rintro e w' ⟨rfl, rfl⟩; rw [hST.out, HE.out])
            exact ⟨⟨j + 1, _, hlt, by go_num, by rw [hsn'.out, ← hST.out]; exact hP3⟩, by simp [intOf]; omega⟩
    · have hje := Lib.hid (show j = x.length by omega)
      clear hok hll
      have c0 := hP.c0
      have c1 := hP.c1
      have d0 := hP.d0
      have d1 := hP.d1
      have y0 := hP.y 0
      have y1 := hP.y 1
      have hxt := Lib.hid (show x.take j = x from by rw [hje.out]; exact List.take_length)
      go_wp2
      have hfin := set_two hP.res (.string S) (.bool ((Rd.of s.data.toList k).feed (x.take j)).skip)
      have f0 : ((wr.setCell ⟨w.heap.size + 1, 0, none⟩ (.string S)).setCell ⟨w.heap.size + 1, 1, none⟩ (.bool ((Rd.of s.data.toList k).feed (x.take j)).skip)).cell? ⟨w.heap.size + 1, 0, none⟩ = some (.string S) := by simp only [World.cell?, hfin]; rfl
      have f1 : ((wr.setCell ⟨w.heap.size + 1, 0, none⟩ (.string S)).setCell ⟨w.heap.size + 1, 1, none⟩ (.bool ((Rd.of s.data.toList k).feed (x.take j)).skip)).cell? ⟨w.heap.size + 1, 1, none⟩ = some (.bool ((Rd.of s.data.toList k).feed (x.take j)).skip) := by simp only [World.cell?, hfin]; rfl
      refine bodyPost_ret (v := .tuple #[.agg #[.string S, .bool ((Rd.of s.data.toList k).feed (x.take j)).skip], u6]) (by simp [results, Try.results14, go_sem, f0, f1]) rfl ⟨u6, ?_, ?_, ?_⟩
      · have hS : S = ⟨((Rd.of s.data.toList k).feed (x.take j)).rest.toArray⟩ := str_ext (by rw [hP.str])
        rw [hxt.out] at hS ⊢
        rw [hS]
      · have ho := ownsRow_setCell_below (ownsRow_setCell_below hP.own (a := ⟨w.heap.size + 1, 0, none⟩) (by simp) (.string S)) (a := ⟨w.heap.size + 1, 1, none⟩) (by simp) (.bool ((Rd.of s.data.toList k).feed (x.take j)).skip)
        rw [hxt.out] at ho ⊢
        exact ownsRow_from (by omega) ho
      · exact (hP.bel.setCell (by simp) _).setCell (by simp) _
end Go.Proofs.Ytnhmhdfnphlngaa

/-
  The page's inner and Local, walked.
  Conditions: as each theorem states them.
-/
import Derived.Test.YtkbhmkofflcpjaaGreatDoorX
namespace Go.Proofs.YtkbhmkofflcpjaaGreatDoor
open Go.RowKit

/-- A row of bytes of the call's own, or none. -/
def ByRow (w : World) (B : Nat) (v : Value) (l : List UInt8) : Prop := w.ownsRow B 5 1 v l.length (Lib.byteCells l)

theorem ByRow.zero (w : World) (B : Nat) : ByRow w B (.slice none 0 0) [] := ⟨rfl, .inl ⟨rfl, rfl⟩⟩
theorem byrow_shape {w : World} {B : Nat} {v : Value} {l : List UInt8} (h : ByRow w B v l) : ∃ A c, v = .slice A l.length c := by
  rcases h.2 with ⟨h, h0⟩ | ⟨g, cap, cur, h, _⟩
  · exact ⟨none, 0, by rw [h, h0]⟩
  · exact ⟨_, cap, h⟩

theorem run_append_by (w : World) (ty : TypeId) (B n : Nat) (lv : Value) (l : List UInt8) (c : UInt8) (z : Int) (hz : z = (c.toNat : Int)) (hown : ByRow w B lv l)
    (hblk : w.heap[n]? = some (.cells #[.int .u8 z] 5 (0, 0))) (hB : B ≤ w.heap.size) (hn : l.length < 1000000) :
    ∃ g cap w', (Builtin.append_ #[59, 59] ty #[lv, .slice (some ⟨n, 0, none⟩) 1 1]).run Tryz.prog w = .ok (.slice (some ⟨g, 0, none⟩) (l.length + 1) cap) w' ∧
      ByRow w' B (.slice (some ⟨g, 0, none⟩) (l.length + 1) cap) (l ++ [c]) ∧ w.grownBy w' lv.ownBlock := by
  subst hz
  obtain ⟨i0, hi0, hz0, hs0, hb0⟩ := info_parts info5
  obtain ⟨g, cap, w', h1, h2, h3, _, _⟩ := run_append_lies (P := Tryz.prog) w 59 ty B 5 i0 _ 1 1 Tryz.underlying59 hi0 hz0 hs0 hb0 rfl (by omega) lv l.length (Lib.byteCells l) hown ⟨n, 0, none⟩ 1 1
    [.int .u8 (c.toNat : Int)] rfl (World.news_of_block (cs := #[.int .u8 (c.toNat : Int)]) hblk) (by simp [Value.oneCell']) (by omega) (by unfold maxLen; omega) (by omega) hB _ rfl
  refine ⟨g, cap, w', h1, ?_, h3⟩
  unfold ByRow
  rw [cells_snoc, List.length_append]
  exact h2

theorem wpList_append_by {ops : Array Oper} {rest : List Oper} {o : Oper} {a : Act} {Q : Exit → Act → World → Prop} (w : World) (s x : Operand) (B n : Nat) (lv : Value) (l : List UInt8) (c : UInt8) (z : Int) (hz : z = (c.toNat : Int))
    (hgd : o.guard = none) (ho : o.op = .call { callee := .builtin .append, args := #[s, x], argTypes := #[59, 59] }) (hs : a.eval s = lv) (hx : a.eval x = .slice (some ⟨n, 0, none⟩) 1 1)
    (hown : ByRow w B lv l) (hblk : w.heap[n]? = some (.cells #[.int .u8 z] 5 (0, 0))) (hB : B ≤ w.heap.size) (hn : l.length < 1000000)
    (h : ∀ g cap w', ByRow w' B (.slice (some ⟨g, 0, none⟩) (l.length + 1) cap) (l ++ [c]) → w.grownBy w' lv.ownBlock → wpList Tryz.prog ops Q rest (a.put o.dst (.slice (some ⟨g, 0, none⟩) (l.length + 1) cap)) w') : wpList Tryz.prog ops Q (o :: rest) a w := by
  refine wpList_plain hgd fun K hK => ?_
  obtain ⟨g, cap, w', hr, h2, h3⟩ := run_append_by w o.type B n lv l c z hz hown hblk hB hn
  unfold Oper.wp execOp
  simp only [ho, resolve, invoke, builtin, Sem.run_bind, Sem.run_pure, Result.andThen_ok, List.map_toArray, List.map_cons, List.map_nil, hs, hx, hr]
  exact hK _ _ (h g cap w' h2 h3)

set_option maxRecDepth 100000 in
theorem byrow_string {w : World} {B : Nat} {v : Value} {l : List UInt8} (h : ByRow w B v l) : (convert 59 9 v).run Tryz.prog w = .ok (.string ⟨l.toArray⟩) w := by
  have hh := h
  rcases h.2 with ⟨hv, h0⟩ | ⟨g, cap, cur, hv, hg, hblk, _⟩
  · have hl : l = [] := List.eq_nil_of_length_eq_zero h0
    subst hv hl
    rfl
  · subst hv
    exact run_convert_bytes_back (P := Tryz.prog) w 59 9 5 ⟨g, 0, none⟩ cap l Tryz.underlying59 Tryz.underlying5 Tryz.underlying9 (fun j hj => by
      rw [Addr.add_lit, Nat.zero_add]
      have := World.ownsRow.cellAt hh j (by omega)
      rw [this]
      simp [Lib.byteCells, hj])

/-- What inner answers. -/
def InEnd (s : List UInt8) (e : Ending) : Prop :=
  (∃ x n, rdL s = some (x, s.drop n) ∧ n ≤ s.length ∧ x.length ≤ s.length ∧ e = .returned (.tuple #[.string ⟨x.toArray⟩, .int .i64 (n : Int), .bool true])) ∨ (rdL s = none ∧ e = .returned (.tuple #[.string ⟨#[]⟩, .int .i64 0, .bool false]))

set_option maxHeartbeats 2000000 in
set_option maxRecDepth 100000 in
theorem inner_any (s : List UInt8) (w : World) (hs : s.length ≤ 10000) (hq : (s.head? == some 34) = true) :
    Calls Tryz.prog 68 #[.string ⟨s.toArray⟩] w fun e w' => InEnd s e ∧ Below w.heap.size w w' := by
  obtain ⟨hrd, h1⟩ := rd_good hq
  have HRD := Lib.hid hrd
  clear hq hrd
  go_enter Tryz.func68, Tryz.ntmps68
  go_wp2_with fail
  go_loopw [5, 6] (fun bv i wr => ∃ (j : Nat) (acc : List UInt8), j ≤ s.length ∧ i = .int .i64 j ∧ acc.length ≤ j ∧ rdL s = rq acc (s.drop j) ∧ ByRow wr w.heap.size bv acc ∧ Below w.heap.size w wr) (fun _ i _ => s.length - (intOf i).toNat)
  case atStart => exact ⟨1, [], h1, rfl, Nat.zero_le _, HRD.out, ByRow.zero _ _, Below.refl _ _⟩
  case round =>
    obtain ⟨j, acc, hj, rfl, hacc, hrd, hrow, hb⟩ := hrel
    have HR := Lib.hid hrd
    have HW := Lib.hid hrow
    have HB := Lib.hid hb
    have hsz := hb.size
    obtain ⟨gA, gc, rfl⟩ := byrow_shape hrow
    clear hrow hb hrd HRD
    by_cases hlt : j < s.length
    · have hjB : j < (⟨s.toArray⟩ : ByteArray).size := hlt
      have HX := Lib.hid (show ((⟨s.toArray⟩ : ByteArray)[j]'hjB) = s[j] from rfl)
      have HD := Lib.hid (drop_cons hlt)
      by_cases h34 : s[j] = 34
      · have hb1 : ((((⟨s.toArray⟩ : ByteArray)[j]'hjB).toNat : Int) == 34) = true := by rw [HX.out, h34]; rfl
        have HE := Lib.hid (show rdL s = some (acc, s.drop (j + 1)) by rw [HR.out, HD.out, h34, rq_end])
        have hcv := byrow_string HW.out
        clear h34
        go_wp2_with fail
        go_ret3
        exact ⟨.inl ⟨acc, j + 1, HE.out, hlt, by omega, rfl⟩, HB.out⟩
      · have hb1 : ((((⟨s.toArray⟩ : ByteArray)[j]'hjB).toNat : Int) == 34) = false := byte_ne (d := 34) (by rw [HX.out]; exact h34)
        by_cases h92 : s[j] = 92
        · have hb2 : ((((⟨s.toArray⟩ : ByteArray)[j]'hjB).toNat : Int) == 92) = true := by rw [HX.out, h92]; rfl
          by_cases hend : j + 1 = s.length
          · have HE := Lib.hid (show rdL s = none by rw [HR.out, HD.out, h92, hend, List.drop_length, rq_cut])
            have hbe : (s.length : Int) ≤ (j : Int) + 1 := by omega
            clear h34 h92 hend
            go_wp2_with fail
            go_ret3
            exact ⟨.inr ⟨HE.out, rfl⟩, HB.out⟩
          · have hlt2 : j + 1 < s.length := by omega
            have hbe : ¬ ((s.length : Int) ≤ (j : Int) + 1) := by omega
            have hjB2 : j + 1 < (⟨s.toArray⟩ : ByteArray).size := hlt2
            have hji : (j : Int) + 1 < (s.length : Int) := by omega
            have HX2 := Lib.hid (show ((⟨s.toArray⟩ : ByteArray)[j + 1]'hjB2) = s[j + 1] from rfl)
            have HE := Lib.hid (show rdL s = if printB s[j + 1] then rq (acc ++ [s[j + 1]]) (s.drop (j + 2)) else none by rw [HR.out, HD.out, h92, drop_cons hlt2, rq_pair])
            clear h34 h92 hend
            have HRW := Lib.hid (show ByRow (wr.alloc (.cells #[.int .u8 ((((⟨s.toArray⟩ : ByteArray)[j + 1]'hjB2).toNat : Nat) : Int)] 5)) w.heap.size (.slice gA acc.length gc) acc from World.ownsRow.alloc HW.out _)
            have HBK := Lib.hid (show (wr.alloc (.cells #[.int .u8 ((((⟨s.toArray⟩ : ByteArray)[j + 1]'hjB2).toNat : Nat) : Int)] 5)).heap[wr.heap.size]? = some (.cells #[.int .u8 ((((⟨s.toArray⟩ : ByteArray)[j + 1]'hjB2).toNat : Nat) : Int)] 5 (0, 0)) from heap_alloc_new wr _)
            by_cases hA : (32 : Int) ≤ ((((⟨s.toArray⟩ : ByteArray)[j + 1]'hjB2).toNat : Nat) : Int)
            · by_cases hZ : ((((⟨s.toArray⟩ : ByteArray)[j + 1]'hjB2).toNat : Nat) : Int) ≤ 126
              · have HE2 := Lib.hid (HE.out.trans (if_pos (show printB s[j + 1] = true by rw [HX2.out] at hA hZ; simp [printB]; omega)))
                go_wp2_with (at_builtin; refine wpList_append_by _ (.tmp 40) (.tmp 42) w.heap.size wr.heap.size (.slice gA acc.length gc) acc s[j + 1] _ (by rw [HX2.out]) rfl rfl rfl rfl HRW.out HBK.out (by simp; omega) (by omega) ?_)
                intro g cap w2 hrow2 hgrow
                have HB2 := Lib.hid (show Below w.heap.size w w2 from (HB.out.alloc (by omega) _).grown hgrow (by simp; omega) (fun k hk => (World.ownsRow.lt HRW.out k hk).1))
                have HR2 := Lib.hid hrow2
                clear hrow2 hgrow
                go_wp2_with fail
                exact ⟨⟨j + 2, acc ++ [s[j + 1]], hlt2, by go_num, by simp; omega, HE2.out, HR2.out, HB2.out⟩, by simp [intOf]; omega⟩
              · have HE2 := Lib.hid (HE.out.trans (if_neg (show ¬ (printB s[j + 1] = true) by rw [HX2.out] at hA hZ; simp [printB]; omega)))
                go_wp2_with fail
                go_ret3
                exact ⟨.inr ⟨HE2.out, rfl⟩, HB.out⟩
            · have HE2 := Lib.hid (HE.out.trans (if_neg (show ¬ (printB s[j + 1] = true) by rw [HX2.out] at hA; simp [printB]; omega)))
              go_wp2_with fail
              go_ret3
              exact ⟨.inr ⟨HE2.out, rfl⟩, HB.out⟩
        · have hb2 : ((((⟨s.toArray⟩ : ByteArray)[j]'hjB).toNat : Int) == 92) = false := byte_ne (d := 92) (by rw [HX.out]; exact h92)
          have HE := Lib.hid (show rdL s = if printB s[j] then rq (acc ++ [s[j]]) (s.drop (j + 1)) else none by rw [HR.out, HD.out, rq_char _ _ h34 h92])
          have HRW := Lib.hid (show ByRow (wr.alloc (.cells #[.int .u8 ((((⟨s.toArray⟩ : ByteArray)[j]'hjB).toNat : Nat) : Int)] 5)) w.heap.size (.slice gA acc.length gc) acc from World.ownsRow.alloc HW.out _)
          have HBK := Lib.hid (show (wr.alloc (.cells #[.int .u8 ((((⟨s.toArray⟩ : ByteArray)[j]'hjB).toNat : Nat) : Int)] 5)).heap[wr.heap.size]? = some (.cells #[.int .u8 ((((⟨s.toArray⟩ : ByteArray)[j]'hjB).toNat : Nat) : Int)] 5 (0, 0)) from heap_alloc_new wr _)
          clear h34 h92
          by_cases hA : (32 : Int) ≤ ((((⟨s.toArray⟩ : ByteArray)[j]'hjB).toNat : Nat) : Int)
          · by_cases hZ : ((((⟨s.toArray⟩ : ByteArray)[j]'hjB).toNat : Nat) : Int) ≤ 126
            · have HE2 := Lib.hid (HE.out.trans (if_pos (show printB s[j] = true by rw [HX.out] at hA hZ; simp [printB]; omega)))
              go_wp2_with (at_builtin; refine wpList_append_by _ (.tmp 40) (.tmp 42) w.heap.size wr.heap.size (.slice gA acc.length gc) acc s[j] _ (by rw [HX.out]) rfl rfl rfl rfl HRW.out HBK.out (by simp; omega) (by omega) ?_)
              intro g cap w2 hrow2 hgrow
              have HB2 := Lib.hid (show Below w.heap.size w w2 from (HB.out.alloc (by omega) _).grown hgrow (by simp; omega) (fun k hk => (World.ownsRow.lt HRW.out k hk).1))
              have HR2 := Lib.hid hrow2
              clear hrow2 hgrow
              go_wp2_with fail
              exact ⟨⟨j + 1, acc ++ [s[j]], hlt, by go_num, by simp; omega, HE2.out, by simpa using HR2.out, HB2.out⟩, by simp [intOf]; omega⟩
            · have HE2 := Lib.hid (HE.out.trans (if_neg (show ¬ (printB s[j] = true) by rw [HX.out] at hA hZ; simp [printB]; omega)))
              go_wp2_with fail
              go_ret3
              exact ⟨.inr ⟨HE2.out, rfl⟩, HB.out⟩
          · have HE2 := Lib.hid (HE.out.trans (if_neg (show ¬ (printB s[j] = true) by rw [HX.out] at hA; simp [printB]; omega)))
            go_wp2_with fail
            go_ret3
            exact ⟨.inr ⟨HE2.out, rfl⟩, HB.out⟩
    · obtain rfl : j = s.length := by omega
      have HE := Lib.hid (show rdL s = none by rw [HR.out, List.drop_length]; rfl)
      go_wp2_with fail
      go_ret3
      exact ⟨.inr ⟨HE.out, rfl⟩, HB.out⟩
end Go.Proofs.YtkbhmkofflcpjaaGreatDoor

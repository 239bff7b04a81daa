/-
  Check and the page's Reply, the page's Decimal, and a line that is written, walked.
  Conditions: as each theorem states them.
-/
import Derived.Test.YtlefeebhilfkjaaDoorM
import Derived.Test.YtlefeebhilfkjaaDoorL
import Derived.Laws.Concat
namespace Go.Proofs.YtlefeebhilfkjaaDoor
open Go.RowKit

theorem check_any (code : Int) (l : List (List UInt8)) (v : Value) (w : World) (hl : TextsAt w v l) :
    Calls Tryd.prog 11 #[.agg #[.int .i64 code, v]] w fun e w' => e = .returned (.int .i64 (if validR code l = true then 0 else 1)) ∧ Below w.heap.size w w' := by
  have hbel : Below w.heap.size w (w.alloc (.cells #[.int .i64 code, v] 26)) := (Below.refl _ w).alloc (Nat.le_refl _) _
  have HV := Lib.hid (valid_any code l v _ (hl.later hbel))
  have HB := Lib.hid hbel
  obtain ⟨A, n, c, rfl⟩ := hl.shape
  clear hl hbel
  cases hv : validR code l with
  | true =>
    have HX := Lib.hid hv
    clear hv
    rw [HX.out] at HV
    go_enter Tryd.func11, Tryd.ntmps11
    go_wp2_with fail
    refine Calls.mono HV.out ?_
    rintro e w1 ⟨rfl, hb⟩
    go_wp2_with fail
    go_ret
    exact ⟨rfl, upB HB.out (Nat.le_refl _) hb⟩
  | false =>
    have HX := Lib.hid hv
    clear hv
    rw [HX.out] at HV
    go_enter Tryd.func11, Tryd.ntmps11
    go_wp2_with fail
    refine Calls.mono HV.out ?_
    rintro e w1 ⟨rfl, hb⟩
    go_wp2_with fail
    go_ret
    exact ⟨rfl, upB HB.out (Nat.le_refl _) hb⟩

set_option maxHeartbeats 2000000 in
set_option maxRecDepth 100000 in
theorem pageReply_any (code : Int) (l : List (List UInt8)) (v : Value) (w : World) (hl : TextsAt w v l) :
    Calls Tryd.prog 8 #[.agg #[.int .i64 code, v]] w fun e w' => e = .returned (.bool (validR code l)) ∧ Below w.heap.size w w' := by
  obtain ⟨A, c, rfl, hll, hlm, hl⟩ := hl
  have HL := Lib.hid hl
  have HM := Lib.hid hlm
  clear hl hlm
  have hbel : Below w.heap.size w (w.alloc (.cells #[.int .i64 code, .slice A l.length c] 26)) := (Below.refl _ w).alloc (Nat.le_refl _) _
  have HB := Lib.hid hbel
  have HR := Lib.hid (show RAt (w.alloc (.cells #[.int .i64 code, .slice A l.length c] 26)) w.heap.size code (.slice A l.length c) from heap_alloc_new w _)
  clear hbel
  by_cases h200 : code < 200
  · have HE := Lib.hid (show validR code l = false by simp [validR, codeOk, show ¬ (200 ≤ code) by omega])
    go_enter Tryd.func8, Tryd.ntmps8
    go_wp2_with fail
    go_ret
    exact ⟨ret_bool HE.out.symm, HB.out⟩
  · by_cases h599 : 599 < code
    · have HE := Lib.hid (show validR code l = false by simp [validR, codeOk, show ¬ (code ≤ 599) by omega])
      go_enter Tryd.func8, Tryd.ntmps8
      go_wp2_with fail
      go_ret
      exact ⟨ret_bool HE.out.symm, HB.out⟩
    · have HC := Lib.hid (show codeOk code = true by simp [codeOk]; omega)
      by_cases h0 : (l.length : Int) < 1
      · have HE := Lib.hid (show validR code l = false by simp [validR, show ¬ (1 ≤ l.length) by omega])
        go_enter Tryd.func8, Tryd.ntmps8
        go_wp2_with fail
        go_ret
        exact ⟨ret_bool HE.out.symm, HB.out⟩
      · by_cases h16 : (16 : Int) < (l.length : Int)
        · have HE := Lib.hid (show validR code l = false by simp [validR, show ¬ (l.length ≤ 16) by omega])
          go_enter Tryd.func8, Tryd.ntmps8
          go_wp2_with fail
          go_ret
          exact ⟨ret_bool HE.out.symm, HB.out⟩
        · have hpos : 1 ≤ l.length := by omega
          have h16n : l.length ≤ 16 := by omega
          have d1 : decide (code < 200) = false := decide_eq_false h200
          have d2 : decide (599 < code) = false := decide_eq_false h599
          have d3 : decide ((l.length : Int) < 1) = false := decide_eq_false h0
          have d4 : decide ((16 : Int) < (l.length : Int)) = false := decide_eq_false h16
          go_enter Tryd.func8, Tryd.ntmps8
          go_wp2_with fail
          go_loopw [3] (fun iv wr => ∃ j : Nat, j ≤ l.length ∧ iv = .int .i64 j ∧ wr = w.alloc (.cells #[.int .i64 code, .slice A l.length c] 26) ∧ ∀ k, (hk : k < l.length) → k < j → textOk l[k] = true) (fun iv _ => l.length - (intOf iv).toNat)
          case atStart => exact ⟨0, Nat.zero_le _, rfl, rfl, fun k _ h => absurd h (Nat.not_lt_zero _)⟩
          case round =>
            obtain ⟨j, hj, rfl, hwr, hno⟩ := hrel
            have HN := Lib.hid hno
            have HWR := Lib.hid hwr
            have HB1 := Lib.hid (show Below w.heap.size w wr by rw [hwr]; exact HB.out)
            have hr1 : RAt wr w.heap.size code (.slice A l.length c) := by rw [hwr]; exact HR.out
            have hc0 := hr1.c0
            have hc1 := hr1.c1
            clear hwr hno
            by_cases hlt : j < l.length
            · obtain ⟨b, o, rfl, hab, hac⟩ := HL.out (fun e => by rw [e] at hlt; exact absurd hlt (by simp))
              have hce : wr.cell? ⟨b, o + j, none⟩ = some (.string ⟨l[j].toArray⟩) := (HB1.out.cell (p := ⟨b, o + j, none⟩) hab).trans (hac j hlt)
              have hsm : l[j].length ≤ maxLen := by have := HM.out _ (List.getElem_mem hlt); unfold maxLen; omega
              clear hac
              cases ht : textOk l[j] with
              | false =>
                have HE := Lib.hid (valid_false_texts (code := code) hlt ht)
                have HT := Lib.hid ht
                clear ht
                go_wp2_with fail
                refine (words_any l[j] _ hsm).mono ?_
                rintro e w1 ⟨rfl, rfl⟩
                rw [HT.out]
                go_wp2_with fail
                go_ret
                exact ⟨ret_bool HE.out.symm, HB1.out⟩
              | true =>
                have HT := Lib.hid ht
                clear ht
                go_wp2_with fail
                refine (words_any l[j] _ hsm).mono ?_
                rintro e w1 ⟨rfl, rfl⟩
                rw [HT.out]
                go_wp2_with fail
                refine ⟨⟨j + 1, hlt, by go_num, HWR.out, fun k hk hkj => ?_⟩, by simp [intOf]; omega⟩
                rcases Nat.lt_or_eq_of_le (Nat.le_of_lt_succ hkj) with h | h
                · exact HN.out k hk h
                · subst h
                  exact HT.out
            · obtain rfl : j = l.length := by omega
              have HE := Lib.hid (valid_of HC.out hpos h16n (fun k hk => HN.out k hk hk))
              go_wp2_with fail
              go_ret
              exact ⟨ret_bool HE.out.symm, HB1.out⟩

theorem add_str (a b : List UInt8) (w : World) (h : a.length + b.length ≤ 100000) : (Op.stringOp .add ⟨a.toArray⟩ ⟨b.toArray⟩).run Tryd.prog w = .ok (.string ⟨(a ++ b).toArray⟩) w :=
  run_string_add_lists (P := Tryd.prog) w a b (by omega) (by omega)

theorem one_byte (x : UInt8) (z : Int) (hz : z = (x.toNat : Int)) (w : World) :
    (convert 44 9 (.slice (some ⟨w.heap.size, 0, none⟩) 1 1)).run Tryd.prog (w.alloc (.cells #[.int .u8 z] 5)) = .ok (.string ⟨[x].toArray⟩) (w.alloc (.cells #[.int .u8 z] 5)) := by
  subst hz
  refine run_convert_bytes_back (P := Tryd.prog) _ 44 9 5 ⟨w.heap.size, 0, none⟩ 1 [x] Tryd.underlying44 Tryd.underlying5 Tryd.underlying9 (fun j hj => ?_)
  obtain rfl : j = 0 := by simp at hj; exact hj
  have h := heap_alloc_new w (.cells #[.int .u8 (x.toNat : Int)] 5)
  rw [Addr.add_lit, Nat.add_zero, Lib.cell_of_heap h]
  rfl

set_option maxHeartbeats 1000000 in
set_option maxRecDepth 100000 in
theorem decimal_any (n : Nat) (w : World) (h1 : 200 ≤ n) (h2 : n ≤ 599) :
    Calls Tryd.prog 20 #[.int .i64 n] w fun e w' => e = .returned (.string ⟨(digs n).toArray⟩) ∧ Below w.heap.size w w' := by
  have hn0 : ¬ ((n : Int) < 0) := by omega
  obtain ⟨x1, x2, x3, hd, f1, f2, f3⟩ : ∃ x1 x2 x3 : UInt8, digs n = [x1, x2, x3] ∧ x1.toNat = 48 + n / 100 ∧ x2.toNat = 48 + n / 10 % 10 ∧ x3.toNat = 48 + n % 10 :=
    ⟨_, _, _, rfl, by rw [UInt8.toNat_ofNat']; omega, by rw [UInt8.toNat_ofNat']; omega, by rw [UInt8.toNat_ofNat']; omega⟩
  have HD := Lib.hid hd
  have HF := Lib.hid (And.intro f1 (And.intro f2 f3))
  clear hd f1 f2 f3
  go_enter Tryd.func20, Tryd.ntmps20
  go_wp2_with fail
  go_loopw [0, 3] (fun nv sv wr => Below w.heap.size w wr ∧ ((nv = .int .i64 n ∧ sv = .string ⟨([] : List UInt8).toArray⟩) ∨ (nv = .int .i64 (n / 10 : Nat) ∧ sv = .string ⟨[x3].toArray⟩) ∨ (nv = .int .i64 (n / 100 : Nat) ∧ sv = .string ⟨[x2, x3].toArray⟩))) (fun nv _ _ => (intOf nv).toNat)
  case atStart => exact ⟨Below.refl _ _, .inl ⟨rfl, rfl⟩⟩
  case round =>
    obtain ⟨hb, hrel⟩ := hrel
    have HB := Lib.hid hb
    have hsz := hb.size
    clear hb
    rcases hrel with ⟨rfl, rfl⟩ | ⟨rfl, rfl⟩ | ⟨rfl, rfl⟩
    · have hge : (10 : Int) ≤ (n : Int) := by omega
      have hcv := one_byte x3 (48 + (n : Int) % 10) (by have := HF.out.2.2; omega) wr
      have hadd := fun w => add_str [x3] [] w (by simp)
      have HB1 := Lib.hid (HB.out.alloc hsz (.cells #[.int .u8 (48 + (n : Int) % 10)] 5))
      go_wp2_with fail
      exact ⟨⟨HB1.out, .inr (.inl ⟨by go_num, rfl⟩)⟩, by simp [intOf]; omega⟩
    · have hge : (10 : Int) ≤ ((n / 10 : Nat) : Int) := by omega
      have hcv := one_byte x2 (48 + ((n / 10 : Nat) : Int) % 10) (by have := HF.out.2.1; omega) wr
      have hadd := fun w => add_str [x2] [x3] w (by simp)
      have HB1 := Lib.hid (HB.out.alloc hsz (.cells #[.int .u8 (48 + ((n / 10 : Nat) : Int) % 10)] 5))
      have HM := Lib.hid (show n / 10 / 10 = n / 100 by omega)
      have hq : n / 10 ≤ 59 := by omega
      have HMS := Lib.hid (show n / 10 / 10 < n / 10 by omega)
      generalize n / 10 = k at *
      go_wp2_with fail
      refine ⟨⟨HB1.out, .inr (.inr ⟨?_, rfl⟩)⟩, ?_⟩
      · rw [← HM.out]
        go_num
      · have := HMS.out
        simp [intOf]
        omega
    · have hge : ¬ ((10 : Int) ≤ ((n / 100 : Nat) : Int)) := by omega
      have hcv := one_byte x1 (48 + ((n / 100 : Nat) : Int)) (by have := HF.out.1; omega) wr
      have hadd := fun w => add_str [x1] [x2, x3] w (by simp)
      have HB1 := Lib.hid (HB.out.alloc hsz (.cells #[.int .u8 (48 + ((n / 100 : Nat) : Int))] 5))
      have hq : n / 100 ≤ 5 := by omega
      generalize n / 100 = k at *
      go_wp2_with fail
      go_ret
      exact ⟨by rw [HD.out]; rfl, HB1.out⟩
end Go.Proofs.YtlefeebhilfkjaaDoor

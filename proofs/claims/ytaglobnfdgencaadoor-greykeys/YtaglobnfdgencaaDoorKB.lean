/-
  Package grey's Key, the page's Key, walked.
  Conditions: as each theorem states them: the library's table of powers of ten is as its initialiser lays it.
-/
import Derived.Test.YtaglobnfdgencaaDoorKA
namespace Go.Proofs.YtaglobnfdgencaaDoor
open Go.RowKit

/-- May the key be? -/
def mayK (z : Int) (f t : List UInt8) : Bool := decide (0 ≤ z) && decide ((keyT z.toNat f t).length ≤ 700)
theorem enters_Key_1 (args : Array Value) (w : World) : (callFunc 9 args).run Tryd.prog w = .ok (.enter 9 args) w := enters_of Tryd.func9 (by kernel_rfl) rfl args w
theorem joinT (z : Int) (f t : List UInt8) (w : World) (ht : Tab w) (h2 : z < 9223372036854775808) (hf : f.length ≤ 2000) (hT : t.length ≤ 2000) :
    Calls Tryd.prog 10 #[.int .i64 z, .string ⟨f.toArray⟩, .string ⟨t.toArray⟩] w fun e w' => e = (if mayK z f t then .returned (.string ⟨(keyT z.toNat f t).toArray⟩) else wrongK 1) ∧ Below w.heap.size w w' := by
  by_cases hz : z < 0
  · refine (join_neg z _ _ w hz).mono ?_
    rintro e w' ⟨he, rfl⟩
    refine ⟨?_, Below.refl _ _⟩
    have : mayK z f t = false := by unfold mayK; rw [decide_eq_false (show ¬ 0 ≤ z by omega)]; rfl
    rw [he, this]
    rfl
  · obtain ⟨n, rfl⟩ : ∃ n : Nat, z = n := ⟨z.toNat, by omega⟩
    refine (join_any n f t w ht (by omega) hf hT).mono ?_
    rintro e w' ⟨he, hb⟩
    refine ⟨?_, hb⟩
    rw [he, Int.toNat_natCast]
    unfold mayK
    rw [decide_eq_true (show (0 : Int) ≤ (n : Int) by omega), Int.toNat_natCast]
    simp
theorem key1_good (z : Int) (f t : List UInt8) (k0 k1 k2 k3 : Nat) (w : World) (ht : Tab w) (h2 : z < 9223372036854775808) (hf : f.length ≤ 2000) (hT : t.length ≤ 2000) (hm : mayK z f t = true)
    (h0 : CAt w k0 (.int .i64 z) 3) (h1 : CAt w k1 (.string ⟨f.toArray⟩) 9) (h2' : CAt w k2 (.string ⟨t.toArray⟩) 9) (h3 : CAt w k3 (.string ⟨#[]⟩) 9) :
    Calls Tryd.prog 9 #[.pointer (some ⟨k0, 0, none⟩), .pointer (some ⟨k1, 0, none⟩), .pointer (some ⟨k2, 0, none⟩), .pointer (some ⟨k3, 0, none⟩)] w fun e w' =>
      e = .returned (.tuple #[]) ∧ But [k3] w.heap.size w w' ∧ CAt w' k3 (.string ⟨(keyT z.toNat f t).toArray⟩) 9 := by
  have HJ := Lib.hid (joinT z f t w ht h2 hf hT)
  rw [hm] at HJ
  simp only [if_true] at HJ
  have c0 := h0.c
  have c1 := h1.c
  have c2 := h2'.c
  have H3 := Lib.hid h3
  clear ht h2 hf hT hm h0 h1 h2' h3
  generalize keyT z.toNat f t = kt at *
  go_enter Tryd.func9, Tryd.ntmps9
  go_wp2_with fail
  refine Calls.mono HJ.out ?_
  rintro e w1 ⟨rfl, hb⟩
  have HB := Lib.hid hb
  have H31 := Lib.hid (H3.out.later hb)
  have d3 := H31.out.c
  have z3 := H31.out.fz
  have l3 := H31.out.lt
  clear hb
  go_wp2_with fail
  go_end0
  exact ⟨rfl, (But.of HB.out).setCell (p := ⟨k3, 0, none⟩) (.inl (by simp)) _, H31.out.set _⟩
theorem key1_bad (z : Int) (f t : List UInt8) (k0 k1 k2 k3 : Nat) (w : World) (ht : Tab w) (h2 : z < 9223372036854775808) (hf : f.length ≤ 2000) (hT : t.length ≤ 2000) (hm : mayK z f t = false)
    (h0 : CAt w k0 (.int .i64 z) 3) (h1 : CAt w k1 (.string ⟨f.toArray⟩) 9) (h2' : CAt w k2 (.string ⟨t.toArray⟩) 9) :
    Calls Tryd.prog 9 #[.pointer (some ⟨k0, 0, none⟩), .pointer (some ⟨k1, 0, none⟩), .pointer (some ⟨k2, 0, none⟩), .pointer (some ⟨k3, 0, none⟩)] w fun e w' => e = wrongK 1 ∧ Below w.heap.size w w' := by
  have HJ := Lib.hid (joinT z f t w ht h2 hf hT)
  rw [hm] at HJ
  simp only [Bool.false_eq_true, if_false] at HJ
  have c0 := h0.c
  have c1 := h1.c
  have c2 := h2'.c
  clear ht h2 hf hT hm h0 h1 h2'
  go_enter Tryd.func9, Tryd.ntmps9
  go_wp2_with fail
  refine Calls.mono HJ.out ?_
  rintro e w1 ⟨rfl, hb⟩
  exact ⟨rfl, rfl, hb⟩
/-- What Key tells. -/
def outK (z : Int) (f t : List UInt8) : List UInt8 := if mayK z f t then keyT z.toNat f t else []
set_option maxHeartbeats 1000000 in
theorem key_tells (z : Int) (f t : List UInt8) (w : World) (ht : Tab w) (h2 : z < 9223372036854775808) (hf : f.length ≤ 2000) (hT : t.length ≤ 2000) (hw : 0 < w.heap.size) :
    Calls Tryd.prog 4 #[.int .i64 z, .string ⟨f.toArray⟩, .string ⟨t.toArray⟩] w fun e w' => e = .returned (.tuple #[.string ⟨(outK z f t).toArray⟩, .int .i64 (errN (mayK z f t))]) ∧ Below w.heap.size w w' := by
  obtain ⟨W, hW⟩ : ∃ W, (((w.alloc (.cells #[.int .i64 z] 3)).alloc (.cells #[.string ⟨f.toArray⟩] 9)).alloc (.cells #[.string ⟨t.toArray⟩] 9)).alloc (.cells #[.string ⟨#[]⟩] 9) = W := ⟨_, rfl⟩
  have hsz : W.heap.size = w.heap.size + 1 + 1 + 1 + 1 := by rw [← hW]; simp
  have K0 := Lib.hid (show CAt W w.heap.size (.int .i64 z) 3 by rw [← hW]; exact (((CAt.new w _ _).alloc _).alloc _).alloc _)
  have K1 := Lib.hid (show CAt W (w.heap.size + 1) (.string ⟨f.toArray⟩) 9 by rw [← hW]; exact ((CAt.newAt _ _ _ _ (by simp)).alloc _).alloc _)
  have K2 := Lib.hid (show CAt W (w.heap.size + 1 + 1) (.string ⟨t.toArray⟩) 9 by rw [← hW]; exact (CAt.newAt _ _ _ _ (by simp)).alloc _)
  have K3 := Lib.hid (show CAt W (w.heap.size + 1 + 1 + 1) (.string ⟨#[]⟩) 9 by rw [← hW]; exact CAt.newAt _ _ _ _ (by simp))
  have HA := Lib.hid (show Below w.heap.size w W by
    rw [← hW]
    exact ((((Below.refl _ w).alloc (Nat.le_refl _) _).alloc (by simp) _).alloc (by simp; omega) _).alloc (by simp; omega) _)
  have hmf : ∀ (fn : Fn) (first cap : Array Value) (w : World), (Instr.makeFunc fn first cap).run Tryd.prog w = .ok (.func fn first cap) w := fun _ _ _ _ => rfl
  have hV : Below w.heap.size w (W.alloc (.cells #[.int .i64 0] 25)) := HA.out.alloc HA.out.size _
  have HC : Hid (Calls Tryd.prog 8 #[.func (.func 9) #[] #[.pointer (some ⟨w.heap.size, 0, none⟩), .pointer (some ⟨w.heap.size + 1, 0, none⟩), .pointer (some ⟨w.heap.size + 1 + 1, 0, none⟩), .pointer (some ⟨w.heap.size + 1 + 1 + 1, 0, none⟩)]] W fun e w' =>
      e = .returned (.int .i64 (errN (mayK z f t))) ∧ Below w.heap.size w w' ∧ CAt w' (w.heap.size + 1 + 1 + 1) (.string ⟨(outK z f t).toArray⟩) 9) := by
    unfold outK
    cases hm : mayK z f t with
    | true =>
      have g1 := key1_good z f t _ _ _ _ (W.alloc (.cells #[.int .i64 0] 25)) (ht.keep hV hw) h2 hf hT hm (K0.out.alloc _) (K1.out.alloc _) (K2.out.alloc _) (K3.out.alloc _)
      rw [if_pos rfl]
      refine (catch_ok 9 _ [w.heap.size + 1 + 1 + 1] W (fun w' => CAt w' (w.heap.size + 1 + 1 + 1) (.string ⟨(keyT z.toNat f t).toArray⟩) 9) (enters_Key_1 _) (by simp [hsz]) ?_).mono ?_
      · exact g1.mono fun e w' ⟨a1, a2, a3⟩ => ⟨a1, by simpa using a2, a3⟩
      · rintro e w' ⟨rfl, hb, w1, r3, h2⟩
        exact ⟨rfl, HA.out.trans (hb.below (by rw [hsz]; omega) (by simp; omega)), (h2 _ (by rw [hsz]; omega)).trans r3⟩
    | false =>
      have g1 := key1_bad z f t _ _ _ (w.heap.size + 1 + 1 + 1) (W.alloc (.cells #[.int .i64 0] 25)) (ht.keep hV hw) h2 hf hT hm (K0.out.alloc _) (K1.out.alloc _) (K2.out.alloc _)
      refine (catch_no 9 _ 1 W (enters_Key_1 _) (g1.mono fun e w' ⟨a1, a2⟩ => ⟨a1, by simpa using a2⟩)).mono ?_
      rintro e w' ⟨rfl, hb⟩
      exact ⟨rfl, HA.out.trans (hb.mono HA.out.size), K3.out.later hb⟩
  clear hV hsz K0 K1 K2 K3 ht h2 hf hT hw
  generalize errN (mayK z f t) = n at *
  generalize outK z f t = r at *
  have HW := Lib.hid hW
  clear hW
  go_enter Tryd.func4, Tryd.ntmps4
  go_wp2_with fail
  rw [HW.out]
  refine Calls.mono HC.out ?_
  rintro e w1 ⟨rfl, hb, r3⟩
  have HB := Lib.hid hb
  have d3 := r3.c
  clear hb r3
  go_wp2_with fail
  go_ret2
  exact ⟨rfl, HB.out⟩

/-- What the page's Key tells. -/
def PageK (z : Int) (f t : List UInt8) (v : Value) : Prop := ∃ s : ByteArray, v = .tuple #[.string s, .bool (mayK z f t)] ∧ (mayK z f t = true → s = ⟨(keyT z.toNat f t).toArray⟩)
set_option maxHeartbeats 1000000 in
theorem rKey_any (z : Int) (f t : List UInt8) (w : World) (h2 : z < 9223372036854775808) (hf : f.length ≤ 2000) (hT : t.length ≤ 2000) :
    Calls Tryd.prog 5 #[.int .i64 z, .string ⟨f.toArray⟩, .string ⟨t.toArray⟩] w fun e w' => ∃ v, e = .returned v ∧ PageK z f t v ∧ Below w.heap.size w w' := by
  by_cases hz : z < 0
  · have hd : decide (z < 0) = true := decide_eq_true hz
    have HP := Lib.hid (show PageK z f t (.tuple #[.string ⟨#[]⟩, .bool false]) from by
      have : mayK z f t = false := by unfold mayK; rw [decide_eq_false (show ¬ 0 ≤ z by omega)]; rfl
      exact ⟨_, by rw [this], fun h => by rw [this] at h; cases h⟩)
    clear hf hT h2
    go_enter Tryd.func5, Tryd.ntmps5
    go_wp2_with fail
    go_ret2
    exact ⟨_, rfl, HP.out, Below.refl _ _⟩
  · obtain ⟨n, rfl⟩ : ∃ n : Nat, z = n := ⟨z.toNat, by omega⟩
    have hd : decide ((n : Int) < 0) = false := decide_eq_false (by omega)
    have HLN := Lib.hid (keyT_len n f t)
    have HM := Lib.hid (show mayK (n : Int) f t = decide ((keyT n f t).length ≤ 700) by
      unfold mayK
      rw [decide_eq_true (show (0 : Int) ≤ (n : Int) by omega), Int.toNat_natCast]
      rfl)
    have HKT := Lib.hid (show keyT n f t = Lib.decDigits n ++ [32] ++ f ++ [32] ++ t from rfl)
    have HNK := Lib.hid (show keyT ((n : Int).toNat) f t = keyT n f t by rw [Int.toNat_natCast])
    by_cases hf7 : (700 : Int) < (f.length : Int)
    · have hd2 : decide ((700 : Int) < (f.length : Int)) = true := decide_eq_true hf7
      have HP := Lib.hid (show PageK (n : Int) f t (.tuple #[.string ⟨#[]⟩, .bool false]) from by
        have : mayK (n : Int) f t = false := by rw [HM.out]; exact decide_eq_false (by have := HLN.out; omega)
        exact ⟨_, by rw [this], fun h => by rw [this] at h; cases h⟩)
      clear hf hT h2 hf7
      go_enter Tryd.func5, Tryd.ntmps5
      go_wp2_with fail
      go_ret2
      exact ⟨_, rfl, HP.out, Below.refl _ _⟩
    · have hd2 : decide ((700 : Int) < (f.length : Int)) = false := decide_eq_false hf7
      by_cases ht7 : (700 : Int) < (t.length : Int)
      · have hd3 : decide ((700 : Int) < (t.length : Int)) = true := decide_eq_true ht7
        have HP := Lib.hid (show PageK (n : Int) f t (.tuple #[.string ⟨#[]⟩, .bool false]) from by
          have : mayK (n : Int) f t = false := by rw [HM.out]; exact decide_eq_false (by have := HLN.out; omega)
          exact ⟨_, by rw [this], fun h => by rw [this] at h; cases h⟩)
        clear hf hT h2 hf7 ht7
        go_enter Tryd.func5, Tryd.ntmps5
        go_wp2_with fail
        go_ret2
        exact ⟨_, rfl, HP.out, Below.refl _ _⟩
      · have hd3 : decide ((700 : Int) < (t.length : Int)) = false := decide_eq_false ht7
        have HD := Lib.hid (rdecimal_any n w (by omega))
        have hL := dec_19 (n := n) (by omega)
        obtain ⟨q, hq⟩ : ∃ q, decide ((keyT n f t).length ≤ 700) = q := ⟨_, rfl⟩
        have HQ := Lib.hid hq
        have HP := Lib.hid (show PageK (n : Int) f t (.tuple #[.string ⟨(keyT n f t).toArray⟩, .bool q]) from ⟨_, by rw [HM.out, hq], fun _ => by rw [HNK.out]⟩)
        clear HM HNK hq HLN
        generalize PageK (n : Int) f t = PP at *
        generalize keyT n f t = kt at *
        generalize Lib.decDigits n = ds at *
        obtain ⟨s1, e1⟩ : ∃ s1, ds ++ [32] = s1 := ⟨_, rfl⟩
        obtain ⟨s2, e2⟩ : ∃ s2, s1 ++ f = s2 := ⟨_, rfl⟩
        obtain ⟨s3, e3⟩ : ∃ s3, s2 ++ [32] = s3 := ⟨_, rfl⟩
        have HS4 := Lib.hid (show kt = s3 ++ t by rw [HKT.out, ← e3, ← e2, ← e1])
        have l1 : s1.length = ds.length + 1 := by rw [← e1]; simp
        have l2 : s2.length = ds.length + 1 + f.length := by rw [← e2, List.length_append, l1]
        have l3 : s3.length = ds.length + 1 + f.length + 1 := by rw [← e3, List.length_append, l2]; rfl
        have a1 := fun W => add_str ds [32] W (by simp; omega)
        have a2 := fun W => add_str s1 f W (by omega)
        have a3 := fun W => add_str s2 [32] W (by simp; omega)
        have a4 := fun W => add_str s3 t W (by omega)
        rw [e1] at a1
        rw [e2] at a2
        rw [e3] at a3
        rw [← HS4.out] at a4
        have hq1 : decide ((kt.length : Int) ≤ 700) = q := by rw [← HQ.out]; simp only [decide_eq_decide]; omega
        have hq2 : decide (kt.length ≤ 700) = q := HQ.out
        clear hL hf hT h2 l1 l2 l3 e1 e2 e3 hf7 ht7
        go_enter Tryd.func5, Tryd.ntmps5
        go_wp2_with fail
        refine Calls.mono HD.out ?_
        rintro e w1 ⟨rfl, hb⟩
        have HB := Lib.hid hb
        clear hb
        go_wp2_with fail
        go_ret2
        exact ⟨_, rfl, HP.out, HB.out⟩
end Go.Proofs.YtaglobnfdgencaaDoor

/-
  The texts of numbers; package grey's join and Key, the page's Decimal and Key, walked.
  Conditions: as each theorem states them: the library's table of powers of ten is as its initialiser lays it.
-/
import Derived.Test.YtaglobnfdgencaaDoorGX
import Derived.Test.YtaglobnfdgencaaDoorSA
import Derived.Lib.LaidTab
import Derived.Lib.ItoaNum
import Derived.Lib.ItoaMem
import Derived.Lib.AppendIntMem
import Derived.Laws.IdiomStrings
import Derived.Laws.Concat
namespace Go.Proofs.YtaglobnfdgencaaDoor
open Go.RowKit

/-- The library's table of powers of ten is as it is laid. -/
def Tab (w : World) : Prop := Lib.TabIs Tryd.prog w "internal/strconv.uint64pow10" .u64 Lib.pow10Tab
theorem gTab : Tryd.prog.globalNamed "internal/strconv.uint64pow10" = some 0 := by kernel_rfl
theorem Tab.keep {w w' : World} {B : Nat} (h : Tab w) (hb : Below B w w') (h0 : 0 < B) : Tab w' := by
  unfold Tab Lib.TabIs World.var? at h ⊢
  rw [gTab] at h ⊢
  simp only [Option.bind_some] at h ⊢
  rw [hb.block 0 h0]
  exact h
theorem dec_len : ∀ (m n : Nat), n < 10 ^ (m + 1) → (Lib.decDigits n).length ≤ m + 1 := by
  intro m
  induction m with
  | zero =>
    intro n h
    rw [Lib.decDigits, dif_pos (by simpa using h)]
    simp
  | succ m ih =>
    intro n h
    rw [Lib.decDigits]
    split
    · simp
    · have := ih (n / 10) (by rw [Nat.pow_succ] at h; omega)
      simp
      omega
theorem dec_19 {n : Nat} (h : n < 9223372036854775808) : (Lib.decDigits n).length ≤ 19 := dec_len 18 n (by omega)
theorem add_str (a b : List UInt8) (w : World) (h : a.length + b.length ≤ 1000000) : (Op.stringOp .add ⟨a.toArray⟩ ⟨b.toArray⟩).run Tryd.prog w = .ok (.string ⟨(a ++ b).toArray⟩) w :=
  run_string_add_lists (P := Tryd.prog) w a b (by omega) (by omega)
theorem itoa_any (n : Nat) (w : World) (ht : Tab w) (h2 : n < 9223372036854775808) :
    Calls Tryd.prog 15 #[.int .i64 (n : Int)] w fun e w' => e = .returned (.string ⟨(Lib.decDigits n).toArray⟩) ∧ Below w.heap.size w w' := by
  refine (Tryd.strconv_Itoa (n : Int) (by omega) (by omega) w ht).mono ?_
  rintro e w' ⟨rfl, k, os, rfl⟩
  have : Lib.itoa (n : Int) = Lib.decDigits n := by
    unfold Lib.itoa
    simp
  rw [this]
  exact ⟨rfl, Lib.below_grow _ w (Nat.le_refl _) k os⟩
theorem one_byte (x : UInt8) (z : Int) (hz : z = (x.toNat : Int)) (w : World) :
    (convert 43 9 (.slice (some ⟨w.heap.size, 0, none⟩) 1 1)).run Tryd.prog (w.alloc (.cells #[.int .u8 z] 5)) = .ok (.string ⟨[x].toArray⟩) (w.alloc (.cells #[.int .u8 z] 5)) := by
  subst hz
  refine run_convert_bytes_back (P := Tryd.prog) _ 43 9 5 ⟨w.heap.size, 0, none⟩ 1 [x] Tryd.underlying43 Tryd.underlying5 Tryd.underlying9 (fun j hj => ?_)
  obtain rfl : j = 0 := by simp at hj; exact hj
  have h := heap_alloc_new w (.cells #[.int .u8 (x.toNat : Int)] 5)
  rw [Addr.add_lit, Nat.add_zero, Lib.cell_of_heap h]
  rfl

set_option maxHeartbeats 2000000 in
set_option maxRecDepth 100000 in
theorem rdecimal_any (n : Nat) (w : World) (h2 : n < 9223372036854775808) :
    Calls Tryd.prog 11 #[.int .i64 (n : Int)] w fun e w' => e = .returned (.string ⟨(Lib.decDigits n).toArray⟩) ∧ Below w.heap.size w w' := by
  have hn0 : ¬ ((n : Int) < 0) := by omega
  have hL := dec_19 h2
  go_enter Tryd.func11, Tryd.ntmps11
  go_wp2_with fail
  go_loopg [0, 3] n (fun g nv sv wx => Below w.heap.size w wx ∧ ∃ (m : Nat) (ds : List UInt8), nv = .int .i64 (m : Int) ∧ sv = .string ⟨ds.toArray⟩ ∧ m ≤ g ∧ m ≤ n ∧ Lib.decDigits m ++ ds = Lib.decDigits n)
  case atStart => exact ⟨Below.refl _ _, n, [], rfl, rfl, by omega, by omega, by simp⟩
  case round =>
    obtain ⟨hb, m, ds, rfl, rfl, hmg, hmn, hds⟩ := hrel
    have HB := Lib.hid hb
    have hsz := hb.size
    have hdl : ds.length ≤ 19 := by
      have := congrArg List.length hds
      simp at this
      omega
    have HDS := Lib.hid hds
    clear hb hds
    by_cases hm : m < 10
    · have hge : ¬ ((10 : Int) ≤ (m : Int)) := by omega
      obtain ⟨x, hx⟩ : ∃ x : UInt8, UInt8.ofNat (48 + m) = x := ⟨_, rfl⟩
      have hxn : x.toNat = 48 + m := by rw [← hx, UInt8.toNat_ofNat']; omega
      have hcv := one_byte x (48 + (m : Int)) (by omega) wr
      have hadd := fun w => add_str [x] ds w (by simp; omega)
      have HB1 := Lib.hid (HB.out.alloc hsz (.cells #[.int .u8 (48 + (m : Int))] 5))
      have HE := Lib.hid (show x :: ds = Lib.decDigits n by
        rw [← HDS.out, Lib.decDigits, dif_pos hm, hx]
        rfl)
      clear hx hxn hL
      go_wp2_with fail
      go_ret
      exact ⟨by rw [← HE.out]; rfl, HB1.out⟩
    · have hge : (10 : Int) ≤ (m : Int) := by omega
      obtain ⟨x, hx⟩ : ∃ x : UInt8, UInt8.ofNat (48 + m % 10) = x := ⟨_, rfl⟩
      have hxn : x.toNat = 48 + m % 10 := by rw [← hx, UInt8.toNat_ofNat']; omega
      have hcv := one_byte x (48 + (m : Int) % 10) (by omega) wr
      have hadd := fun w => add_str [x] ds w (by simp; omega)
      have HB1 := Lib.hid (HB.out.alloc hsz (.cells #[.int .u8 (48 + (m : Int) % 10)] 5))
      have HE := Lib.hid (show Lib.decDigits (m / 10) ++ (x :: ds) = Lib.decDigits n by
        have e : Lib.decDigits m = Lib.decDigits (m / 10) ++ [UInt8.ofNat (48 + m % 10)] := by
          rw [Lib.decDigits, dif_neg hm]
        rw [← HDS.out, e, hx]
        simp)
      clear hx hxn hL
      cases gk with
      | zero => omega
      | succ g =>
        go_wp2_with fail
        go_roundg g
        case measure => omega
        case rel => exact ⟨HB1.out, m / 10, x :: ds, by go_num, rfl, by omega, by omega, HE.out⟩

/-- The key of three. -/
def keyT (n : Nat) (f t : List UInt8) : List UInt8 := Lib.decDigits n ++ [32] ++ f ++ [32] ++ t
theorem keyT_len (n : Nat) (f t : List UInt8) : (keyT n f t).length = (Lib.decDigits n).length + 1 + f.length + 1 + t.length := by
  unfold keyT
  simp only [List.length_append, List.length_cons, List.length_nil]
theorem join_neg (z : Int) (f t : ByteArray) (w : World) (hz : z < 0) : Calls Tryd.prog 10 #[.int .i64 z, .string f, .string t] w fun e w' => e = wrongK 1 ∧ w' = w := by
  have hd : decide (0 ≤ z) = false := decide_eq_false (by omega)
  have HD := Lib.hid (fun W => demand_any false W)
  go_enter Tryd.func10, Tryd.ntmps10
  go_wp2_with fail
  refine Calls.mono (HD.out _) ?_
  rintro e w' ⟨rfl, he⟩
  have he := he.symm
  subst he
  exact ⟨rfl, rfl, rfl⟩
set_option maxHeartbeats 1000000 in
theorem join_any (n : Nat) (f t : List UInt8) (w : World) (ht : Tab w) (h2 : n < 9223372036854775808) (hf : f.length ≤ 2000) (hT : t.length ≤ 2000) :
    Calls Tryd.prog 10 #[.int .i64 (n : Int), .string ⟨f.toArray⟩, .string ⟨t.toArray⟩] w fun e w' => e = (if (keyT n f t).length ≤ 700 then .returned (.string ⟨(keyT n f t).toArray⟩) else wrongK 1) ∧ Below w.heap.size w w' := by
  have hd : decide ((0 : Int) ≤ (n : Int)) = true := decide_eq_true (by omega)
  have HD := Lib.hid (fun W => demand_any true W)
  simp only [endD_t] at HD
  have HI := Lib.hid (itoa_any n w ht h2)
  have hL := dec_19 h2
  have HK := Lib.hid (keyT_len n f t)
  have HKT := Lib.hid (show keyT n f t = Lib.decDigits n ++ [32] ++ f ++ [32] ++ t from rfl)
  generalize keyT n f t = kt at *
  generalize Lib.decDigits n = ds at *
  have p1 : IntKind.i64.wrap ((ds.length : Int) + 1) = (ds.length : Int) + 1 := wrap_id (by omega) (by omega)
  have p2 : IntKind.i64.wrap ((ds.length : Int) + 1 + (f.length : Int)) = (ds.length : Int) + 1 + (f.length : Int) := wrap_id (by omega) (by omega)
  have p3 : IntKind.i64.wrap ((ds.length : Int) + 1 + (f.length : Int) + 1) = (ds.length : Int) + 1 + (f.length : Int) + 1 := wrap_id (by omega) (by omega)
  have p4 : IntKind.i64.wrap ((ds.length : Int) + 1 + (f.length : Int) + 1 + (t.length : Int)) = (ds.length : Int) + 1 + (f.length : Int) + 1 + (t.length : Int) := wrap_id (by omega) (by omega)
  obtain ⟨s1, e1⟩ : ∃ s1, ds ++ [32] = s1 := ⟨_, rfl⟩
  obtain ⟨s2, e2⟩ : ∃ s2, s1 ++ f = s2 := ⟨_, rfl⟩
  obtain ⟨s3, e3⟩ : ∃ s3, s2 ++ [32] = s3 := ⟨_, rfl⟩
  have HS4 := Lib.hid (show kt = s3 ++ t by rw [HKT.out, ← e3, ← e2, ← e1])
  have l1 : s1.length = ds.length + 1 := by rw [← e1]; simp
  have l2 : s2.length = ds.length + 1 + f.length := by rw [← e2, List.length_append, l1]
  have l3 : s3.length = ds.length + 1 + f.length + 1 := by rw [← e3, List.length_append, l2]; rfl
  have a1 := fun W => add_str ds [32] W (by simp; omega)
  have a2 := fun W => add_str s1 f W (by omega)
  have a3 := fun W => add_str s2 [32] W (by simp; omega)
  have a4 := fun W => add_str s3 t W (by omega)
  rw [e1] at a1
  rw [e2] at a2
  rw [e3] at a3
  rw [← HS4.out] at a4
  clear ht hL hf hT l1 l2 l3 e1 e2 e3
  obtain ⟨E, hE⟩ : ∃ E, (if kt.length ≤ 700 then Ending.returned (.string ⟨kt.toArray⟩) else wrongK 1) = E := ⟨_, rfl⟩
  rw [hE]
  have HEE := Lib.hid hE
  clear hE
  by_cases hk : kt.length ≤ 700
  · have hq : decide ((ds.length : Int) + 1 + (f.length : Int) + 1 + (t.length : Int) ≤ 700) = true := decide_eq_true (by have := HK.out; omega)
    have HR := Lib.hid (show Ending.returned (.string ⟨kt.toArray⟩) = E by rw [← HEE.out, if_pos hk])
    clear hk
    go_enter Tryd.func10, Tryd.ntmps10
    go_wp2_with fail
    refine Calls.mono (HD.out _) ?_
    rintro e w' ⟨rfl, he⟩
    have he := he.symm
    subst he
    go_wp2_with fail
    refine Calls.mono HI.out ?_
    rintro e w1 ⟨rfl, hb⟩
    have HB := Lib.hid hb
    clear hb
    go_wp2_with fail
    refine Calls.mono (HD.out _) ?_
    rintro e w' ⟨rfl, he⟩
    have he := he.symm
    subst he
    go_wp2_with fail
    go_ret
    exact ⟨HR.out, HB.out⟩
  · have hq : decide ((ds.length : Int) + 1 + (f.length : Int) + 1 + (t.length : Int) ≤ 700) = false := decide_eq_false (by have := HK.out; omega)
    have HR := Lib.hid (show wrongK 1 = E by rw [← HEE.out, if_neg hk])
    have HD2 := Lib.hid (fun W => demand_any false W)
    clear hk
    go_enter Tryd.func10, Tryd.ntmps10
    go_wp2_with fail
    refine Calls.mono (HD.out _) ?_
    rintro e w' ⟨rfl, he⟩
    have he := he.symm
    subst he
    go_wp2_with fail
    refine Calls.mono HI.out ?_
    rintro e w1 ⟨rfl, hb⟩
    have HB := Lib.hid hb
    clear hb
    go_wp2_with fail
    refine Calls.mono (HD2.out _) ?_
    rintro e w' ⟨rfl, he⟩
    have he := he.symm
    subst he
    exact ⟨rfl, HR.out, HB.out⟩
end Go.Proofs.YtaglobnfdgencaaDoor

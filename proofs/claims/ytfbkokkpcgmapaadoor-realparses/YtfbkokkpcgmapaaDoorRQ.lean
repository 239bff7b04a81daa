/-
  The library's functions by which a text is parted and numbers are read: CutPrefix and Cut at one byte, ParseUint and Atoi at any text.
  Conditions: as each theorem states them: the library's two errors are values, and the text is not too long.
-/
import Derived.Test.YtfbkokkpcgmapaaDoorRG
import Derived.Test.YtfbkokkpcgmapaaDoorSB
import Derived.Test.YtfbkokkpcgmapaaDoorSC
import Derived.Shelf.Abstract
namespace Go.Proofs.YtfbkokkpcgmapaaDoor
open Go.RowKit

theorem index_no {c : UInt8} : ∀ {s : List UInt8}, c ∉ s → Lib.indexByte s c = -1 := by
  intro s
  induction s with
  | nil => intro _; rfl
  | cons d t ih =>
    intro h
    simp only [List.mem_cons, not_or] at h
    have h1 : (d == c) = false := by simpa using fun e => h.1 e.symm
    rw [Lib.indexByte, ih h.2, h1]
    rfl
theorem index_yes {c : UInt8} : ∀ {s : List UInt8}, c ∈ s → ∃ p r, c ∉ p ∧ s = p ++ c :: r ∧ Lib.indexByte s c = (p.length : Int) := by
  intro s
  induction s with
  | nil => intro h; cases h
  | cons d t ih =>
    intro h
    by_cases hd : d = c
    · subst hd
      refine ⟨[], t, by simp, rfl, ?_⟩
      rw [Lib.indexByte]
      simp
    · have ht : c ∈ t := by
        rcases List.mem_cons.1 h with h | h
        · exact absurd h.symm hd
        · exact h
      obtain ⟨p, r, hp, rfl, hi⟩ := ih ht
      refine ⟨d :: p, r, ?_, rfl, ?_⟩
      · simp only [List.mem_cons, not_or]
        exact ⟨fun e => hd e.symm, hp⟩
      · have h1 : (d == c) = false := by simpa using hd
        rw [Lib.indexByte, hi, h1]
        have h2 : ((p.length : Int) == -1) = false := beq_eq_false_iff_ne.2 (by omega)
        rw [h2]
        simp
theorem ext_eq (s : List UInt8) (i j : Nat) : (⟨s.toArray⟩ : ByteArray).extract i j = ⟨((s.take j).drop i).toArray⟩ := by
  apply ByteArray.ext
  simp [List.drop_take]
theorem drop_cut (p r : List UInt8) (c : UInt8) : List.drop (p.length + 1) (List.take (p.length + (r.length + 1)) (p ++ c :: r)) = r := by
  rw [List.take_of_length_le (by simp), show p ++ c :: r = (p ++ [c]) ++ r by simp]
  exact List.drop_left' (by simp)
/-- What Cut answers at one byte. -/
def CutEnd (c : UInt8) (s : List UInt8) (e : Ending) : Prop :=
  (c ∉ s ∧ e = .returned (.tuple #[.string ⟨s.toArray⟩, .string ⟨#[]⟩, .bool false])) ∨
  ∃ p r, c ∉ p ∧ s = p ++ c :: r ∧ e = .returned (.tuple #[.string ⟨p.toArray⟩, .string ⟨r.toArray⟩, .bool true])
set_option maxHeartbeats 1000000 in
set_option maxRecDepth 100000 in
theorem slCut_one (c : UInt8) (s : List UInt8) (w : World) (hs : s.length ≤ maxLen) :
    Calls Tryd.prog 73 #[.string ⟨s.toArray⟩, .string ⟨#[c]⟩] w fun e w' => CutEnd c s e ∧ ∃ n, w' = w.drewN n := by
  unfold maxLen at hs
  have HI := Lib.hid (Tryd.stringslite_Index_one ⟨s.toArray⟩ c w)
  by_cases h : c ∈ s
  · obtain ⟨p, r, hp, hs', hi⟩ := index_yes h
    have HP := Lib.hid hp
    have HS := Lib.hid hs'
    have HX := Lib.hid hi
    have hpl : p.length < s.length := by rw [hs']; simp
    have hpi : (p.length : Int) < (s.length : Int) := by omega
    have hp1 : (p.length : Int) + 1 ≤ (s.length : Int) := by omega
    have hw1 : IntKind.i64.wrap ((p.length : Int) + 1) = (p.length : Int) + 1 := IntWalk.i64_in _ (by omega)
    clear hp hs' hi h
    go_enter Tryd.func73, Tryd.ntmps73
    go_wp2_with fail
    refine Calls.mono HI.out ?_
    rintro e w' ⟨rfl, rfl⟩
    rw [HX.out]
    go_wp2_with fail
    go_quiet (fail)
    go_wp2
    go_ret3
    refine ⟨.inr ⟨p, r, HP.out, HS.out, ?_⟩, _, rfl⟩
    rw [ext_eq, ext_eq, HS.out]
    simp [drop_cut]
  · have HX := Lib.hid (index_no h)
    have HN := Lib.hid h
    clear h
    go_enter Tryd.func73, Tryd.ntmps73
    go_wp2_with fail
    refine Calls.mono HI.out ?_
    rintro e w' ⟨rfl, rfl⟩
    rw [HX.out]
    go_wp2
    go_ret3
    exact ⟨.inl ⟨HN.out, rfl⟩, 0, rfl⟩
theorem cut_one (c : UInt8) (s : List UInt8) (w : World) (hs : s.length ≤ maxLen) :
    Calls Tryd.prog 62 #[.string ⟨s.toArray⟩, .string ⟨#[c]⟩] w fun e w' => CutEnd c s e ∧ ∃ n, w' = w.drewN n := by
  have HC := Lib.hid (slCut_one c s w hs)
  go_enter Tryd.func62, Tryd.ntmps62
  go_wp2_with fail
  refine Calls.mono HC.out ?_
  rintro e w' ⟨⟨hn, rfl⟩ | ⟨p, r, hp, hr, rfl⟩, n, rfl⟩
  · have HN := Lib.hid hn
    clear hn
    go_wp2
    go_ret3
    exact ⟨.inl ⟨HN.out, rfl⟩, n, rfl⟩
  · have HP := Lib.hid hp
    have HR := Lib.hid hr
    clear hp hr
    go_wp2
    go_ret3
    exact ⟨.inr ⟨p, r, HP.out, HR.out, rfl⟩, n, rfl⟩
/-- What CutPrefix answers at one byte. -/
def PreEnd (c : UInt8) (s : List UInt8) (e : Ending) : Prop :=
  (∃ t, s = c :: t ∧ e = .returned (.tuple #[.string ⟨t.toArray⟩, .bool true])) ∨ (s.head? ≠ some c ∧ e = .returned (.tuple #[.string ⟨s.toArray⟩, .bool false]))
theorem cutPre_one (c : UInt8) (s : List UInt8) (w : World) : Calls Tryd.prog 61 #[.string ⟨s.toArray⟩, .string ⟨#[c]⟩] w fun e w' => PreEnd c s e ∧ w = w' := by
  refine (Tryd.strings_CutPrefix _ _ w).mono ?_
  rintro e w' ⟨rfl, rfl⟩
  refine ⟨?_, rfl⟩
  cases s with
  | nil => exact .inr ⟨by simp, rfl⟩
  | cons d t =>
    by_cases h : d = c
    · subst h
      refine .inl ⟨t, rfl, ?_⟩
      simp [Lib.trimPrefix, Lib.hasPrefix]
    · refine .inr ⟨by simpa using h, ?_⟩
      have h1 : (c == d) = false := by simpa using fun e => h e.symm
      simp [Lib.trimPrefix, Lib.hasPrefix, List.isPrefixOf, h1]

/-- The library's two errors are values. -/
structure Errs (w : World) : Prop where
  syn : ∃ tp p, w.var? Tryd.prog "strconv.ErrSyntax" = some #[.iface tp p]
  rng : ∃ tp p, w.var? Tryd.prog "strconv.ErrRange" = some #[.iface tp p]
theorem gSyn : Tryd.prog.globalNamed "strconv.ErrSyntax" = some 4 := by kernel_rfl
theorem gRng : Tryd.prog.globalNamed "strconv.ErrRange" = some 5 := by kernel_rfl
theorem var_stays {w w' : World} {n : String} {g : Nat} {cs : Array Value} (hg : Tryd.prog.globalNamed n = some g) (h : w.var? Tryd.prog n = some cs) (hb : Below w.heap.size w w') : w'.var? Tryd.prog n = some cs := by
  unfold World.var? at h ⊢
  rw [hg] at h ⊢
  simp only [Option.bind_some] at h ⊢
  cases hh : w.heap[g]? with
  | none => rw [hh] at h; cases h
  | some o =>
    rw [hb.block g (Array.getElem?_eq_some_iff.1 hh).1]
    exact h
theorem Errs.keep {w w' : World} (h : Errs w) (hb : Below w.heap.size w w') : Errs w' := by
  obtain ⟨⟨tp, p, h1⟩, ⟨tq, q, h2⟩⟩ := h
  exact ⟨⟨tp, p, var_stays gSyn h1 hb⟩, ⟨tq, q, var_stays gRng h2 hb⟩⟩

/-- How a reading of a number ends: the number and no error, or some number and an error. -/
def NumIs {α : Type} (mk : α → Value) (r : Lib.NumEnd α) (e : Ending) : Prop :=
  ∃ z ev, e = .returned (.tuple #[mk z, ev]) ∧ ((r = .ok z ∧ ev = .nilIface) ∨ ((∀ m, r ≠ .ok m) ∧ ∃ q, ev = .iface 95 q))
theorem parseUint_any (s : List UInt8) (w : World) (hE : Errs w) (hs : s.length ≤ 10000) :
    Calls Tryd.prog 63 #[.string ⟨s.toArray⟩, .int .i64 10, .int .i64 64] w fun e w' => NumIs (fun z : Nat => Value.int .u64 (z : Int)) (Lib.parseUintB 64 s) e ∧ Below w.heap.size w w' := by
  obtain ⟨⟨tp, p, h1⟩, ⟨tq, q, h2⟩⟩ := hE
  have hsz : (⟨s.toArray⟩ : ByteArray).size = s.length := rfl
  cases hr : Lib.parseUintB 64 s
  · rename_i m
    refine (Tryd.strconv_ParseUint_10_at64_ok ⟨s.toArray⟩ (by rw [hsz]; omega) m hr w).mono ?_
    rintro e w' ⟨rfl, hw⟩
    refine ⟨⟨m, _, rfl, .inl ⟨rfl, rfl⟩⟩, ?_⟩
    rcases hw with rfl | rfl
    · exact Below.refl _ _
    · exact Lib.bytesWorld_below _ _ _
  · have H : Calls Tryd.prog 63 #[.string ⟨s.toArray⟩, .int .i64 10, .int .i64 64] w fun e w' => ∃ N, e = .returned (.tuple #[.int .u64 0, .iface 95 (.pointer (some ⟨N, 0, none⟩))]) ∧ w.heap.size ≤ N ∧ w'.heap[N]? = some (.cells #[.string ⟨#[80, 97, 114, 115, 101, 85, 105, 110, 116]⟩, .string ⟨s.toArray⟩, .iface tp p] 104 (0, 0)) ∧ Below w.heap.size w w' := Any.strconv_ParseUint_10_at64_syntax_var Tryd.laysPu14 ⟨s.toArray⟩ (by rw [hsz]; omega) hr tp p w h1
    refine H.mono ?_
    rintro e w' ⟨N, rfl, _, _, hb⟩
    exact ⟨⟨0, _, rfl, .inr ⟨(fun m h => by cases h), _, rfl⟩⟩, hb⟩
  · refine (Tryd.strconv_ParseUint_10_at64_range_var ⟨s.toArray⟩ (by rw [hsz]; omega) hr tq q w h2).mono ?_
    rintro e w' ⟨N, rfl, _, _, hb⟩
    exact ⟨⟨18446744073709551615, _, rfl, .inr ⟨(fun m h => by cases h), _, rfl⟩⟩, hb⟩
theorem atoi_any (s : List UInt8) (w : World) (hE : Errs w) (hs : s.length ≤ 10000) :
    Calls Tryd.prog 64 #[.string ⟨s.toArray⟩] w fun e w' => NumIs (fun z : Int => Value.int .i64 z) (Lib.atoiAll s) e ∧ Below w.heap.size w w' := by
  obtain ⟨⟨tp, p, h1⟩, ⟨tq, q, h2⟩⟩ := hE
  have hsz : (⟨s.toArray⟩ : ByteArray).size = s.length := rfl
  cases hr : Lib.atoiAll s
  · rename_i m
    refine (Tryd.strconv_Atoi_ok ⟨s.toArray⟩ (by rw [hsz]; omega) m hr w).mono ?_
    rintro e w' ⟨rfl, hw⟩
    refine ⟨⟨m, _, rfl, .inl ⟨rfl, rfl⟩⟩, ?_⟩
    rcases hw with rfl | ⟨t, rfl⟩
    · exact Below.refl _ _
    · exact Lib.bytesWorld_below _ _ _
  · have H : Calls Tryd.prog 64 #[.string ⟨s.toArray⟩] w fun e w' => ∃ N, e = .returned (.tuple #[.int .i64 0, .iface 95 (.pointer (some ⟨N, 0, none⟩))]) ∧ w.heap.size ≤ N ∧ w'.heap[N]? = some (.cells #[.string ⟨#[65, 116, 111, 105]⟩, .string ⟨s.toArray⟩, .iface tp p] 104 (0, 0)) ∧ Below w.heap.size w w' := Any.strconv_Atoi_syntax_var Tryd.laysC172 ⟨s.toArray⟩ (by rw [hsz]; omega) hr tp p w h1
    refine H.mono ?_
    rintro e w' ⟨N, rfl, _, _, hb⟩
    exact ⟨⟨0, _, rfl, .inr ⟨(fun m h => by cases h), _, rfl⟩⟩, hb⟩
  · refine (Tryd.strconv_Atoi_range_var ⟨s.toArray⟩ (by rw [hsz]; omega) hr tq q w h2).mono ?_
    rintro e w' ⟨N, rfl, _, _, hb⟩
    exact ⟨⟨_, _, rfl, .inr ⟨(fun m h => by cases h), _, rfl⟩⟩, hb⟩

theorem len64_any (m : Nat) (w : World) (h : m < 18446744073709551616) : Calls Tryd.prog 77 #[.int .u64 (m : Int)] w fun e w' => e = .returned (.int .i64 (Lib.bitLen m : Int)) ∧ w' = w :=
  Tryd.bits_Len64 (m : Int) w (by omega) (by omega)
theorem fits_any (m : Nat) (e : Int) (w : World) (hm : m < 18446744073709551616) (_he0 : -9223372036854775808 ≤ e) (_he : e ≤ 9223372036854775807) : Calls Tryd.prog 65 #[.int .u64 (m : Int), .int .i64 e] w fun o w' => o = .returned (.bool (fitsL m e)) ∧ w' = w := by
  have HL := Lib.hid (fun W => len64_any m W hm)
  have HE := Lib.hid (show fitsL m e = (decide (Lib.bitLen m ≤ 53) && decide (-1074 ≤ e) && decide (e ≤ 1024 - (Lib.bitLen m : Int))) from rfl)
  have h64 := Lib.bitLen_le m 64 (Nat.le_refl _) (by omega)
  generalize Lib.bitLen m = n at *
  by_cases h1 : n ≤ 53
  · have h1i : (n : Int) ≤ 53 := by omega
    rw [decide_eq_true h1] at HE
    by_cases h2 : -1074 ≤ e
    · rw [decide_eq_true h2] at HE
      have hsub : (1024 : Int) - (n : Int) ≤ 1024 := by omega
      go_enter Tryd.func65, Tryd.ntmps65
      go_wp2_with fail
      refine Calls.mono (HL.out _) ?_
      rintro e w' ⟨rfl, rfl⟩
      go_wp2_with fail
      go_ret
      exact ⟨by rw [HE.out]; simp, rfl⟩
    · have h2d : decide (-1074 ≤ e) = false := decide_eq_false h2
      rw [h2d] at HE
      go_enter Tryd.func65, Tryd.ntmps65
      go_wp2_with fail
      refine Calls.mono (HL.out _) ?_
      rintro e w' ⟨rfl, rfl⟩
      go_wp2_with fail
      go_ret
      exact ⟨by rw [HE.out]; rfl, rfl⟩
  · have h1d : decide ((n : Int) ≤ 53) = false := decide_eq_false (by omega)
    rw [decide_eq_false h1] at HE
    go_enter Tryd.func65, Tryd.ntmps65
    go_wp2_with fail
    refine Calls.mono (HL.out _) ?_
    rintro e w' ⟨rfl, rfl⟩
    go_wp2_with fail
    go_ret
    exact ⟨by rw [HE.out]; rfl, rfl⟩

set_option maxRecDepth 100000 in
theorem join_any (m : Nat) (e : Int) (w : World) (hm : m < 18446744073709551616) (hf : fitsL m e = true) : Calls Tryd.prog 66 #[.int .u64 (m : Int), .int .i64 e] w fun o w' => o = .returned (.int .u64 (joinL m e : Int)) ∧ w' = w := by
  have HL := Lib.hid (fun W => len64_any m W hm)
  have hj := join_lt hm hf
  have hlt := len_lt hm
  unfold fitsL at hf
  simp only [Bool.and_eq_true, decide_eq_true_eq] at hf
  obtain ⟨⟨h1, h2⟩, h3⟩ := hf
  obtain ⟨E, hE⟩ : ∃ E : Nat, e + 1074 = (E : Int) := ⟨(e + 1074).toNat, by omega⟩
  have hEn : (e + 1074).toNat = E := by omega
  obtain ⟨u, hu⟩ : ∃ u, upL m e = u := ⟨_, rfl⟩
  have hu2 : u = min (53 - Lib.bitLen m) E := by rw [← hu, ← hEn]; rfl
  obtain ⟨M, hM⟩ : ∃ M, m * 2 ^ u = M := ⟨_, rfl⟩
  have HJ := Lib.hid (show joinL m e = (E - u) * 4503599627370496 + M by unfold joinL; rw [hu, hEn, hM])
  have hMj : M < 9218868437227405312 := by
    have := HJ.out
    omega
  have hMi : (m : Int) * 2 ^ u = (M : Int) := by rw [← hM, Int.natCast_mul, Int.natCast_pow]; rfl
  generalize Lib.bitLen m = n at *
  have hmin : min ((53 : Int) - (n : Int)) (e + 1074) = (u : Int) := by omega
  have hmin0 : min ((53 : Int) - (n : Int)) (e - -1074) = (u : Int) := by omega
  have hu64 : min u 64 = u := by omega
  have hk : (e - (u : Int)) + 1074 = ((E - u : Nat) : Int) := by omega
  obtain ⟨k, hk2⟩ : ∃ k, E - u = k := ⟨_, rfl⟩
  rw [hk2] at hk
  have hkb : k ≤ 2046 := by omega
  rw [hk2] at HJ
  have hjj : (k * 4503599627370496 + M : Nat) < 9218868437227405312 := by rw [← HJ.out]; exact hj
  have hs1 : (53 : Int) - (n : Int) ≤ 53 := by omega
  have hs0 : (0 : Int) ≤ 53 - (n : Int) := by omega
  have he1 : e = (E : Int) - 1074 := by omega
  have hki : (E : Int) - 1074 - (u : Int) = (k : Int) - 1074 := by omega
  have hEb : (E : Int) ≤ 2098 := by omega
  have huE : (u : Int) ≤ (E : Int) := by omega
  have hmin2 : min ((53 : Int) - (n : Int)) (E : Int) = (u : Int) := by omega
  subst he1
  clear hk hk2 hu2 hM hlt h1 h2 h3 hE hEn hu hj hmin hmin0
  go_enter Tryd.func66, Tryd.ntmps66
  go_wp2_with fail
  refine Calls.mono (HL.out _) ?_
  rintro e w' ⟨rfl, rfl⟩
  go_wp2_with fail
  go_ret
  exact ⟨by rw [HJ.out]; go_num, rfl⟩
theorem or_top {x : Nat} (h : x < 9223372036854775808) : bits .or .u64 (x : Int) 9223372036854775808 = ((x + 9223372036854775808 : Nat) : Int) := by
  rw [show (9223372036854775808 : Int) = ((9223372036854775808 : Nat) : Int) from rfl, bits_or_u64_nat x _ (by omega) (by decide), Nat.or_comm]
  have := Nat.two_pow_add_eq_or_of_lt (i := 63) (b := x) (by omega) 1
  rw [Nat.mul_one] at this
  rw [show (9223372036854775808 : Nat) = 2 ^ 63 from rfl, ← this, Nat.add_comm]
end Go.Proofs.YtfbkokkpcgmapaaDoor

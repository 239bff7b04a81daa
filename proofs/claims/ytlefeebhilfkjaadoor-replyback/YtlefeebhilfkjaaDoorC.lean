/-
  The readers of a code and of a line, walked: they answer what the plain mathematics says, or panic with a fault.
  Conditions: as each theorem states them.
-/
import Derived.Test.YtlefeebhilfkjaaDoorB
import Derived.BigQuiet
namespace Go.Proofs.YtlefeebhilfkjaaDoor
open Go.RowKit

/-- A panic with a fault. -/
def pan (n : Int) : Ending := .panicked [{ v := .iface 63 (.agg #[.int .i64 n]), recovered := false }]

/-- The number that some digits write. -/
def valN (t : List UInt8) : Nat := t.foldl (fun n c => 10 * n + (c.toNat - 48)) 0

theorem val_snoc (t : List UInt8) (c : UInt8) : valN (t ++ [c]) = 10 * valN t + (c.toNat - 48) := by simp [valN]

theorem val_lt {t : List UInt8} (h : t.length ≤ 2) (hd : t.all digB = true) : valN t < 100 := by
  match t, h with
  | [], _ => exact Nat.lt_of_sub_eq_succ rfl
  | [a], _ =>
    have := dig_lt (show digB a = true by simpa using hd)
    simp [valN]
    omega
  | [a, b], _ =>
    have hd' : digB a = true ∧ digB b = true := by simpa using hd
    have h1 := dig_lt hd'.1
    have h2 := dig_lt hd'.2
    simp [valN]
    omega

theorem val_cod (a b c : UInt8) : valN [a, b, c] = cod a b c := by
  simp [valN, cod]
  omega

/-- How readCode ends. -/
def codeEnd (a b c : UInt8) (e : Ending) : Prop := (codB a b c = true ∧ e = .returned (.int .i64 (cod a b c))) ∨ (codB a b c = false ∧ e = pan 1)

theorem take_snoc {s : List UInt8} {j : Nat} (h : j < s.length) : s.take (j + 1) = s.take j ++ [s[j]] := by
  rw [List.take_add_one, List.getElem?_eq_getElem h]; rfl

theorem not_cod {a b c : UInt8} {j : Nat} (h : j < [a, b, c].length) (hd : digB ([a, b, c][j]) = false) : codB a b c = false := by
  match j, h with
  | 0, _ =>
    have hd : digB a = false := hd
    simp [codB, hd]
  | 1, _ =>
    have hd : digB b = false := hd
    simp [codB, hd]
  | 2, _ =>
    have hd : digB c = false := hd
    simp [codB, hd]

set_option maxHeartbeats 1000000 in
set_option maxRecDepth 100000 in
theorem readCode_any (a b c : UInt8) (w : World) :
    Calls Tryd.prog 35 #[.string ⟨[a, b, c].toArray⟩] w fun e w' => codeEnd a b c e ∧ w = w' := by
  obtain ⟨s, hs⟩ : ∃ s, s = [a, b, c] := ⟨_, rfl⟩
  have hl : s.length = 3 := by rw [hs]; rfl
  rw [← hs]
  have HS := Lib.hid hs
  clear hs
  go_enter Tryd.func35, Tryd.ntmps35
  go_wp2_with fail
  go_loop [3, 7] (fun v i => ∃ j : Nat, j ≤ 3 ∧ i = .int .i64 j ∧ v = .int .i64 (valN (s.take j)) ∧ (s.take j).all digB = true) (fun _ i => 3 - (intOf i).toNat)
  case atStart => exact ⟨0, by omega, rfl, rfl, rfl⟩
  case round =>
    obtain ⟨j, hj, rfl, rfl, hall⟩ := hrel
    have HA := Lib.hid hall
    clear hall
    by_cases hlt : j < s.length
    · have hjB : j < (⟨s.toArray⟩ : ByteArray).size := hlt
      have hel : ((⟨s.toArray⟩ : ByteArray)[j]'hjB) = s[j] := rfl
      have hv : valN (s.take j) < 100 := val_lt (by simp; omega) HA.out
      have HN := Lib.hid (val_snoc (s.take j) s[j])
      have HT := Lib.hid (take_snoc hlt)
      by_cases h1 : s[j].toNat < 48
      · have hA : ((((⟨s.toArray⟩ : ByteArray)[j]'hjB).toNat : Nat) : Int) < 48 := by rw [hel]; omega
        have HE := Lib.hid (show codB a b c = false from by
          have hd : digB s[j] = false := by simp [digB]; omega
          have e := HS.out
          subst e
          exact not_cod hlt hd)
        clear h1 hel
        go_wp2
        exact ⟨rfl, .inr ⟨HE.out, rfl⟩, rfl⟩
      · have hA : ¬ (((((⟨s.toArray⟩ : ByteArray)[j]'hjB).toNat : Nat) : Int) < 48) := by rw [hel]; omega
        by_cases h2 : 57 < s[j].toNat
        · have hB : (57 : Int) < ((((⟨s.toArray⟩ : ByteArray)[j]'hjB).toNat : Nat) : Int) := by rw [hel]; omega
          have HE := Lib.hid (show codB a b c = false from by
            have hd : digB s[j] = false := by simp [digB]; omega
            have e := HS.out
            subst e
            exact not_cod hlt hd)
          clear h1 h2 hel
          go_wp2
          exact ⟨rfl, .inr ⟨HE.out, rfl⟩, rfl⟩
        · have hB : ¬ ((57 : Int) < ((((⟨s.toArray⟩ : ByteArray)[j]'hjB).toNat : Nat) : Int)) := by rw [hel]; omega
          have HE := Lib.hid (show digB s[j] = true by simp [digB]; omega)
          have HB := Lib.hid (show 48 ≤ s[j].toNat by omega)
          clear h1 h2 hel
          generalize valN (s.take j) = v at *
          go_wp2
          go_round
          case rel =>
            refine ⟨j + 1, by omega, by go_num, ?_, ?_⟩
            · rw [HT.out, HN.out]
              have hb := HB.out
              have hel : ((⟨s.toArray⟩ : ByteArray)[j]'hjB) = s[j] := rfl
              rw [hel]
              congr 1
              omega
            · rw [HT.out, List.all_append, HA.out]
              simp [HE.out]
          case measure => simp [intOf]; omega
    · obtain rfl : j = 3 := by omega
      have ht : s.take 3 = s := List.take_of_length_le (by omega)
      rw [ht] at HA
      rw [ht]
      have hdig : digB a = true ∧ digB b = true ∧ digB c = true := by
        have := HA.out
        rw [HS.out] at this
        simpa using this
      have hv : valN s = cod a b c := by rw [HS.out, val_cod]
      have HC := Lib.hid (cod_ok hdig.1 hdig.2.1 hdig.2.2)
      rw [hv]
      clear hv ht hdig
      cases hc : codB a b c with
      | true =>
        have HCC := Lib.hid hc
        clear hc
        go_wp2_with fail
        refine (validCode_any _ _).mono ?_
        rintro e w1 ⟨rfl, rfl⟩
        rw [HC.out, HCC.out]
        go_wp2
        go_ret
        exact ⟨.inl ⟨HCC.out, rfl⟩, rfl⟩
      | false =>
        have HCC := Lib.hid hc
        clear hc
        go_wp2_with fail
        refine (validCode_any _ _).mono ?_
        rintro e w1 ⟨rfl, rfl⟩
        rw [HC.out, HCC.out]
        go_wp2
        exact ⟨rfl, .inr ⟨HCC.out, rfl⟩, rfl⟩
end Go.Proofs.YtlefeebhilfkjaaDoor

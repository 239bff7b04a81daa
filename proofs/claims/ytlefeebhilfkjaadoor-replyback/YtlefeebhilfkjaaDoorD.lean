/-
  The reader of a line, walked: it takes a line apart, or panics with a fault.
  Conditions: the line has at most 2^63 - 1 bytes.
-/
import Derived.Test.YtlefeebhilfkjaaDoorC
namespace Go.Proofs.YtlefeebhilfkjaaDoor
open Go.RowKit

/-- How readLine ends. -/
def lineEnd (r : Option (Nat × Bool × List UInt8)) (e : Ending) : Prop :=
  match r with
  | some (c, m, x) => e = .returned (.tuple #[.int .i64 c, .bool m, .string ⟨x.toArray⟩])
  | none => e = pan 1

theorem lineEnd_bad {r : Option (Nat × Bool × List UInt8)} (h : r = none) : lineEnd r (pan 1) := by subst h; rfl
theorem lineEnd_good {r : Option (Nat × Bool × List UInt8)} {c : Nat} {m : Bool} {x : List UInt8} (h : r = some (c, m, x)) {v : Value} (hv : v = .tuple #[.int .i64 c, .bool m, .string ⟨x.toArray⟩]) : lineEnd r (.returned v) := by subst h; subst hv; rfl

theorem line_short {s : List UInt8} (h : s.length < 3) : lineL s = none := by
  match s, h with
  | [], _ => rfl
  | [_], _ => rfl
  | [_, _], _ => rfl

theorem head_eq (a b c : UInt8) (t : List UInt8) : (⟨(a :: b :: c :: t).toArray⟩ : ByteArray).extract 0 3 = ⟨[a, b, c].toArray⟩ := mk_eq (by rw [Lib.extract_data]; simp)
theorem tail_eq (a b c g : UInt8) (u : List UInt8) : (⟨(a :: b :: c :: g :: u).toArray⟩ : ByteArray).extract 4 (⟨(a :: b :: c :: g :: u).toArray⟩ : ByteArray).size = ⟨u.toArray⟩ := mk_eq (by
  rw [Lib.extract_data]
  show (u.take _) = u
  rw [List.take_of_length_le]
  show u.length ≤ (a :: b :: c :: g :: u).length - 4
  simp)

set_option maxHeartbeats 400000 in
set_option maxRecDepth 100000 in
theorem readLine_any (s : List UInt8) (w : World) (hs : s.length ≤ maxLen) :
    Calls Tryd.prog 32 #[.string ⟨s.toArray⟩] w fun e w' => lineEnd (lineL s) e ∧ ∃ n, w' = w.drewN n := by
  have hm := hs
  unfold maxLen at hm
  by_cases h3 : s.length < 3
  · have HE := Lib.hid (line_short h3)
    go_enter Tryd.func32, Tryd.ntmps32
    go_wp2_with fail
    exact ⟨rfl, lineEnd_bad HE.out, 0, rfl⟩
  · obtain ⟨a, b, c, t, rfl⟩ : ∃ a b c t, s = a :: b :: c :: t := by
      match s, h3 with
      | a :: b :: c :: t, _ => exact ⟨a, b, c, t, rfl⟩
      | [], h => exact absurd (Nat.zero_lt_succ _) h
      | [_], h => exact absurd (Nat.lt_of_sub_eq_succ rfl) h
      | [_, _], h => exact absurd (Nat.lt_of_sub_eq_succ rfl) h
    have HL := Lib.hid (show lineL (a :: b :: c :: t) = if codB a b c = true then restL (cod a b c) t else none from rfl)
    rcases t with _ | ⟨g, u⟩
    · obtain ⟨s, hs'⟩ : ∃ s, s = [a, b, c] := ⟨_, rfl⟩
      have hl : s.length = 3 := by rw [hs']; rfl
      have HX := Lib.hid (show (⟨s.toArray⟩ : ByteArray).extract 0 3 = ⟨[a, b, c].toArray⟩ by rw [hs']; exact head_eq a b c [])
      rw [← hs'] at HL hm ⊢
      clear hs h3
      have HS := Lib.hid hs'
      clear hs'
      go_enter Tryd.func32, Tryd.ntmps32
      go_wp2_with fail
      rw [HX.out]
      refine (readCode_any a b c _).mono ?_
      rintro e w1 ⟨he, rfl⟩
      rcases he with ⟨hc, rfl⟩ | ⟨hc, rfl⟩
      · have HE := Lib.hid (show lineL s = some (cod a b c, false, []) by rw [HL.out, if_pos hc]; rfl)
        clear hc
        go_wp2_with fail
        refine bodyPost_ret (v := .tuple #[.int .i64 (cod a b c), .bool false, .string ⟨#[]⟩]) (by simp [results, Tryd.results32, go_sem]) rfl ?_
        exact ⟨lineEnd_good HE.out rfl, 0, rfl⟩
      · have HE := Lib.hid (show lineL s = none by rw [HL.out, if_neg (by rw [hc]; exact Bool.false_ne_true)])
        clear hc
        exact ⟨rfl, lineEnd_bad HE.out, 0, rfl⟩
    · have HY := Lib.hid (tail_eq a b c g u)
      have HG := Lib.hid (show ∀ h : 3 < (⟨(a :: b :: c :: g :: u).toArray⟩ : ByteArray).size, ((⟨(a :: b :: c :: g :: u).toArray⟩ : ByteArray)[3]'h) = g from fun _ => rfl)
      have hu : u.length ≤ maxLen := by simp at hm; unfold maxLen; omega
      obtain ⟨s, hs'⟩ : ∃ s, s = a :: b :: c :: g :: u := ⟨_, rfl⟩
      have hl : 3 < s.length := by rw [hs']; simp
      have hu2 : u.length + 4 = s.length := by rw [hs']; simp
      have HX := Lib.hid (show (⟨s.toArray⟩ : ByteArray).extract 0 3 = ⟨[a, b, c].toArray⟩ by rw [hs']; exact head_eq a b c (g :: u))
      rw [← hs'] at HL HY HG hm ⊢
      clear hs h3
      have HS := Lib.hid hs'
      clear hs'
      have hl4 : 4 ≤ s.length := hl
      have hl3 : ¬ (s.length < 3) := by omega
      have hlB : 3 < (⟨s.toArray⟩ : ByteArray).size := hl
      have hi3 : (3 : Int) < (s.length : Int) := by omega
      have hi4 : (4 : Int) ≤ (s.length : Int) := by omega
      go_enter Tryd.func32, Tryd.ntmps32
      go_wp2_with fail
      rw [HX.out]
      refine (readCode_any a b c _).mono ?_
      rintro e w1 ⟨he, rfl⟩
      rcases he with ⟨hc, rfl⟩ | ⟨hc, rfl⟩
      · have HC := Lib.hid hc
        clear hc
        go_wp2_with fail
        go_quiet (fail)
        rw [show (⟨s.toArray⟩ : ByteArray).extract 4 s.length = ⟨u.toArray⟩ from HY.out, HG.out hlB]
        have HR := Lib.hid (show lineL s = restL (cod a b c) (g :: u) by rw [HL.out, if_pos HC.out])
        clear HG HY HX HL HS
        by_cases h45 : g = 45
        · subst h45
          cases htx : textOk u with
          | true =>
            have HE := Lib.hid (show lineL s = some (cod a b c, true, u) by rw [HR.out, restL, if_pos ⟨.inl rfl, htx⟩]; rfl)
            have HX := Lib.hid htx
            clear htx
            go_wp2_with fail
            refine (validText_any u _ hu).mono ?_
            rintro e w1 ⟨rfl, rfl⟩
            rw [HX.out]
            go_wp2_with fail
            refine bodyPost_ret (v := .tuple #[.int .i64 (cod a b c), .bool true, .string ⟨u.toArray⟩]) (by simp [results, Tryd.results32, go_sem]) rfl ?_
            exact ⟨lineEnd_good HE.out rfl, nq, rfl⟩
          | false =>
            have HE := Lib.hid (show lineL s = none by rw [HR.out, restL, if_neg (fun h => by rw [htx] at h; exact Bool.false_ne_true h.2)])
            have HX := Lib.hid htx
            clear htx
            go_wp2_with fail
            refine (validText_any u _ hu).mono ?_
            rintro e w1 ⟨rfl, rfl⟩
            rw [HX.out]
            go_wp2_with fail
            exact ⟨rfl, lineEnd_bad HE.out, nq, rfl⟩
        · have hA : (((g.toNat : Nat) : Int) != 45) = true := by
            rw [bne_iff_ne]
            intro e
            exact h45 (UInt8.toNat_inj.1 (by show g.toNat = 45; omega))
          have hA2 : (((g.toNat : Nat) : Int) == 45) = false := by
            rw [beq_eq_false_iff_ne]
            intro e
            exact h45 (UInt8.toNat_inj.1 (by show g.toNat = 45; omega))
          by_cases h32 : g = 32
          · have hB : (((g.toNat : Nat) : Int) != 32) = false := by rw [h32]; rfl
            cases htx : textOk u with
            | true =>
              have HE := Lib.hid (show lineL s = some (cod a b c, false, u) by rw [HR.out, restL, if_pos ⟨.inr h32, htx⟩]; simp [h45])
              have HX := Lib.hid htx
              clear htx h45 h32
              go_wp2_with fail
              refine (validText_any u _ hu).mono ?_
              rintro e w1 ⟨rfl, rfl⟩
              rw [HX.out]
              go_wp2_with fail
              refine bodyPost_ret (v := .tuple #[.int .i64 (cod a b c), .bool false, .string ⟨u.toArray⟩]) (by simp [results, Tryd.results32, go_sem]) rfl ?_
              exact ⟨lineEnd_good HE.out rfl, nq, rfl⟩
            | false =>
              have HE := Lib.hid (show lineL s = none by rw [HR.out, restL, if_neg (fun h => by rw [htx] at h; exact Bool.false_ne_true h.2)])
              have HX := Lib.hid htx
              clear htx h45 h32
              go_wp2_with fail
              refine (validText_any u _ hu).mono ?_
              rintro e w1 ⟨rfl, rfl⟩
              rw [HX.out]
              go_wp2_with fail
              exact ⟨rfl, lineEnd_bad HE.out, nq, rfl⟩
          · have hB : (((g.toNat : Nat) : Int) != 32) = true := by
              rw [bne_iff_ne]
              intro e
              exact h32 (UInt8.toNat_inj.1 (by show g.toNat = 32; omega))
            have HE := Lib.hid (show lineL s = none by rw [HR.out, restL, if_neg (fun h => h.1.elim h45 h32)])
            clear h45 h32
            go_wp2_with fail
            exact ⟨rfl, lineEnd_bad HE.out, nq, rfl⟩
      · have HE := Lib.hid (show lineL s = none by rw [HL.out, if_neg (by rw [hc]; exact Bool.false_ne_true)])
        clear hc
        exact ⟨rfl, lineEnd_bad HE.out, 0, rfl⟩
end Go.Proofs.YtlefeebhilfkjaaDoor

/-
  The page's Stuff, walked: of a text it answers how it is sent.
  Conditions: the text is one.
-/
import Derived.Test.YtdebkbocpljkbaaG
namespace Go.Proofs.Ytdebkbocpljkbaa
open Go.RowKit

theorem StrRow.opened {w : World} {B : Nat} {v : Value} {rows : List (List UInt8)} (h : StrRow w B v rows) :
    ∃ A c, v = .slice A rows.length c ∧ (rows ≠ [] → ∃ g, A = some ⟨g, 0, none⟩ ∧ ∀ i (hi : i < rows.length), w.cell? ⟨g, i, none⟩ = some (.string ⟨rows[i].toArray⟩)) := by
  rcases h.2 with ⟨hv, h0⟩ | ⟨g, cap, cur, hv, _⟩
  · exact ⟨none, 0, by rw [hv, h0], fun hne => absurd (List.eq_nil_of_length_eq_zero h0) hne⟩
  · refine ⟨_, cap, hv, fun _ => ⟨g, rfl, fun i hi => ?_⟩⟩
    have := h.cells (g := g) (by rw [hv]; rfl) i (.string ⟨rows[i].toArray⟩) (by simp [strsOf, hi])
    rwa [Addr.add_lit, Nat.zero_add] at this

theorem str_append (a b : List UInt8) : ((⟨a.toArray⟩ : ByteArray) ++ (⟨b.toArray⟩ : ByteArray)) = ⟨(a ++ b).toArray⟩ := by
  apply mk_eq
  simp

theorem add_str (a b : List UInt8) (w : World) (h : a.length + b.length ≤ 100000) : (Op.stringOp .add ⟨a.toArray⟩ ⟨b.toArray⟩).run Try.prog w = .ok (.string ⟨(a ++ b).toArray⟩) w :=
  run_string_add_lists (P := Try.prog) w a b (by omega) (by omega)

theorem str_eq {a b : List UInt8} (h : a = b) : Value.string ⟨a.toArray⟩ = Value.string ⟨b.toArray⟩ := by rw [h]

theorem stuffL_take {rows : List (List UInt8)} {j : Nat} (h : j < rows.length) : stuffL (rows.take (j + 1)) = stuffL (rows.take j) ++ ((if Lib.hasPrefix rows[j] [46] then [46] else []) ++ rows[j] ++ [13, 10]) := by
  rw [List.take_add_one, List.getElem?_eq_getElem h, stuffL_append]
  simp [stuffL_one]

theorem joinL_take (rows : List (List UInt8)) (j : Nat) : (joinL (rows.take j)).length ≤ (joinL rows).length := by
  have : joinL rows = joinL (rows.take j) ++ joinL (rows.drop j) := by rw [← joinL_append, List.take_append_drop]
  rw [this]
  simp

theorem row_le {rows : List (List UInt8)} {j : Nat} (h : j < rows.length) : rows[j].length ≤ (joinL rows).length := by
  have h1 : joinL rows = joinL (rows.take j) ++ joinL (rows.drop j) := by rw [← joinL_append, List.take_append_drop]
  rw [h1, List.drop_eq_getElem_cons h, joinL_cons]
  simp
  omega

theorem rows_le (rows : List (List UInt8)) : rows.length ≤ (joinL rows).length := by
  induction rows with
  | nil => simp
  | cons a t ih => rw [joinL_cons]; simp; omega

set_option maxHeartbeats 1000000 in
set_option maxRecDepth 100000 in
theorem stuffP_any (s : List UInt8) (rows : List (List UInt8)) (w : World) (ht : textL s = some rows) :
    Calls Try.prog 8 #[.string ⟨s.toArray⟩] w fun e w' => e = .returned (.string ⟨(sentL rows).toArray⟩) ∧ Below w.heap.size w w' := by
  obtain ⟨hj, _, hl⟩ := text_join ht
  have hjl : (joinL rows).length ≤ 8192 := by rw [← hj]; exact hl
  have hrl := rows_le rows
  have HT := Lib.hid ht
  clear ht hj
  go_enter Try.func8, Try.ntmps8
  go_wp2_with fail
  refine (rowsP_any s w (by unfold maxLen; omega)).mono ?_
  rintro e w1 ⟨v, rfl, hb1, hr1⟩
  obtain ⟨A, c, rfl, hrow⟩ := (hr1 rows HT.out).opened
  have HR := Lib.hid hrow
  clear hr1 hrow
  go_wp2_with fail
  go_loopw [5, 6] (fun ov iv wr => ∃ j : Nat, j ≤ rows.length ∧ ov = .string ⟨(stuffL (rows.take j)).toArray⟩ ∧ iv = .int .i64 j ∧ wr = w1) (fun _ iv _ => rows.length - (intOf iv).toNat)
  case atStart => exact ⟨0, Nat.zero_le _, rfl, rfl, rfl⟩
  case round =>
    obtain ⟨j, hj, rfl, rfl, rfl⟩ := hrel
    have hlt1 := joinL_take rows j
    have hlt2 := joinL_len (rows.take j)
    by_cases hlt : j < rows.length
    · obtain ⟨g, rfl, hac⟩ := HR.out (fun e => by rw [e] at hlt; exact absurd hlt (by simp))
      have hc := hac j hlt
      have hst := Lib.hid (stuffL_take hlt)
      have hrj := row_le hlt
      clear hac
      generalize rows[j] = r at *
      generalize stuffL (rows.take j) = o at *
      have hadd1 := fun w => add_str o [46] w (by simp; omega)
      have hadd2 := fun w => add_str o r w (by omega)
      have hadd3 := fun w => add_str (o ++ [46]) r w (by simp; omega)
      have hadd4 := fun w => add_str (o ++ r) [13, 10] w (by simp; omega)
      have hadd5 := fun w => add_str (o ++ 46 :: r) [13, 10] w (by simp; omega)
      cases hp : Lib.hasPrefix r [46] with
      | true =>
        obtain ⟨t, rfl⟩ : ∃ t, r = 46 :: t := by
          cases r with
          | nil => simp [Lib.hasPrefix] at hp
          | cons b t => simp [Lib.hasPrefix] at hp; exact ⟨t, by rw [hp]⟩
        have HP := Lib.hid hp
        clear hp
        go_wp2_with fail
        refine ⟨⟨j + 1, by omega, str_eq ?_, by go_num, trivial⟩, by simp [intOf]; omega⟩
        rw [hst.out, HP.out]
        simp
      | false =>
        have HP := Lib.hid hp
        have hfin : o ++ (r ++ [13, 10]) = stuffL (rows.take (j + 1)) := by rw [hst.out, hp]; simp
        have HF := Lib.hid hfin
        by_cases hr0 : 0 < r.length
        · have hb : ((((⟨r.toArray⟩ : ByteArray)[0]'hr0).toNat : Int) == 46) = false := by
            obtain ⟨b, t, rfl⟩ : ∃ b t, r = b :: t := by
              cases r with
              | nil => simp at hr0
              | cons b t => exact ⟨b, t, rfl⟩
            refine byte_ne (d := 46) (fun e => ?_)
            have e2 : ((⟨(b :: t).toArray⟩ : ByteArray)[0]'hr0) = b := rfl
            rw [e2] at e
            subst e
            simp [Lib.hasPrefix] at hp
          clear hp hfin
          go_wp2_with fail
          exact ⟨⟨j + 1, by omega, str_eq HF.out, by go_num, trivial⟩, by simp [intOf]; omega⟩
        · clear hp hfin
          go_wp2_with fail
          exact ⟨⟨j + 1, by omega, str_eq HF.out, by go_num, trivial⟩, by simp [intOf]; omega⟩
    · obtain rfl : j = rows.length := by omega
      rw [List.take_length] at *
      have h3 : (stuffL rows).length + 3 ≤ 9223372036854775807 := by omega
      have hadd := fun w => add_str (stuffL rows) [46, 13, 10] w (by simp; omega)
      go_wp2_with fail
      go_ret
      exact ⟨rfl, hb1⟩
end Go.Proofs.Ytdebkbocpljkbaa

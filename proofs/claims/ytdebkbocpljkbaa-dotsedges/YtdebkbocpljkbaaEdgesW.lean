/-
  The law DotsEdges, walked: at every list of texts that can be read it answers true and turns nothing that was there.
  Conditions: as the theorem states them.
-/
import Derived.Test.YtdebkbocpljkbaaI
namespace Go.Proofs.Ytdebkbocpljkbaa
open Go.RowKit

theorem pg_joinL (rows : List (List UInt8)) (h : ∀ r ∈ rows, cleanL r = true) : pg [] (joinL rows) = some rows := by
  induction rows with
  | nil => rfl
  | cons r t ih =>
    have hr := h r (by simp)
    have hok : r.all okB = true := by
      unfold cleanL at hr
      simp only [Bool.and_eq_true] at hr
      exact hr.2
    rw [joinL_cons, show r ++ [13, 10] ++ joinL t = r ++ 13 :: 10 :: joinL t by simp, pg_line r [] _ (by simpa using hok), List.nil_append, if_pos hr, ih (fun q hq => h q (by simp [hq]))]
    rfl

theorem text_joinL {rows : List (List UInt8)} (h : ∀ r ∈ rows, cleanL r = true) (hl : (joinL rows).length ≤ 8192) : textL (joinL rows) = some rows := by
  rw [textL, if_pos hl, pg_joinL rows h]

theorem clean_many (n : Nat) (c : UInt8) (hn : n ≤ 509) (hc : okB c = true) : cleanL (List.replicate n c) = true := by
  unfold cleanL
  simp [hn, hc]

theorem joinL_many (k : Nat) (r : List UInt8) : (joinL (List.replicate k r)).length = k * (r.length + 2) := by
  induction k with
  | zero => simp [joinL]
  | succ k ih =>
    rw [List.replicate_succ, joinL_cons]
    simp [ih, Nat.succ_mul]
    omega

theorem joinL_more (k : Nat) (r : List UInt8) : joinL (List.replicate (k + 1) r) = joinL (List.replicate k r) ++ (r ++ [13, 10]) := by
  rw [List.replicate_succ', joinL_append, joinL_one]

theorem text_long (n : Nat) (c : UInt8) (hn : 509 < n) (hc : okB c = true) : textL (List.replicate n c ++ [13, 10]) = none := by
  unfold textL
  split
  · rw [pg_line (List.replicate n c) [] [] (by simp [hc])]
    rw [if_neg]
    simp [cleanL]
    omega
  · rfl

theorem text_more {s : List UInt8} (h : 8192 < s.length) : textL s = none := if_neg (by omega)

/-- Check, its answer named. -/
theorem check_val (s : List UInt8) (n : Int) (m : Int) (w w' : World) (hm : w.cell? ⟨0, 0, none⟩ = some (.int .i64 m)) (h0 : 0 < w.heap.size) (hb : Below w.heap.size w w') (hs : s.length ≤ 10000) (hn : errOf (textL s).isSome = n) :
    Calls Try.prog 11 #[.string ⟨s.toArray⟩] w' fun e w2 => e = .returned (.int .i64 n) ∧ Below w.heap.size w w2 := by
  have hsz := hb.size
  refine (check_any s m w' ((hb.cell (p := ⟨0, 0, none⟩) h0).trans hm) (by omega) (by unfold maxLen; omega)).mono ?_
  rintro e w2 ⟨rfl, hb2⟩
  exact ⟨by rw [hn], hb.trans (hb2.mono hsz)⟩

/-- How long a text is. -/
def sizeV (v : Value) : Nat := match v with | .string b => b.size | _ => 0
theorem sizeV_mk (a : List UInt8) : sizeV (.string ⟨a.toArray⟩) = a.length := rfl

set_option maxHeartbeats 4000000 in
set_option maxRecDepth 100000 in
theorem edges_any (m : Int) (l : List (List UInt8)) (v : Value) (w : World) (hm : w.cell? ⟨0, 0, none⟩ = some (.int .i64 m)) (h0 : 0 < w.heap.size) (hl : TextsAt w v l) :
    Calls Try.prog 6 #[v] w fun e w' => e = .returned (.bool true) ∧ Below w.heap.size w w' := by
  obtain ⟨A, c, rfl, hll, _, _⟩ := hl
  unfold maxLen at hll
  obtain ⟨R, hR⟩ : ∃ R : List UInt8, R = List.replicate 509 46 := ⟨_, rfl⟩
  have hRl : R.length = 509 := by rw [hR]; simp
  have HRc := Lib.hid (show cleanL R = true from by rw [hR]; exact clean_many 509 46 (by omega) rfl)
  have HR := Lib.hid hR
  have HR1 := Lib.hid (show R ++ [46, 13, 10] = List.replicate 510 46 ++ [13, 10] from by
    rw [hR, show (510 : Nat) = 509 + 1 from rfl, List.replicate_succ']
    simp)
  clear hR
  go_enter Try.func6, Try.ntmps6
  go_wp2_with fail
  refine (many_any 46 509 w (by omega) (by omega)).mono ?_
  rintro e w1 ⟨rfl, hb1⟩
  rw [← HR.out]
  go_wp2_with fail
  go_loopw [4] (fun av wr => ∃ k : Nat, k ≤ 16 ∧ av = .string ⟨(joinL (List.replicate k R)).toArray⟩ ∧ wr = w1) (fun av _ => 10000 - sizeV av)
  case atStart => exact ⟨0, by omega, rfl, rfl⟩
  case round =>
    obtain ⟨k, hk, rfl, rfl⟩ := hrel
    have hjl := joinL_many k R
    rw [hRl] at hjl
    by_cases hlt : k < 16
    · have hmore := Lib.hid (joinL_more k R)
      generalize joinL (List.replicate k R) = a at *
      have hadd1 := fun w => add_str a R w (by omega)
      have hadd2 := fun w => add_str (a ++ R) [13, 10] w (by simp; omega)
      go_wp2_with fail
      refine ⟨⟨k + 1, by omega, str_eq ?_, trivial⟩, ?_⟩
      · rw [hmore.out]
      · rw [sizeV_mk, sizeV_mk]
        simp
        omega
    · obtain rfl : k = 16 := by omega
      obtain ⟨a, ha⟩ : ∃ a, joinL (List.replicate 16 R) = a := ⟨_, rfl⟩
      rw [ha] at hjl ⊢
      have HA := Lib.hid ha
      obtain ⟨T, hT⟩ : ∃ T : List UInt8, T = List.replicate 14 98 := ⟨_, rfl⟩
      have hTl : T.length = 14 := by rw [hT]; simp
      have HT := Lib.hid hT
      have HTc := Lib.hid (show cleanL T = true from by rw [hT]; exact clean_many 14 98 (by omega) rfl)
      obtain ⟨U, hU⟩ : ∃ U : List UInt8, U = List.replicate 15 98 := ⟨_, rfl⟩
      have hUl : U.length = 15 := by rw [hU]; simp
      have HU := Lib.hid hU
      clear ha hT hU
      have H1 := Lib.hid (show errOf (textL (R ++ [13, 10])).isSome = 0 from by
        rw [← joinL_one R, text_joinL (rows := [R]) (by simpa using HRc.out) (by rw [joinL_one]; simp; omega)]
        rfl)
      have H2 := Lib.hid (show errOf (textL (R ++ [46, 13, 10])).isSome = 1 from by
        rw [HR1.out, text_long 510 46 (by omega) rfl]
        rfl)
      have H3 := Lib.hid (show errOf (textL (a ++ (T ++ [13, 10]))).isSome = 0 from by
        have e : a ++ (T ++ [13, 10]) = joinL (List.replicate 16 R ++ [T]) := by rw [joinL_append, joinL_one, HA.out]
        rw [e, text_joinL ?_ ?_]
        · rfl
        · intro r hr
          rcases List.mem_append.1 hr with hr | hr
          · rw [List.eq_of_mem_replicate hr]; exact HRc.out
          · obtain rfl : r = T := by simpa using hr
            exact HTc.out
        · rw [← e]; simp; omega)
      have H4 := Lib.hid (show errOf (textL (a ++ (U ++ [13, 10]))).isSome = 1 from by
        rw [text_more (by simp; omega)]
        rfl)
      have hadd1 := fun w => add_str a T w (by omega)
      have hadd2 := fun w => add_str (a ++ T) [13, 10] w (by simp; omega)
      have hadd3 := fun w => add_str a U w (by omega)
      have hadd4 := fun w => add_str (a ++ U) [13, 10] w (by simp; omega)
      have hadd5 := fun w => add_str R [13, 10] w (by simp; omega)
      have hadd6 := fun w => add_str R [46, 13, 10] w (by simp; omega)
      have hsz1 := hb1.size
      go_wp2_with fail
      refine (many_any 98 14 _ (by omega) (by omega)).mono ?_
      rintro e w2 ⟨rfl, hb2⟩
      rw [← HT.out]
      have hB2 := hb1.trans (hb2.mono hsz1)
      have hsz2 := hB2.size
      go_wp2_with fail
      refine (many_any 98 15 _ (by omega) (by omega)).mono ?_
      rintro e w3 ⟨rfl, hb3⟩
      rw [← HU.out]
      have hB3 := hB2.trans (hb3.mono hsz2)
      go_wp2_with fail
      refine (check_val (R ++ [13, 10]) 0 m w _ hm h0 hB3 (by first | simp; omega | decide) H1.out).mono ?_
      rintro e w4 ⟨rfl, hB4⟩
      go_wp2_with fail
      refine (num_any _ _).mono ?_
      rintro e w' ⟨rfl, rfl⟩
      go_wp2_with fail
      refine (check_val (R ++ [46, 13, 10]) 1 m w _ hm h0 hB4 (by first | simp; omega | decide) H2.out).mono ?_
      rintro e w5 ⟨rfl, hB5⟩
      go_wp2_with fail
      refine (num_any _ _).mono ?_
      rintro e w' ⟨rfl, rfl⟩
      go_wp2_with fail
      refine (check_val (a ++ (T ++ [13, 10])) 0 m w _ hm h0 hB5 (by first | simp; omega | decide) H3.out).mono ?_
      rintro e w6 ⟨rfl, hB6⟩
      go_wp2_with fail
      refine (num_any _ _).mono ?_
      rintro e w' ⟨rfl, rfl⟩
      go_wp2_with fail
      refine (check_val (a ++ (U ++ [13, 10])) 1 m w _ hm h0 hB6 (by first | simp; omega | decide) H4.out).mono ?_
      rintro e w7 ⟨rfl, hB7⟩
      go_wp2_with fail
      refine (num_any _ _).mono ?_
      rintro e w' ⟨rfl, rfl⟩
      go_wp2_with fail
      refine (check_val ([97]) 1 m w _ hm h0 hB7 (by first | simp; omega | decide) (Lib.hid rfl).out).mono ?_
      rintro e w8 ⟨rfl, hB8⟩
      go_wp2_with fail
      refine (num_any _ _).mono ?_
      rintro e w' ⟨rfl, rfl⟩
      go_wp2_with fail
      refine (check_val ([97, 10]) 1 m w _ hm h0 hB8 (by first | simp; omega | decide) (Lib.hid rfl).out).mono ?_
      rintro e w9 ⟨rfl, hB9⟩
      go_wp2_with fail
      refine (num_any _ _).mono ?_
      rintro e w' ⟨rfl, rfl⟩
      go_wp2_with fail
      refine (check_val ([97, 13, 13, 10]) 1 m w _ hm h0 hB9 (by first | simp; omega | decide) (Lib.hid rfl).out).mono ?_
      rintro e w10 ⟨rfl, hB10⟩
      go_wp2_with fail
      refine (num_any _ _).mono ?_
      rintro e w' ⟨rfl, rfl⟩
      go_wp2_with fail
      refine (check_val ([13, 10]) 0 m w _ hm h0 hB10 (by first | simp; omega | decide) (Lib.hid rfl).out).mono ?_
      rintro e w11 ⟨rfl, hB11⟩
      go_wp2_with fail
      refine (num_any _ _).mono ?_
      rintro e w' ⟨rfl, rfl⟩
      have hszn := hB11.size
      have hmn := (hB11.cell (p := ⟨0, 0, none⟩) h0).trans hm
      go_wp2_with fail
      refine (wakes_any m _ hmn (by omega)).mono ?_
      rintro e w20 ⟨rfl, hb20⟩
      go_wp2_with fail
      go_ret
      exact ⟨rfl, hB11.trans (hb20.mono hszn)⟩
end Go.Proofs.Ytdebkbocpljkbaa

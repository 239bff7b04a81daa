/-
  Letters of a command's words in other ones: what the law's own helper returns; a command's text so turned is read as the command.
  Conditions: as each theorem states them.
-/
import Derived.Test.YtkbhmkofflcpjaaGreatDoorAB
import Derived.Test.YtkbhmkofflcpjaaGreatDoorVV
namespace Go.Proofs.YtkbhmkofflcpjaaGreatDoor
open Go.RowKit

theorem box_len5 {l d : List UInt8} (h : boxL l d = true) : l.length ≤ 64 ∧ d.length ≤ 255 := by
  simp only [boxL, localL, domL, Bool.and_eq_true, decide_eq_true_eq] at h
  exact ⟨h.1.1.2, h.2.1⟩
theorem size_t_len {z : Int} (h : z ≤ 1073741824) : (sizeT z).length ≤ 16 := by
  unfold sizeT
  split
  · have := dec_len 9 z.toNat (Nat.lt_of_le_of_lt (show z.toNat ≤ 1073741824 by omega) (by decide))
    simp only [List.length_append, List.length_cons, List.length_nil]
    omega
  · simp
/-- A command's text is not short and not long. -/
theorem text_len {v : Vb} (h : validV v = true) : 4 ≤ (textV v).length ∧ (textV v).length ≤ 400 := by
  have n3 := name_len 3
  have n4 := name_len 4
  have nk := name_len v.kind
  unfold validV at h
  unfold textV
  have hrest : v.word.length ≤ 255 → 4 ≤ (if v.word.isEmpty then nameL v.kind else nameL v.kind ++ 32 :: v.word).length ∧ (if v.word.isEmpty then nameL v.kind else nameL v.kind ++ 32 :: v.word).length ≤ 400 := fun hw => by
    split
    · omega
    · simp only [List.length_append, List.length_cons]
      omega
  have hemp : v.word.isEmpty = true → v.word.length ≤ 255 := fun e => by
    rw [List.isEmpty_iff] at e
    rw [e]
    simp
  have hwds : wordsL v.word = true → v.word.length ≤ 255 := fun e => by
    simp only [wordsL, Bool.and_eq_true, decide_eq_true_eq] at e
    omega
  by_cases h3 : v.kind = 3
  · rw [if_neg (by omega), if_pos h3] at h
    rw [if_pos h3]
    simp only [Bool.and_eq_true, Bool.or_eq_true, decide_eq_true_eq] at h
    have hz := size_t_len h.2
    have hp : (pathT v).length ≤ 320 := by
      unfold pathT
      split
      · simp
      · rename_i hn
        rcases h.1.1.2 with hx | hx
        · exact absurd hx.1.1 hn
        · have := box_len5 hx.2
          simp only [List.length_append, List.length_cons]
          omega
    simp only [List.length_append, List.length_cons, List.length_nil, n3]
    omega
  · rw [if_neg h3]
    by_cases h4 : v.kind = 4
    · rw [if_neg (by omega), if_neg h3, if_pos h4] at h
      rw [if_pos h4]
      simp only [Bool.and_eq_true] at h
      have := box_len5 h.2
      simp only [List.length_append, List.length_cons, List.length_nil, n4]
      omega
    · rw [if_neg h4]
      apply hrest
      rw [if_neg h3, if_neg h4] at h
      split at h
      · simp only [Bool.and_eq_true, domL, decide_eq_true_eq] at h
        exact h.2.1
      · split at h
        · simp only [Bool.and_eq_true, Bool.or_eq_true] at h
          rcases h.2 with e | e
          · exact hemp e
          · exact hwds e
        · split at h
          · simp only [Bool.and_eq_true] at h
            exact hwds h.2
          · split at h
            · simp only [Bool.and_eq_true] at h
              exact hemp h.2
            · cases h

theorem low_plus {c : UInt8} (h : capB c = true) : ((c + 32).toNat : Int) = (c.toNat : Int) + 32 ∧ lowC (c + 32) = lowC c := by
  have h1 : 65 ≤ c.toNat ∧ c.toNat ≤ 90 := by simpa [capB] using h
  have e : (c + 32).toNat = c.toNat + 32 := by
    rw [UInt8.toNat_add]
    show (c.toNat + 32) % 256 = _
    omega
  refine ⟨by rw [e]; omega, ?_⟩
  have h2 : capB (c + 32) = false := by
    simp only [capB, e, Bool.and_eq_false_iff, decide_eq_false_iff_not]
    omega
  simp [lowC, h, h2]

/-- What a text may be turned to: other letters, ahead of place j alone, and no byte 60 there. -/
structure Turns (s t : List UInt8) (j : Nat) : Prop where
  low : lowL t = lowL s
  drop : t.drop j = s.drop j
  no : ∀ i (h : i < s.length), i < j → s[i] ≠ 60

theorem Turns.len {s t : List UInt8} {j : Nat} (h : Turns s t j) : t.length = s.length := low_eq_len h.low
theorem Turns.at {s t : List UInt8} {j : Nat} (h : Turns s t j) (hj : j < s.length) (hj' : j < t.length) : t[j] = s[j] := by
  have := h.drop
  rw [List.drop_eq_getElem_cons hj, List.drop_eq_getElem_cons hj'] at this
  exact (List.cons.inj this).1
theorem Turns.same {s t : List UInt8} {j : Nat} (h : Turns s t j) (hj : j < s.length) (hc : s[j] ≠ 60) : Turns s t (j + 1) := by
  refine ⟨h.low, ?_, fun i hi hij => ?_⟩
  · have := congrArg (List.drop 1) h.drop
    rwa [List.drop_drop, List.drop_drop] at this
  · by_cases e : i = j
    · subst e
      exact hc
    · exact h.no i hi (by omega)
theorem Turns.set {s t : List UInt8} {j : Nat} (h : Turns s t j) (hj : j < s.length) (hc : s[j] ≠ 60) {c : UInt8} (hl : lowC c = lowC s[j]) : Turns s (t.set j c) (j + 1) := by
  have hs := h.same hj hc
  have hj' : j < t.length := by rw [h.len]; exact hj
  refine ⟨?_, ?_, hs.no⟩
  · rw [← h.low]
    apply List.ext_getElem
    · simp [lowL]
    · intro i h1 h2
      simp only [lowL, List.getElem_map, List.getElem_set]
      split
      · rename_i e
        subst e
        rw [hl, h.at hj hj']
      · rfl
  · rw [List.drop_set_of_lt (by omega)]
    exact hs.drop
theorem Turns.zero (s : List UInt8) : Turns s s 0 := ⟨rfl, rfl, fun i _ h => absurd h (by omega)⟩

/-- A command's text with its words in other letters is read as it. -/
theorem turn_read {v : Vb} (h : validV v = true) {t : List UInt8} {j : Nat} (ht : Turns (textV v) t j) (hj : j ≤ 10) (hk : v.kind = 3 ∨ v.kind = 4 ∨ v.word = []) : readV t = (v, 0) := by
  have n3 := name_len 3
  have n4 := name_len 4
  have nk := name_len v.kind
  have hlen := ht.len
  have hd : t.drop (headV v).length = restV v := by
    have e0 : (textV v).drop (headV v).length = restV v := by rw [text_parts]; exact List.drop_left' rfl
    by_cases h3 : v.kind = 3 ∨ v.kind = 4
    · have hjh : j ≤ (headV v).length := by
        rcases h3 with h3 | h4
        · have : (headV v).length = 10 := by simp [headV, h3, n3]
          omega
        · have e8 : (headV v).length = 8 := by simp [headV, h4, n4]
          by_cases hj8 : j ≤ 8
          · omega
          · exfalso
            have hr : restV v = 60 :: ((v.l ++ 64 :: v.d) ++ [62]) := by simp [restV, h4]
            have hl : 8 < (textV v).length := by rw [text_parts, hr]; simp only [List.length_append, List.length_cons, e8]; omega
            refine ht.no 8 hl (by omega) ?_
            have e2 : (textV v)[8]? = some 60 := by rw [text_parts, List.getElem?_append_right (by omega), e8, hr]; rfl
            rw [List.getElem?_eq_getElem hl] at e2
            exact Option.some.inj e2
      have := congrArg (List.drop ((headV v).length - j)) ht.drop
      rw [List.drop_drop, List.drop_drop, show j + ((headV v).length - j) = (headV v).length by omega] at this
      exact this.trans e0
    · have hw : v.word = [] := by
        rcases hk with e | e | e
        · exact absurd (.inl e) h3
        · exact absurd (.inr e) h3
        · exact e
      have hk3 : ¬ v.kind = 3 := fun e => h3 (.inl e)
      have hk4 : ¬ v.kind = 4 := fun e => h3 (.inr e)
      have hr : restV v = [] := by simp [restV, hk3, hk4, hw]
      rw [hr]
      apply List.drop_eq_nil_of_le
      rw [hlen, text_parts, hr, List.append_nil]
      exact Nat.le_refl _
  have hl : lowL (t.take (headV v).length) = lowL (headV v) := by
    have : lowL (t.take (headV v).length) = (lowL t).take (headV v).length := by simp [lowL, List.map_take]
    rw [this, ht.low, text_parts, low_app]
    exact List.take_left' (low_len' _)
  have := read_text h hl
  rw [← hd, List.take_append_drop] at this
  exact this

set_option maxHeartbeats 2000000 in
set_option maxRecDepth 100000 in
theorem turned_any (s : List UInt8) (n : Int) (w : World) (hs : s.length ≤ 1000) :
    Calls Tryz.prog 24 #[.string ⟨s.toArray⟩, .int .i64 n] w fun e w' => ∃ t j, e = .returned (.string ⟨t.toArray⟩) ∧ j ≤ 10 ∧ Turns s t j ∧ Below w.heap.size w w' := by
  obtain ⟨c7, W7, hcv, hrow, hbel, hsz7⟩ := made_bytes (P := Tryz.prog) w 9 59 5 s Tryz.underlying9 Tryz.underlying59 Tryz.underlying5 (by omega)
  have HRW := Lib.hid hrow
  have HBL := Lib.hid hbel
  clear hrow hbel hsz7
  go_enter Tryz.func24, Tryz.ntmps24
  go_wp2_with fail
  clear hcv
  go_loopw [6] (fun iv wr => ∃ (j : Nat) (t : List UInt8), j ≤ s.length ∧ j ≤ 10 ∧ iv = .int .i64 j ∧ ByteRow wr w.heap.size 5 (.slice (some ⟨w.heap.size, 0, none⟩) s.length c7) t ∧ Turns s t j ∧ Below w.heap.size w wr) (fun iv _ => s.length - (intOf iv).toNat)
  case atStart => exact ⟨0, s, Nat.zero_le _, Nat.zero_le _, rfl, HRW.out, Turns.zero s, HBL.out⟩
  case round =>
    obtain ⟨j, t, hj, hj10, rfl, hr, hT, hb⟩ := hrel
    have HRK := Lib.hid hr
    have HBK := Lib.hid hb
    have HT := Lib.hid hT
    have hcb : (convert 59 9 (.slice (some ⟨w.heap.size, 0, none⟩) s.length c7)).run Tryz.prog wr = .ok (.string ⟨t.toArray⟩) wr := by
      have h := run_convert_bytes_back (P := Tryz.prog) wr 59 9 5 ⟨w.heap.size, 0, none⟩ c7 t Tryz.underlying59 Tryz.underlying5 Tryz.underlying9 (fun k hk => by
        rw [Addr.add_lit, Nat.zero_add]
        exact HRK.out.cellAt hk)
      rw [hT.len] at h
      exact h
    have hle := hT.len
    clear hr hb hT
    by_cases hlt : j < s.length
    · have hl' : j < t.length := by omega
      have hc : wr.cell? ⟨w.heap.size, j, none⟩ = some (.int .u8 (s[j].toNat : Int)) := by
        rw [HRK.out.cellAt hl', HT.out.at hlt hl']
      have hz : wr.frozen? ⟨w.heap.size, j, none⟩ = false := HRK.out.frozenAt hl'
      by_cases h10 : j < 10
      · have h10i : (j : Int) < 10 := by omega
        have HSM := Lib.hid (fun h => HT.out.same hlt h)
        have HSET := Lib.hid (fun h (c : UInt8) hl => HT.out.set hlt (c := c) h hl)
        have hci : (s[j].toNat : Int) < 256 := by have := UInt8.toNat_lt s[j]; omega
        generalize hx : s[j] = x at *
        clear hx hl' hle
        by_cases h60 : (x.toNat : Int) = 60
        · go_wp2_with fail
          go_ret
          exact ⟨t, j, rfl, hj10, HT.out, HBK.out⟩
        · have h60' : decide ((x.toNat : Int) = 60) = false := by simp; omega
          have hx60 : x ≠ 60 := fun e => h60 (by rw [e]; rfl)
          by_cases h65 : (65 : Int) ≤ (x.toNat : Int)
          · by_cases h90 : (x.toNat : Int) ≤ 90
            · obtain ⟨hp, hlo⟩ := low_plus (c := x) (by simp [capB]; omega)
              have HN := Lib.hid (HRK.out.set j (x + 32))
              have HP := Lib.hid hp
              clear hp
              go_wp2_with fail
              · refine ⟨⟨j + 1, t.set j (x + 32), hlt, h10, by go_num, ?_, HSET.out hx60 (x + 32) hlo, ?_⟩, by simp [intOf]; omega⟩
                · have := HN.out
                  rw [byteCell, HP.out] at this
                  exact this
                · exact HBK.out.setCell (p := ⟨w.heap.size, j, none⟩) (Nat.le_refl _) _
              · exact ⟨⟨j + 1, t, hlt, h10, by go_num, HRK.out, HSM.out hx60, HBK.out⟩, by simp [intOf]; omega⟩
            · have h90' : decide ((x.toNat : Int) ≤ 90) = false := by simp; omega
              clear hcb
              go_wp2_with fail
              exact ⟨⟨j + 1, t, hlt, h10, by go_num, HRK.out, HSM.out hx60, HBK.out⟩, by simp [intOf]; omega⟩
          · have h65' : decide ((65 : Int) ≤ (x.toNat : Int)) = false := by simp; omega
            clear hcb
            go_wp2_with fail
            exact ⟨⟨j + 1, t, hlt, h10, by go_num, HRK.out, HSM.out hx60, HBK.out⟩, by simp [intOf]; omega⟩
      · have h10' : decide ((j : Int) < 10) = false := by simp; omega
        go_wp2_with fail
        go_ret
        exact ⟨t, j, rfl, hj10, HT.out, HBK.out⟩
    · go_wp2_with fail
      go_ret
      exact ⟨t, j, rfl, hj10, HT.out, HBK.out⟩
end Go.Proofs.YtkbhmkofflcpjaaGreatDoor

/-
  The page's Print, words, name and begins, walked.
  Conditions: as each theorem states them.
-/
import Derived.Test.YtkbhmkofflcpjaaGreatDoorAB
import Derived.Test.YtkbhmkofflcpjaaGreatDoorVV
namespace Go.Proofs.YtkbhmkofflcpjaaGreatDoor
open Go.RowKit

set_option maxHeartbeats 1000000 in
theorem rprint_any (s : List UInt8) (w : World) (hs : s.length ≤ 100000) :
    Calls Tryz.prog 46 #[.string ⟨s.toArray⟩, .int .u8 33] w fun e w' => e = .returned (.bool (s.all seenB)) ∧ w = w' := by
  go_enter Tryz.func46, Tryz.ntmps46
  go_wp2_with fail
  go_loopg [5] s.length (fun g s5 wx => w = wx ∧ ∃ k : Nat, k + g = s.length ∧ s5 = .int .i64 k ∧ (s.take k).all seenB = true)
  case atStart => exact ⟨rfl, 0, by omega, rfl, rfl⟩
  case round =>
    obtain ⟨rfl, k, hkg, rfl, ha⟩ := hrel
    have HA := Lib.hid ha
    clear ha
    cases gk with
    | zero =>
      obtain rfl : k = s.length := by omega
      have hi : ¬ ((s.length : Int) < (s.length : Int)) := by omega
      have HE := Lib.hid (show s.all seenB = true by
        have := HA.out
        rwa [List.take_length] at this)
      go_wp2_with fail
      go_ret
      exact ⟨ret_bool HE.out.symm, rfl⟩
    | succ g =>
      have hk : k < s.length := by omega
      have hi : (k : Int) < (s.length : Int) := by omega
      have hB : k < (⟨s.toArray⟩ : ByteArray).size := hk
      obtain ⟨c, hc⟩ : ∃ c : UInt8, (⟨s.toArray⟩ : ByteArray)[k]'hB = c := ⟨_, rfl⟩
      have HC := Lib.hid (show s[k] = c from hc)
      by_cases h1 : 33 ≤ c.toNat
      · have h1i : ¬ ((c.toNat : Int) < 33) := by omega
        by_cases h2 : c.toNat ≤ 126
        · have h2i : ¬ ((126 : Int) < (c.toNat : Int)) := by omega
          have HS := Lib.hid (all_take hk HA.out (by rw [HC.out]; simp [seenB, h1, h2]))
          clear h1 h2
          go_wp2_with fail
          go_roundg g
          case measure => omega
          case rel => exact ⟨rfl, k + 1, by omega, by simp, HS.out⟩
        · have h2i : (126 : Int) < (c.toNat : Int) := by omega
          have HE := Lib.hid (show s.all seenB = false from List.all_eq_false.2 ⟨s[k], List.getElem_mem hk, by rw [HC.out]; simp [seenB, h2]⟩)
          clear h1 h2
          go_wp2_with fail
          go_ret
          exact ⟨ret_bool HE.out.symm, rfl⟩
      · have h1i : (c.toNat : Int) < 33 := by omega
        have HE := Lib.hid (show s.all seenB = false from List.all_eq_false.2 ⟨s[k], List.getElem_mem hk, by rw [HC.out]; simp [seenB, h1]⟩)
        clear h1
        go_wp2_with fail
        go_ret
        exact ⟨ret_bool HE.out.symm, rfl⟩

set_option maxHeartbeats 2000000 in
theorem rwords_any (s : List UInt8) (w : World) (hs : s.length ≤ 10000) :
    Calls Tryz.prog 28 #[.string ⟨s.toArray⟩] w fun e w' => e = .returned (.bool (wordsL s)) ∧ Below w.heap.size w w' := by
  by_cases h : s.length ≤ 64
  · have hi : ¬ ((64 : Int) < (s.length : Int)) := by omega
    have HW := Lib.hid (show wordsL s = (splitB 32 s).all wordOk by rw [words_eq, decide_eq_true h, Bool.true_and])
    have HS := Lib.hid (split_any 32 s w hs 32 rfl)
    have HL := Lib.hid (fun p (hp : p ∈ splitB 32 s) => split_short hp)
    have HNE := Lib.hid (split_ne 32 s)
    have hln : (splitB 32 s).length ≤ 65 := by
      have := split_len 32 s
      have := List.count_le_length (a := (32 : UInt8)) (l := s)
      omega
    clear h
    go_enter Tryz.func28, Tryz.ntmps28
    go_wp2_with fail
    refine Calls.mono HS.out ?_
    rintro e w1 ⟨v, rfl, hrow, hb⟩
    obtain ⟨gb, cap, rfl, hgb, hcell⟩ := hrow.get HNE.out
    have HB := Lib.hid hb
    have HC := Lib.hid hcell
    clear hrow hb hcell HS
    generalize splitB 32 s = rows at *
    go_wp2_with fail
    go_loopg [4] rows.length (fun g s4 wx => w1 = wx ∧ ∃ k : Nat, k + g = rows.length ∧ s4 = .int .i64 k ∧ (rows.take k).all wordOk = true)
    case atStart => exact ⟨rfl, 0, by omega, rfl, rfl⟩
    case round =>
      obtain ⟨rfl, k, hkg, rfl, ha⟩ := hrel
      have HK := Lib.hid ha
      clear ha
      cases gk with
      | zero =>
        have hi2 : ¬ ((k : Int) < (rows.length : Int)) := by omega
        have HE := Lib.hid (show wordsL s = true by
          have := HK.out
          rw [List.take_of_length_le (by omega)] at this
          rw [HW.out, this])
        go_wp2_with fail
        go_ret
        exact ⟨ret_bool HE.out.symm, HB.out⟩
      | succ g =>
        have hk : k < rows.length := by omega
        have hi2 : (k : Int) < (rows.length : Int) := by omega
        have hc := HC.out k hk
        have hk0 : (0 : Int) ≤ (k : Int) := by omega
        have hpl := HL.out rows[k] (List.getElem_mem hk)
        have HP := Lib.hid (rprint_any rows[k] w1 (by omega))
        have HT : Hid (wordOk rows[k] = true → (rows.take (k + 1)).all wordOk = true) := Lib.hid fun hw => by
          rw [List.take_add_one, List.getElem?_eq_getElem hk, List.all_append, HK.out]
          simp [hw]
        have HF : Hid (wordOk rows[k] = false → wordsL s = false) := Lib.hid fun hw => by
          rw [HW.out]
          exact List.all_eq_false.2 ⟨rows[k], List.getElem_mem hk, by simp [hw]⟩
        have HWE := Lib.hid (show wordOk rows[k] = (!rows[k].isEmpty && rows[k].all seenB) from rfl)
        generalize rows[k] = p at *
        by_cases h0 : p = []
        · subst h0
          have HE := Lib.hid (HF.out rfl)
          go_wp2_with fail
          go_ret
          exact ⟨ret_bool HE.out.symm, HB.out⟩
        · have hne := ne_empty h0
          have hn2 : (p == []) = false := beq_eq_false_iff_ne.2 h0
          clear h0
          cases hw : p.all seenB with
          | true =>
            have HN := Lib.hid (HT.out (by rw [HWE.out, hne, hw]; rfl))
            rw [hw] at HP
            clear hw
            go_wp2_with fail
            refine Calls.mono HP.out ?_
            rintro e w2 ⟨rfl, rfl⟩
            go_wp2_with fail
            go_roundg g
            case measure => omega
            case rel => exact ⟨rfl, k + 1, by omega, by simp, HN.out⟩
          | false =>
            have HE := Lib.hid (HF.out (by rw [HWE.out, hw, Bool.and_false]))
            rw [hw] at HP
            clear hw
            go_wp2_with fail
            refine Calls.mono HP.out ?_
            rintro e w2 ⟨rfl, rfl⟩
            go_wp2_with fail
            go_ret
            exact ⟨ret_bool HE.out.symm, HB.out⟩
  · have hi : (64 : Int) < (s.length : Int) := by omega
    have HW := Lib.hid (show wordsL s = false by rw [words_eq, decide_eq_false h, Bool.false_and])
    clear h
    go_enter Tryz.func28, Tryz.ntmps28
    go_wp2_with fail
    go_ret
    exact ⟨ret_bool HW.out.symm, Below.refl _ _⟩

theorem rname_lit (k : Nat) (w : World) (h1 : 1 ≤ k) (h9 : k ≤ 9) : Calls Tryz.prog 29 #[.int .i64 (k : Int)] w fun e w' => e = .returned (.string ⟨(nameL (k : Int)).toArray⟩) ∧ w = w' := by
  have : k = 1 ∨ k = 2 ∨ k = 3 ∨ k = 4 ∨ k = 5 ∨ k = 6 ∨ k = 7 ∨ k = 8 ∨ k = 9 := by omega
  rcases this with rfl | rfl | rfl | rfl | rfl | rfl | rfl | rfl | rfl
  all_goals
    go_enter Tryz.func29, Tryz.ntmps29
    go_wp2_with fail
    go_ret
    exact ⟨rfl, rfl⟩

set_option maxHeartbeats 1000000 in
theorem rbegins_any (s wd : List UInt8) (w : World) (_hs : s.length ≤ 10000) (hw : wd.length ≤ 100) :
    Calls Tryz.prog 37 #[.string ⟨s.toArray⟩, .string ⟨wd.toArray⟩] w fun e w' => e = .returned (.bool (beginsL s wd)) ∧ Below w.heap.size w w' := by
  by_cases h : wd.length ≤ s.length
  · have hi : (wd.length : Int) ≤ (s.length : Int) := by omega
    have hex : (⟨s.toArray⟩ : ByteArray).extract 0 wd.length = ⟨(s.take wd.length).toArray⟩ := by rw [ext_eq]; rfl
    have HE := Lib.hid (show beginsL s wd = (lowL (s.take wd.length) == lowL wd) by simp [beginsL, h])
    have HL1 := Lib.hid (rlower_any (s.take wd.length) w (by simp; omega))
    have HL2 := Lib.hid (fun W => rlower_any wd W (by omega))
    clear h
    generalize s.take wd.length = p at *
    go_enter Tryz.func37, Tryz.ntmps37
    go_wp2_with fail
    refine Calls.mono HL1.out ?_
    rintro e w1 ⟨rfl, hb⟩
    have HB := Lib.hid hb
    clear hb
    go_wp2_with fail
    refine Calls.mono (HL2.out _) ?_
    rintro e w2 ⟨rfl, hb⟩
    have HB2 := Lib.hid (HB.out.trans (hb.mono HB.out.size))
    clear hb
    go_wp2_with fail
    go_ret
    exact ⟨ret_bool HE.out.symm, HB2.out⟩
  · have hi : ¬ ((wd.length : Int) ≤ (s.length : Int)) := by omega
    have HE := Lib.hid (show beginsL s wd = false by simp [beginsL, h])
    clear h
    go_enter Tryz.func37, Tryz.ntmps37
    go_wp2_with fail
    go_ret
    exact ⟨ret_bool HE.out.symm, Below.refl _ _⟩
end Go.Proofs.YtkbhmkofflcpjaaGreatDoor

namespace Go.Proofs.YtkbhmkofflcpjaaGreatDoor
open Go.RowKit

theorem pe_nil (q : Bool) : peL q [] = 0 := by simp [peL]
theorem pe_last (_q : Bool) (t : List UInt8) : peL true (92 :: t) = min (1 + t.length) (2 + peL true (t.drop 1)) := by
  cases t with
  | nil => simp [peL]
  | cons e u =>
    rw [pe_pair]
    have : peL true u ≤ u.length := by
      obtain ⟨h1, h2⟩ := cut_pe u.length true u (Nat.le_refl _)
      cases hc : cutL true u with
      | none => rw [h2 hc]; exact Nat.le_refl _
      | some m =>
        obtain ⟨a, b⟩ := h1 m hc
        omega
    simp
    omega

set_option maxHeartbeats 2000000 in
theorem rpathEnd_any (s : List UInt8) (w : World) (hs : s.length ≤ 100000) :
    Calls Tryz.prog 39 #[.string ⟨s.toArray⟩] w fun e w' => e = .returned (.int .i64 (peL false s : Int)) ∧ w = w' := by
  obtain ⟨hc1, hc2⟩ := cut_pe s.length false s (Nat.le_refl _)
  have H1 := Lib.hid hc1
  have H2 := Lib.hid hc2
  clear hc1 hc2
  go_enter Tryz.func39, Tryz.ntmps39
  go_wp2_with fail
  go_loopg [3, 4] (s.length + 1) (fun g s4 s5 wx => w = wx ∧ ∃ (q : Bool) (i : Nat), s4 = .bool q ∧ s5 = .int .i64 i ∧ s.length + 1 ≤ i + g ∧ i ≤ s.length + 1 ∧ cutL false s = (cutL q (s.drop i)).map (· + i))
  case atStart => exact ⟨rfl, false, 0, rfl, rfl, by omega, by omega, by simp⟩
  case round =>
    obtain ⟨rfl, q, i, rfl, rfl, hg, hi, hc⟩ := hrel
    have HC := Lib.hid hc
    clear hc
    by_cases hlt : i < s.length
    · have hii : (i : Int) < (s.length : Int) := by omega
      have hB : i < (⟨s.toArray⟩ : ByteArray).size := hlt
      obtain ⟨c, hcv⟩ : ∃ c : UInt8, (⟨s.toArray⟩ : ByteArray)[i]'hB = c := ⟨_, rfl⟩
      have HD := Lib.hid (show cutL false s = (cutL q (c :: s.drop (i + 1))).map (· + i) by
        rw [HC.out, drop_at' hlt, show s[i] = c from hcv])
      clear HC
      cases gk with
      | zero => omega
      | succ g =>
        by_cases h34 : c = 34
        · subst h34
          have HR := Lib.hid (show cutL false s = (cutL (!q) (s.drop (i + 1))).map (· + (i + 1)) by
            rw [HD.out, cut_quote, Option.map_map]
            congr 1
            funext k
            show k + 1 + i = k + (i + 1)
            omega)
          have hb1 : ((((34 : UInt8).toNat : Nat) : Int) == 92) = false := by decide
          have hb2 : ((((34 : UInt8).toNat : Nat) : Int) == 34) = true := by decide
          have hb3 : ((((34 : UInt8).toNat : Nat) : Int) == 62) = false := by decide
          cases q with
          | true =>
            go_wp2_with fail
            go_roundg g
            case measure => omega
            case rel => exact ⟨rfl, false, i + 1, rfl, by simp, by omega, by omega, HR.out⟩
          | false =>
            go_wp2_with fail
            go_roundg g
            case measure => omega
            case rel => exact ⟨rfl, true, i + 1, rfl, by simp, by omega, by omega, HR.out⟩
        · have hb34 : ((c.toNat : Int) == 34) = false := byte_ne (d := 34) h34
          cases q with
          | true =>
            by_cases h92 : c = 92
            · have hb92 : ((c.toNat : Int) == 92) = true := by rw [h92]; rfl
              have HR := Lib.hid (show cutL false s = (cutL true (s.drop (i + 2))).map (· + (i + 2)) by
                rw [HD.out, h92, cut_pair, List.drop_drop, Option.map_map]
                congr 1
                funext k
                show k + 2 + i = k + (i + 2)
                omega)
              clear h92
              go_wp2_with fail
              go_roundg g
              case measure => omega
              case rel => exact ⟨rfl, true, i + 2, rfl, by simp; omega, by omega, by omega, HR.out⟩
            · have hb92 : ((c.toNat : Int) == 92) = false := byte_ne (d := 92) h92
              have HR := Lib.hid (show cutL false s = (cutL true (s.drop (i + 1))).map (· + (i + 1)) by
                rw [HD.out, cut_other _ (by simp [h92]) h34 (by simp), Option.map_map]
                congr 1
                funext k
                show k + 1 + i = k + (i + 1)
                omega)
              by_cases h62 : c = 62
              · have hb62 : ((c.toNat : Int) == 62) = true := by rw [h62]; rfl
                clear h62
                go_wp2_with fail
                go_roundg g
                case measure => omega
                case rel => exact ⟨rfl, true, i + 1, rfl, by simp, by omega, by omega, HR.out⟩
              · have hb62 : ((c.toNat : Int) == 62) = false := byte_ne (d := 62) h62
                go_wp2_with fail
                go_roundg g
                case measure => omega
                case rel => exact ⟨rfl, true, i + 1, rfl, by simp, by omega, by omega, HR.out⟩
          | false =>
            by_cases h62 : c = 62
            · have hb62 : ((c.toNat : Int) == 62) = true := by rw [h62]; rfl
              have HR := Lib.hid (show ((i : Int) + 1) = (peL false s : Int) by
                have h := H1.out (i + 1) (by
                  rw [HD.out, h62, cut_close]
                  show some (1 + i) = _
                  rw [Nat.add_comm])
                omega)
              clear h62
              go_wp2_with fail
              go_ret
              exact ⟨by rw [← HR.out]; rfl, rfl⟩
            · have hb62 : ((c.toNat : Int) == 62) = false := byte_ne (d := 62) h62
              have HR := Lib.hid (show cutL false s = (cutL false (s.drop (i + 1))).map (· + (i + 1)) by
                rw [HD.out, cut_other _ (by simp) h34 (by simp [h62]), Option.map_map]
                congr 1
                funext k
                show k + 1 + i = k + (i + 1)
                omega)
              go_wp2_with fail
              go_roundg g
              case measure => omega
              case rel => exact ⟨rfl, false, i + 1, rfl, by simp, by omega, by omega, HR.out⟩
    · have hii : ¬ ((i : Int) < (s.length : Int)) := by omega
      have HE := Lib.hid (show (peL false s : Int) = (s.length : Int) by
        have := H2.out (by
          rw [HC.out, List.drop_eq_nil_of_le (by omega), cut_nil]
          rfl)
        omega)
      go_wp2_with fail
      go_ret
      exact ⟨by rw [HE.out]; rfl, rfl⟩

/-- The number that the page's size hands back. -/
def szV (s : List UInt8) : Int := if 1 ≤ s.length ∧ s.length ≤ 10 ∧ s.all digB = true then (valN s : Int) else 0
theorem sz_some {s : List UInt8} {n : Nat} (h : sizeL s = some n) : szV s = (n : Int) := by
  unfold sizeL at h
  split at h
  · rename_i hc
    cases h
    unfold szV
    rw [if_pos ⟨hc.1, hc.2.1, hc.2.2.1⟩]
  · cases h

set_option maxHeartbeats 2000000 in
theorem rsize_any (s : List UInt8) (w : World) (hs : s.length ≤ 100000) :
    Calls Tryz.prog 41 #[.string ⟨s.toArray⟩] w fun e w' => e = .returned (.tuple #[.int .i64 (szV s), .bool (sizeL s).isSome]) ∧ w = w' := by
  by_cases hlen : 1 ≤ s.length ∧ s.length ≤ 10
  · have hl1 : ¬ ((s.length : Int) < 1) := by omega
    have hl10 : ¬ ((10 : Int) < (s.length : Int)) := by omega
    have h10 := hlen.2
    have HL := Lib.hid hlen
    clear hlen
    go_enter Tryz.func41, Tryz.ntmps41
    go_wp2_with fail
    go_loopg [4, 5] s.length (fun g s4 s5 wx => w = wx ∧ ∃ k : Nat, k + g = s.length ∧ s5 = .int .i64 k ∧ s4 = .int .i64 (valN (s.take k) : Int) ∧ (s.take k).all digB = true)
    case atStart => exact ⟨rfl, 0, by omega, rfl, rfl, rfl⟩
    case round =>
      obtain ⟨rfl, k, hkg, rfl, rfl, ha⟩ := hrel
      have HA := Lib.hid ha
      have hvb : (valN (s.take k) : Int) < 10000000000 := by have := val_bound (by omega) ha; omega
      have hv0 : (0 : Int) ≤ (valN (s.take k) : Int) := Int.natCast_nonneg _
      clear ha
      cases gk with
      | zero =>
        obtain rfl : k = s.length := by omega
        have hi : ¬ ((s.length : Int) < (s.length : Int)) := by omega
        rw [List.take_length] at *
        have HZ := Lib.hid (show (valN s : Int) = szV s by rw [szV, if_pos ⟨HL.out.1, HL.out.2, HA.out⟩])
        by_cases hz : valN s ≤ 1073741824
        · have HE := Lib.hid (show true = (sizeL s).isSome by
            unfold sizeL
            rw [if_pos ⟨HL.out.1, HL.out.2, HA.out, hz⟩]
            rfl)
          have hzi : (valN s : Int) ≤ 1073741824 := by omega
          clear hz
          generalize valN s = v at *
          go_wp2_with fail
          go_ret2
          exact ⟨ret_ib HZ.out HE.out, rfl⟩
        · have HE := Lib.hid (show false = (sizeL s).isSome by
            unfold sizeL
            rw [if_neg (fun h => hz h.2.2.2)]
            rfl)
          have hzi : ¬ ((valN s : Int) ≤ 1073741824) := by omega
          clear hz
          generalize valN s = v at *
          go_wp2_with fail
          go_ret2
          exact ⟨ret_ib HZ.out HE.out, rfl⟩
      | succ g =>
        have hk : k < s.length := by omega
        have hi : (k : Int) < (s.length : Int) := by omega
        have hB : k < (⟨s.toArray⟩ : ByteArray).size := hk
        obtain ⟨c, hc⟩ : ∃ c : UInt8, (⟨s.toArray⟩ : ByteArray)[k]'hB = c := ⟨_, rfl⟩
        have HC := Lib.hid (show s[k] = c from hc)
        have HDG := Lib.hid (fun W => digit_any c W)
        cases hd : digB c with
        | true =>
          have hcd := dig_c hd
          have HS := Lib.hid (all_dig hk HA.out (by rw [HC.out]; exact hd))
          have HN := Lib.hid (show (valN (s.take (k + 1)) : Int) = 10 * (valN (s.take k) : Int) + ((c.toNat : Int) - 48) by
            rw [val_more hk, HC.out]
            omega)
          rw [hd] at HDG
          have h1i : (48 : Int) ≤ (c.toNat : Int) := by omega
          have h2i : (c.toNat : Int) ≤ 57 := by omega
          clear hd hcd
          generalize valN (s.take k) = v at *
          go_wp2_with fail
          refine Calls.mono (HDG.out _) ?_
          rintro e w2 ⟨rfl, rfl⟩
          go_wp2_with fail
          go_roundg g
          case measure => omega
          case rel => exact ⟨rfl, k + 1, by omega, by simp, by rw [HN.out], HS.out⟩
        | false =>
          have hna : s.all digB = false := List.all_eq_false.2 ⟨s[k], List.getElem_mem hk, by rw [HC.out, hd]; exact Bool.false_ne_true⟩
          have HZ := Lib.hid (show (0 : Int) = szV s by rw [szV, if_neg (fun h => by rw [hna] at h; cases h.2.2)])
          have HE := Lib.hid (show false = (sizeL s).isSome by
            unfold sizeL
            rw [if_neg (fun h => by rw [hna] at h; cases h.2.2.1)]
            rfl)
          rw [hd] at HDG
          clear hd hna
          go_wp2_with fail
          refine Calls.mono (HDG.out _) ?_
          rintro e w2 ⟨rfl, rfl⟩
          go_wp2_with fail
          go_ret2
          exact ⟨ret_ib HZ.out HE.out, rfl⟩
  · have HZ := Lib.hid (show (0 : Int) = szV s by rw [szV, if_neg (fun h => hlen ⟨h.1, h.2.1⟩)])
    have HE := Lib.hid (show false = (sizeL s).isSome by
      unfold sizeL
      rw [if_neg (fun h => hlen ⟨h.1, h.2.1⟩)]
      rfl)
    by_cases h1 : (s.length : Int) < 1
    · clear hlen
      go_enter Tryz.func41, Tryz.ntmps41
      go_wp2_with fail
      go_ret2
      exact ⟨ret_ib HZ.out HE.out, rfl⟩
    · have h2 : (10 : Int) < (s.length : Int) := by omega
      clear hlen
      go_enter Tryz.func41, Tryz.ntmps41
      go_wp2_with fail
      go_ret2
      exact ⟨ret_ib HZ.out HE.out, rfl⟩

theorem one_byte (x : UInt8) (z : Int) (hz : z = (x.toNat : Int)) (w : World) :
    (convert 59 9 (.slice (some ⟨w.heap.size, 0, none⟩) 1 1)).run Tryz.prog (w.alloc (.cells #[.int .u8 z] 5)) = .ok (.string ⟨[x].toArray⟩) (w.alloc (.cells #[.int .u8 z] 5)) := by
  subst hz
  refine run_convert_bytes_back (P := Tryz.prog) _ 59 9 5 ⟨w.heap.size, 0, none⟩ 1 [x] Tryz.underlying59 Tryz.underlying5 Tryz.underlying9 (fun j hj => ?_)
  obtain rfl : j = 0 := by simp at hj; exact hj
  have h := heap_alloc_new w (.cells #[.int .u8 (x.toNat : Int)] 5)
  rw [Addr.add_lit, Nat.add_zero, Lib.cell_of_heap h]
  rfl

set_option maxHeartbeats 2000000 in
set_option maxRecDepth 100000 in
theorem rdecimal_any (n : Nat) (w : World) (h2 : n ≤ 1073741824) :
    Calls Tryz.prog 31 #[.int .i64 (n : Int)] w fun e w' => e = .returned (.string ⟨(Lib.decDigits n).toArray⟩) ∧ Below w.heap.size w w' := by
  have hn0 : ¬ ((n : Int) < 0) := by omega
  have hL := dec_len 9 n (by omega)
  go_enter Tryz.func31, Tryz.ntmps31
  go_wp2_with fail
  go_loopg [0, 3] n (fun g nv sv wx => Below w.heap.size w wx ∧ ∃ (m : Nat) (ds : List UInt8), nv = .int .i64 (m : Int) ∧ sv = .string ⟨ds.toArray⟩ ∧ m ≤ g ∧ m ≤ n ∧ Lib.decDigits m ++ ds = Lib.decDigits n)
  case atStart => exact ⟨Below.refl _ _, n, [], rfl, rfl, by omega, by omega, by simp⟩
  case round =>
    obtain ⟨hb, m, ds, rfl, rfl, hmg, hmn, hds⟩ := hrel
    have HB := Lib.hid hb
    have hsz := hb.size
    have hdl : ds.length ≤ 10 := by
      have := congrArg List.length hds
      simp at this
      omega
    have HDS := Lib.hid hds
    clear hb hds
    by_cases hm : m < 10
    · have hge : ¬ ((10 : Int) ≤ (m : Int)) := by omega
      obtain ⟨x, hx⟩ : ∃ x : UInt8, UInt8.ofNat (48 + m) = x := ⟨_, rfl⟩
      have hxn : x.toNat = 48 + m := by rw [← hx, UInt8.toNat_ofNat']; omega
      have hcv := one_byte x (48 + (m : Int)) (by omega) wr
      have hadd := fun w => add_str [x] ds w (by simp; omega)
      have HB1 := Lib.hid (HB.out.alloc hsz (.cells #[.int .u8 (48 + (m : Int))] 5))
      have HE := Lib.hid (show x :: ds = Lib.decDigits n by
        rw [← HDS.out, Lib.decDigits, dif_pos hm, hx]
        rfl)
      clear hx hxn hL
      go_wp2_with fail
      go_ret
      exact ⟨by rw [← HE.out]; rfl, HB1.out⟩
    · have hge : (10 : Int) ≤ (m : Int) := by omega
      obtain ⟨x, hx⟩ : ∃ x : UInt8, UInt8.ofNat (48 + m % 10) = x := ⟨_, rfl⟩
      have hxn : x.toNat = 48 + m % 10 := by rw [← hx, UInt8.toNat_ofNat']; omega
      have hcv := one_byte x (48 + (m : Int) % 10) (by omega) wr
      have hadd := fun w => add_str [x] ds w (by simp; omega)
      have HB1 := Lib.hid (HB.out.alloc hsz (.cells #[.int .u8 (48 + (m : Int) % 10)] 5))
      have HE := Lib.hid (show Lib.decDigits (m / 10) ++ (x :: ds) = Lib.decDigits n by
        have e : Lib.decDigits m = Lib.decDigits (m / 10) ++ [UInt8.ofNat (48 + m % 10)] := by
          rw [Lib.decDigits, dif_neg hm]
        rw [← HDS.out, e, hx]
        simp)
      clear hx hxn hL
      cases gk with
      | zero => omega
      | succ g =>
        go_wp2_with fail
        go_roundg g
        case measure => omega
        case rel => exact ⟨HB1.out, m / 10, x :: ds, by go_num, rfl, by omega, by omega, HE.out⟩
end Go.Proofs.YtkbhmkofflcpjaaGreatDoor

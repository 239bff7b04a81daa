/-
  The law FrameLongs, walked: at every argument that can be read it answers true and turns nothing that was there.
  Conditions: as the theorem states them.
-/
import Derived.Test.YtnhmhdfnphlngaaZ
namespace Go.Proofs.Ytnhmhdfnphlngaa
open Go.RowKit

theorem set_pre (n : Nat) (f : UInt8) (hn : 0 < n) : (List.replicate n (97 : UInt8)).set (n - 1) f = preL n f := by
  obtain ⟨k, rfl⟩ : ∃ k, n = k + 1 := ⟨n - 1, by omega⟩
  unfold preL
  rw [List.replicate_succ', Nat.add_sub_cancel, List.set_append_right _ _ (by simp)]
  simp

theorem set_step (n j : Nat) (hj : j < n) : (List.replicate j (97 : UInt8) ++ List.replicate (n - j) 0).set j 97 = List.replicate (j + 1) 97 ++ List.replicate (n - (j + 1)) 0 := by
  rw [List.set_append_right _ _ (by simp)]
  obtain ⟨k, hk⟩ : ∃ k, n - j = k + 1 := ⟨n - j - 1, by omega⟩
  rw [hk, show n - (j + 1) = k by omega, List.replicate_succ' (n := j), List.append_assoc, List.replicate_succ (n := k)]
  simp

set_option maxHeartbeats 2000000 in
set_option maxRecDepth 100000 in
theorem longs_any (m : Int) (A : Option Addr) (xl xc : Nat) (Z : Option Addr) (ns zc : Nat) (w : World) (hm : w.cell? ⟨0, 0, none⟩ = some (.int .i64 m)) (h0 : 0 < w.heap.size) (hxl : xl ≤ maxLen) (_hns : ns ≤ maxLen) :
    Calls Try.prog 6 #[.agg #[.slice A xl xc, .slice Z ns zc]] w fun e w' => e = .returned (.bool true) ∧ Below w.heap.size w w' := by
  unfold maxLen at hxl _hns
  have hm1 : ∀ o, (w.alloc o).cell? ⟨0, 0, none⟩ = some (.int .i64 m) := fun o => (World.cell?_alloc_lt w o _ h0).trans hm
  go_enter Try.func6, Try.ntmps6
  go_wp2_with fail
  go_loopw [3] (fun nv wr => ∃ n : Nat, 508 ≤ n ∧ n ≤ 516 ∧ nv = .int .i64 n ∧ Below (w.heap.size + 1) (w.alloc (.cells #[.slice A xl xc, .slice Z ns zc] 45)) wr) (fun nv _ => 516 - (intOf nv).toNat)
  case atStart => exact ⟨508, by omega, by omega, rfl, Below.refl _ _⟩
  case round =>
    obtain ⟨n, hn1, hn2, rfl, hB⟩ := hrel
    generalize wr = wo at *
    have hBw : Below w.heap.size w wo := ((Below.refl _ _).alloc (Nat.le_refl _) _).trans (hB.mono (by omega))
    have hszw : w.heap.size + 1 ≤ wo.heap.size := by have := hB.size; simpa using this
    have hpx : ∀ W : World, Below (w.heap.size + 1) (w.alloc (.cells #[.slice A xl xc, .slice Z ns zc] 45)) W → W.cell? ⟨w.heap.size, 0, none⟩ = some (.slice A xl xc) ∧ W.cell? ⟨w.heap.size, 1, none⟩ = some (.slice Z ns zc) := fun W hW =>
      ⟨(hW.cell (p := ⟨w.heap.size, 0, none⟩) (by simp)).trans (by simp), (hW.cell (p := ⟨w.heap.size, 1, none⟩) (by simp)).trans (by simp)⟩
    have HPX := Lib.hid hpx
    clear hpx
    by_cases hle : n ≤ 515
    · have hmk := run_make_bytes wo n (by omega)
      go_wp2_with fail
      go_loopw [5] (fun iv wr => ∃ j : Nat, j ≤ n ∧ iv = .int .i64 j ∧ BlkB wr wo.heap.size (List.replicate j 97 ++ List.replicate (n - j) 0) ∧ Below wo.heap.size wo wr) (fun iv _ => n - (intOf iv).toNat)
      case atStart => exact ⟨0, Nat.zero_le _, rfl, by simpa using made_blk wo n, (Below.refl _ _).alloc (Nat.le_refl _) _⟩
      case round =>
        obtain ⟨j, hj, rfl, hK, hBi⟩ := hrel
        by_cases hlt : j < n
        · have ci := hK.cell j (by simp; omega)
          have zi := hK.frozen j
          have hK' := hK.set j 97
          rw [set_step n j hlt] at hK'
          have hij : (j : Int) < (n : Int) := by omega
          have HK := Lib.hid hK'
          clear hK hK' hmk
          go_wp2
          exact ⟨⟨j + 1, hlt, by go_num, HK.out, hBi.setCell (Nat.le_refl _) _⟩, by simp [intOf]; omega⟩
        · have hjn := Lib.hid (show j = n by omega)
          have hK2 : BlkB wr wo.heap.size (List.replicate n 97) := by
            have := hK
            rw [hjn.out] at this
            simpa using this
          clear hmk hK
          have hBr : Below (w.heap.size + 1) (w.alloc (.cells #[.slice A xl xc, .slice Z ns zc] 45)) wr := hB.trans (hBi.mono hszw)
          obtain ⟨px, pz⟩ := HPX.out wr hBr
          go_upto_if 32 with (fail)
          go_cut [6] (fun fv wc => ∃ f : UInt8, f ≠ 10 ∧ fv = .int .u8 (f.toNat : Int) ∧ wr = wc)
          case first =>
            by_cases hpar : (xl : Int) % 2 = 1
            · have hpb : ((xl : Int) % 2 == 1) = true := by simpa using hpar
              go_wp2_with fail
              go_meet
              case rel => exact ⟨13, by decide, rfl, rfl⟩
            · have hpb : ((xl : Int) % 2 == 1) = false := by simpa using hpar
              go_wp2_with fail
              go_meet
              case rel => exact ⟨120, by decide, rfl, rfl⟩
          case rest =>
            obtain ⟨f, hf10, rfl, rfl⟩ := hcut
            have hKf := hK2.set (n - 1) f
            rw [set_pre n f (by omega)] at hKf
            have ci := hK2.cell (n - 1) (by simp; omega)
            have zi := hK2.frozen (n - 1)
            have hn1' : ((n : Int) - 1).toNat = n - 1 := by omega
            have hpl := preL_length n f (by omega)
            have hBf : Below wo.heap.size wo (wr.setCell ⟨wo.heap.size, n - 1, none⟩ (.int .u8 (f.toNat : Int))) := hBi.setCell (Nat.le_refl _) _
            have HKF := Lib.hid hKf
            have HPL := Lib.hid hpl
            clear hKf hK2 hpl px pz
            have hsz1 := hBf.size
            go_wp2_with (at_builtin; refine wpList_append_text _ (.tmp 38) (.const (.string ⟨#[13, 10, 110, 101, 120, 116, 13, 10]⟩)) wo.heap.size wo.heap.size n 8 (preL n f) _ HPL.out rfl rfl rfl rfl rfl HKF.out hsz1 (by omega) (by omega) ?_)
            intro cap w3 hcap hrow hb3
            have hrow' : ByteRow w3 wo.heap.size 5 (.slice (some ⟨wr.heap.size, 0, none⟩) (n + 8) cap) (preL n f ++ endL) := hrow
            have hszr := hBi.size
            have hB3 : Below wo.heap.size wo w3 := hBf.trans (hb3.mono (by simpa [World.setCell] using hszr))
            have hsz3 := hB3.size
            have hlen : (preL n f ++ endL).length = n + 8 := by rw [List.length_append, HPL.out]; rfl
            have hx1 := bytesAt_of_row hrow' (n + 8) (by omega)
            rw [List.take_of_length_le (by omega)] at hx1
            have hx2 := bytesAt_of_row hrow' (n + 1) (by omega)
            have ht2 : (preL n f ++ endL).take (n + 1) = preL n f ++ [13] := by
              have := HPL.out
              rw [show n + 1 = (preL n f).length + 1 by omega]
              rw [List.take_length_add_append]
              rfl
            rw [ht2] at hx2
            have hm3 := ((hBw.trans (hB3.mono (by omega))).cell (p := ⟨0, 0, none⟩) h0).trans hm
            have hv0 := Lib.hid (show validL (ByteArray.mk #[]).data.toList false = true from by decide)
            have HX2 := Lib.hid hx2
            have HB3 := Lib.hid hB3
            clear hrow hrow' ht2 hb3 HKF hBf hsz1 zi ci hx2 hB3
            have hfa : Hid ((Rd.of (ByteArray.mk #[]).data.toList false).feed (preL n f ++ endL) = ⟨[], false, [(toldL n f, !decide (n + 1 < 512)), ([110, 101, 120, 116], false)]⟩) := feed_all n f (by omega) hf10
            have hfc : Hid ((Rd.of (ByteArray.mk #[]).data.toList false).feed (preL n f ++ [13]) = if n + 1 < 512 then ⟨preL n f ++ [13], false, []⟩ else ⟨[13], true, []⟩) := feed_cr n f (by omega) hf10
            go_wp2_with fail
            refine (feed_good ⟨#[]⟩ false (preL n f ++ endL) m _ _ hm3 (by omega) (by unfold maxLen; simp [ByteArray.size]) hv0.out hx1 (by omega)).mono ?_
            rw [hfa.out]
            rintro e w4 ⟨lv, rfl, hol, hb4⟩
            obtain ⟨g4, cap4, rfl⟩ := ownsRow_shape hol (by simp)
            have l0 : w4.cell? ⟨g4, 0, none⟩ = some (.string ⟨(toldL n f).toArray⟩) := hol.cellAt 0 (by simp)
            have l1 : w4.cell? ⟨g4, 1, none⟩ = some (.bool (!decide (n + 1 < 512))) := hol.cellAt 1 (by simp)
            have l2 : w4.cell? ⟨g4, 2, none⟩ = some (.string ⟨#[110, 101, 120, 116]⟩) := hol.cellAt 2 (by simp)
            have l3 : w4.cell? ⟨g4, 3, none⟩ = some (.bool false) := hol.cellAt 3 (by simp)
            have hg4 := World.block_lt_of_cell? w4 _ l0
            have hB4 : Below wo.heap.size wo w4 := HB3.out.trans (hb4.mono hsz3)
            have hsz4 := hB4.size
            have hx2 := (HX2.out.keep hb4.block).mono hb4.size
            have HX4 := Lib.hid hx2
            clear hol hb4 HX2 HB3 hx1 hx2 hm3 hfa
            by_cases hs : n + 1 < 512
            · have ht : toldL n f = preL n f := if_pos hs
              have hd : (!decide (n + 1 < 512)) = false := by simp [hs]
              have hfc' : Hid ((Rd.of (ByteArray.mk #[]).data.toList false).feed (preL n f ++ [13]) = ⟨preL n f ++ [13], false, []⟩) := by rw [Hid, hfc.out, if_pos hs]
              rw [ht] at l0
              rw [hd] at l1
              have hT : (ByteArray.mk (preL n f).toArray).toList.isEmpty = false := by
                rw [Lib.toList_data]
                simp [preL]
              have hT' : ¬ (ByteArray.mk (preL n f).toArray).toList = [] := by
                rw [Lib.toList_data]
                simp [preL]
              generalize ByteArray.mk (preL n f).toArray = T at *
              have la0 := fun o => (World.cell?_alloc_lt w4 o _ hg4).trans l0
              have la1 := fun o => (World.cell?_alloc_lt w4 o ⟨g4, 1, none⟩ hg4).trans l1
              have la2 := fun o => (World.cell?_alloc_lt w4 o ⟨g4, 2, none⟩ hg4).trans l2
              have la3 := fun o => (World.cell?_alloc_lt w4 o ⟨g4, 3, none⟩ hg4).trans l3
              clear ht hd l0 l1 l2 l3 hfc
              have hni : (n : Int) + 2 ≤ 512 := by omega
              have hnd : decide ((512 : Int) < (n : Int) + 2) = false := by simp; omega
              go_wp2_with (go_at_call 8; refine (num_any _ _).mono ?_; rintro e w' ⟨rfl, rfl⟩)
              have hb4a : Below w4.heap.size w4 (w4.alloc (.cells #[.string ⟨#[]⟩, .bool false] 25)) := (Below.refl _ _).alloc (Nat.le_refl _) _
              have hm4 := ((hBw.trans ((hB4.trans (hb4a.mono hsz4)).mono (by omega))).cell (p := ⟨0, 0, none⟩) h0).trans hm
              refine (feed_good ⟨#[]⟩ false (preL n f ++ [13]) m _ _ hm4 (by simp) (by unfold maxLen; simp [ByteArray.size]) hv0.out ((HX4.out.keep hb4a.block).mono hb4a.size) (by simp [preL]; omega)).mono ?_
              rw [hfc'.out]
              rintro e w5 ⟨lv5, rfl, hol5, hb5⟩
              obtain ⟨A5, c5, rfl⟩ : ∃ A5 c5, lv5 = .slice A5 0 c5 := by
                rcases hol5.2 with ⟨h, _⟩ | ⟨g, c, _, h, _⟩
                · exact ⟨_, _, h⟩
                · exact ⟨_, _, h⟩
              have hB5 : Below wo.heap.size wo w5 := (hB4.trans (hb4a.mono hsz4)).trans (hb5.mono (by have := hb4a.size; omega))
              have HB5 := Lib.hid (hB.trans (hB5.mono hszw))
              have hsz5 := hB5.size
              clear la0 la1 la2 la3 hol5 hb5 hb4a hm4
              go_wp2_with (go_at_call 8; refine (num_any _ _).mono ?_; rintro e w' ⟨rfl, rfl⟩)
              exact ⟨⟨n + 1, by omega, by omega, by go_num, HB5.out.alloc (by omega) _⟩, by simp [intOf]; omega⟩
            · have ht : toldL n f = [] := if_neg hs
              have hd : (!decide (n + 1 < 512)) = true := by simp [hs]
              have hfc' : Hid ((Rd.of (ByteArray.mk #[]).data.toList false).feed (preL n f ++ [13]) = ⟨[13], true, []⟩) := by rw [Hid, hfc.out, if_neg hs]
              rw [ht] at l0
              rw [hd] at l1
              have la0 := fun o => (World.cell?_alloc_lt w4 o _ hg4).trans l0
              have la1 := fun o => (World.cell?_alloc_lt w4 o ⟨g4, 1, none⟩ hg4).trans l1
              have la2 := fun o => (World.cell?_alloc_lt w4 o ⟨g4, 2, none⟩ hg4).trans l2
              have la3 := fun o => (World.cell?_alloc_lt w4 o ⟨g4, 3, none⟩ hg4).trans l3
              clear ht hd l0 l1 l2 l3 hfc
              have hni : ¬ (n : Int) + 2 ≤ 512 := by omega
              have hnd : decide ((512 : Int) < (n : Int) + 2) = true := by simp; omega
              have hne : decide ((512 : Int) ≤ (n : Int) + 1) = true := by simp; omega
              go_wp2_with (go_at_call 8; refine (num_any _ _).mono ?_; rintro e w' ⟨rfl, rfl⟩)
              have hb4a : Below w4.heap.size w4 (w4.alloc (.cells #[.string ⟨#[]⟩, .bool false] 25)) := (Below.refl _ _).alloc (Nat.le_refl _) _
              have hm4 := ((hBw.trans ((hB4.trans (hb4a.mono hsz4)).mono (by omega))).cell (p := ⟨0, 0, none⟩) h0).trans hm
              refine (feed_good ⟨#[]⟩ false (preL n f ++ [13]) m _ _ hm4 (by simp) (by unfold maxLen; simp [ByteArray.size]) hv0.out ((HX4.out.keep hb4a.block).mono hb4a.size) (by simp [preL]; omega)).mono ?_
              rw [hfc'.out]
              rintro e w5 ⟨lv5, rfl, hol5, hb5⟩
              obtain ⟨A5, c5, rfl⟩ : ∃ A5 c5, lv5 = .slice A5 0 c5 := by
                rcases hol5.2 with ⟨h, _⟩ | ⟨g, c, _, h, _⟩
                · exact ⟨_, _, h⟩
                · exact ⟨_, _, h⟩
              have hB5 : Below wo.heap.size wo w5 := (hB4.trans (hb4a.mono hsz4)).trans (hb5.mono (by have := hb4a.size; omega))
              have HB5 := Lib.hid (hB.trans (hB5.mono hszw))
              have hsz5 := hB5.size
              clear la0 la1 la2 la3 hol5 hb5 hb4a hm4
              go_wp2_with (go_at_call 8; refine (num_any _ _).mono ?_; rintro e w' ⟨rfl, rfl⟩)
              exact ⟨⟨n + 1, by omega, by omega, by go_num, HB5.out.alloc (by omega) _⟩, by simp [intOf]; omega⟩
    · obtain ⟨px, pz⟩ := HPX.out wo hB
      have hz0 : decide ((0 : Int) ≤ (ns : Int)) = true := by simp
      go_wp2_with fail
      refine (wakes_any m _ ((hBw.cell (p := ⟨0, 0, none⟩) h0).trans hm) (by omega)).mono ?_
      rintro e w2 ⟨rfl, hb2⟩
      go_wp2
      go_ret
      exact ⟨rfl, hBw.trans (hb2.mono (by omega))⟩
end Go.Proofs.Ytnhmhdfnphlngaa

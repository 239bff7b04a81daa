/-
  The page's Path, walked.
  Conditions: as the theorem states them.
-/
import Derived.Test.YtkbhmkofflcpjaaGreatDoorAA
namespace Go.Proofs.YtkbhmkofflcpjaaGreatDoor
open Go.RowKit

/-- What the page's Path answers, whole. -/
def rpathV (o : Option (Option (List UInt8 × List UInt8))) : Value := .tuple #[.agg #[.string ⟨(pBox o).1.toArray⟩, .string ⟨(pBox o).2.toArray⟩], .bool (pNull o), .bool o.isSome]

theorem path_short {s : List UInt8} (h : s.length < 2) : pathL s = none := by
  cases s with
  | nil => rfl
  | cons c t =>
    cases t with
    | nil => simp [pathL]
    | cons d u => simp only [List.length_cons] at h; omega
theorem path_last {s : List UInt8} (h2 : ¬ s.length < 2) (h : s.getLast? ≠ some 62) : pathL s = none := by
  cases s with
  | nil => rfl
  | cons c t =>
    cases t with
    | nil => exact path_short (by simp)
    | cons d u =>
      rw [List.getLast?_cons_cons] at h
      rw [pathL, if_neg (fun e => h e.2)]
theorem path_box {o : Option (List UInt8 × List UInt8)} : pBox (o.map some) = boxOf o ∧ pNull (o.map some) = false ∧ (o.map some).isSome = o.isSome := by
  cases o with
  | none => exact ⟨rfl, rfl, rfl⟩
  | some p => exact ⟨rfl, rfl, rfl⟩

set_option maxHeartbeats 2000000 in
set_option maxRecDepth 100000 in
theorem rpath_any (s : List UInt8) (w : World) (hs : s.length ≤ 4000) :
    Calls Tryz.prog 40 #[.string ⟨s.toArray⟩] w fun e w' => e = .returned (rpathV (pathL s)) ∧ Below w.heap.size w w' := by
  have HA := Lib.hid ((Below.refl _ w).alloc (Nat.le_refl _) (.cells #[.string ⟨#[]⟩, .string ⟨#[]⟩] 25))
  have HM := Lib.hid (MAt.new w [] [])
  have m0 := HM.out.c0
  have m1 := HM.out.c1
  have z0 := HM.out.fz 0
  have z1 := HM.out.fz 1
  by_cases he : s = [60, 62]
  · subst he
    go_enter Tryz.func40, Tryz.ntmps40
    go_wp2_with fail
    exact bodyPost_ret (v := .tuple #[.agg #[.string ⟨#[]⟩, .string ⟨#[]⟩], .bool true, .bool true]) (by simp [results, Tryz.results40, go_sem]) rfl ⟨rfl, HA.out⟩
  · have heb : (s == [60, 62]) = false := beq_eq_false_iff_ne.2 he
    by_cases h2 : s.length < 2
    · have h2i : (s.length : Int) < 2 := by omega
      have HN := Lib.hid (path_short h2)
      clear he
      go_enter Tryz.func40, Tryz.ntmps40
      go_wp2_with fail
      exact bodyPost_ret (v := .tuple #[.agg #[.string ⟨#[]⟩, .string ⟨#[]⟩], .bool false, .bool false]) (by simp [results, Tryz.results40, go_sem]) rfl ⟨by rw [HN.out]; rfl, HA.out⟩
    · have h2i : ¬ ((s.length : Int) < 2) := by omega
      have hB0 : 0 < (⟨s.toArray⟩ : ByteArray).size := by show 0 < s.length; omega
      have HH := Lib.hid (head_eq hB0)
      obtain ⟨n, hn⟩ : ∃ n, s.length = n + 1 := ⟨s.length - 1, by omega⟩
      have hBn : n < (⟨s.toArray⟩ : ByteArray).size := by show n < s.length; omega
      have HLS := Lib.hid (last_eq hBn hn)
      have HCS := Lib.hid (last_cons hBn hn (by omega) hB0)
      have hi0 : (0 : Int) < (s.length : Int) := by omega
      have hni : (s.length : Int) - 1 = (n : Int) := by omega
      have HNE := Lib.hid hn
      have hnle : n ≤ s.length := by omega
      have hn1' : 1 ≤ n := by omega
      clear hn
      by_cases ha : ((⟨s.toArray⟩ : ByteArray)[0]'hB0) = 60
      · have hba : ((((⟨s.toArray⟩ : ByteArray)[0]'hB0).toNat : Int) != 60) = false := by rw [ha]; rfl
        by_cases hz : ((⟨s.toArray⟩ : ByteArray)[n]'hBn) = 62
        · have hbz : ((((⟨s.toArray⟩ : ByteArray)[n]'hBn).toNat : Int) != 62) = false := by rw [hz]; rfl
          have hin := HCS.out
          rw [ha, hz] at hin
          have hune : (s.drop 1).take (n - 1) ≠ [] := fun e => he (by rw [hin, e]; rfl)
          have HP := Lib.hid (show pathL s = (parseL ((s.drop 1).take (n - 1))).map some by
            conv => lhs; rw [hin]
            rw [path_in, if_neg hune])
          have hul : ((s.drop 1).take (n - 1)).length ≤ 4000 := by simp; omega
          have HX := Lib.hid (show (⟨s.toArray⟩ : ByteArray).extract 1 n = ⟨((s.drop 1).take (n - 1)).toArray⟩ from cut_piece s 1 n)
          have HR := Lib.hid (fun W => rparse_any ((s.drop 1).take (n - 1)) W hul)
          generalize (s.drop 1).take (n - 1) = u at *
          have hn1 : (1 : Int) ≤ (n : Int) := by omega
          have hnl : (n : Int) ≤ (s.length : Int) := by omega
          have HV := Lib.hid (show rpathV (pathL s) = .tuple #[.agg #[.string ⟨(boxOf (parseL u)).1.toArray⟩, .string ⟨(boxOf (parseL u)).2.toArray⟩], .bool false, .bool (parseL u).isSome] by
            rw [HP.out, rpathV, path_box.1, path_box.2.1, path_box.2.2])
          clear he ha hz hin hul hune HP
          generalize rpathV (pathL s) = V at *
          generalize (boxOf (parseL u)).1 = bl at *
          generalize (boxOf (parseL u)).2 = bd at *
          generalize (parseL u).isSome = bs at *
          go_enter Tryz.func40, Tryz.ntmps40
          go_wp2_with fail
          rw [HX.out]
          refine Calls.mono (HR.out _) ?_
          rintro e w1 ⟨rfl, hb⟩
          have HB := Lib.hid (HA.out.trans (hb.mono (by simp)))
          have HM1 := Lib.hid (HM.out.later hb)
          have hlt : w.heap.size < w1.heap.size := (HM.out.later hb).lt
          clear hb m0 m1 z0 z1
          have m0 := HM1.out.c0
          have m1 := HM1.out.c1
          have z0 := HM1.out.fz 0
          have z1 := HM1.out.fz 1
          go_wp2_with fail
          have hf := (HM1.out.set bl bd).alloc (.cells #[.string ⟨bl.toArray⟩, .string ⟨bd.toArray⟩] 25)
          have f0 := hf.c0
          have f1 := hf.c1
          refine bodyPost_ret (v := .tuple #[.agg #[.string ⟨bl.toArray⟩, .string ⟨bd.toArray⟩], .bool false, .bool bs]) (by simp [results, Tryz.results40, go_sem, f0, f1]) rfl ⟨by rw [HV.out], ?_⟩
          have hb2 := (HB.out.setCell (p := ⟨w.heap.size, 0, none⟩) (Nat.le_refl _) (.string ⟨bl.toArray⟩)).setCell (p := ⟨w.heap.size, 1, none⟩) (Nat.le_refl _) (.string ⟨bd.toArray⟩)
          exact hb2.alloc hb2.size _
        · have hbz : ((((⟨s.toArray⟩ : ByteArray)[n]'hBn).toNat : Int) != 62) = true := byte_bne (n := 62) (by decide) hz
          have HN := Lib.hid (path_last (s := s) h2 (by rw [HLS.out]; simpa using hz))
          clear he ha hz
          go_enter Tryz.func40, Tryz.ntmps40
          go_wp2_with fail
          exact bodyPost_ret (v := .tuple #[.agg #[.string ⟨#[]⟩, .string ⟨#[]⟩], .bool false, .bool false]) (by simp [results, Tryz.results40, go_sem]) rfl ⟨by rw [HN.out]; rfl, HA.out⟩
      · have hba : ((((⟨s.toArray⟩ : ByteArray)[0]'hB0).toNat : Int) != 60) = true := byte_bne (n := 60) (by decide) ha
        have HN := Lib.hid (path_no1 (s := s) (by rw [HH.out]; simpa using ha))
        clear he ha
        go_enter Tryz.func40, Tryz.ntmps40
        go_wp2_with fail
        exact bodyPost_ret (v := .tuple #[.agg #[.string ⟨#[]⟩, .string ⟨#[]⟩], .bool false, .bool false]) (by simp [results, Tryz.results40, go_sem]) rfl ⟨by rw [HN.out]; rfl, HA.out⟩
end Go.Proofs.YtkbhmkofflcpjaaGreatDoor

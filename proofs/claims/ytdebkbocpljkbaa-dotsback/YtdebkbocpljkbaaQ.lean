/-
  readLines of package dots, walked for whatever function it hands the lines to: it hands the lines of a text on, one by one, and panics with a fault where the text is none.
  Conditions: as the theorem states them: what is claimed of the function at one line, and that the library's variable internal/bytealg.MaxLen holds some number.
-/
import Derived.Test.YtdebkbocpljkbaaN
namespace Go.Proofs.Ytdebkbocpljkbaa
open Go.RowKit

theorem cut_any (rest : List UInt8) (m : Int) (w : World) (hl : rest.length < 4294967281) (hm : w.cell? ⟨0, 0, none⟩ = some (.int .i64 m)) :
    Calls Try.prog 28 #[.string ⟨rest.toArray⟩, .string ⟨#[13, 10]⟩] w fun e w' => e = .returned (.tuple #[.string ⟨(Lib.cut rest [13, 10]).1.toArray⟩, .string ⟨(Lib.cut rest [13, 10]).2.1.toArray⟩, .bool (Lib.cut rest [13, 10]).2.2]) ∧ ∃ n, w' = w.drewN n :=
  Try.strings_Cut ⟨rest.toArray⟩ ⟨#[13, 10]⟩ m w hl hm

theorem cut_len (rest : List UInt8) : (Lib.cut rest [13, 10]).1.length ≤ rest.length ∧ ((Lib.cut rest [13, 10]).2.2 = true → rest = (Lib.cut rest [13, 10]).1 ++ [13, 10] ++ (Lib.cut rest [13, 10]).2.1) := by
  unfold Lib.cut
  split
  · rename_i h
    refine ⟨by simp; omega, fun _ => ?_⟩
    obtain ⟨h1, _⟩ | ⟨i, h1, h2, h3, _⟩ := Lib.index_spec rest [13, 10]
    · omega
    · rw [h1]
      simp only [Int.toNat_natCast]
      have hp : [13, 10] <+: rest.drop i := List.isPrefixOf_iff_prefix.1 h3
      obtain ⟨t, ht⟩ := hp
      have e2 : rest.drop (i + 2) = t := by
        rw [← List.drop_drop, ← ht]; rfl
      conv => lhs; rw [← List.take_append_drop i rest, ← ht]
      show _ = _ ++ rest.drop (i + 2)
      rw [e2]
      simp
  · exact ⟨Nat.le_refl _, fun h => by cases h⟩

/-- How readLines ends. -/
def readEnd (I : List (List UInt8) → World → Prop) (r : Option (List (List UInt8))) (e : Ending) (w' : World) : Prop :=
  match r with
  | some rows => e = .returned (.tuple #[]) ∧ I rows w'
  | none => e = .panicked [{ v := .iface 52 (.agg #[.int .i64 1]), recovered := false }] ∧ ∃ rows, I rows w'

theorem readEnd_good {I : List (List UInt8) → World → Prop} {r : Option (List (List UInt8))} {rows : List (List UInt8)} {w' : World} (h : r = some rows) (hI : I rows w') : readEnd I r (.returned (.tuple #[])) w' := by
  subst h
  exact ⟨rfl, hI⟩

theorem readEnd_bad {I : List (List UInt8) → World → Prop} {r : Option (List (List UInt8))} {w' : World} (h : r = none) (rows : List (List UInt8)) (hI : I rows w') : readEnd I r (.panicked [{ v := .iface 52 (.agg #[.int .i64 1]), recovered := false }]) w' := by
  subst h
  exact ⟨rfl, rows, hI⟩

set_option maxHeartbeats 1000000 in
set_option maxRecDepth 100000 in
theorem readLines_any (s : List UInt8) (f : FuncId) (cap : Array Value) (I : List (List UInt8) → World → Prop) (w : World)
    (hent : ∀ args w, (callFunc f args).run Try.prog w = .ok (.enter f args) w)
    (hm : ∀ rows w, I rows w → ∃ m, w.cell? ⟨0, 0, none⟩ = some (.int .i64 m))
    (hk : ∀ rows w w', I rows w → Below w.heap.size w w' → I rows w')
    (hc : ∀ rows line w, I rows w → cleanL line = true → (joinL (rows ++ [line])).length ≤ 8192 → Calls Try.prog f (#[.string ⟨line.toArray⟩] ++ cap) w fun e w' => e = .returned (.tuple #[]) ∧ I (rows ++ [line]) w')
    (h0 : I [] w) (hs : s.length ≤ maxLen) :
    Calls Try.prog 19 #[.string ⟨s.toArray⟩, .func (.func f) #[] cap] w fun e w' => readEnd I (textL s) e w' := by
  by_cases hl : s.length ≤ 8192
  · have ht : textL s = pg [] s := if_pos hl
    rw [ht]
    have HM := Lib.hid hm
    have HKK := Lib.hid hk
    have HC := Lib.hid hc
    clear hm hk hc ht
    go_enter Try.func19, Try.ntmps19
    go_wp2_with fail
    go_loopg [0] s.length (fun g v wx => ∃ (rest : List UInt8) (rows : List (List UInt8)), v = .string ⟨rest.toArray⟩ ∧ rest.length ≤ g ∧ pg [] s = (pg [] rest).map (rows ++ ·) ∧ s = joinL rows ++ rest ∧ I rows wx)
    case atStart => exact ⟨s, [], rfl, Nat.le_refl _, by simp, by simp [joinL], h0⟩
    case round =>
      obtain ⟨rest, rows, rfl, hg, hpg, hsj, hI⟩ := hrel
      have HI := Lib.hid hI
      have HP := Lib.hid hpg
      have HS := Lib.hid hsj
      have hrl : rest.length ≤ s.length := by rw [hsj]; simp
      obtain ⟨m, hmc⟩ := HM.out rows wr hI
      clear hI hpg hsj
      cases hr : rest with
      | nil =>
        subst hr
        have hend : pg [] s = some rows := by rw [HP.out]; simp [pg]
        have HE := Lib.hid hend
        clear hend
        go_wp2_with fail
        go_end0
        exact readEnd_good HE.out HI.out
      | cons b t =>
        have hne : rest ≠ [] := by rw [hr]; simp
        rw [← hr]
        have hcp := pg_cut rest hne
        have hcl := cut_len rest
        have hemp : rest.isEmpty = false := by simp [hr]
        clear hr hne
        obtain ⟨⟨ln, tl, ok⟩, hcut⟩ : ∃ c, Lib.cut rest [13, 10] = c := ⟨_, rfl⟩
        rw [hcut] at hcp hcl
        have HCP := Lib.hid hcp
        have HCL := Lib.hid hcl
        have HCUT := Lib.hid hcut
        have hln : ln.length ≤ rest.length := hcl.1
        clear hcp hcl hcut
        cases ok with
        | false =>
          have hend : pg [] s = none := by rw [HP.out, HCP.out]; simp
          have HE := Lib.hid hend
          clear hend
          go_wp2_with fail
          refine (cut_any rest m _ (by omega) hmc).mono ?_
          rintro e w1 ⟨rfl, n, rfl⟩
          rw [HCUT.out]
          have hb1 : Below wr.heap.size wr (wr.drewN n) := ⟨rfl, rfl, rfl, Nat.le_refl _, fun _ _ => rfl⟩
          go_wp2_with fail
          exact ⟨rfl, readEnd_bad HE.out rows <| HKK.out _ _ _ HI.out hb1⟩
        | true =>
          cases hclean : cleanL ln with
          | false =>
            have hend : pg [] s = none := by rw [HP.out, HCP.out]; simp [hclean]
            have HE := Lib.hid hend
            have HCC := Lib.hid hclean
            clear hend hclean
            go_wp2_with fail
            refine (cut_any rest m _ (by omega) hmc).mono ?_
            rintro e w1 ⟨rfl, n, rfl⟩
            rw [HCUT.out]
            have hb1 : Below wr.heap.size wr (wr.drewN n) := ⟨rfl, rfl, rfl, Nat.le_refl _, fun _ _ => rfl⟩
            go_wp2_with fail
            refine (valid_any ⟨ln.toArray⟩ _ (by show ln.length < _; omega)).mono ?_
            rintro e w2 ⟨rfl, hb2⟩
            rw [show cleanL (⟨ln.toArray⟩ : ByteArray).data.toList = false from HCC.out]
            go_wp2_with fail
            exact ⟨rfl, readEnd_bad HE.out rows <| HKK.out _ _ _ HI.out (hb1.trans hb2)⟩
          | true =>
            have hsp : rest = ln ++ [13, 10] ++ tl := HCL.out.2 rfl
            have htl : tl.length + 2 ≤ rest.length := by rw [hsp]; simp
            have HSP := Lib.hid hsp
            have HCC := Lib.hid hclean
            clear hclean hsp
            go_wp2_with fail
            refine (cut_any rest m _ (by omega) hmc).mono ?_
            rintro e w1 ⟨rfl, n, rfl⟩
            rw [HCUT.out]
            have hb1 : Below wr.heap.size wr (wr.drewN n) := ⟨rfl, rfl, rfl, Nat.le_refl _, fun _ _ => rfl⟩
            go_wp2_with fail
            refine (valid_any ⟨ln.toArray⟩ _ (by show ln.length < _; omega)).mono ?_
            rintro e w2 ⟨rfl, hb2⟩
            rw [show cleanL (⟨ln.toArray⟩ : ByteArray).data.toList = true from HCC.out]
            go_wp2_with fail
            refine (HC.out rows ln _ (HKK.out _ _ _ HI.out (hb1.trans hb2)) HCC.out ?_).mono ?_
            · have h1 := congrArg List.length HS.out
              rw [HSP.out] at h1
              simp [joinL_append, joinL_one] at h1 ⊢
              omega
            rintro e w3 ⟨rfl, hI3⟩
            go_wp2_with fail
            cases gk with
            | zero => omega
            | succ g =>
              go_roundg g
              case measure => omega
              case rel =>
                refine ⟨tl, rows ++ [ln], rfl, by omega, ?_, ?_, hI3⟩
                · rw [HP.out, HCP.out, HCC.out]
                  simp [Function.comp_def]
                · rw [joinL_append, joinL_one, List.append_assoc, ← HSP.out]
                  exact HS.out
  · have ht : textL s = none := if_neg hl
    rw [ht]
    unfold maxLen at hs
    have hl' : (8192 : Int) < (s.length : Int) := by omega
    clear hm hk hc ht
    go_enter Try.func19, Try.ntmps19
    go_wp2_with fail
    exact ⟨rfl, rfl, [], h0⟩
end Go.Proofs.Ytdebkbocpljkbaa

/-
  Parts between dots: strings.Cut at one byte and allParts walked, for whatever test is asked of the parts; then plain local parts, host names, literals and domains.
  Conditions: as each theorem states them.
-/
import Derived.Test.YtkbhmkofflcpjaaGreatDoorC
import Derived.BigQuiet
import Derived.Deep.QuietTactic
import Derived.WalkSmall
import Derived.Below
import Derived.Shelf.Abstract
namespace Go.Proofs.YtkbhmkofflcpjaaGreatDoor
open Go.RowKit

theorem index_no {c : UInt8} : ∀ {s : List UInt8}, c ∉ s → Lib.indexByte s c = -1 := by
  intro s
  induction s with
  | nil => intro _; rfl
  | cons d t ih =>
    intro h
    simp only [List.mem_cons, not_or] at h
    have h1 : (d == c) = false := by simpa using fun e => h.1 e.symm
    rw [Lib.indexByte, ih h.2, h1]
    rfl

theorem index_yes {c : UInt8} : ∀ {s : List UInt8}, c ∈ s → ∃ p r, c ∉ p ∧ s = p ++ c :: r ∧ Lib.indexByte s c = (p.length : Int) := by
  intro s
  induction s with
  | nil => intro h; cases h
  | cons d t ih =>
    intro h
    by_cases hd : d = c
    · subst hd
      refine ⟨[], t, by simp, rfl, ?_⟩
      rw [Lib.indexByte]
      simp
    · have ht : c ∈ t := by
        rcases List.mem_cons.1 h with h | h
        · exact absurd h.symm hd
        · exact h
      obtain ⟨p, r, hp, rfl, hi⟩ := ih ht
      refine ⟨d :: p, r, ?_, rfl, ?_⟩
      · simp only [List.mem_cons, not_or]
        exact ⟨fun e => hd e.symm, hp⟩
      · have h1 : (d == c) = false := by simpa using hd
        rw [Lib.indexByte, hi, h1]
        have h2 : ((p.length : Int) == -1) = false := beq_eq_false_iff_ne.2 (by omega)
        rw [h2]
        simp

theorem ext_eq (s : List UInt8) (i j : Nat) : (⟨s.toArray⟩ : ByteArray).extract i j = ⟨((s.take j).drop i).toArray⟩ := by
  apply ByteArray.ext
  simp [List.drop_take]

theorem drop_cut (p r : List UInt8) (c : UInt8) : List.drop (p.length + 1) (List.take (p.length + (r.length + 1)) (p ++ c :: r)) = r := by
  rw [List.take_of_length_le (by simp), show p ++ c :: r = (p ++ [c]) ++ r by simp]
  exact List.drop_left' (by simp)

/-- What Cut answers at one byte. -/
def CutEnd (c : UInt8) (s : List UInt8) (e : Ending) : Prop :=
  (c ∉ s ∧ e = .returned (.tuple #[.string ⟨s.toArray⟩, .string ⟨#[]⟩, .bool false])) ∨
  ∃ p r, c ∉ p ∧ s = p ++ c :: r ∧ e = .returned (.tuple #[.string ⟨p.toArray⟩, .string ⟨r.toArray⟩, .bool true])

set_option maxHeartbeats 1000000 in
set_option maxRecDepth 100000 in
theorem slCut_one (c : UInt8) (s : List UInt8) (w : World) (hs : s.length ≤ maxLen) :
    Calls Tryz.prog 139 #[.string ⟨s.toArray⟩, .string ⟨#[c]⟩] w fun e w' => CutEnd c s e ∧ ∃ n, w' = w.drewN n := by
  unfold maxLen at hs
  have HI := Lib.hid (Tryz.stringslite_Index_one ⟨s.toArray⟩ c w)
  by_cases h : c ∈ s
  · obtain ⟨p, r, hp, hs', hi⟩ := index_yes h
    have HP := Lib.hid hp
    have HS := Lib.hid hs'
    have HX := Lib.hid hi
    have hpl : p.length < s.length := by rw [hs']; simp
    have hpi : (p.length : Int) < (s.length : Int) := by omega
    have hp1 : (p.length : Int) + 1 ≤ (s.length : Int) := by omega
    have hw1 : IntKind.i64.wrap ((p.length : Int) + 1) = (p.length : Int) + 1 := IntWalk.i64_in _ (by omega)
    clear hp hs' hi h
    go_enter Tryz.func139, Tryz.ntmps139
    go_wp2_with fail
    refine Calls.mono HI.out ?_
    rintro e w' ⟨rfl, rfl⟩
    rw [HX.out]
    go_wp2_with fail
    go_quiet (fail)
    go_wp2
    go_ret3
    refine ⟨.inr ⟨p, r, HP.out, HS.out, ?_⟩, _, rfl⟩
    rw [ext_eq, ext_eq, HS.out]
    simp [drop_cut]
  · have HX := Lib.hid (index_no h)
    have HN := Lib.hid h
    clear h
    go_enter Tryz.func139, Tryz.ntmps139
    go_wp2_with fail
    refine Calls.mono HI.out ?_
    rintro e w' ⟨rfl, rfl⟩
    rw [HX.out]
    go_wp2
    go_ret3
    exact ⟨.inl ⟨HN.out, rfl⟩, 0, rfl⟩

theorem cut_one (c : UInt8) (s : List UInt8) (w : World) (hs : s.length ≤ maxLen) :
    Calls Tryz.prog 117 #[.string ⟨s.toArray⟩, .string ⟨#[c]⟩] w fun e w' => CutEnd c s e ∧ ∃ n, w' = w.drewN n := by
  have HC := Lib.hid (slCut_one c s w hs)
  go_enter Tryz.func117, Tryz.ntmps117
  go_wp2_with fail
  refine Calls.mono HC.out ?_
  rintro e w' ⟨⟨hn, rfl⟩ | ⟨p, r, hp, hr, rfl⟩, n, rfl⟩
  · have HN := Lib.hid hn
    clear hn
    go_wp2
    go_ret3
    exact ⟨.inl ⟨HN.out, rfl⟩, n, rfl⟩
  · have HP := Lib.hid hp
    have HR := Lib.hid hr
    clear hp hr
    go_wp2
    go_ret3
    exact ⟨.inr ⟨p, r, HP.out, HR.out, rfl⟩, n, rfl⟩

set_option maxHeartbeats 1000000 in
set_option maxRecDepth 100000 in
theorem allParts_any (f : FuncId) (T : List UInt8 → Bool) (hent : ∀ args w, (callFunc f args).run Tryz.prog w = .ok (.enter f args) w)
    (hT : ∀ (s : List UInt8) (w : World), s.length ≤ maxLen → Calls Tryz.prog f #[.string ⟨s.toArray⟩] w fun e w' => e = .returned (.bool (T s)) ∧ w = w') (s : List UInt8) (w : World) (hs : s.length ≤ maxLen) :
    Calls Tryz.prog 100 #[.string ⟨s.toArray⟩, .func (.func f) #[] #[]] w fun e w' => e = .returned (.bool ((splitB 46 s).all T)) ∧ ∃ n, w' = w.drewN n := by
  have HT := Lib.hid hT
  clear hT
  have HS := Lib.hid hs
  clear hs
  go_enter Tryz.func100, Tryz.ntmps100
  go_wp2_with fail
  go_loopw [0] (fun sv wr => ∃ (t : List UInt8) (n : Nat), sv = .string ⟨t.toArray⟩ ∧ t.length ≤ maxLen ∧ (splitB 46 s).all T = (splitB 46 t).all T ∧ wr = w.drewN n) (fun sv _ => match sv with | .string b => b.size | _ => 0)
  case atStart => exact ⟨s, 0, rfl, HS.out, rfl, rfl⟩
  case round =>
    obtain ⟨t, n, rfl, ht, hall, rfl⟩ := hrel
    have HA := Lib.hid hall
    have HL := Lib.hid ht
    have HC := Lib.hid (cut_one 46 t (w.drewN n) ht)
    clear hall ht
    go_wp2_with fail
    refine Calls.mono HC.out ?_
    rintro e w' ⟨⟨hn, rfl⟩ | ⟨p, r, hp, hr, rfl⟩, m, rfl⟩
    · have HN := Lib.hid (split_none hn)
      have HH := Lib.hid (HT.out t (w.drewN (n + m)) HL.out)
      clear hn
      go_wp2_with fail
      refine Calls.mono HH.out ?_
      rintro e w' ⟨rfl, rfl⟩
      cases hq : T t with
      | true =>
        have HE := Lib.hid (show (splitB 46 s).all T = true by rw [HA.out, HN.out]; simp [hq])
        clear hq
        go_wp2_with fail
        go_ret
        exact ⟨ret_bool HE.out.symm, _, rfl⟩
      | false =>
        have HE := Lib.hid (show (splitB 46 s).all T = false by rw [HA.out, HN.out]; simp [hq])
        clear hq
        go_wp2_with fail
        go_ret
        exact ⟨ret_bool HE.out.symm, _, rfl⟩
    · have hlen : t.length = p.length + r.length + 1 := by rw [hr]; simp; omega
      have HN := Lib.hid (show splitB 46 t = p :: splitB 46 r by rw [hr]; exact split_some hp)
      have HLN := Lib.hid hlen
      have HH := Lib.hid (HT.out p (w.drewN (n + m)) (by have := HL.out; omega))
      clear hp hr hlen
      go_wp2_with fail
      refine Calls.mono HH.out ?_
      rintro e w' ⟨rfl, rfl⟩
      cases hq : T p with
      | true =>
        have HE := Lib.hid (show (splitB 46 s).all T = (splitB 46 r).all T by rw [HA.out, HN.out]; simp [hq])
        clear hq
        go_wp2_with fail
        exact ⟨⟨r, _, rfl, by have := HL.out; have := HLN.out; omega, HE.out, rfl⟩, by have := HLN.out; show r.length < t.length; omega⟩
      | false =>
        have HE := Lib.hid (show (splitB 46 s).all T = false by rw [HA.out, HN.out]; simp [hq])
        clear hq
        go_wp2_with fail
        go_ret
        exact ⟨ret_bool HE.out.symm, _, rfl⟩

theorem enters_isWord (args : Array Value) (w : World) : (callFunc 101 args).run Tryz.prog w = .ok (.enter 101 args) w := enters_of Tryz.func101 (by kernel_rfl) rfl args w
theorem enters_isLabel (args : Array Value) (w : World) : (callFunc 105 args).run Tryz.prog w = .ok (.enter 105 args) w := enters_of Tryz.func105 (by kernel_rfl) rfl args w
theorem enters_isNumber (args : Array Value) (w : World) : (callFunc 109 args).run Tryz.prog w = .ok (.enter 109 args) w := enters_of Tryz.func109 (by kernel_rfl) rfl args w

theorem isPlain_any (s : List UInt8) (w : World) (hs : s.length ≤ maxLen) :
    Calls Tryz.prog 87 #[.string ⟨s.toArray⟩] w fun e w' => e = .returned (.bool (plainL s)) ∧ ∃ n, w' = w.drewN n := by
  have HH := Lib.hid (allParts_any 101 wordB enters_isWord (fun s w h => isWord_any s w h) s w hs)
  go_enter Tryz.func87, Tryz.ntmps87
  go_wp2_with fail
  refine Calls.mono HH.out ?_
  rintro e w' ⟨rfl, n, rfl⟩
  go_wp2_with fail
  go_ret
  exact ⟨rfl, n, rfl⟩

theorem isHost_any (s : List UInt8) (w : World) (hs : s.length ≤ maxLen) :
    Calls Tryz.prog 89 #[.string ⟨s.toArray⟩] w fun e w' => e = .returned (.bool (hostL s)) ∧ ∃ n, w' = w.drewN n := by
  have HH := Lib.hid (allParts_any 105 labelB enters_isLabel (fun s w h => isLabel_any s w h) s w hs)
  go_enter Tryz.func89, Tryz.ntmps89
  go_wp2_with fail
  refine Calls.mono HH.out ?_
  rintro e w' ⟨rfl, n, rfl⟩
  go_wp2_with fail
  go_ret
  exact ⟨rfl, n, rfl⟩
end Go.Proofs.YtkbhmkofflcpjaaGreatDoor

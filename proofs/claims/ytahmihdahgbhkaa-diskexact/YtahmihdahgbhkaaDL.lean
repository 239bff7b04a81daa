/-
  Package disk's cut, walked; what a call that counts makes of a disk.
  Conditions: as each theorem states them.
-/
import Derived.Test.YtahmihdahgbhkaaDK
namespace Go.Proofs.Ytahmihdahgbhkaa
open Go.RowKit

/-- A call that counts: what it makes of a disk, and its error. -/
def actD (d : Dk) (n : Int) (lim : Fl → Bool) (g : Fl → Fl) : Dk × Int :=
  if (tickP d.p).isNone then (⟨d.f, tickP d.p⟩, 10) else if fileOk n then (if lim (d.f n.toNat) then ((⟨d.f, tickP d.p⟩ : Dk).put n.toNat (g (d.f n.toNat)), 0) else (⟨d.f, tickP d.p⟩, 2)) else (⟨d.f, tickP d.p⟩, 1)
section
variable {d : Dk} {n : Int} {lim : Fl → Bool} {g : Fl → Fl}
theorem actD_off (h : (tickP d.p).isNone = true) : actD d n lim g = (⟨d.f, tickP d.p⟩, 10) := if_pos h
theorem actD_form (h : (tickP d.p).isNone = false) (hn : fileOk n = false) : actD d n lim g = (⟨d.f, tickP d.p⟩, 1) := by unfold actD; rw [h, hn]; rfl
theorem actD_limit (h : (tickP d.p).isNone = false) (hn : fileOk n = true) (hl : lim (d.f n.toNat) = false) : actD d n lim g = (⟨d.f, tickP d.p⟩, 2) := by unfold actD; rw [h, hn, hl]; rfl
theorem actD_ok (h : (tickP d.p).isNone = false) (hn : fileOk n = true) (hl : lim (d.f n.toNat) = true) : actD d n lim g = ((⟨d.f, tickP d.p⟩ : Dk).put n.toNat (g (d.f n.toNat)), 0) := by unfold actD; rw [h, hn, hl]; rfl
end
def cutL (k : Int) (f : Fl) : Bool := inB k 0 f.now.length
def cutG (k : Int) (f : Fl) : Fl := ⟨f.kept, f.done ++ [⟨k.toNat, none⟩]⟩
def wrL (at_ : Int) (b : List UInt8) (f : Fl) : Bool := inB at_ 0 f.now.length && decide ((b.length : Int) ≤ 4194304 - at_)
def wrG (at_ : Int) (b : List UInt8) (f : Fl) : Fl := ⟨f.kept, f.done ++ [⟨at_.toNat, some b⟩]⟩
def syG (f : Fl) : Fl := ⟨f.now, []⟩
def cutD (d : Dk) (n k : Int) : Dk × Int := actD d n (cutL k) (cutG k)
def wrD (d : Dk) (n at_ : Int) (b : List UInt8) : Dk × Int := actD d n (wrL at_ b) (wrG at_ b)
def syD (d : Dk) (n : Int) : Dk × Int := actD d n (fun _ => true) syG
/-- All that a disk of the package may write. -/
def SK : List Nat := [2, 3, 4, 5, 6, 7, 8, 9, 10, 11]
theorem SK_mem {r : Nat} (h1 : 2 ≤ r) (h2 : r ≤ 11) : r ∈ SK := by
  unfold SK
  have : r = 2 ∨ r = 3 ∨ r = 4 ∨ r = 5 ∨ r = 6 ∨ r = 7 ∨ r = 8 ∨ r = 9 ∨ r = 10 ∨ r = 11 := by omega
  rcases this with rfl | rfl | rfl | rfl | rfl | rfl | rfl | rfl | rfl | rfl <;> simp
section
variable {w w' w1 : World} {S T : List Nat} {ρ ρ1 : Ro} {B p : Nat} {x : DkV} {d : Dk}
theorem KAt.off_eq (h : KAt w ρ B p x d) : x.off = d.p.isNone := by
  rw [← h.pw]
  unfold pwK
  cases x.off with
  | true => rfl
  | false => simp only [Bool.false_eq_true, if_false]; split <;> rfl
theorem OpK.mono (h : OpK S w ρ B p d w') (hS : ∀ r ∈ S, r ∈ T) : OpK T w ρ B p d w' := by
  obtain ⟨ρ', h1, h2⟩ := h
  exact ⟨ρ', h1.mono hS, h2⟩
theorem OpK.after (h : OpK S w1 ρ1 B p d w') (k : Step S ρ ρ1 w w1) : OpK S w ρ B p d w' := by
  obtain ⟨ρ', h1, h2⟩ := h
  exact ⟨ρ', k.trans h1, h2⟩
theorem OpK.of (h : KAt w' ρ B p x d) (hs : Step S ρ ρ w w') (hr : RoOk ρ B w') : OpK S w ρ B p d w' := ⟨ρ, hs, hr, x, h⟩
end
theorem file_nat {n : Int} (h : fileOk n = true) : n.toNat ≤ 2 ∧ ((n.toNat : Nat) : Int) = n := by
  have := fileOk_iff.1 h
  omega
theorem len_in (l : List UInt8) (h : l.length ≤ 4194304) : (l.length : Int) < 9223372036854775808 := by omega

set_option maxHeartbeats 4000000 in
set_option maxRecDepth 100000 in
theorem cut_any (w : World) (ρ : Ro) (B p : Nat) (x : DkV) (d : Dk) (h : KAt w ρ B p x d) (hr : RoOk ρ B w) (hB : B ≤ w.heap.size) (n k : Int) (hl : ∀ m, (d.f m).done.length < 1000000) :
    Calls Try.prog 45 #[.pointer (some ⟨p, 0, none⟩), .int .i64 n, .int .i64 k] w fun e w' => e = endE (cutD d n k).2 ∧ OpK SK w ρ B p (cutD d n k).1 w' := by
  have HC := Lib.hid (count_any w ρ B p x d h)
  have HR := Lib.hid hr
  unfold cutD
  clear h hr
  go_enter Try.func45, Try.ntmps45
  go_wp2_with fail
  refine Calls.mono HC.out ?_
  rintro e w1 ⟨rfl, hs1, x1, hk1⟩
  have HS1 := Lib.hid (hs1.mono (T := SK) (by simp [SK]))
  have HR1 := Lib.hid (HR.out.later hs1.kept.size)
  have HK1 := Lib.hid hk1
  have hb1 : B ≤ w1.heap.size := Nat.le_trans hB hs1.kept.size
  have HF := Lib.hid (file_any w1 p x1.off n hk1.cOff hk1.lt)
  have hoff := hk1.off_eq
  simp only at hoff
  cases hq : (tickP d.p).isNone with
  | true =>
    rw [hq] at hoff
    rw [hoff, show endF p true n = wrongK 10 from rfl] at HF
    have HP := Lib.hid (OpK.of hk1 HS1.out HR1.out)
    have HE := Lib.hid (actD_off (n := n) (lim := cutL k) (g := cutG k) hq)
    clear hs1 hk1 HC
    go_wp2_with fail
    refine Calls.mono HF.out ?_
    rintro e w' ⟨rfl, he⟩
    have he := he.symm
    subst he
    exact ⟨rfl, by rw [HE.out]; rfl, by rw [HE.out]; exact HP.out⟩
  | false =>
    rw [hq] at hoff
    rw [hoff] at HF
    cases hf : fileOk n with
    | false =>
      rw [show endF p false n = wrongK 1 by unfold endF; rw [hf]; rfl] at HF
      have HP := Lib.hid (OpK.of hk1 HS1.out HR1.out)
      have HE := Lib.hid (actD_form (lim := cutL k) (g := cutG k) hq hf)
      clear hs1 hk1 HC
      go_wp2_with fail
      refine Calls.mono HF.out ?_
      rintro e w' ⟨rfl, he⟩
      have he := he.symm
      subst he
      exact ⟨rfl, by rw [HE.out]; rfl, by rw [HE.out]; exact HP.out⟩
    | true =>
      rw [show endF p false n = .returned (.pointer (some ⟨p, n.toNat * 3, none⟩)) by unfold endF; rw [hf]; rfl] at HF
      obtain ⟨h2, hni⟩ := file_nat hf
      obtain ⟨N, hN⟩ : ∃ N, n.toNat = N := ⟨_, rfl⟩
      rw [hN] at h2 hni HF
      have cN := hk1.cN h2
      obtain ⟨nA, nc, hnv, _, _⟩ := (hk1.now N h2).br.slice
      rw [hnv] at cN
      have hnl := len_in _ (hk1.nowLen h2)
      simp only at hnl cN hnv
      have hbl := hk1.lt
      have HW := Lib.hid (fun W => within_any k 0 (d.f N).now.length W)
      cases hc : inB k 0 (d.f N).now.length with
      | false =>
        rw [hc] at HW
        have HP := Lib.hid (OpK.of hk1 HS1.out HR1.out)
        have HE := Lib.hid (actD_limit (lim := cutL k) (g := cutG k) hq hf (by rw [hN]; exact hc))
        have HN := Lib.hid (fun n W => demand_no n W)
        clear hs1 hk1 HC hc
        go_wp2_with fail
        refine Calls.mono HF.out ?_
        rintro e w' ⟨rfl, he⟩
        have he := he.symm
        subst he
        go_wp2_with fail
        refine Calls.mono (HW.out _) ?_
        rintro e w' ⟨rfl, he⟩
        have he := he.symm
        subst he
        go_wp2_with fail
        refine Calls.mono (HN.out _ _) ?_
        rintro e w' ⟨rfl, he⟩
        have he := he.symm
        subst he
        exact ⟨rfl, by rw [HE.out]; rfl, by rw [HE.out]; exact HP.out⟩
      | true =>
        rw [hc] at HW
        obtain ⟨k1, k2⟩ := inB_iff.1 hc
        obtain ⟨K, hK⟩ : ∃ K : Nat, k = (K : Int) := ⟨k.toNat, by omega⟩
        subst hK
        have HE := Lib.hid (actD_ok (lim := cutL (K : Int)) (g := cutG (K : Int)) hq hf (by rw [hN]; exact hc))
        rw [hN] at HE
        have HO := Lib.hid (fun n W => demand_ok n W)
        have HD := Lib.hid (do_any w1 ρ B p N x1 ⟨d.f, tickP d.p⟩ hk1 HR1.out h2 ⟨K, none⟩ (.slice none 0 0) hb1 ⟨fun _ => rfl, fun _ e => by cases e⟩ (fun _ e => by cases e) ⟨by simpa using k2, fun _ e => by cases e⟩ (hl N))
        clear hs1 hk1 HC hc
        go_wp2_with fail
        refine Calls.mono HF.out ?_
        rintro e w' ⟨rfl, he⟩
        have he := he.symm
        subst he
        go_wp2_with fail
        refine Calls.mono (HW.out _) ?_
        rintro e w' ⟨rfl, he⟩
        have he := he.symm
        subst he
        go_wp2_with fail
        refine Calls.mono (HO.out _ _) ?_
        rintro e w' ⟨rfl, he⟩
        have he := he.symm
        subst he
        go_wp2_with fail
        refine Calls.mono HD.out ?_
        rintro e w2 ⟨rfl, hop⟩
        have HOP := Lib.hid (OpK.after (hop.mono (T := SK) (fun r hr => by
          simp only [List.mem_cons, List.not_mem_nil, or_false] at hr
          exact SK_mem (by omega) (by omega))) HS1.out)
        clear hop HD
        go_wp2_with fail
        go_end0
        rw [HE.out]
        exact ⟨rfl, HOP.out⟩
end Go.Proofs.Ytahmihdahgbhkaa

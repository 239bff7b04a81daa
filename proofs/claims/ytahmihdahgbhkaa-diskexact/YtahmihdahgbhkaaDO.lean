/-
  Package disk's Off and Size, walked.
  Conditions: as each theorem states them.
-/
import Derived.Test.YtahmihdahgbhkaaDN
namespace Go.Proofs.Ytahmihdahgbhkaa
open Go.RowKit

set_option maxHeartbeats 2000000 in
theorem Off_any (w : World) (ρ : Ro) (B p : Nat) (x : DkV) (d : Dk) (h : KAt w ρ B p x d) (hr : RoOk ρ B w) (n : Int) (hn : n < 9223372036854775808) :
    Calls Try.prog 26 #[.pointer (some ⟨p, 0, none⟩), .int .i64 n] w fun e w' => e = .returned (.tuple #[]) ∧ OpK SK w ρ B p ⟨d.f, setP n d.p⟩ w' := by
  have h9 := h.cOff
  have h10 := h.cCalls
  have z9 := h.blk.fz 9
  have z10 := h.blk.fz 10
  have hbl := h.lt
  by_cases hq : n < 1
  · have HS := Lib.hid (set_off w p x true h.blk)
    have HST := Lib.hid (show Step [2] ρ ρ w (w.setCell ⟨p, 9, none⟩ (.bool true)) from Step.refl.setCell ⟨p, 9, none⟩ (.inr (by rw [show ρ p = 2 from h.ro]; simp)) _)
    have HK := Lib.hid (h.power HS.out HST.out (q := setP n d.p) (by rw [setP_low hq]; rfl) h.calls0 h.calls1)
    have HOP := Lib.hid (OpK.of HK.out (HST.out.mono (T := SK) (by simp [SK])) (hr.later HST.out.kept.size))
    clear h hr HK HS HST
    go_enter Try.func26, Try.ntmps26
    go_wp2_with fail
    refine bodyPost_ret (results_none rfl _ _ _) rfl ?_
    exact ⟨rfl, HOP.out⟩
  · have HS := Lib.hid (set_calls w p x n h.blk)
    have HST := Lib.hid (show Step [2] ρ ρ w (w.setCell ⟨p, 10, none⟩ (.int .i64 n)) from Step.refl.setCell ⟨p, 10, none⟩ (.inr (by rw [show ρ p = 2 from h.ro]; simp)) _)
    have hp : pwK x.off n = setP n d.p := by
      rw [← h.pw]
      unfold pwK
      rw [if_neg (show ¬ n = 0 by omega)]
      cases x.off with
      | true => rfl
      | false =>
        simp only [Bool.false_eq_true, if_false]
        split
        · rw [setP_on (by omega)]
        · rw [setP_on (by omega)]
    have HK := Lib.hid (h.power HS.out HST.out hp (by omega) hn)
    have HOP := Lib.hid (OpK.of HK.out (HST.out.mono (T := SK) (by simp [SK])) (hr.later HST.out.kept.size))
    clear h hr HK HS HST hp
    go_enter Try.func26, Try.ntmps26
    go_wp2_with fail
    go_end0
    exact ⟨rfl, HOP.out⟩

/-- A file's size, or an error. -/
def sizeD (d : Dk) (n : Int) : Int × Int := if d.p.isNone then (0, 10) else if fileOk n then (((d.f n.toNat).now.length : Int), 0) else (0, 1)
theorem enters_Size (args : Array Value) (w : World) : (callFunc 40 args).run Try.prog w = .ok (.enter 40 args) w := enters_of Try.func40 (by kernel_rfl) rfl args w
set_option maxHeartbeats 2000000 in
theorem Size1_any (w : World) (ρ : Ro) (B p a : Nat) (x : DkV) (d : Dk) (h : KAt w ρ B p x d) (n : Int) (h0 : Blk w a #[.pointer (some ⟨p, 0, none⟩)] 27) (h1 : Blk w (a + 1) #[.int .i64 n] 3) (h2 : Blk w (a + 2) #[.int .i64 0] 3) :
    Calls Try.prog 40 #[.pointer (some ⟨a, 0, none⟩), .pointer (some ⟨a + 1, 0, none⟩), .pointer (some ⟨a + 2, 0, none⟩)] w fun e w' => e = endE (sizeD d n).2 ∧ Kept (· = a + 2) w w' ∧ Blk w' (a + 2) #[.int .i64 (sizeD d n).1] 3 := by
  have HF := Lib.hid (file_any w p x.off n h.cOff h.lt)
  have hoff := h.off_eq
  have c0 := h0.c 0 (u := .pointer (some ⟨p, 0, none⟩)) rfl
  have c1 := h1.c 0 (u := .int .i64 n) rfl
  have c2 := h2.c 0 (u := .int .i64 0) rfl
  have z2 := h2.fz 0
  have H2 := Lib.hid h2
  cases hq : d.p.isNone with
  | true =>
    rw [hq] at hoff
    rw [hoff, show endF p true n = wrongK 10 from rfl] at HF
    have HE := Lib.hid (show sizeD d n = (0, 10) from if_pos hq)
    clear h h0 h1 h2
    go_enter Try.func40, Try.ntmps40
    go_wp2_with fail
    refine Calls.mono HF.out ?_
    rintro e w' ⟨rfl, he⟩
    have he := he.symm
    subst he
    exact ⟨rfl, by rw [HE.out]; rfl, Kept.refl, by rw [HE.out]; exact H2.out⟩
  | false =>
    rw [hq] at hoff
    rw [hoff] at HF
    cases hf : fileOk n with
    | false =>
      rw [show endF p false n = wrongK 1 by unfold endF; rw [hf]; rfl] at HF
      have HE := Lib.hid (show sizeD d n = (0, 1) by unfold sizeD; rw [hq, hf]; rfl)
      clear h h0 h1 h2
      go_enter Try.func40, Try.ntmps40
      go_wp2_with fail
      refine Calls.mono HF.out ?_
      rintro e w' ⟨rfl, he⟩
      have he := he.symm
      subst he
      exact ⟨rfl, by rw [HE.out]; rfl, Kept.refl, by rw [HE.out]; exact H2.out⟩
    | true =>
      rw [show endF p false n = .returned (.pointer (some ⟨p, n.toNat * 3, none⟩)) by unfold endF; rw [hf]; rfl] at HF
      have HE := Lib.hid (show sizeD d n = (((d.f n.toNat).now.length : Int), 0) by unfold sizeD; rw [hq, hf]; rfl)
      obtain ⟨h2', hni⟩ := file_nat hf
      obtain ⟨N, hN⟩ : ∃ N, n.toNat = N := ⟨_, rfl⟩
      rw [hN] at h2' HF HE
      have cN := h.cN h2'
      obtain ⟨nA, nc, hnv, _, _⟩ := (h.now N h2').br.slice
      rw [hnv] at cN
      have hbl := h.lt
      clear h h0 h1 h2 hN hni
      go_enter Try.func40, Try.ntmps40
      go_wp2_with fail
      refine Calls.mono HF.out ?_
      rintro e w' ⟨rfl, he⟩
      have he := he.symm
      subst he
      go_wp2_with fail
      go_end0
      refine ⟨by rw [HE.out]; rfl, Kept.setCell (E := (· = a + 2)) Kept.refl ⟨a + 2, 0, none⟩ (.inr rfl) _, ?_⟩
      rw [HE.out]
      exact H2.out.set 0 _
theorem Size_any (w : World) (ρ : Ro) (B p : Nat) (x : DkV) (d : Dk) (h : KAt w ρ B p x d) (n : Int) :
    Calls Try.prog 16 #[.pointer (some ⟨p, 0, none⟩), .int .i64 n] w fun e w' => e = .returned (.tuple #[.int .i64 (sizeD d n).1, .int .i64 (sizeD d n).2]) ∧ Below w.heap.size w w' := by
  obtain ⟨W0, hW⟩ : ∃ W0, ((w.alloc (.cells #[.pointer (some ⟨p, 0, none⟩)] 27)).alloc (.cells #[.int .i64 n] 3)).alloc (.cells #[.int .i64 0] 3) = W0 := ⟨_, rfl⟩
  have HA0 : Hid (Blk W0 w.heap.size #[.pointer (some ⟨p, 0, none⟩)] 27) := by rw [← hW]; exact ((Blk.new w _ _).alloc _).alloc _
  have HA1 : Hid (Blk W0 (w.heap.size + 1) #[.int .i64 n] 3) := by
    rw [← hW]
    have := Blk.new (w.alloc (.cells #[.pointer (some ⟨p, 0, none⟩)] 27)) #[.int .i64 n] 3
    rw [show (w.alloc (.cells #[.pointer (some ⟨p, 0, none⟩)] 27)).heap.size = w.heap.size + 1 by simp] at this
    exact this.alloc _
  have HA2 : Hid (Blk W0 (w.heap.size + 2) #[.int .i64 0] 3) := by
    rw [← hW]
    have := Blk.new ((w.alloc (.cells #[.pointer (some ⟨p, 0, none⟩)] 27)).alloc (.cells #[.int .i64 n] 3)) #[.int .i64 0] 3
    rw [show ((w.alloc (.cells #[.pointer (some ⟨p, 0, none⟩)] 27)).alloc (.cells #[.int .i64 n] 3)).heap.size = w.heap.size + 2 by simp] at this
    exact this
  have hws0 : W0.heap.size = w.heap.size + 3 := by rw [← hW]; simp
  have HST0 : Hid (Step [] ρ ρ w W0) := by rw [← hW]; exact ((Step.refl.alloc _).alloc _).alloc _
  obtain ⟨W, hV⟩ : ∃ W, W0.setCell ⟨w.heap.size + 2, 0, none⟩ (.int .i64 0) = W := ⟨_, rfl⟩
  have HB0 := Lib.hid (show Blk W w.heap.size #[.pointer (some ⟨p, 0, none⟩)] 27 by rw [← hV]; exact HA0.out.other (p := ⟨w.heap.size + 2, 0, none⟩) (by simp) _)
  have HB1 := Lib.hid (show Blk W (w.heap.size + 1) #[.int .i64 n] 3 by rw [← hV]; exact HA1.out.other (p := ⟨w.heap.size + 2, 0, none⟩) (by simp) _)
  have HB2 := Lib.hid (show Blk W (w.heap.size + 2) #[.int .i64 0] 3 by rw [← hV]; exact HA2.out.set 0 _)
  have ca := HA2.out.c 0 (u := .int .i64 0) rfl
  have za := HA2.out.fz 0
  have hws : W.heap.size = w.heap.size + 3 := by rw [← hV]; simpa [World.setCell] using hws0
  have HST : Hid (Step [] ρ ρ w W) := by rw [← hV]; exact HST0.out.setCell ⟨w.heap.size + 2, 0, none⟩ (.inl (by simp)) _
  have hmf : ∀ (fn : Fn) (first cap : Array Value) (w : World), (Instr.makeFunc fn first cap).run Try.prog w = .ok (.func fn first cap) w := fun _ _ _ _ => rfl
  have HCC := Lib.hid (catch_any 40 #[.pointer (some ⟨w.heap.size, 0, none⟩), .pointer (some ⟨w.heap.size + 1, 0, none⟩), .pointer (some ⟨w.heap.size + 2, 0, none⟩)] (sizeD d n).2 W
    (fun w1 => Kept (· = w.heap.size + 2) (W.alloc (.cells #[.int .i64 0] 28)) w1 ∧ Blk w1 (w.heap.size + 2) #[.int .i64 (sizeD d n).1] 3) (enters_Size _)
    ((Size1_any (W.alloc (.cells #[.int .i64 0] 28)) ρ B p w.heap.size x d (h.step (HST.out.alloc _) (by simp)) n (HB0.out.alloc _) (HB1.out.alloc _) (HB2.out.alloc _)).mono (by
      rintro e w' ⟨rfl, hk, hb⟩
      refine ⟨rfl, ⟨hk, hb⟩, ?_⟩
      rw [hk.block W.heap.size (by simp) (by show ¬ (W.heap.size = w.heap.size + 2); omega)]
      exact heap_alloc_new W _)))
  generalize sizeD d n = q at *
  obtain ⟨q1, q2⟩ := q
  clear h
  go_enter Try.func16, Try.ntmps16
  go_wp2_with fail
  refine Calls.mono HCC.out ?_
  rintro e w2 ⟨rfl, w1, ⟨hk1, hb1⟩, hk2⟩
  have hb2 : Blk w2 (w.heap.size + 2) #[.int .i64 q1] 3 := hb1.kept hk2 (by omega)
  have c2 := hb2.c 0 (u := .int .i64 q1) rfl
  have HB := Lib.hid (show Below w.heap.size w w2 by
    have hk : Kept (fun k => w.heap.size ≤ k) w w2 := ((HST.out.kept.mono (F := fun k => w.heap.size ≤ k) (by simp)).alloc _).trans ((hk1.mono (F := fun k => w.heap.size ≤ k) (fun k _ e => by have e : k = w.heap.size + 2 := e; omega)).trans (hk2.mono (F := fun k => w.heap.size ≤ k) (fun k _ e => by have e : k = W.heap.size := e; omega)))
    exact hk.below (Nat.le_refl _) (fun k hk => by omega))
  clear hk1 hb1 hk2 hb2 hW hV ca za
  go_wp2_with fail
  go_ret2
  exact ⟨rfl, HB.out⟩
end Go.Proofs.Ytahmihdahgbhkaa

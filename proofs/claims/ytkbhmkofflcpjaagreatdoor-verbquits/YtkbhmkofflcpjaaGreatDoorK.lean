/-
  Quoted local parts, local parts, Check and Text of package addr, walked.
  Conditions: as each theorem states them.
-/
import Derived.Test.YtkbhmkofflcpjaaGreatDoorJ
namespace Go.Proofs.YtkbhmkofflcpjaaGreatDoor
open Go.RowKit

/-- Two texts in blocks of their own: a parameter and a variable. -/
def made2 (s : List UInt8) (w : World) : World := (w.alloc (.cells #[.string ⟨s.toArray⟩] 9)).alloc (.cells #[.string ⟨#[]⟩] 9)
theorem made2_size (s : List UInt8) (w : World) : (made2 s w).heap.size = w.heap.size + 2 := by simp [made2]
theorem made2_below (s : List UInt8) (w : World) : Below w.heap.size w (made2 s w) := ((Below.refl _ w).alloc (Nat.le_refl _) _).alloc (by simp) _
theorem made2_0 (s : List UInt8) (w : World) : SAt (made2 s w) w.heap.size s := (SAt.new w s).alloc _
theorem made2_1 (s : List UInt8) (w : World) : SAt (made2 s w) (w.heap.size + 1) [] := by
  have := SAt.new (w.alloc (.cells #[.string ⟨s.toArray⟩] 9)) []
  rw [World.size_alloc] at this
  exact this

theorem catchQ_good (s x r : List UInt8) (w : World) (hs : s.length ≤ 100000) (hr : rdL s = some (x, r)) :
    Calls Tryz.prog 84 #[.func (.func 102) #[] #[.pointer (some ⟨w.heap.size, 0, none⟩), .pointer (some ⟨w.heap.size + 1, 0, none⟩)]] (made2 s w) fun e w' =>
      e = .returned (.int .i64 0) ∧ SAt w' w.heap.size s ∧ SAt w' (w.heap.size + 1) x ∧ Below w.heap.size w w' := by
  have hsz := made2_size s w
  have h := isQuoted1_good s [] x r w.heap.size (w.heap.size + 1) ((made2 s w).alloc (.cells #[.int .i64 0] 32)) ((made2_0 s w).alloc _) ((made2_1 s w).alloc _) hs hr
  rw [World.size_alloc] at h
  refine (catch_ok 102 _ [w.heap.size + 1] (made2 s w) (fun w' => SAt w' (w.heap.size + 1) x) (enters_isQuoted_1 _) (by simp [hsz]) h).mono ?_
  rintro e w' ⟨rfl, hb, w1, h1, hk⟩
  refine ⟨rfl, ?_, ?_, (made2_below s w).trans (hb.below (by omega) (by simp))⟩
  · exact (hb.block w.heap.size (by omega) (by simp)).trans (made2_0 s w)
  · exact (hk _ (by omega)).trans h1

theorem catchQ_bad (s : List UInt8) (w : World) (hs : s.length ≤ 100000) (hr : rdL s = none) :
    Calls Tryz.prog 84 #[.func (.func 102) #[] #[.pointer (some ⟨w.heap.size, 0, none⟩), .pointer (some ⟨w.heap.size + 1, 0, none⟩)]] (made2 s w) fun e w' =>
      e = .returned (.int .i64 8) ∧ SAt w' w.heap.size s ∧ SAt w' (w.heap.size + 1) [] ∧ Below w.heap.size w w' := by
  have hsz := made2_size s w
  have h := isQuoted1_bad s w.heap.size (w.heap.size + 1) ((made2 s w).alloc (.cells #[.int .i64 0] 32)) ((made2_0 s w).alloc _) hs hr
  rw [World.size_alloc] at h
  refine (catch_no 102 _ 8 (made2 s w) (enters_isQuoted_1 _) h).mono ?_
  rintro e w' ⟨rfl, hb⟩
  exact ⟨rfl, (made2_0 s w).later hb, (made2_1 s w).later hb, (made2_below s w).trans (hb.mono (by omega))⟩

theorem quot_some {s x r : List UInt8} (h : rdL s = some (x, r)) : quotL s = (s == shortL x) := by unfold quotL; rw [h]
theorem quot_none {s : List UInt8} (h : rdL s = none) : quotL s = false := by unfold quotL; rw [h]
theorem rq_len : ∀ (n : Nat) {t acc x r : List UInt8}, t.length ≤ n → rq acc t = some (x, r) → x.length + r.length ≤ acc.length + t.length := by
  intro n
  induction n with
  | zero =>
    intro t acc x r hn h
    obtain rfl : t = [] := List.eq_nil_of_length_eq_zero (by omega)
    cases h
  | succ n ih =>
    intro t acc x r hn h
    cases t with
    | nil => cases h
    | cons c t =>
      have hn' : t.length ≤ n := by simpa using hn
      by_cases h1 : c = 34
      · subst h1
        rw [rq_end] at h
        cases h
        simp
      · by_cases h2 : c = 92
        · subst h2
          cases t with
          | nil => rw [rq_cut] at h; cases h
          | cons d u =>
            rw [rq_pair] at h
            split at h
            · have := ih (by simp at hn'; omega) h
              simp at this ⊢
              omega
            · cases h
        · rw [rq_char _ _ h1 h2] at h
          split at h
          · have := ih hn' h
            simp at this ⊢
            omega
          · cases h
theorem rd_len {s x r : List UInt8} (h : rdL s = some (x, r)) : x.length + r.length ≤ s.length := by
  cases s with
  | nil => cases h
  | cons c t =>
    rw [rdL] at h
    split at h
    · have := rq_len t.length (Nat.le_refl _) h
      simp at this ⊢
      omega
    · cases h

set_option maxHeartbeats 1000000 in
theorem isQuoted_any (s : List UInt8) (w : World) (hs : s.length ≤ 100000) :
    Calls Tryz.prog 88 #[.string ⟨s.toArray⟩] w fun e w' => e = .returned (.bool (quotL s)) ∧ Below w.heap.size w w' := by
  have hmf : ∀ (fn : Fn) (first cap : Array Value) (w : World), (Instr.makeFunc fn first cap).run Tryz.prog w = .ok (.func fn first cap) w := fun _ _ _ _ => rfl
  cases hr : rdL s with
  | none =>
    have HC := Lib.hid (catchQ_bad s w hs hr)
    have HE := Lib.hid (quot_none hr)
    clear hr
    go_enter Tryz.func88, Tryz.ntmps88
    go_wp2_with fail
    refine Calls.mono (show _ from HC.out) ?_
    rintro e w1 ⟨rfl, h0, h1, hb⟩
    have HB := Lib.hid hb
    clear hb h0 h1
    go_wp2_with fail
    go_quiet (fail)
    go_wp2
    go_ret
    exact ⟨ret_bool HE.out.symm, below_drewN HB.out _⟩
  | some p =>
    obtain ⟨x, r⟩ := p
    have HC := Lib.hid (catchQ_good s x r w hs hr)
    have HE := Lib.hid (quot_some hr)
    have hxl : x.length ≤ 100000 := by have := rd_len hr; omega
    have HSH := Lib.hid (fun W => shortest_any x W hxl)
    clear hr
    go_enter Tryz.func88, Tryz.ntmps88
    go_wp2_with fail
    refine Calls.mono (show _ from HC.out) ?_
    rintro e w1 ⟨rfl, h0, h1, hb⟩
    have HB := Lib.hid hb
    have hsz : w.heap.size + 1 < w1.heap.size := h1.lt
    have hsz0 : w.heap.size < w1.heap.size := h0.lt
    have c0 := h0.c
    have c1 := h1.c
    have HS : Hid (∀ W : World, Below w1.heap.size w1 W → W.cell? ⟨w.heap.size, 0, none⟩ = some (.string ⟨s.toArray⟩) ∧ W.cell? ⟨w.heap.size + 1, 0, none⟩ = some (.string ⟨x.toArray⟩)) := Lib.hid fun W hW => ⟨(h0.later hW).c, (h1.later hW).c⟩
    clear hb h0 h1
    go_wp2_with fail
    go_region_held3 (fun W => W.cell? ⟨w.heap.size, 0, none⟩ = some (.string ⟨s.toArray⟩) ∧ W.cell? ⟨w.heap.size + 1, 0, none⟩ = some (.string ⟨x.toArray⟩))
          (first | exact HS.out _ (Below.refl _ _).drew | exact HS.out _ hk5)
          (first | (go_at_call 104; refine (HSH.out _).mono ?_; rintro e w5 ⟨rfl, hb5⟩; (have hk5 : Below w1.heap.size w1 w5 := (Below.refl _ _).drew.trans hb5)))
    all_goals
      have HB5 := Lib.hid (HB.out.trans (hk5.mono HB.out.size))
      clear hk5 hb5
      go_wp2_with fail
      go_ret
      exact ⟨ret_bool HE.out.symm, HB5.out⟩

set_option maxHeartbeats 1000000 in
theorem isLocal_any (s : List UInt8) (w : World) (hs : s.length ≤ 100000) :
    Calls Tryz.prog 71 #[.string ⟨s.toArray⟩] w fun e w' => e = .returned (.bool (localL s)) ∧ Below w.heap.size w w' := by
  cases s with
  | nil =>
    go_enter Tryz.func71, Tryz.ntmps71
    go_wp2_with fail
    go_ret
    exact ⟨rfl, Below.refl _ _⟩
  | cons c t =>
    have hne := ne_empty (List.cons_ne_nil c t)
    have hn2 : ((c :: t) == []) = false := rfl
    generalize c :: t = s at *
    by_cases h : s.length ≤ 64
    · have hi : ¬ ((64 : Int) < (s.length : Int)) := by omega
      have HD := Lib.hid (show localL s = (plainL s || quotL s) by simp [localL, h, hne])
      have HP := Lib.hid (isPlain_any s w (by unfold maxLen; omega))
      have HQ := Lib.hid (fun n => isQuoted_any s (w.drewN n) hs)
      go_enter Tryz.func71, Tryz.ntmps71
      go_wp2_with fail
      refine Calls.mono HP.out ?_
      rintro e w1 ⟨rfl, n, rfl⟩
      cases h1 : plainL s with
      | true =>
        have HE := Lib.hid (HD.out.trans (by rw [h1]; rfl) : localL s = true)
        clear h1
        go_wp2_with fail
        go_ret
        exact ⟨ret_bool HE.out.symm, below_drewN (Below.refl _ _) n⟩
      | false =>
        have HE := Lib.hid (HD.out.trans (by rw [h1]; rfl) : localL s = quotL s)
        clear h1
        go_wp2_with fail
        refine Calls.mono (HQ.out n) ?_
        rintro e w2 ⟨rfl, hb⟩
        have HB := Lib.hid (show Below w.heap.size w w2 from (below_drewN (Below.refl _ w) n).trans hb)
        clear hb
        go_wp2_with fail
        go_ret
        exact ⟨ret_bool HE.out.symm, HB.out⟩
    · have hi : (64 : Int) < (s.length : Int) := by omega
      have HD := Lib.hid (show localL s = false by simp [localL, h])
      go_enter Tryz.func71, Tryz.ntmps71
      go_wp2_with fail
      go_ret
      exact ⟨ret_bool HD.out.symm, Below.refl _ _⟩

/-- A mailbox in a block of its own. -/
def MAt (w : World) (b : Nat) (l d : List UInt8) : Prop := w.heap[b]? = some (.cells #[.string ⟨l.toArray⟩, .string ⟨d.toArray⟩] 25 (0, 0))
theorem MAt.lt {w : World} {b : Nat} {l d : List UInt8} (h : MAt w b l d) : b < w.heap.size := (Array.getElem?_eq_some_iff.1 h).1
theorem MAt.c0 {w : World} {b : Nat} {l d : List UInt8} (h : MAt w b l d) : w.cell? ⟨b, 0, none⟩ = some (.string ⟨l.toArray⟩) := by
  have h' : w.heap[b]? = some (.cells #[.string ⟨l.toArray⟩, .string ⟨d.toArray⟩] 25 (0, 0)) := h
  simp [World.cell?, h']
theorem MAt.c1 {w : World} {b : Nat} {l d : List UInt8} (h : MAt w b l d) : w.cell? ⟨b, 1, none⟩ = some (.string ⟨d.toArray⟩) := by
  have h' : w.heap[b]? = some (.cells #[.string ⟨l.toArray⟩, .string ⟨d.toArray⟩] 25 (0, 0)) := h
  simp [World.cell?, h']
theorem MAt.fz {w : World} {b : Nat} {l d : List UInt8} (h : MAt w b l d) (j : Nat) : w.frozen? ⟨b, j, none⟩ = false := by
  have h' : w.heap[b]? = some (.cells #[.string ⟨l.toArray⟩, .string ⟨d.toArray⟩] 25 (0, 0)) := h
  simp [World.frozen?, h']
theorem MAt.later {w w' : World} {b : Nat} {l d : List UInt8} (h : MAt w b l d) (hb : Below w.heap.size w w') : MAt w' b l d := (hb.block b h.lt).trans h
theorem MAt.alloc {w : World} {b : Nat} {l d : List UInt8} (h : MAt w b l d) (o : Obj) : MAt (w.alloc o) b l d := (Below.heap_alloc w o b h.lt).trans h
theorem MAt.other {w : World} {b : Nat} {l d : List UInt8} (h : MAt w b l d) {p : Addr} (hp : b ≠ p.block) (v : Value) : MAt (w.setCell p v) b l d := (Below.heap_setCell w p v b hp).trans h
theorem MAt.set {w : World} {b : Nat} {l d : List UInt8} (h : MAt w b l d) (l' d' : List UInt8) : MAt ((w.setCell ⟨b, 0, none⟩ (.string ⟨l'.toArray⟩)).setCell ⟨b, 1, none⟩ (.string ⟨d'.toArray⟩)) b l' d' := by
  have h' : w.heap[b]? = some (.cells #[.string ⟨l.toArray⟩, .string ⟨d.toArray⟩] 25 (0, 0)) := h
  show ((w.setCell ⟨b, 0, none⟩ _).setCell ⟨b, 1, none⟩ _).heap[b]? = _
  simp only [World.setCell, Array.getElem?_modify, if_true, h']
  rfl
theorem MAt.new (w : World) (l d : List UInt8) : MAt (w.alloc (.cells #[.string ⟨l.toArray⟩, .string ⟨d.toArray⟩] 25)) w.heap.size l d := heap_alloc_new w _

/-- The error of Check. -/
def chk (b : Bool) : Int := if b then 0 else 1

set_option maxHeartbeats 1000000 in
theorem check_any (l d : List UInt8) (w : World) (hl : l.length ≤ 100000) (hd : d.length ≤ 100000) :
    Calls Tryz.prog 50 #[.agg #[.string ⟨l.toArray⟩, .string ⟨d.toArray⟩]] w fun e w' => e = .returned (.int .i64 (chk (boxL l d))) ∧ Below w.heap.size w w' := by
  have HA := Lib.hid ((Below.refl _ w).alloc (Nat.le_refl _) (.cells #[.string ⟨l.toArray⟩, .string ⟨d.toArray⟩] 25))
  have HM := Lib.hid (MAt.new w l d)
  have HL := Lib.hid (fun W => isLocal_any l W hl)
  have HD := Lib.hid (fun W => isDomain_any d W (by unfold maxLen; omega))
  go_enter Tryz.func50, Tryz.ntmps50
  go_wp2_with fail
  refine Calls.mono (HL.out _) ?_
  rintro e w1 ⟨rfl, hb⟩
  have HB := Lib.hid (HA.out.trans (hb.mono (by simp)))
  have c1 := (HM.out.later hb).c1
  clear hb
  cases h1 : localL l with
  | false =>
    have HE := Lib.hid (show chk (boxL l d) = 1 by simp [boxL, h1, chk])
    clear h1
    go_wp2_with fail
    go_ret
    rw [HE.out]
    exact ⟨rfl, HB.out⟩
  | true =>
    have HE := Lib.hid (show boxL l d = domL d by simp [boxL, h1])
    clear h1
    go_wp2_with fail
    refine Calls.mono (HD.out _) ?_
    rintro e w2 ⟨rfl, n, rfl⟩
    cases h2 : domL d with
    | true =>
      have HF := Lib.hid (show chk (boxL l d) = 0 by rw [HE.out, h2]; rfl)
      clear h2
      go_wp2_with fail
      go_ret
      rw [HF.out]
      exact ⟨rfl, below_drewN HB.out n⟩
    | false =>
      have HF := Lib.hid (show chk (boxL l d) = 1 by rw [HE.out, h2]; rfl)
      clear h2
      go_wp2_with fail
      go_ret
      rw [HF.out]
      exact ⟨rfl, below_drewN HB.out n⟩
end Go.Proofs.YtkbhmkofflcpjaaGreatDoor

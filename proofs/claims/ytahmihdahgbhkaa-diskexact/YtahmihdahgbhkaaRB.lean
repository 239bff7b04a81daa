/-
  The page's disk in memory; its off, Off and Size, walked.
  Conditions: as each theorem states them.
-/
import Derived.Test.YtahmihdahgbhkaaRA
import Derived.Test.YtahmihdahgbhkaaDR
namespace Go.Proofs.Ytahmihdahgbhkaa
open Go.RowKit

/-- A change of the page, as its cells. -/
def chRC (p : Ch × Value) : List Value := match p.1.b with | some _ => [.int .i64 (p.1.n : Int), .int .i64 (-1), p.2] | none => [.int .i64 0, .int .i64 (p.1.n : Int), p.2]
theorem chRC_len (p : Ch × Value) : (chRC p).length = 3 := by unfold chRC; split <;> rfl
def chRs : List (Ch × Value) → List Value
  | [] => []
  | p :: r => chRC p ++ chRs r
theorem chRs_append : ∀ (a b : List (Ch × Value)), chRs (a ++ b) = chRs a ++ chRs b
  | [], _ => rfl
  | g :: r, b => by simp only [List.cons_append, chRs, chRs_append r b, List.append_assoc]
theorem chRs_len : ∀ l : List (Ch × Value), (chRs l).length = l.length * 3
  | [] => rfl
  | g :: r => by simp only [chRs, List.length_append, chRs_len r, chRC_len, List.length_cons]; omega
theorem chRs_at : ∀ (l : List (Ch × Value)) (i : Nat) (hi : i < l.length) (j : Nat), j < 3 → (chRs l)[i * 3 + j]? = (chRC l[i])[j]?
  | g :: r, 0, _, j, hj => by
    simp only [chRs, Nat.zero_mul, Nat.zero_add, List.getElem_cons_zero]
    rw [List.getElem?_append_left (by rw [chRC_len]; omega)]
  | g :: r, i + 1, hi, j, hj => by
    simp only [chRs, List.getElem_cons_succ]
    rw [List.getElem?_append_right (by rw [chRC_len]; omega), ← chRs_at r i (by simpa using hi) j hj]
    congr 1
    rw [chRC_len]
    omega
/-- A list of changes of the page's own, with its texts. -/
structure LwR (w : World) (ρ : Ro) (B r s : Nat) (v : Value) (cs : List (Ch × Value)) : Prop where
  row : w.ownsRow B 81 3 v cs.length (chRs cs)
  ro : ∀ k, v.ownBlock = some k → ρ k = r
  tx : ∀ p ∈ cs, TX w p ∧ ∀ k, p.2.ownBlock = some k → ρ k = s
section
variable {w w' : World} {S : List Nat} {ρ ρ' : Ro} {B r s : Nat} {v : Value} {cs : List (Ch × Value)}
theorem LwR.step (h : LwR w ρ B r s v cs) (hs : Step S ρ ρ' w w') (hr : r ∉ S) (hss : s ∉ S) : LwR w' ρ' B r s v cs where
  row := ownsRow_blocks h.row fun k hk hlt => hs.kept.block k hlt (by rw [h.ro k hk]; exact hr)
  ro := fun k hk => (hs.same k (World.ownsRow.lt h.row k hk).2).trans (h.ro k hk)
  tx := fun p hp => ⟨(h.tx p hp).1.heap fun k hk hlt => hs.kept.block k hlt (by rw [(h.tx p hp).2 k hk]; exact hss), fun k hk => (hs.same k ((h.tx p hp).1.lt hk)).trans ((h.tx p hp).2 k hk)⟩
theorem LwR.nil (w : World) (ρ : Ro) (B r s : Nat) : LwR w ρ B r s (.slice none 0 0) [] := ⟨World.ownsRow_nil _ _ _ _, fun _ hk => (nomatch hk), fun _ hp => (nomatch hp)⟩
theorem LwR.tag (h : LwR w ρ B r s v cs) {g t : Nat} (hg : ρ g = 0) (hr : r ≠ 0) (hs : s ≠ 0) : LwR w (tagR ρ g t) B r s v cs where
  row := h.row
  ro := fun k hk => by
    have := h.ro k hk
    rw [tagR_else (fun e => by rw [e] at this; omega)]
    exact this
  tx := fun p hp => ⟨(h.tx p hp).1, fun k hk => by
    have := (h.tx p hp).2 k hk
    rw [tagR_else (fun e => by rw [e] at this; omega)]
    exact this⟩
end

/-- What a disk's cells hold. -/
structure RdV where
  K : Nat → Value
  N : Nat → Value
  L : Nat → Value
  C : Nat → List (Ch × Value)
  dead : Bool
  fuse : Int
  armed : Bool
def cellsR (x : RdV) : Array Value := #[x.K 0, x.N 0, x.L 0, x.K 1, x.N 1, x.L 1, x.K 2, x.N 2, x.L 2, .bool x.dead, .int .i64 x.fuse, .bool x.armed]
theorem cellsR_K (x : RdV) {n : Nat} (h : n ≤ 2) : (cellsR x)[n * 3]? = some (x.K n) := by rcases upto2 h with rfl | rfl | rfl <;> rfl
theorem cellsR_N (x : RdV) {n : Nat} (h : n ≤ 2) : (cellsR x)[n * 3 + 1]? = some (x.N n) := by rcases upto2 h with rfl | rfl | rfl <;> rfl
theorem cellsR_L (x : RdV) {n : Nat} (h : n ≤ 2) : (cellsR x)[n * 3 + 2]? = some (x.L n) := by rcases upto2 h with rfl | rfl | rfl <;> rfl
theorem cellsR_setK (x : RdV) {n : Nat} (h : n ≤ 2) (u : Value) : (cellsR x).setIfInBounds (n * 3) u = cellsR { x with K := upd x.K n u } := by rcases upto2 h with rfl | rfl | rfl <;> rfl
theorem cellsR_setN (x : RdV) {n : Nat} (h : n ≤ 2) (u : Value) : (cellsR x).setIfInBounds (n * 3 + 1) u = cellsR { x with N := upd x.N n u } := by rcases upto2 h with rfl | rfl | rfl <;> rfl
theorem cellsR_setL (x : RdV) {n : Nat} (h : n ≤ 2) (u : Value) : (cellsR x).setIfInBounds (n * 3 + 2) u = cellsR { x with L := upd x.L n u } := by rcases upto2 h with rfl | rfl | rfl <;> rfl
/-- The power, as the page's disk keeps it. -/
def pwR (dead : Bool) (fuse : Int) (armed : Bool) : Pw := if dead then none else if armed then some (some (fuse - 1).toNat) else some none
/-- The page's disk. -/
structure RAt (w : World) (ρ : Ro) (B p : Nat) (x : RdV) (d : Dk) : Prop where
  blk : Blk w p (cellsR x) 71
  ro : ρ p = 2
  now : ∀ n, n ≤ 2 → Rw w ρ B (3 + n) (x.N n) (d.f n).now
  kept : ∀ n, n ≤ 2 → Rw w ρ B (6 + n) (x.K n) (d.f n).kept
  list : ∀ n, n ≤ 2 → LwR w ρ B (9 + n) 1 (x.L n) (x.C n)
  done : ∀ n, n ≤ 2 → (x.C n).map Prod.fst = (d.f n).done
  len : ∀ n, n ≤ 2 → (d.f n).kept.length ≤ 4194304
  fit : ∀ n, n ≤ 2 → fitL (d.f n).kept (d.f n).done
  pw : pwR x.dead x.fuse x.armed = d.p
  fuse0 : x.dead = false → x.armed = true → 1 ≤ x.fuse
  fuse1 : x.fuse < 9223372036854775808
section
variable {w w' : World} {S : List Nat} {ρ ρ' : Ro} {B p n : Nat} {x : RdV} {d : Dk}
theorem RAt.step (h : RAt w ρ B p x d) (hs : Step S ρ ρ' w w') (hS : ∀ r, 1 ≤ r → r ≤ 11 → r ∉ S) : RAt w' ρ' B p x d where
  blk := h.blk.kept hs.kept (by rw [h.ro]; exact hS 2 (by omega) (by omega))
  ro := (hs.same p h.blk.lt).trans h.ro
  now := fun n hn => (h.now n hn).step hs (hS _ (by omega) (by omega))
  kept := fun n hn => (h.kept n hn).step hs (hS _ (by omega) (by omega))
  list := fun n hn => (h.list n hn).step hs (hS _ (by omega) (by omega)) (hS _ (by omega) (by omega))
  done := h.done
  len := h.len
  fit := h.fit
  pw := h.pw
  fuse0 := h.fuse0
  fuse1 := h.fuse1
theorem RAt.lt (h : RAt w ρ B p x d) : p < w.heap.size := h.blk.lt
theorem RAt.nowLen (h : RAt w ρ B p x d) (hn : n ≤ 2) : (d.f n).now.length ≤ 4194304 := by
  have := fitL_len (h.len n hn) (h.fit n hn) (d.f n).done.length
  rwa [List.take_length] at this
theorem RAt.cK (h : RAt w ρ B p x d) (hn : n ≤ 2) : w.cell? ⟨p, n * 3, none⟩ = some (x.K n) := h.blk.c _ (cellsR_K x hn)
theorem RAt.cN (h : RAt w ρ B p x d) (hn : n ≤ 2) : w.cell? ⟨p, n * 3 + 1, none⟩ = some (x.N n) := h.blk.c _ (cellsR_N x hn)
theorem RAt.cL (h : RAt w ρ B p x d) (hn : n ≤ 2) : w.cell? ⟨p, n * 3 + 2, none⟩ = some (x.L n) := h.blk.c _ (cellsR_L x hn)
theorem RAt.dead_eq (h : RAt w ρ B p x d) : x.dead = d.p.isNone := by
  rw [← h.pw]
  unfold pwR
  cases x.dead with
  | true => rfl
  | false => simp only [Bool.false_eq_true, if_false]; split <;> rfl
/-- The page's disk with another power. -/
theorem RAt.power (h : RAt w ρ B p x d) {dead armed : Bool} {fuse : Int} {q : Pw} (hb : Blk w' p (cellsR { x with dead := dead, fuse := fuse, armed := armed }) 71) (hs : Step [2] ρ ρ w w')
    (hp : pwR dead fuse armed = q) (h0 : dead = false → armed = true → 1 ≤ fuse) (h1 : fuse < 9223372036854775808) : RAt w' ρ B p { x with dead := dead, fuse := fuse, armed := armed } ⟨d.f, q⟩ where
  blk := hb
  ro := h.ro
  now := fun n hn => (h.now n hn).step hs (by simp; omega)
  kept := fun n hn => (h.kept n hn).step hs (by simp; omega)
  list := fun n hn => (h.list n hn).step hs (by simp; omega) (by simp)
  done := h.done
  len := h.len
  fit := h.fit
  pw := hp
  fuse0 := h0
  fuse1 := h1
end
/-- What a call has made of the page's disk. -/
def OpR (S : List Nat) (w : World) (ρ : Ro) (B p : Nat) (d : Dk) (w' : World) : Prop := ∃ ρ', Step S ρ ρ' w w' ∧ RoOk ρ' B w' ∧ ∃ x, RAt w' ρ' B p x d
theorem set_dead (w : World) (p : Nat) (x : RdV) (b : Bool) (h : Blk w p (cellsR x) 71) : Blk (w.setCell ⟨p, 9, none⟩ (.bool b)) p (cellsR { x with dead := b }) 71 := h.set 9 _
theorem set_fuse (w : World) (p : Nat) (x : RdV) (n : Int) (h : Blk w p (cellsR x) 71) : Blk (w.setCell ⟨p, 10, none⟩ (.int .i64 n)) p (cellsR { x with fuse := n }) 71 := h.set 10 _
theorem set_armed (w : World) (p : Nat) (x : RdV) (b : Bool) (h : Blk w p (cellsR x) 71) : Blk (w.setCell ⟨p, 11, none⟩ (.bool b)) p (cellsR { x with armed := b }) 71 := h.set 11 _
set_option maxHeartbeats 2000000 in
theorem off_r (w : World) (ρ : Ro) (B p : Nat) (x : RdV) (d : Dk) (h : RAt w ρ B p x d) :
    Calls Try.prog 46 #[.pointer (some ⟨p, 0, none⟩)] w fun e w' => e = .returned (.bool (tickP d.p).isNone) ∧ Step [2] ρ ρ w w' ∧ ∃ x', RAt w' ρ B p x' ⟨d.f, tickP d.p⟩ := by
  have HK := Lib.hid h
  have h9 := h.blk.c 9 (u := .bool x.dead) rfl
  have h10 := h.blk.c 10 (u := .int .i64 x.fuse) rfl
  have h11 := h.blk.c 11 (u := .bool x.armed) rfl
  have z9 := h.blk.fz 9
  have z10 := h.blk.fz 10
  have HP := Lib.hid h.pw
  have k0 := h.fuse0
  have k1 := h.fuse1
  cases hd : x.dead with
  | true =>
    rw [hd] at h9
    have hp : d.p = none := by rw [← HP.out, hd]; rfl
    have HE := Lib.hid (show (true : Bool) = (tickP d.p).isNone by rw [hp]; rfl)
    have HQ := Lib.hid (show (⟨d.f, tickP d.p⟩ : Dk) = d by rw [show tickP d.p = d.p by rw [hp]; rfl])
    clear h k0 hp
    cases ha : x.armed
    all_goals
      rw [ha] at h11
      go_enter Try.func46, Try.ntmps46
      go_wp2_with fail
      go_ret
      exact ⟨by rw [← HE.out]; rfl, Step.refl, x, by rw [HQ.out]; exact HK.out⟩
  | false =>
    rw [hd] at h9
    cases ha : x.armed with
    | false =>
      rw [ha] at h11
      have hp : d.p = some none := by rw [← HP.out, hd, ha]; rfl
      have HE := Lib.hid (show (false : Bool) = (tickP d.p).isNone by rw [hp]; rfl)
      have HQ := Lib.hid (show (⟨d.f, tickP d.p⟩ : Dk) = d by rw [show tickP d.p = d.p by rw [hp]; rfl])
      clear h k0 hp
      go_enter Try.func46, Try.ntmps46
      go_wp2_with fail
      go_ret
      exact ⟨by rw [← HE.out]; rfl, Step.refl, x, by rw [HQ.out]; exact HK.out⟩
    | true =>
      rw [ha] at h11
      have k2 := k0 hd ha
      have hw1 : IntKind.i64.wrap (x.fuse - 1) = x.fuse - 1 := wrap_id (by omega) (by omega)
      by_cases c1 : x.fuse ≤ 1
      · have hf : x.fuse = 1 := by omega
        have hp : d.p = some (some 0) := by rw [← HP.out, hd, ha, hf]; rfl
        have HE := Lib.hid (show (true : Bool) = (tickP d.p).isNone by rw [hp]; rfl)
        have HQ := Lib.hid (show tickP d.p = none by rw [hp]; rfl)
        have HS1 := Lib.hid (set_dead w p x true h.blk)
        have HS2 := Lib.hid (set_fuse _ p _ (x.fuse - 1) HS1.out)
        have HST := Lib.hid (show Step [2] ρ ρ w ((w.setCell ⟨p, 9, none⟩ (.bool true)).setCell ⟨p, 10, none⟩ (.int .i64 (x.fuse - 1))) from
          (Step.refl.setCell ⟨p, 9, none⟩ (.inr (by rw [show ρ p = 2 from h.ro]; simp)) _).setCell ⟨p, 10, none⟩ (.inr (by rw [show ρ p = 2 from h.ro]; simp)) _)
        have g10 := HS1.out.c 10 (u := .int .i64 x.fuse) rfl
        have g9 := HS2.out.c 9 (u := .bool true) rfl
        have zz10 := HS1.out.fz 10
        clear h k0 hp hf
        go_enter Try.func46, Try.ntmps46
        go_wp2_with fail
        go_ret
        exact ⟨by rw [← HE.out]; rfl, HST.out, _, HK.out.power (dead := true) (armed := true) (fuse := x.fuse - 1) (by simpa [ha] using HS2.out) HST.out (by rw [HQ.out]; rfl) (fun h => by cases h) (by omega)⟩
      · obtain ⟨k, hk⟩ : ∃ k : Nat, x.fuse = (k : Int) + 2 := ⟨(x.fuse - 2).toNat, by omega⟩
        have hp : d.p = some (some (k + 1)) := by
          rw [← HP.out, hd, ha, hk]
          show some (some ((k : Int) + 2 - 1).toNat) = _
          rw [show ((k : Int) + 2 - 1).toNat = k + 1 by omega]
        have HE := Lib.hid (show (false : Bool) = (tickP d.p).isNone by rw [hp]; rfl)
        have HQ := Lib.hid (show tickP d.p = some (some k) by rw [hp]; rfl)
        have HS2 := Lib.hid (set_fuse w p x (x.fuse - 1) h.blk)
        have HST := Lib.hid (show Step [2] ρ ρ w (w.setCell ⟨p, 10, none⟩ (.int .i64 (x.fuse - 1))) from
          Step.refl.setCell ⟨p, 10, none⟩ (.inr (by rw [show ρ p = 2 from h.ro]; simp)) _)
        have g9 := HS2.out.c 9 (u := .bool x.dead) rfl
        rw [hd] at g9
        clear h k0 hp
        have HKK := Lib.hid hk
        clear hk
        go_enter Try.func46, Try.ntmps46
        go_wp2_with fail
        go_ret
        refine ⟨by rw [← HE.out]; rfl, HST.out, _, HK.out.power (dead := false) (armed := true) (fuse := x.fuse - 1) (by simpa [ha, hd] using HS2.out) HST.out ?_ (fun _ _ => by omega) (by omega)⟩
        rw [HQ.out]
        show some (some (x.fuse - 1 - 1).toNat) = _
        rw [HKK.out, show ((k : Int) + 2 - 1 - 1).toNat = k by omega]
theorem RAt.same_power {w : World} {ρ : Ro} {B p : Nat} {x : RdV} {d : Dk} (h : RAt w ρ B p x d) {q : Pw} (e : q = d.p) : RAt w ρ B p x ⟨d.f, q⟩ := by rw [e]; exact h
set_option maxHeartbeats 2000000 in
theorem Off_r (w : World) (ρ : Ro) (B p : Nat) (x : RdV) (d : Dk) (h : RAt w ρ B p x d) (hr : RoOk ρ B w) (n : Int) (hn : n < 9223372036854775808) :
    Calls Try.prog 27 #[.pointer (some ⟨p, 0, none⟩), .int .i64 n] w fun e w' => e = .returned (.tuple #[]) ∧ OpR SK w ρ B p ⟨d.f, setP n d.p⟩ w' := by
  have HR := Lib.hid hr
  have HK := Lib.hid h
  have h9 := h.blk.c 9 (u := .bool x.dead) rfl
  have h10 := h.blk.c 10 (u := .int .i64 x.fuse) rfl
  have h11 := h.blk.c 11 (u := .bool x.armed) rfl
  have z9 := h.blk.fz 9
  have z10 := h.blk.fz 10
  have z11 := h.blk.fz 11
  have HDE := Lib.hid h.dead_eq
  have HS1 := Lib.hid (set_armed w p x true h.blk)
  have HS2 := Lib.hid (set_fuse _ p _ n HS1.out)
  have HST := Lib.hid (show Step [2] ρ ρ w ((w.setCell ⟨p, 11, none⟩ (.bool true)).setCell ⟨p, 10, none⟩ (.int .i64 n)) from
    (Step.refl.setCell ⟨p, 11, none⟩ (.inr (by rw [show ρ p = 2 from h.ro]; simp)) _).setCell ⟨p, 10, none⟩ (.inr (by rw [show ρ p = 2 from h.ro]; simp)) _)
  have y10 := HS1.out.fz 10
  have g10 := HS1.out.c 10 (u := .int .i64 x.fuse) rfl
  have g9 := HS2.out.c 9 (u := .bool x.dead) rfl
  have y9 := HS2.out.fz 9
  have hS : ∀ r ∈ [2], r ∈ SK := by intro r hr; simp at hr; subst hr; exact SK_mem (by omega) (by omega)
  have HSS := Lib.hid hS
  by_cases c : n < 1
  · have HS3 := Lib.hid (set_dead _ p _ true HS2.out)
    have HST3 := Lib.hid (HST.out.setCell ⟨p, 9, none⟩ (.inr (by rw [show ρ p = 2 from h.ro]; simp)) (.bool true))
    have HE := Lib.hid (show setP n d.p = none from setP_low c d.p)
    clear h hr
    go_enter Try.func27, Try.ntmps27
    go_wp2_with fail
    go_end0
    exact ⟨rfl, ρ, HST3.out.mono HSS.out, HR.out.later HST3.out.kept.size, _, HK.out.power (dead := true) (armed := true) (fuse := n) HS3.out HST3.out (by rw [HE.out]; rfl) (fun h => by cases h) (by omega)⟩
  · have HE := Lib.hid (show pwR x.dead n true = setP n d.p by
      unfold setP pwR
      rw [← HDE.out, if_neg c]
      simp)
    clear h hr
    go_enter Try.func27, Try.ntmps27
    go_wp2_with fail
    go_end0
    exact ⟨rfl, ρ, HST.out.mono HSS.out, HR.out.later HST.out.kept.size, _, HK.out.power (dead := x.dead) (armed := true) (fuse := n) HS2.out HST.out HE.out (fun _ _ => by omega) (by omega)⟩
set_option maxHeartbeats 2000000 in
theorem Size_r (w : World) (ρ : Ro) (B p : Nat) (x : RdV) (d : Dk) (h : RAt w ρ B p x d) (n : Int) :
    Calls Try.prog 17 #[.pointer (some ⟨p, 0, none⟩), .int .i64 n] w fun e w' => e = .returned (.tuple #[.int .i64 (sizeD d n).1, .int .i64 (sizeD d n).2]) ∧ w' = w := by
  have h9 := h.blk.c 9 (u := .bool x.dead) rfl
  unfold sizeD
  rw [← h.dead_eq]
  cases hd : x.dead with
  | true =>
    rw [hd] at h9
    clear h
    go_enter Try.func17, Try.ntmps17
    go_wp2_with fail
    go_ret2
    exact ⟨rfl, rfl⟩
  | false =>
    rw [hd] at h9
    by_cases c : 0 ≤ n ∧ n ≤ 2
    · have h3 : n = 0 ∨ n = 1 ∨ n = 2 := by omega
      have g := fun m (hm : m ≤ 2) => h.cN (n := m) hm
      obtain ⟨A0, c0, e0, _, _⟩ := (h.now 0 (by omega)).br.slice
      obtain ⟨A1, c1, e1, _, _⟩ := (h.now 1 (by omega)).br.slice
      obtain ⟨A2, c2, e2, _, _⟩ := (h.now 2 (by omega)).br.slice
      have g0 := g 0 (by omega)
      have g1 := g 1 (by omega)
      have g2 := g 2 (by omega)
      rw [e0] at g0
      rw [e1] at g1
      rw [e2] at g2
      rcases h3 with rfl | rfl | rfl
      all_goals
        clear h g
        go_enter Try.func17, Try.ntmps17
        go_wp2_with fail
        go_ret2
        exact ⟨rfl, rfl⟩
    · have HF := Lib.hid (show fileOk n = false by cases hq : fileOk n with | false => rfl | true => exact absurd (fileOk_iff.1 hq) c)
      rw [HF.out]
      clear h
      by_cases c0 : n < 0
      · clear c
        go_enter Try.func17, Try.ntmps17
        go_wp2_with fail
        go_ret2
        exact ⟨rfl, rfl⟩
      · have c2 : n > 2 := by omega
        go_enter Try.func17, Try.ntmps17
        go_wp2_with fail
        go_ret2
        exact ⟨rfl, rfl⟩
end Go.Proofs.Ytahmihdahgbhkaa

/-
  The law FrameChecks, walked: at every list of scripts that can be read it answers true and turns nothing that was there.
  Conditions: as the theorem states them.
-/
import Derived.Test.YtnhmhdfnphlngaaX
namespace Go.Proofs.Ytnhmhdfnphlngaa
open Go.RowKit

/-- One script in memory: a framer and bytes. -/
structure Ask where
  s : ByteArray
  k : Bool
  A : Option Addr
  n : Nat
  c : Nat
  x : List UInt8

/-- Script q lies in block b from place o on. -/
structure AskAt (w : World) (b o : Nat) (q : Ask) : Prop where
  c0 : w.cell? ⟨b, o, none⟩ = some (.string q.s)
  c1 : w.cell? ⟨b, o + 1, none⟩ = some (.bool q.k)
  c2 : w.cell? ⟨b, o + 2, none⟩ = some (.slice q.A q.n q.c)
  hs : q.s.size ≤ maxLen
  hn : q.n ≤ maxLen
  hx : BytesAt w w.heap.size (.slice q.A q.n q.c) q.x

/-- A list of scripts in memory. -/
def AsksAt (w : World) (v : Value) (l : List Ask) : Prop :=
  ∃ A c, v = .slice A l.length c ∧ (l ≠ [] → ∃ b o, A = some ⟨b, o, none⟩ ∧ b < w.heap.size ∧ ∀ i (hi : i < l.length), AskAt w b (o + i * 3) l[i])

set_option maxHeartbeats 1000000 in
theorem checks_any (m : Int) (l : List Ask) (v : Value) (w : World) (hm : w.cell? ⟨0, 0, none⟩ = some (.int .i64 m)) (h0 : 0 < w.heap.size) (hl : AsksAt w v l) (_hll : l.length ≤ maxLen) :
    Calls Try.prog 3 #[v] w fun e w' => e = .returned (.bool true) ∧ Below w.heap.size w w' := by
  unfold maxLen at _hll
  obtain ⟨A, c, rfl, hl⟩ := hl
  have HL := Lib.hid hl
  clear hl
  go_enter Try.func3, Try.ntmps3
  go_wp2_with fail
  go_loopw [3] (fun i wr => ∃ j : Nat, j ≤ l.length ∧ i = .int .i64 j ∧ Below w.heap.size w wr) (fun i _ => l.length - (intOf i).toNat)
  case atStart => exact ⟨0, Nat.zero_le _, rfl, Below.refl _ _⟩
  case round =>
    obtain ⟨j, hj, rfl, hB⟩ := hrel
    have hm1 := (hB.cell (p := ⟨0, 0, none⟩) h0).trans hm
    have hsz := hB.size
    by_cases hlt : j < l.length
    · by_cases h12 : j < 12
      · obtain ⟨b, o, rfl, hab, hac⟩ := HL.out (fun e => by rw [e] at hlt; exact absurd hlt (by simp))
        have hq := hac j hlt
        have c0 := (hB.cell (p := ⟨b, o + j * 3, none⟩) hab).trans hq.c0
        have c1 := (hB.cell (p := ⟨b, o + j * 3 + 1, none⟩) hab).trans hq.c1
        have c2 := (hB.cell (p := ⟨b, o + j * 3 + 2, none⟩) hab).trans hq.c2
        have hs := hq.hs
        have hn := hq.hn
        clear hac hq
        generalize l[j] = q at *
        go_wp2_with fail
        refine (heavy_any _ _ _ _ _ _ hs hn).mono ?_
        rintro e w1 ⟨rfl, hb1⟩
        have hB1 := hB.trans (hb1.mono hsz)
        have hsz1 := hB1.size
        have c0' := (hB1.cell (p := ⟨b, o + j * 3, none⟩) hab).trans ((hB.cell (p := ⟨b, o + j * 3, none⟩) hab).symm.trans c0)
        have c1' := (hB1.cell (p := ⟨b, o + j * 3 + 1, none⟩) hab).trans ((hB.cell (p := ⟨b, o + j * 3 + 1, none⟩) hab).symm.trans c1)
        have hm1' := (hB1.cell (p := ⟨0, 0, none⟩) h0).trans hm
        clear c0 c1 c2 hm1
        cases hH : heavyB q.s q.n with
        | true =>
          clear hH
          go_wp2
          go_ret
          exact ⟨rfl, hB1⟩
        | false =>
          clear hH
          go_wp2_with fail
          refine (check_any _ _ m _ hm1' (by omega) hs).mono ?_
          rintro e w2 ⟨rfl, hb2⟩
          have hB2 := hB1.trans (hb2.mono hsz1)
          have hsz2 := hB2.size
          have d0 := (hB2.cell (p := ⟨b, o + j * 3, none⟩) hab).trans ((hB1.cell (p := ⟨b, o + j * 3, none⟩) hab).symm.trans c0')
          have d1 := (hB2.cell (p := ⟨b, o + j * 3 + 1, none⟩) hab).trans ((hB1.cell (p := ⟨b, o + j * 3 + 1, none⟩) hab).symm.trans c1')
          clear c0' c1' hm1'
          have hf := Lib.hid (framer_ref q.s q.k w2 hs)
          cases hV : validL q.s.data.toList q.k with
          | true =>
            have HV := Lib.hid hV
            clear hV
            go_wp2_with (first | (go_at_call 8; refine (num_any _ _).mono ?_; rintro e w' ⟨rfl, rfl⟩; simp only [errOf, if_true]) | (go_at_call 10; refine hf.out.mono ?_; rintro e w3 ⟨rfl, hb3⟩; rw [HV.out]))
            go_roundw
            case rel => exact ⟨j + 1, hlt, by go_num, hB2.trans (hb3.mono hsz2)⟩
            case measure => simp [intOf]; omega
          | false =>
            have HV := Lib.hid hV
            clear hV
            go_wp2_with (first | (go_at_call 8; refine (num_any _ _).mono ?_; rintro e w' ⟨rfl, rfl⟩; simp only [errOf, Bool.false_eq_true, if_false]) | (go_at_call 10; refine hf.out.mono ?_; rintro e w3 ⟨rfl, hb3⟩; rw [HV.out]))
            go_roundw
            case rel => exact ⟨j + 1, hlt, by go_num, hB2.trans (hb3.mono hsz2)⟩
            case measure => simp [intOf]; omega
      · have h12' : decide ((j : Int) < 12) = false := by simp; omega
        go_wp2_with fail
        refine (wakes_any m _ hm1 (by omega)).mono ?_
        rintro e w1 ⟨rfl, hb1⟩
        go_wp2
        go_ret
        exact ⟨rfl, hB.trans (hb1.mono hsz)⟩
    · go_wp2_with fail
      refine (wakes_any m _ hm1 (by omega)).mono ?_
      rintro e w1 ⟨rfl, hb1⟩
      go_wp2
      go_ret
      exact ⟨rfl, hB.trans (hb1.mono hsz)⟩
end Go.Proofs.Ytnhmhdfnphlngaa

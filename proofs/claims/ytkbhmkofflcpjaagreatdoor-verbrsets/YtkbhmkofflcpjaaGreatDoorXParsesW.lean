/-
  The law VerbParses, walked: at every list of scripts that can be read it answers true and turns nothing that was there.
  Conditions: as each theorem states them.
-/
import Derived.Test.YtkbhmkofflcpjaaGreatDoorXO
namespace Go.Proofs.YtkbhmkofflcpjaaGreatDoor
open Go.RowKit

theorem in_verb (a b : Vb) (w : World) : (Op.equalIn 10000 27 (.agg #[.int .i64 a.kind, .string ⟨a.word.toArray⟩, .bool a.null, .string ⟨a.l.toArray⟩, .string ⟨a.d.toArray⟩, .int .i64 a.size]) (.agg #[.int .i64 b.kind, .string ⟨b.word.toArray⟩, .bool b.null, .string ⟨b.l.toArray⟩, .string ⟨b.d.toArray⟩, .int .i64 b.size])).run Tryz.prog w = .ok (eqVb a b) w := by
  have h := eq_verb a b w
  rw [run_eql_struct] at h
  generalize (Op.equalIn 10000 27 _ _).run Tryz.prog w = X at h ⊢
  cases X with
  | ok x w' =>
    simp only [Result.andThen] at h
    cases h
    rfl
  | halt x w' => cases h
theorem neq_verb (a b : Vb) (w : World) : (binOp .neq 27 (.agg #[.int .i64 a.kind, .string ⟨a.word.toArray⟩, .bool a.null, .string ⟨a.l.toArray⟩, .string ⟨a.d.toArray⟩, .int .i64 a.size]) (.agg #[.int .i64 b.kind, .string ⟨b.word.toArray⟩, .bool b.null, .string ⟨b.l.toArray⟩, .string ⟨b.d.toArray⟩, .int .i64 b.size])).run Tryz.prog w = .ok (.bool (!eqVb a b)) w := by
  rw [run_neq_struct, in_verb]
  rfl
theorem eqVb_self (a : Vb) : eqVb a a = true := (eqVb_iff a a).2 rfl
theorem num_flat (n : Int) (w : World) : Calls Tryz.prog 19 #[.int .i64 n] w fun e w' => e = .returned (.int .i64 n) ∧ w' = w := (num_any n w).mono fun _ _ h => ⟨h.1, h.2.symm⟩

set_option maxHeartbeats 4000000 in
set_option maxRecDepth 100000 in
theorem parses_any (l : List Ask) (v : Value) (w : World) (hl : AsksAt w v l) (hg : Gl w) :
    Calls Tryz.prog 4 #[v] w fun e w' => e = .returned (.bool true) ∧ Below w.heap.size w w' := by
  obtain ⟨A, c, rfl, hll, hl⟩ := hl
  unfold maxLen at hll
  have HL := Lib.hid hl
  have HG := Lib.hid hg
  clear hl hg
  go_enter Tryz.func4, Tryz.ntmps4
  go_wp2_with fail
  go_loopw [3] (fun i wr => ∃ j : Nat, j ≤ l.length ∧ i = .int .i64 j ∧ Below w.heap.size w wr) (fun i _ => l.length - (intOf i).toNat)
  case atStart => exact ⟨0, Nat.zero_le _, rfl, Below.refl _ _⟩
  case round =>
    obtain ⟨j, hj, rfl, hB⟩ := hrel
    have HB := Lib.hid hB
    have hsz := hB.size
    have HGR := Lib.hid (HG.out.keep hB)
    clear hB
    by_cases hlt : j < l.length
    · by_cases h15 : j < 15
      · have h15i : (j : Int) < 15 := by omega
        obtain ⟨b, o, rfl, hab, hac⟩ := HL.out (fun e => by rw [e] at hlt; exact absurd hlt (by simp))
        have hq1 : AskAt wr b (o + j * 8) l[j] := (hac j hlt).keep HB.out hab
        have hbr : b < wr.heap.size := by omega
        clear hac
        generalize l[j] = q at *
        obtain ⟨⟨k, wd, x, ll, d, z⟩, s, n⟩ := q
        have HQ := Lib.hid (fun W (hW : Below wr.heap.size wr W) => hq1.keep hW hbr)
        obtain ⟨c0, c1, c2, c3, c4, c5, c6, c7, b1, b3, b4, b6⟩ := hq1
        simp only at c0 c1 c2 c3 c4 c5 c6 c7 b1 b3 b4 b6
        have HH := Lib.hid (heavy_any ⟨k, wd, x, ll, d, z⟩ s n wr b1 b3 b4 b6)
        clear b1 b3 b4 b6
        go_wp2_with fail
        refine Calls.mono (show _ from HH.out) ?_
        rintro e w1 ⟨rfl | ⟨rfl, hsh, hsl⟩, hb1⟩
        · go_wp2_with fail
          go_ret
          exact ⟨rfl, upB HB.out (Nat.le_refl _) hb1⟩
        · have HB1 := Lib.hid hb1
          have HP := Lib.hid (fun W (hW : Gl W) => vParse_any s W (by omega) hW)
          have HR := Lib.hid (fun W => parseVerb_any s W (by omega))
          have HG1 := Lib.hid (HGR.out.keep hb1)
          clear HH c0 c1 c2 c3 c4 c5 c6 c7
          have hk := HQ.out w1 hb1
          have d0 := hk.c0
          have d1 := hk.c1
          have d2 := hk.c2
          have d3 := hk.c3
          have d4 := hk.c4
          have d5 := hk.c5
          have d6 := hk.c6
          have d7 := hk.c7
          simp only at d0 d1 d2 d3 d4 d5 d6 d7
          clear hk
          clear hb1
          unfold pvE at HR
          generalize (readV s).2 = er at *
          generalize (readV s).1 = rv at *
          have hneq := fun w => neq_verb rv rv w
          rw [eqVb_self, Bool.not_true] at hneq
          have hvv : vbV rv = .agg #[.int .i64 rv.kind, .string ⟨rv.word.toArray⟩, .bool rv.null, .string ⟨rv.l.toArray⟩, .string ⟨rv.d.toArray⟩, .int .i64 rv.size] := rfl
          rw [hvv] at HP HR
          clear hvv
          obtain ⟨rk, rw', rx, rl, rd, rz⟩ := rv
          simp only at hneq HP HR
          go_wp2_with fail
          refine Calls.mono (HP.out _ HG1.out) ?_
          rintro e w2 ⟨rfl, hb2⟩
          have hv2 := VAt.new w2 ⟨rk, rw', rx, rl, rd, rz⟩
          have hk2 := (HB1.out.trans (hb2.mono HB1.out.size)).alloc (HB1.out.trans (hb2.mono HB1.out.size)).size (.cells #[.int .i64 rk, .string ⟨rw'.toArray⟩, .bool rx, .string ⟨rl.toArray⟩, .string ⟨rd.toArray⟩, .int .i64 rz] 27)
          have HV2 := Lib.hid hv2
          have HB2 := Lib.hid hk2
          clear hb2 hv2
          clear d0 d1 d2 d3 d4 d5 d6 d7
          have hk := HQ.out _ hk2
          have d0 := hk.c0
          have d1 := hk.c1
          have d2 := hk.c2
          have d3 := hk.c3
          have d4 := hk.c4
          have d5 := hk.c5
          have d6 := hk.c6
          have d7 := hk.c7
          simp only at d0 d1 d2 d3 d4 d5 d6 d7
          clear hk
          clear hk2
          go_wp2_with fail
          refine Calls.mono (HR.out _) ?_
          rintro e w3 ⟨rfl, hb3⟩
          have hv3 := HV2.out.later hb3
          have hv3' := hv3.alloc (.cells #[.int .i64 rk, .string ⟨rw'.toArray⟩, .bool rx, .string ⟨rl.toArray⟩, .string ⟨rd.toArray⟩, .int .i64 rz] 27)
          have hk3 := (HB2.out.trans (hb3.mono HB2.out.size)).alloc (HB2.out.trans (hb3.mono HB2.out.size)).size (.cells #[.int .i64 rk, .string ⟨rw'.toArray⟩, .bool rx, .string ⟨rl.toArray⟩, .string ⟨rd.toArray⟩, .int .i64 rz] 27)
          have HBX := Lib.hid (upB HB.out (Nat.le_refl _) hk3)
          have m0 := hv3'.c0
          have m1 := hv3'.c1
          have m2 := hv3'.c2
          have m3 := hv3'.c3
          have m4 := hv3'.c4
          have m5 := hv3'.c5
          simp only at m0 m1 m2 m3 m4 m5
          clear hb3 hv3 hv3' hk3
          go_wp2_with (go_at_call 19; refine (num_any _ _).mono ?_; rintro e w9 ⟨rfl, rfl⟩)
          exact ⟨⟨j + 1, hlt, by go_num, HBX.out⟩, by simp [intOf]; omega⟩
      · have h15' : decide ((j : Int) < 15) = false := by simp; omega
        go_wp2_with fail
        refine (wakes_any wr HGR.out).mono ?_
        rintro e w1 ⟨rfl, hb1⟩
        go_wp2
        go_ret
        exact ⟨rfl, upB HB.out (Nat.le_refl _) hb1⟩
    · go_wp2_with fail
      refine (wakes_any wr HGR.out).mono ?_
      rintro e w1 ⟨rfl, hb1⟩
      go_wp2
      go_ret
      exact ⟨rfl, upB HB.out (Nat.le_refl _) hb1⟩
end Go.Proofs.YtkbhmkofflcpjaaGreatDoor

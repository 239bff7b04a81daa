/-
  The page's Crash, walked.
  Conditions: as each theorem states them.
-/
import Derived.Test.YtahmihdahgbhkaaRM
import Derived.Test.YtahmihdahgbhkaaRE
import Derived.Test.YtahmihdahgbhkaaRP
import Derived.Deep.CutRange
import Derived.Deep.DeepCutAuto
namespace Go.Proofs.Ytahmihdahgbhkaa
open Go.RowKit

theorem crashF_two (f : Fl) (l : List Int) : (crashF f l).2 ≤ 2 := by
  unfold crashF
  simp only
  split <;> simp
theorem crashN_two (d : Dk) (l : List Int) : ∀ n, (crashN d l n).2 ≤ 2 * n
  | 0 => Nat.le_refl _
  | n + 1 => by
    have h1 := crashN_two d l n
    have h2 := crashF_two (d.f n) (l.drop (crashN d l n).2)
    show (crashN d l n).2 + (crashF (d.f n) (l.drop (crashN d l n).2)).2 ≤ 2 * (n + 1)
    omega
theorem pick_int {l : List Int} {K m : Nat} (hK : K < l.length) {P : Nat} (hP : pickC (l.drop K) m = P) (hm : 0 < m) : l[K] % (m : Int) = (P : Int) := by
  rw [pickC_drop, dif_pos hK] at hP
  have := Int.emod_nonneg l[K] (show (m : Int) ≠ 0 by omega)
  omega
theorem pick_none {l : List Int} {K m : Nat} (hK : ¬ K < l.length) : pickC (l.drop K) m = 0 := by rw [pickC_drop, dif_neg hK]
set_option maxHeartbeats 8000000 in
set_option maxRecDepth 100000 in
theorem Crash_r (w : World) (ρ : Ro) (B p : Nat) (x : RdV) (d : Dk) (h : RAt w ρ B p x d) (hr : RoOk ρ B w) (l : List Int) (pv : Value) (hpv : IA w pv l) (hl : ∀ m, (d.f m).done.length < 1000000) (hpp : l ≠ [] → ∀ k, pv.ownBlock = some k → k ≠ p) :
    Calls Try.prog 30 #[.pointer (some ⟨p, 0, none⟩), pv] w fun e w' => ∃ u, e = .returned u ∧ (∃ us, OC w' w.heap.size u us (crashD d l)) ∧ OpR SK w ρ B p ⟨d.f, none⟩ w' := by
  obtain ⟨pA, pc, rfl, hplc, hpcm⟩ := hpv.slice
  have HS1 := set_dead w p x true h.blk
  have hst1 : Step [2] ρ ρ w (w.setCell ⟨p, 9, none⟩ (.bool true)) := Step.refl.setCell ⟨p, 9, none⟩ (.inr (by rw [show ρ p = 2 from h.ro]; simp)) _
  have hk1 := h.power (q := none) (dead := true) (armed := x.armed) (fuse := x.fuse) HS1 hst1 rfl (fun h => by cases h) h.fuse1
  have c9 := h.blk.c 9 (u := .bool x.dead) rfl
  have z9 := h.blk.fz 9
  have hbl := h.lt
  obtain ⟨W0, hW0⟩ : ∃ W0, w.setCell ⟨p, 9, none⟩ (.bool true) = W0 := ⟨_, rfl⟩
  have hws : W0.heap.size = w.heap.size := by rw [← hW0]; simp [World.setCell]
  have HIA := Lib.hid (show IA W0 (.slice pA l.length pc) l from hpv.heap (by omega) (fun hne k hk hlt => by rw [← hW0]; exact Below.heap_setCell _ _ _ _ (fun e => hpp hne k hk e)))
  rw [hW0] at hst1 hk1
  have HST := Lib.hid hst1
  have HK0 := Lib.hid hk1
  have HR := Lib.hid hr
  have HL := Lib.hid hl
  have HD0 := Lib.hid (hk1.done)
  have HEW := Lib.hid hW0
  have HSZ := Lib.hid hws
  generalize ({ x with dead := true, fuse := x.fuse, armed := x.armed } : RdV) = x2 at *
  clear h HS1 hst1 hk1 hpv hl hW0 hws
  go_enter Try.func30, Try.ntmps30
  go_wp2_with fail
  rw [HEW.out]
  clear c9 z9
  go_loopw [5, 6, 7] (fun ov kv iv wr => ∃ i : Nat, iv = .int .i64 i ∧ i ≤ 3 ∧ kv = .int .i64 ((crashN d l i).2 : Int) ∧ (∃ us, OC wr w.heap.size ov us (crashN d l i).1) ∧ Below W0.heap.size W0 wr) (fun _ _ iv _ => 3 - (intOf iv).toNat)
  case atStart => exact ⟨0, rfl, Nat.zero_le _, rfl, ⟨[], OC.nil _ _⟩, Below.refl _ _⟩
  case round =>
    obtain ⟨wz, hwz⟩ : ∃ wz, wz = wr := ⟨_, rfl⟩
    subst hwz
    obtain ⟨i, rfl, hil, rfl, ⟨us, hoc⟩, hb⟩ := hrel
    have HOC := Lib.hid hoc
    have HB := Lib.hid hb
    have hsz := hb.size
    have hkr := HK0.out.step (Step.of (S := []) hb) (by simp)
    by_cases hlt : i < 3
    · have hlti : (i : Int) < 3 := by omega
      have hi0 : (0 : Int) ≤ (i : Int) := by omega
      have hi2 : i ≤ 2 := by omega
      have HLN := Lib.hid (crashN_len d l i)
      have HUL := Lib.hid hoc.len
      obtain ⟨fA, fc, hfv⟩ := hoc.slice
      rw [HLN.out] at hfv
      subst hfv
      have HN1 := Lib.hid (show (crashN d l (i + 1)).1 = (crashN d l i).1 ++ [(crashF (d.f i) (l.drop (crashN d l i).2)).1] from rfl)
      have HN2 := Lib.hid (show (crashN d l (i + 1)).2 = (crashN d l i).2 + (crashF (d.f i) (l.drop (crashN d l i).2)).2 from rfl)
      have hK6 := crashN_two d l i
      generalize (crashN d l i).1 = N1 at *
      generalize (crashN d l i).2 = K at *
      have HIR := Lib.hid (HIA.out.later hb)
      have hlr := hkr.list i hi2
      have hcr := hlr.cr
      obtain ⟨lA, lc, hlv, hlc, hlcm⟩ := hcr.slice
      have cL := hkr.cL hi2
      have cK := hkr.cK hi2
      rw [hlv] at cL hcr
      have HCR := Lib.hid hcr
      have hkb := hkr.kept i hi2
      have hdl : (x2.C i).length = (d.f i).done.length := by rw [← HD0.out i hi2, List.length_map]
      have HDE := Lib.hid (HD0.out i hi2)
      have HFI := Lib.hid (hkr.fit i hi2)
      have HLE := Lib.hid (hkr.len i hi2)
      have HLI := Lib.hid (HL.out i)
      generalize x2.L i = Lv at *
      generalize x2.K i = Kv at *
      generalize x2.C i = cs at *
      have HCB := Lib.hid (copyBytes_any (d.f i).kept Kv wz hkb.br.rb (by have h1 := HLE.out; simp only at h1; omega))
      obtain ⟨D, hD⟩ : ∃ D, cs.length = D := ⟨_, rfl⟩
      have HDD := Lib.hid hD
      have HDL := Lib.hid hdl
      have hD1 : D < 1000000 := by have h1 := HLI.out; omega
      have hDl0 : (D : Int) ≤ (lc : Int) := by omega
      rw [hD] at cL HCR
      obtain ⟨P, hP⟩ : ∃ P, pickC (l.drop K) (D + 1) = P := ⟨_, rfl⟩
      have hPD : P ≤ D := by have := pickC_lt (l.drop K) (show 0 < D + 1 by omega); omega
      have HP := Lib.hid hP
      have hw1 : IntKind.i64.wrap ((D : Int) + 1) = (D : Int) + 1 := wrap_id (by omega) (by omega)
      have hwk : IntKind.i64.wrap ((K : Int) + 1) = (K : Int) + 1 := wrap_id (by omega) (by omega)
      have hwk2 : IntKind.i64.wrap ((K : Int) + 1 + 1) = (K : Int) + 1 + 1 := wrap_id (by omega) (by omega)
      have hblr := hkr.lt
      obtain ⟨kA, kc, rfl, _, _⟩ := hkb.br.slice
      clear hb hoc hkr hlr hcr hlv hkb hdl hD hP hlc
      go_upto_if 30 with (fail)
      go_cut [9] from 16 to 108 (fun qv wc => qv = .int .i64 (P : Int) ∧ wz = wc)
      case first =>
        by_cases hK : K < l.length
        · have hKi : (K : Int) < (l.length : Int) := by omega
          have hK0 : (0 : Int) ≤ (K : Int) := by omega
          obtain ⟨ib, io, rfl, hic⟩ := HIR.out.cell2 hK
          have hpm := pick_int hK HP.out (by omega)
          rw [show ((D + 1 : Nat) : Int) = (D : Int) + 1 by omega] at hpm
          have HM := Lib.hid (mod_r l[K] ((D : Int) + 1) wz (by omega) (by omega))
          rw [hpm] at HM
          generalize l[K] = z at *
          clear hpm
          go_wp2_with fail
          refine Calls.mono HM.out ?_
          rintro e w' ⟨rfl, he⟩
          have he := he.symm
          subst he
          go_wp2_with fail
          go_meet
          case rel => exact ⟨rfl, rfl⟩
        · have hKi : ¬ (K : Int) < (l.length : Int) := by omega
          have hp0 := (pick_none (m := D + 1) hK).symm.trans HP.out
          have HP0 := Lib.hid hp0
          clear hp0
          go_wp2_with fail
          go_meet
          case rel => exact ⟨by rw [← HP0.out]; rfl, rfl⟩
      case rest =>
        obtain ⟨rfl, rfl⟩ := hcut
        go_wp2_with fail
        refine Calls.mono HCB.out ?_
        rintro e w1 ⟨b0, rfl, hb0, hbw⟩
        have HB0 := Lib.hid hb0
        have HBW := Lib.hid hbw
        have hs1 := hbw.size
        obtain ⟨bA, bc0, rfl, _, _⟩ := hb0.slice
        clear hb0 hbw
        go_wp2_with fail
        go_loopw [10, 11] (fun bv jv wk => ∃ j : Nat, jv = .int .i64 j ∧ j ≤ P ∧ BR wk wz.heap.size bv (((d.f i).done.take j).foldl doC (d.f i).kept) ∧ Below wz.heap.size wz wk) (fun _ jv _ => P - (intOf jv).toNat)
        case atStart => exact ⟨0, rfl, Nat.zero_le _, HB0.out, HBW.out⟩
        case round =>
          obtain ⟨j, rfl, hjp, hrow, hbk⟩ := hrel
          have HRW := Lib.hid hrow
          have HBK := Lib.hid hbk
          have hsk := hbk.size
          obtain ⟨gA, gc, rfl, _, _⟩ := hrow.slice
          by_cases hjl : j < P
          · have hjli : (j : Int) < (P : Int) := by omega
            have hj0 : (0 : Int) ≤ (j : Int) := by omega
            have hjD : j < cs.length := by rw [HDD.out]; omega
            have hjd : j < (d.f i).done.length := by rw [← HDL.out]; exact hjD
            obtain ⟨b, o, rfl, hbl2, e0, e1, e2⟩ := (HCR.out.later hbk).at hjD
            have htx := (HCR.out.later hbk).2 _ (List.getElem_mem hjD)
            have hce : (cs[j]).1 = (d.f i).done[j] := by
              have e : (cs.map Prod.fst)[j]'(by simpa using hjD) = (d.f i).done[j] := by simp only [HDE.out]
              rwa [List.getElem_map] at e
            have hjlc : (j : Int) < (D : Int) := by omega
            have HTS := Lib.hid (show ((d.f i).done.take (j + 1)).foldl doC (d.f i).kept = doC (((d.f i).done.take j).foldl doC (d.f i).kept) (d.f i).done[j] by rw [List.take_add_one, List.getElem?_eq_getElem hjd, List.foldl_append]; rfl)
            have hfc := fitL_at HFI.out j hjd
            have hfl := fitL_len HLE.out HFI.out j
            rw [← hce] at HTS hfc
            generalize cs[j] = pt at *
            obtain ⟨c, t⟩ := pt
            simp only at HTS hfc e0 e1 e2
            obtain ⟨tA, tn, tc, htv⟩ := htx.slice
            simp only at htv
            subst htv
            have HDO := Lib.hid (does_any c _ _ _ _ wr hrow hfc htx hfl)
            clear hrow hbk htx hce hfc hfl
            go_wp2_with fail
            refine Calls.mono HDO.out ?_
            rintro e w2 ⟨u, rfl, hu, hbu⟩
            have HU2 := Lib.hid (hu.mono hsk)
            have HB2 := Lib.hid (HBK.out.trans (hbu.mono hsk))
            clear hu hbu e0 e1 e2
            go_wp2_with fail
            refine ⟨⟨j + 1, by go_num, by omega, ?_, HB2.out⟩, by simp [intOf]; omega⟩
            rw [HTS.out]
            exact HU2.out
          · have hjli : ¬ ((j : Int) < (P : Int)) := by omega
            obtain rfl : P = j := by omega
            clear hrow hbk hjp
            by_cases hPe : P = D
            · have HF := Lib.hid (crashF_end (f := d.f i) (l := l.drop K) (P := P) (by rw [← HDL.out, HDD.out]; exact HP.out) (by rw [← HDL.out, HDD.out]; exact hPe))
              have hnlt : ¬ ((P : Int) < (D : Int)) := by omega
              have HBC := Lib.hid (HB.out.trans (HBK.out.mono hsz))
              have HOC1 := Lib.hid (HOC.out.later HBK.out)
              have hs5 := HBK.out.size
              have HXX := Lib.hid (show (crashF (d.f i) (l.drop K)).1 = List.foldl doC (d.f i).kept (List.take P (d.f i).done) by rw [HF.out])
              have HYY := Lib.hid (show (crashF (d.f i) (l.drop K)).2 = 1 by rw [HF.out])
              generalize hX9 : List.foldl doC (d.f i).kept (List.take P (d.f i).done) = X9 at *
              have HOA := Lib.hid (show OC (wr.alloc (.cells #[.slice gA X9.length gc] 37)) w.heap.size _ us N1 from HOC1.out.kept (E := fun _ => False) (Kept.refl.alloc _) (fun _ _ h => h))
              have HUA := Lib.hid (show BR (wr.alloc (.cells #[.slice gA X9.length gc] 37)) w.heap.size (.slice gA X9.length gc) X9 from (HRW.out.alloc _).mono (by have := HSZ.out; omega))
              have HBK2 := Lib.hid (heap_alloc_new wr (.cells #[.slice gA X9.length gc] 37))
              have HSS := Lib.hid (show ∀ k, (Value.slice gA X9.length gc).ownBlock = some k → (Value.slice fA i fc).ownBlock ≠ some k ∧ ∀ u' ∈ us, u'.ownBlock ≠ some k from fun k hk => by
                have h5 := HRW.out.lt k hk
                refine ⟨fun e => ?_, fun u' hu' e => ?_⟩
                · have := World.ownsRow.lt HOC.out.row k e
                  omega
                · obtain ⟨l', hl'⟩ := HOC.out.mem hu'
                  have := hl'.lt k e
                  omega)
              clear hX9
              go_wp2_with (at_builtin; refine wpList_append_v _ _ _ w.heap.size wr.heap.size (.slice fA i fc) (.slice gA X9.length gc) us N1 X9 rfl rfl rfl rfl HOA.out HUA.out HSS.out HBK2.out (by have := HSZ.out; simp; omega) (by have := HUL.out; have := HLN.out; omega) ?_)
              intro v2 w2 hoc2 hgrow
              have HB2 := Lib.hid (show Below W0.heap.size W0 w2 from (HBC.out.alloc (by omega) _).grown hgrow (by simp; omega) (fun k hk => by have := (World.ownsRow.lt HOA.out.row k hk).1; have := HSZ.out; omega))
              have HR2 := Lib.hid hoc2
              clear hoc2 hgrow
              go_wp2_with fail
              refine ⟨⟨i + 1, by go_num, by omega, ?_, ⟨us ++ [.slice gA X9.length gc], ?_⟩, HB2.out⟩, by simp [intOf]; omega⟩
              · rw [HN2.out, HYY.out]
                go_num
              · rw [HN1.out, HXX.out]
                exact HR2.out
            · have hPlt : (P : Int) < (D : Int) := by omega
              have hP0 : (0 : Int) ≤ (P : Int) := by omega
              have hjD : P < cs.length := by rw [HDD.out]; omega
              have hjd : P < (d.f i).done.length := by rw [← HDL.out]; exact hjD
              obtain ⟨b, o, rfl, hbl2, e0, e1, e2⟩ := (HCR.out.later HBK.out).at hjD
              have htx := (HCR.out.later HBK.out).2 _ (List.getElem_mem hjD)
              have hce : (cs[P]).1 = (d.f i).done[P] := by
                have e : (cs.map Prod.fst)[P]'(by simpa using hjD) = (d.f i).done[P] := by simp only [HDE.out]
                rwa [List.getElem_map] at e
              have hfc := fitL_at HFI.out P hjd
              have hfl := fitL_len HLE.out HFI.out P
              rw [← hce] at hfc
              have HHI := Lib.hid (show pickC (l.drop K) ((d.f i).done.length + 1) = P by rw [← HDL.out, HDD.out]; exact HP.out)
              generalize cs[P] = pt at *
              obtain ⟨⟨m, ob⟩, t⟩ := pt
              obtain ⟨tA, tn, tc, htv⟩ := htx.slice
              simp only at htv
              subst htv
              cases ob with
              | none =>
                have HF := Lib.hid (crashF_cut HHI.out hjd (by rw [← hce]))
                have e1 : wr.cell? ⟨b, o + P * 3 + 1, none⟩ = some (.int .i64 (m : Int)) := e1
                have hnn : ¬ ((m : Int) < 0) := by omega
                clear htx hce hfc hfl HHI e0 e2
                have HBC := Lib.hid (HB.out.trans (HBK.out.mono hsz))
                have HOC1 := Lib.hid (HOC.out.later HBK.out)
                have hs5 := HBK.out.size
                have HXX := Lib.hid (show (crashF (d.f i) (l.drop K)).1 = List.foldl doC (d.f i).kept (List.take P (d.f i).done) by rw [HF.out])
                have HYY := Lib.hid (show (crashF (d.f i) (l.drop K)).2 = 1 by rw [HF.out])
                generalize hX9 : List.foldl doC (d.f i).kept (List.take P (d.f i).done) = X9 at *
                have HOA := Lib.hid (show OC (wr.alloc (.cells #[.slice gA X9.length gc] 37)) w.heap.size _ us N1 from HOC1.out.kept (E := fun _ => False) (Kept.refl.alloc _) (fun _ _ h => h))
                have HUA := Lib.hid (show BR (wr.alloc (.cells #[.slice gA X9.length gc] 37)) w.heap.size (.slice gA X9.length gc) X9 from (HRW.out.alloc _).mono (by have := HSZ.out; omega))
                have HBK2 := Lib.hid (heap_alloc_new wr (.cells #[.slice gA X9.length gc] 37))
                have HSS := Lib.hid (show ∀ k, (Value.slice gA X9.length gc).ownBlock = some k → (Value.slice fA i fc).ownBlock ≠ some k ∧ ∀ u' ∈ us, u'.ownBlock ≠ some k from fun k hk => by
                  have h5 := HRW.out.lt k hk
                  refine ⟨fun e => ?_, fun u' hu' e => ?_⟩
                  · have := World.ownsRow.lt HOC.out.row k e
                    omega
                  · obtain ⟨l', hl'⟩ := HOC.out.mem hu'
                    have := hl'.lt k e
                    omega)
                clear hX9
                go_wp2_with (at_builtin; refine wpList_append_v _ _ _ w.heap.size wr.heap.size (.slice fA i fc) (.slice gA X9.length gc) us N1 X9 rfl rfl rfl rfl HOA.out HUA.out HSS.out HBK2.out (by have := HSZ.out; simp; omega) (by have := HUL.out; have := HLN.out; omega) ?_)
                intro v2 w2 hoc2 hgrow
                have HB2 := Lib.hid (show Below W0.heap.size W0 w2 from (HBC.out.alloc (by omega) _).grown hgrow (by simp; omega) (fun k hk => by have := (World.ownsRow.lt HOA.out.row k hk).1; have := HSZ.out; omega))
                have HR2 := Lib.hid hoc2
                clear hoc2 hgrow
                go_wp2_with fail
                refine ⟨⟨i + 1, by go_num, by omega, ?_, ⟨us ++ [.slice gA X9.length gc], ?_⟩, HB2.out⟩, by simp [intOf]; omega⟩
                · rw [HN2.out, HYY.out]
                  go_num
                · rw [HN1.out, HXX.out]
                  exact HR2.out
              | some bb =>
                have HF := Lib.hid (crashF_tear HHI.out hjd (b := bb) (by rw [← hce]))
                rw [← hce] at HF
                have e0 : wr.cell? ⟨b, o + P * 3, none⟩ = some (.int .i64 (m : Int)) := e0
                have e1 : wr.cell? ⟨b, o + P * 3 + 1, none⟩ = some (.int .i64 (-1)) := e1
                have hbb := htx.2 bb rfl
                obtain ⟨tA', tc', htv, htl, htcm⟩ := hbb.1.slice
                injection htv with t1 t2 t3
                subst t1 t2 t3
                have hrow := HRW.out
                have HFC := Lib.hid hfc
                have HBB := Lib.hid hbb
                have hbl4 := hbb.2
                obtain ⟨Q, hQ⟩ : ∃ Q, pickC ((l.drop K).drop 1) (bb.length + 1) = Q := ⟨_, rfl⟩
                rw [hQ] at HF
                rw [List.drop_drop] at hQ
                have hQ2 : Q ≤ bb.length := by have := pickC_lt (l.drop (K + 1)) (show 0 < bb.length + 1 by omega); omega
                have HQ := Lib.hid hQ
                have hw5 : IntKind.i64.wrap ((bb.length : Int) + 1) = (bb.length : Int) + 1 := wrap_id (by omega) (by omega)
                have hQt : (Q : Int) ≤ (tc : Int) := by omega
                have HDO := Lib.hid (fun (W : World) (hW : Below wr.heap.size wr W) => does_any ⟨m, some (bb.take Q)⟩ (.slice tA Q tc) _ _ _ W (hrow.later hW) ⟨HFC.out.1, fun b' e => by
                    have := HFC.out.2 bb rfl
                    have e : bb.take Q = b' := Option.some.inj e
                    rw [← e, List.length_take]
                    simp only at this ⊢
                    omega⟩ ⟨fun e => (nomatch e), fun b' e => (Option.some.inj e) ▸ ⟨(HBB.out.1.cutAny hQ2).later hW, by rw [List.length_take]; omega⟩⟩ hfl)
                clear htx hce hfc hfl HHI hbb hrow hQ
                by_cases hK2 : K + 1 < l.length
                · have hKi : (K : Int) + 1 < (l.length : Int) := by omega
                  have hK0 : (0 : Int) ≤ (K : Int) + 1 := by omega
                  obtain ⟨ib, io, rfl, hic⟩ := HIR.out.cell2 hK2
                  have hic := (HBK.out.cell (p := ⟨ib, io + (K + 1), none⟩) (World.block_lt_of_cell? wz ⟨ib, io + (K + 1), none⟩ hic)).trans hic
                  have hpm := pick_int hK2 HQ.out (by omega)
                  rw [show ((bb.length + 1 : Nat) : Int) = (bb.length : Int) + 1 by omega] at hpm
                  have HM := Lib.hid (fun W => mod_r l[K + 1] ((bb.length : Int) + 1) W (by omega) (by omega))
                  rw [hpm] at HM
                  generalize l[K + 1] = z at *
                  clear hpm
                  go_wp2_with fail
                  go_region_law (go_simp; go_at_call 51; refine (HM.out _).mono ?_; rintro e w' ⟨rfl, he⟩; have he := he.symm; subst he)
                  all_goals
                    go_wp2_with fail
                    go_region_law (go_simp; go_at_call 47; first | (refine (HDO.out _ (Below.refl _ wr).drew.drew).mono ?_; rintro e w3 ⟨u3, rfl, hu3, hb3⟩; have HU3 := Lib.hid (hu3.mono (show wz.heap.size ≤ wr.heap.size from HBK.out.size)); have HB3 := Lib.hid (HBK.out.trans ((show Below wr.heap.size wr w3 from ⟨hb3.os, hb3.tape, hb3.output, hb3.size, hb3.block⟩).mono (show wz.heap.size ≤ wr.heap.size from HBK.out.size))); obtain ⟨vA, vc, rfl, _, _⟩ := hu3.slice; clear hu3 hb3) | (refine (HDO.out _ (Below.refl _ wr).drew).mono ?_; rintro e w3 ⟨u3, rfl, hu3, hb3⟩; have HU3 := Lib.hid (hu3.mono (show wz.heap.size ≤ wr.heap.size from HBK.out.size)); have HB3 := Lib.hid (HBK.out.trans ((show Below wr.heap.size wr w3 from ⟨hb3.os, hb3.tape, hb3.output, hb3.size, hb3.block⟩).mono (show wz.heap.size ≤ wr.heap.size from HBK.out.size))); obtain ⟨vA, vc, rfl, _, _⟩ := hu3.slice; clear hu3 hb3))
                    all_goals
                      have HBC := Lib.hid (HB.out.trans (HB3.out.mono hsz))
                      have HOC1 := Lib.hid (HOC.out.later HB3.out)
                      have hs5 := HB3.out.size
                      have HXX := Lib.hid (show (crashF (d.f i) (l.drop K)).1 = doC (List.foldl doC (d.f i).kept (List.take P (d.f i).done)) { n := m, b := some (List.take Q bb) } by rw [HF.out])
                      have HYY := Lib.hid (show (crashF (d.f i) (l.drop K)).2 = 2 by rw [HF.out])
                      generalize hX9 : doC (List.foldl doC (d.f i).kept (List.take P (d.f i).done)) { n := m, b := some (List.take Q bb) } = X9 at *
                      have HOA := Lib.hid (show OC (w3.alloc (.cells #[.slice vA X9.length vc] 37)) w.heap.size _ us N1 from HOC1.out.kept (E := fun _ => False) (Kept.refl.alloc _) (fun _ _ h => h))
                      have HUA := Lib.hid (show BR (w3.alloc (.cells #[.slice vA X9.length vc] 37)) w.heap.size (.slice vA X9.length vc) X9 from (HU3.out.alloc _).mono (by have := HSZ.out; omega))
                      have HBK2 := Lib.hid (heap_alloc_new w3 (.cells #[.slice vA X9.length vc] 37))
                      have HSS := Lib.hid (show ∀ k, (Value.slice vA X9.length vc).ownBlock = some k → (Value.slice fA i fc).ownBlock ≠ some k ∧ ∀ u' ∈ us, u'.ownBlock ≠ some k from fun k hk => by
                        have h5 := HU3.out.lt k hk
                        refine ⟨fun e => ?_, fun u' hu' e => ?_⟩
                        · have := World.ownsRow.lt HOC.out.row k e
                          omega
                        · obtain ⟨l', hl'⟩ := HOC.out.mem hu'
                          have := hl'.lt k e
                          omega)
                      clear hX9
                      go_wp2_with (at_builtin; refine wpList_append_v _ _ _ w.heap.size w3.heap.size (.slice fA i fc) (.slice vA X9.length vc) us N1 X9 rfl rfl rfl rfl HOA.out HUA.out HSS.out HBK2.out (by have := HSZ.out; simp; omega) (by have := HUL.out; have := HLN.out; omega) ?_)
                      intro v2 w2 hoc2 hgrow
                      have HB2 := Lib.hid (show Below W0.heap.size W0 w2 from (HBC.out.alloc (by omega) _).grown hgrow (by simp; omega) (fun k hk => by have := (World.ownsRow.lt HOA.out.row k hk).1; have := HSZ.out; omega))
                      have HR2 := Lib.hid hoc2
                      clear hoc2 hgrow
                      go_wp2_with fail
                      refine ⟨⟨i + 1, by go_num, by omega, ?_, ⟨us ++ [.slice vA X9.length vc], ?_⟩, HB2.out⟩, by simp [intOf]; omega⟩
                      · rw [HN2.out, HYY.out]
                        go_num
                      · rw [HN1.out, HXX.out]
                        exact HR2.out
                · have hKi : ¬ (K : Int) + 1 < (l.length : Int) := by omega
                  have HQ0 := Lib.hid ((pick_none (m := bb.length + 1) hK2).symm.trans HQ.out)
                  obtain rfl : Q = 0 := HQ0.out.symm
                  clear HQ0
                  simp only [List.take_zero] at HDO HF
                  go_wp2_with fail
                  go_region_law (go_simp; go_at_call 47; first | (refine (HDO.out _ (Below.refl _ wr).drew.drew).mono ?_; rintro e w3 ⟨u3, rfl, hu3, hb3⟩; have HU3 := Lib.hid (hu3.mono (show wz.heap.size ≤ wr.heap.size from HBK.out.size)); have HB3 := Lib.hid (HBK.out.trans ((show Below wr.heap.size wr w3 from ⟨hb3.os, hb3.tape, hb3.output, hb3.size, hb3.block⟩).mono (show wz.heap.size ≤ wr.heap.size from HBK.out.size))); obtain ⟨vA, vc, rfl, _, _⟩ := hu3.slice; clear hu3 hb3) | (refine (HDO.out _ (Below.refl _ wr).drew).mono ?_; rintro e w3 ⟨u3, rfl, hu3, hb3⟩; have HU3 := Lib.hid (hu3.mono (show wz.heap.size ≤ wr.heap.size from HBK.out.size)); have HB3 := Lib.hid (HBK.out.trans ((show Below wr.heap.size wr w3 from ⟨hb3.os, hb3.tape, hb3.output, hb3.size, hb3.block⟩).mono (show wz.heap.size ≤ wr.heap.size from HBK.out.size))); obtain ⟨vA, vc, rfl, _, _⟩ := hu3.slice; clear hu3 hb3))
                  all_goals
                    have HBC := Lib.hid (HB.out.trans (HB3.out.mono hsz))
                    have HOC1 := Lib.hid (HOC.out.later HB3.out)
                    have hs5 := HB3.out.size
                    have HXX := Lib.hid (show (crashF (d.f i) (l.drop K)).1 = doC (List.foldl doC (d.f i).kept (List.take P (d.f i).done)) { n := m, b := some ([]) } by rw [HF.out])
                    have HYY := Lib.hid (show (crashF (d.f i) (l.drop K)).2 = 2 by rw [HF.out])
                    generalize hX9 : doC (List.foldl doC (d.f i).kept (List.take P (d.f i).done)) { n := m, b := some ([]) } = X9 at *
                    have HOA := Lib.hid (show OC (w3.alloc (.cells #[.slice vA X9.length vc] 37)) w.heap.size _ us N1 from HOC1.out.kept (E := fun _ => False) (Kept.refl.alloc _) (fun _ _ h => h))
                    have HUA := Lib.hid (show BR (w3.alloc (.cells #[.slice vA X9.length vc] 37)) w.heap.size (.slice vA X9.length vc) X9 from (HU3.out.alloc _).mono (by have := HSZ.out; omega))
                    have HBK2 := Lib.hid (heap_alloc_new w3 (.cells #[.slice vA X9.length vc] 37))
                    have HSS := Lib.hid (show ∀ k, (Value.slice vA X9.length vc).ownBlock = some k → (Value.slice fA i fc).ownBlock ≠ some k ∧ ∀ u' ∈ us, u'.ownBlock ≠ some k from fun k hk => by
                      have h5 := HU3.out.lt k hk
                      refine ⟨fun e => ?_, fun u' hu' e => ?_⟩
                      · have := World.ownsRow.lt HOC.out.row k e
                        omega
                      · obtain ⟨l', hl'⟩ := HOC.out.mem hu'
                        have := hl'.lt k e
                        omega)
                    clear hX9
                    go_wp2_with (at_builtin; refine wpList_append_v _ _ _ w.heap.size w3.heap.size (.slice fA i fc) (.slice vA X9.length vc) us N1 X9 rfl rfl rfl rfl HOA.out HUA.out HSS.out HBK2.out (by have := HSZ.out; simp; omega) (by have := HUL.out; have := HLN.out; omega) ?_)
                    intro v2 w2 hoc2 hgrow
                    have HB2 := Lib.hid (show Below W0.heap.size W0 w2 from (HBC.out.alloc (by omega) _).grown hgrow (by simp; omega) (fun k hk => by have := (World.ownsRow.lt HOA.out.row k hk).1; have := HSZ.out; omega))
                    have HR2 := Lib.hid hoc2
                    clear hoc2 hgrow
                    go_wp2_with fail
                    refine ⟨⟨i + 1, by go_num, by omega, ?_, ⟨us ++ [.slice vA X9.length vc], ?_⟩, HB2.out⟩, by simp [intOf]; omega⟩
                    · rw [HN2.out, HYY.out]
                      go_num
                    · rw [HN1.out, HXX.out]
                      exact HR2.out
    · have hlti : ¬ ((i : Int) < 3) := by omega
      obtain rfl : i = 3 := by omega
      have h3 := crashN_3 d l
      rw [h3] at HOC
      have HKR := Lib.hid hkr
      clear hoc hb hkr
      go_wp2_with fail
      go_ret
      have hst := HST.out.mono (T := SK) (by simp [SK])
      have hfull := hst.trans (Step.of (S := SK) (ρ := ρ) HB.out)
      exact ⟨_, rfl, ⟨us, HOC.out⟩, ρ, hfull, HR.out.later hfull.kept.size, _, HKR.out⟩
end Go.Proofs.Ytahmihdahgbhkaa

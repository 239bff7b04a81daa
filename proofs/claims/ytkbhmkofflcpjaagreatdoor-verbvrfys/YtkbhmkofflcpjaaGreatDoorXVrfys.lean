/-
  VerbVrfys: the law of the command that says "is there somebody" holds at every list of scripts.
  Conditions: none beyond the statement's own.
-/
import Derived.Test.YtkbhmkofflcpjaaGreatDoorXT
import Derived.Test.YtkbhmkofflcpjaaGreatDoorXKinds
import Derived.ChangeOld
namespace Go.Proofs.YtkbhmkofflcpjaaGreatDoor
open Go.ChangeShapes Go.WideShapes Go.ChangeAt Go.RowKit

set_option maxRecDepth 100000 in
theorem verbVrfys_contract (H : Type) (enc : TypeId × Value → H) (W : World) (base : Nat) (args : Array Value) (ds gs : List (DataW H)) (before : List MemPlace)
    (hval : ∀ (j : Nat) t v, Tryz.f14.params[j]? = some t → args[j]? = some v → Value.okWide Tryz.prog W .any base t v)
    (hW : DataW.Whole enc Tryz.prog Tryz.f14.params.toList Rows.verbVrfysSpec.vars false W args.toList ds gs before)
    (hsz : (DataW.weightsEach Tryz.prog (Tryz.f14.params.toList ++ Rows.verbVrfysSpec.plain.varTypes Tryz.prog) (ds ++ gs)).all (· ≤ reachBytes) = true)
    (hL : laidMetH Tryz.prog Rows.verbVrfysRow.laid W) (hS : W.ShapedOpen Tryz.prog) :
    Calls Tryz.prog 14 args W fun e W' => ∃ v, e = .returned v ∧ Rows.verbVrfysSpec.post enc Tryz.prog Tryz.f14 false true false false W args v W' := by
  have hW' := hW
  obtain ⟨p, q, hA0, hV, rfl, hfz, hnd⟩ := hW
  have hA : DataW.TrodAll enc Tryz.prog W 0 (fun _ => true) true Tryz.f14.params.toList args.toList ds p := hA0
  rw [Tryz.params14] at hA hval hsz
  obtain ⟨v0, d0, rfl, rfl, k0⟩ := trodAll_one hA
  obtain ⟨rfl, rfl⟩ := trodVars_none hV
  have hfit : Fits 22 d0 := fun n hn => by
    have := List.all_eq_true.1 hsz n (List.mem_append_left _ hn)
    simpa using this
  have h0 := k0
  have lt0 : ∀ x ∈ p, x.block < W.heap.size := by obtain ⟨m, hm⟩ := k0; exact DataW.trod_lt m _ _ _ hm
  obtain ⟨a0, len0, cap0, rfl⟩ := okWide_slice Tryz.underlying22 (hval 0 22 v0 rfl rfl)
  obtain ⟨fuel, hf⟩ := h0
  obtain ⟨l, hl⟩ := asks_of_trod (v := .slice a0 len0 cap0) hf hfit
  have hg := gl_of (show laidMetH Tryz.prog [("unicode.asciiFold", Rows.laid_unicode_asciiFold)] W from hL.filter (fun x => x.1 == "unicode.asciiFold")) (show laidMetH Tryz.prog [("unicode.caseOrbit", Rows.laid_unicode_caseOrbit)] W from hL.filter (fun x => x.1 == "unicode.caseOrbit")) (show laidMetH Tryz.prog [("pouch/verb.names", Rows.laid_pouch_verb_names)] W from hL.filter (fun x => x.1 == "pouch/verb.names")) hS
  have htab := tab_of (show laidMetH Tryz.prog [("internal/strconv.uint64pow10", Rows.laid_internal_strconv_uint64pow10)] W from hL.filter (fun x => x.1 == "internal/strconv.uint64pow10"))
  clear hA0
  refine (vrfys_any l _ W hl hg htab).mono fun e W' ⟨he, bel⟩ => ?_
  subst he
  exact ⟨_, rfl, _, _, _, [], _, [], hW', trodAll_mk1 (shut_bool Tryz.underlying4 _), trodAll_cons_mk (Below.trod Tryz.laidOut (by kernel_rfl) (of_decide_eq_true (by kernel_rfl)) k0 bel lt0) trodAll_mk0, rfl, bel.frame _, fun h => by cases h⟩

theorem verbVrfys_reads (os : Os) {H : Type} (enc : TypeId × Value → H) : ∃ places, DataW.whole enc Tryz.prog ((World.laidAll Tryz.prog os Rows.verbVrfysRow.laid).forCall (fun _ _ => 0) ⟨#[], #[.slice none 0 0], []⟩).memory Tryz.f14.params.toList Rows.verbVrfysSpec.vars false #[Value.slice none 0 0].toList 8 = some ([.nil], [], places) :=
  ⟨[], by kernel_rfl⟩
theorem verbVrfys_laid (os : Os) : laidMetH Tryz.prog Rows.verbVrfysRow.laid ((World.laidAll Tryz.prog os Rows.verbVrfysRow.laid).forCall (fun _ _ => 0) ⟨#[], #[.slice none 0 0], []⟩).memory := by
  rw [MakeChecks.laidMetH_plain _ _ _ (by kernel_rfl)]
  exact laidMet_laidAll _ (by kernel_rfl) (by kernel_rfl)

set_option maxRecDepth 100000 in
theorem verbVrfys_lifted (os : Os) (started : os.Started) (H : Type) (enc : TypeId × Value → H) (F : Stop.Interp) :
    ReturnsInHanded {} Tryz.checked os 14 .any ((OpenSpec.ofChange Rows.verbVrfysSpec).preRow enc Tryz.prog Tryz.f14 Rows.verbVrfysRow.domain false Rows.verbVrfysRow.laid) (((OpenSpec.ofChange Rows.verbVrfysSpec).at F).post enc Tryz.prog Tryz.f14 false true false false) := by
  obtain ⟨places, hx⟩ := verbVrfys_reads os enc
  refine returnsInHanded_of_row (C := Tryz.checked) (s := OpenSpec.ofChange Rows.verbVrfysSpec) Tryz.own started (by kernel_rfl) Tryz.func14
    (witness_row_shaped (enc := enc) (C := Tryz.checked) (World.laidAll Tryz.prog os Rows.verbVrfysRow.laid) #[.slice none 0 0] (World.laidAll_os _ _ _) (World.shaped_of_ZipB (by kernel_rfl) (by kernel_rfl)) (by kernel_rfl)
      (OpenSpec.preRow_of_cond 8 hx (by kernel_rfl) (fun k hk => by cases hk) (by kernel_rfl) (verbVrfys_laid os))) ?_
  intro W base args ds gs before hval hW _ _ hsz hL hS _
  exact verbVrfys_contract H enc W base args ds gs before hval hW hsz hL hS

theorem verbVrfys_said : Rows.VerbVrfysSaid :=
  OpenClaim.holds_of_cond 14 Tryz.f14 rfl rfl rfl rfl rfl rfl rfl ⟨rfl, rfl, rfl, rfl, rfl⟩ rfl rfl rfl rfl rfl (by kernel_rfl) Tryz.func14 (by kernel_rfl)
    (of_decide_eq_true (by kernel_rfl)) (by unfold Func.isWrapper; first | (rw [if_pos (by decide +kernel)]; kernel_rfl) | (rw [if_neg (by decide +kernel)]; exact ⟨rfl, rfl⟩))
    (fun os started H enc _ F => by rw [OpenClaim.pre_eq_preRow]; exact verbVrfys_lifted os started H enc F)

theorem verbVrfys_plain (f : FuncId) (fn : Func) (hf : Tryz.pinned.checked.prog.funcNamed Rows.verbVrfysRow.func = some f) (hfn : Tryz.pinned.checked.prog.funcs[f]? = some fn) :
    true = Tryz.pinned.checked.prog.looks [] ∧ ∀ (j : Nat) t, fn.params[j]? = some t → Tryz.pinned.checked.prog.wantsStandIn t = false := by
  obtain rfl : f = 14 := Option.some.inj ((show Tryz.prog.funcNamed Rows.verbVrfysRow.func = some 14 by kernel_rfl).symm.trans hf) |>.symm
  obtain rfl : fn = Tryz.f14 := (Option.some.inj (Tryz.func14.symm.trans hfn)).symm
  refine ⟨by kernel_rfl, fun j t ht => ?_⟩
  rw [Tryz.params14] at ht
  obtain rfl : t = 22 := by simpa using Array.mem_of_getElem? ht
  exact (show Tryz.prog.wantsStandIn 22 = false by kernel_rfl)

theorem verbVrfys_holds : Rows.VerbVrfysCardSaid :=
  Claim7.holds_tied_plain_at .later [] _ _ _ _ verbVrfys_said (fun _ h => by cases h) (by kernel_rfl) (fun _ h => by cases h) verbVrfys_row_tie rfl ⟨rfl, rfl⟩ (by kernel_rfl) rfl verbVrfys_plain (by kernel_rfl)

#print axioms verbVrfys_holds
end Go.Proofs.YtkbhmkofflcpjaaGreatDoor

/-
  VerbNoops: the law of the command that says "nothing" holds at every list of scripts.
  Conditions: none beyond the statement's own.
-/
import Derived.Test.YtkbhmkofflcpjaaGreatDoorXT
import Derived.Test.YtkbhmkofflcpjaaGreatDoorXKinds
import Derived.ChangeOld
namespace Go.Proofs.YtkbhmkofflcpjaaGreatDoor
open Go.ChangeShapes Go.WideShapes Go.ChangeAt Go.RowKit

set_option maxRecDepth 100000 in
theorem verbNoops_contract (H : Type) (enc : TypeId × Value → H) (W : World) (base : Nat) (args : Array Value) (ds gs : List (DataW H)) (before : List MemPlace)
    (hval : ∀ (j : Nat) t v, Tryz.f12.params[j]? = some t → args[j]? = some v → Value.okWide Tryz.prog W .any base t v)
    (hW : DataW.Whole enc Tryz.prog Tryz.f12.params.toList Rows.verbNoopsSpec.vars false W args.toList ds gs before)
    (hsz : (DataW.weightsEach Tryz.prog (Tryz.f12.params.toList ++ Rows.verbNoopsSpec.plain.varTypes Tryz.prog) (ds ++ gs)).all (· ≤ reachBytes) = true)
    (hL : laidMetH Tryz.prog Rows.verbNoopsRow.laid W) (hS : W.ShapedOpen Tryz.prog) :
    Calls Tryz.prog 12 args W fun e W' => ∃ v, e = .returned v ∧ Rows.verbNoopsSpec.post enc Tryz.prog Tryz.f12 false true false false W args v W' := by
  have hW' := hW
  obtain ⟨p, q, hA0, hV, rfl, hfz, hnd⟩ := hW
  have hA : DataW.TrodAll enc Tryz.prog W 0 (fun _ => true) true Tryz.f12.params.toList args.toList ds p := hA0
  rw [Tryz.params12] at hA hval hsz
  obtain ⟨v0, d0, rfl, rfl, k0⟩ := trodAll_one hA
  obtain ⟨rfl, rfl⟩ := trodVars_none hV
  have hfit : Fits 22 d0 := fun n hn => by
    have := List.all_eq_true.1 hsz n (List.mem_append_left _ hn)
    simpa using this
  have h0 := k0
  have lt0 : ∀ x ∈ p, x.block < W.heap.size := by obtain ⟨m, hm⟩ := k0; exact DataW.trod_lt m _ _ _ hm
  obtain ⟨a0, len0, cap0, rfl⟩ := okWide_slice Tryz.underlying22 (hval 0 22 v0 rfl rfl)
  obtain ⟨fuel, hf⟩ := h0
  obtain ⟨l, hl⟩ := asks_of_trod (v := .slice a0 len0 cap0) hf hfit
  have hg := gl_of (show laidMetH Tryz.prog [("unicode.asciiFold", Rows.laid_unicode_asciiFold)] W from hL.filter (fun x => x.1 == "unicode.asciiFold")) (show laidMetH Tryz.prog [("unicode.caseOrbit", Rows.laid_unicode_caseOrbit)] W from hL.filter (fun x => x.1 == "unicode.caseOrbit")) (show laidMetH Tryz.prog [("pouch/verb.names", Rows.laid_pouch_verb_names)] W from hL.filter (fun x => x.1 == "pouch/verb.names")) hS
  have htab := tab_of (show laidMetH Tryz.prog [("internal/strconv.uint64pow10", Rows.laid_internal_strconv_uint64pow10)] W from hL.filter (fun x => x.1 == "internal/strconv.uint64pow10"))
  clear hA0
  refine (noops_any l _ W hl hg htab).mono fun e W' ⟨he, bel⟩ => ?_
  subst he
  exact ⟨_, rfl, _, _, _, [], _, [], hW', trodAll_mk1 (shut_bool Tryz.underlying4 _), trodAll_cons_mk (Below.trod Tryz.laidOut (by kernel_rfl) (of_decide_eq_true (by kernel_rfl)) k0 bel lt0) trodAll_mk0, rfl, bel.frame _, fun h => by cases h⟩

theorem verbNoops_reads (os : Os) {H : Type} (enc : TypeId × Value → H) : ∃ places, DataW.whole enc Tryz.prog ((World.laidAll Tryz.prog os Rows.verbNoopsRow.laid).forCall (fun _ _ => 0) ⟨#[], #[.slice none 0 0], []⟩).memory Tryz.f12.params.toList Rows.verbNoopsSpec.vars false #[Value.slice none 0 0].toList 8 = some ([.nil], [], places) :=
  ⟨[], by kernel_rfl⟩
theorem verbNoops_laid (os : Os) : laidMetH Tryz.prog Rows.verbNoopsRow.laid ((World.laidAll Tryz.prog os Rows.verbNoopsRow.laid).forCall (fun _ _ => 0) ⟨#[], #[.slice none 0 0], []⟩).memory := by
  rw [MakeChecks.laidMetH_plain _ _ _ (by kernel_rfl)]
  exact laidMet_laidAll _ (by kernel_rfl) (by kernel_rfl)

set_option maxRecDepth 100000 in
theorem verbNoops_lifted (os : Os) (started : os.Started) (H : Type) (enc : TypeId × Value → H) (F : Stop.Interp) :
    ReturnsInHanded {} Tryz.checked os 12 .any ((OpenSpec.ofChange Rows.verbNoopsSpec).preRow enc Tryz.prog Tryz.f12 Rows.verbNoopsRow.domain false Rows.verbNoopsRow.laid) (((OpenSpec.ofChange Rows.verbNoopsSpec).at F).post enc Tryz.prog Tryz.f12 false true false false) := by
  obtain ⟨places, hx⟩ := verbNoops_reads os enc
  refine returnsInHanded_of_row (C := Tryz.checked) (s := OpenSpec.ofChange Rows.verbNoopsSpec) Tryz.own started (by kernel_rfl) Tryz.func12
    (witness_row_shaped (enc := enc) (C := Tryz.checked) (World.laidAll Tryz.prog os Rows.verbNoopsRow.laid) #[.slice none 0 0] (World.laidAll_os _ _ _) (World.shaped_of_ZipB (by kernel_rfl) (by kernel_rfl)) (by kernel_rfl)
      (OpenSpec.preRow_of_cond 8 hx (by kernel_rfl) (fun k hk => by cases hk) (by kernel_rfl) (verbNoops_laid os))) ?_
  intro W base args ds gs before hval hW _ _ hsz hL hS _
  exact verbNoops_contract H enc W base args ds gs before hval hW hsz hL hS

theorem verbNoops_said : Rows.VerbNoopsSaid :=
  OpenClaim.holds_of_cond 12 Tryz.f12 rfl rfl rfl rfl rfl rfl rfl ⟨rfl, rfl, rfl, rfl, rfl⟩ rfl rfl rfl rfl rfl (by kernel_rfl) Tryz.func12 (by kernel_rfl)
    (of_decide_eq_true (by kernel_rfl)) (by unfold Func.isWrapper; first | (rw [if_pos (by decide +kernel)]; kernel_rfl) | (rw [if_neg (by decide +kernel)]; exact ⟨rfl, rfl⟩))
    (fun os started H enc _ F => by rw [OpenClaim.pre_eq_preRow]; exact verbNoops_lifted os started H enc F)

theorem verbNoops_plain (f : FuncId) (fn : Func) (hf : Tryz.pinned.checked.prog.funcNamed Rows.verbNoopsRow.func = some f) (hfn : Tryz.pinned.checked.prog.funcs[f]? = some fn) :
    true = Tryz.pinned.checked.prog.looks [] ∧ ∀ (j : Nat) t, fn.params[j]? = some t → Tryz.pinned.checked.prog.wantsStandIn t = false := by
  obtain rfl : f = 12 := Option.some.inj ((show Tryz.prog.funcNamed Rows.verbNoopsRow.func = some 12 by kernel_rfl).symm.trans hf) |>.symm
  obtain rfl : fn = Tryz.f12 := (Option.some.inj (Tryz.func12.symm.trans hfn)).symm
  refine ⟨by kernel_rfl, fun j t ht => ?_⟩
  rw [Tryz.params12] at ht
  obtain rfl : t = 22 := by simpa using Array.mem_of_getElem? ht
  exact (show Tryz.prog.wantsStandIn 22 = false by kernel_rfl)

theorem verbNoops_holds : Rows.VerbNoopsCardSaid :=
  Claim7.holds_tied_plain_at .later [] _ _ _ _ verbNoops_said (fun _ h => by cases h) (by kernel_rfl) (fun _ h => by cases h) verbNoops_row_tie rfl ⟨rfl, rfl⟩ (by kernel_rfl) rfl verbNoops_plain (by kernel_rfl)

#print axioms verbNoops_holds
end Go.Proofs.YtkbhmkofflcpjaaGreatDoor

/-
  What the rows of this program list: the table of names, the tables of foldings and orbits, the powers of ten, as the walks want them; a world for the witness.
  Conditions: as each theorem states them.
-/
import Derived.Test.YtkbhmkofflcpjaaGreatDoorCards
import Derived.Test.YtkbhmkofflcpjaaGreatDoorTie
import Derived.Test.YtkbhmkofflcpjaaGreatDoorXO
import Derived.Deep.DeepHandedRow
import Derived.Lib.LaidTab
import Derived.LaidSub
import Derived.MakeChecks
import Derived.Lay
import Derived.Shelf.Vars
namespace Go.Proofs.YtkbhmkofflcpjaaGreatDoor
open Go.ChangeShapes Go.WideShapes Go.ChangeAt Go.RowKit Go.Deep

theorem Tryz.own : ownKnob Tryz.prog.godebug = none := by kernel_rfl
theorem Tryz.laidOut : laidOutB Tryz.prog = true := by kernel_rfl

theorem gNames : Tryz.prog.globalNamed "pouch/verb.names" = some 0 := by kernel_rfl
theorem gNamesType : (Tryz.prog.globals[0]?).map (·.type) = some 49 := by kernel_rfl
theorem gFold : Tryz.prog.globalNamed "unicode.asciiFold" = some 1 := by kernel_rfl
theorem gFoldType : (Tryz.prog.globals[1]?).map (·.type) = some 115 := by kernel_rfl
theorem gOrbit : Tryz.prog.globalNamed "unicode.caseOrbit" = some 2 := by kernel_rfl
theorem gOrbitType : (Tryz.prog.globals[2]?).map (·.type) = some 116 := by kernel_rfl
theorem gTabType : (Tryz.prog.globals[5]?).map (·.type) = some 127 := by kernel_rfl
theorem Tryz.cells49 : Tryz.prog.cellsOf 49 = 10 := by kernel_rfl
theorem Tryz.cells115 : Tryz.prog.cellsOf 115 = 128 := by kernel_rfl
theorem Tryz.cells114 : Tryz.prog.cellsOf 114 = 1 := by kernel_rfl
theorem Tryz.cells119 : Tryz.prog.cellsOf 119 = 2 := by kernel_rfl
theorem Tryz.cells127 : Tryz.prog.cellsOf 127 = 20 := by kernel_rfl
theorem Tryz.cells109 : Tryz.prog.cellsOf 109 = 1 := by kernel_rfl

/-- The numbers of the table of foldings. -/
def foldTab : List Int := (List.range 128).map fun c => (afN c : Int)
theorem fold_data : Rows.laid_unicode_asciiFold = (Lib.tabData .u16 foldTab : DataW Unit) := by kernel_rfl
theorem fold_cells {W : World} (h : laidMet Tryz.prog [("unicode.asciiFold", Rows.laid_unicode_asciiFold)] W) : ∀ c : Nat, c < 128 → W.cell? ⟨1, c, none⟩ = some (.int .u16 (afN c : Int)) := by
  rw [fold_data] at h
  have ht : Lib.TabIs Tryz.prog W "unicode.asciiFold" .u16 foldTab := Lib.tabIs_of_head (rest := []) gFold gFoldType Tryz.underlying115 Tryz.underlying114 Tryz.cells114 Tryz.cells115 h
  intro c hc
  have := ht.cell gFold c (by simp [foldTab]; exact hc)
  rw [this]
  simp [foldTab, List.getD, hc]

/-- The texts of the table of names. -/
def nameTab : List (List UInt8) := [[], nameL 1, nameL 2, nameL 3, nameL 4, nameL 5, nameL 6, nameL 7, nameL 8, nameL 9]
theorem name_data : Rows.laid_pouch_verb_names = (.agg (nameTab.map fun s => .lit (.string s)) : DataW Unit) := by kernel_rfl
theorem name_cells {W : World} (h : laidMet Tryz.prog [("pouch/verb.names", Rows.laid_pouch_verb_names)] W) : ∀ k : Nat, 1 ≤ k → k ≤ 9 → W.cell? ⟨0, k, none⟩ = some (.string ⟨(nameL (k : Int)).toArray⟩) := by
  rw [name_data] at h
  obtain ⟨ps, ⟨g', t', cs, fuel, p, q, hg', ht', hvar, hd, _, _⟩, _⟩ := h
  obtain rfl := Option.some.inj (gNames.symm.trans hg')
  obtain rfl := Option.some.inj (gNamesType.symm.trans ht')
  have key : ∀ i (hi : i < 10), cs.toList[i]? = some (.string ⟨(nameTab[i]'(by simpa [nameTab] using hi)).toArray⟩) := by
    cases fuel with
    | zero => simp [DataW.trod] at hd
    | succ fuel =>
      simp only [DataW.trod, Tryz.underlying49, Tryz.cells9, Tryz.cells49, Nat.mul_one] at hd
      split at hd
      · obtain ⟨xs, hm, hx⟩ := Option.map_eq_some_iff.1 hd
        have hxs : xs.map (·.1) = nameTab.map fun s => (DataW.lit (.string s) : DataW Unit) := by
          have := congrArg Prod.fst hx
          simpa using this
        intro i hi
        obtain ⟨b, hb, hf⟩ := Lib.mapM_at hm i i (by simp [hi])
        obtain ⟨s, hs, hbx, _⟩ := DataW.trod_string Tryz.underlying9 hf
        have h1 : cs.toList[i]? = some (.string s) := by
          have := congrArg (·[0]?) hs
          simpa [List.getElem?_take, List.getElem?_drop] using this
        have h2 : (xs.map (·.1))[i]? = some (DataW.lit (.string s.data.toList) : DataW Unit) := by
          rw [List.getElem?_map, hb, hbx]
          rfl
        rw [hxs, List.getElem?_map, List.getElem?_eq_getElem (show i < nameTab.length by simpa [nameTab] using hi)] at h2
        simp only [Option.map_some, Option.some.injEq, DataW.lit.injEq, Lit.string.injEq] at h2
        rw [h1, h2, Lib.mk_data]
      · cases hd
  intro k h1 h9
  have hc := World.var?_cell gNames hvar k
  have := key k (by omega)
  rw [Array.getElem?_toList] at this
  rw [hc, this]
  have hk : k = 1 ∨ k = 2 ∨ k = 3 ∨ k = 4 ∨ k = 5 ∨ k = 6 ∨ k = 7 ∨ k = 8 ∨ k = 9 := by omega
  rcases hk with rfl | rfl | rfl | rfl | rfl | rfl | rfl | rfl | rfl <;> rfl

theorem orbit_data : Rows.laid_unicode_caseOrbit = (.slice (coL.map fun p => .agg [.lit (.int .u16 p.1), .lit (.int .u16 p.2)]) [] : DataW Unit) := by kernel_rfl
set_option maxRecDepth 100000 in
theorem orbit_cells {W : World} (h : laidMet Tryz.prog [("unicode.caseOrbit", Rows.laid_unicode_caseOrbit)] W) : ∃ b o cap, CoAt W b o cap := by
  rw [orbit_data] at h
  obtain ⟨ps, ⟨g', t', cs, fuel, p, q, hg', ht', hvar, hd, _, _⟩, _⟩ := h
  obtain rfl := Option.some.inj (gOrbit.symm.trans hg')
  obtain rfl := Option.some.inj (gOrbitType.symm.trans ht')
  rcases open_slice Tryz.underlying116 hd with ⟨_, hx⟩ | ⟨a, len, cap, m, n, D, Pl, hcs, _, hl, hm, hmm, hx, hi⟩
  · cases congrArg Prod.fst hx
  · have hx1 := congrArg Prod.fst hx
    simp only [DataW.slice.injEq] at hx1
    have hlen : len = coL.length := by
      have := congrArg List.length hx1.1
      simpa using this.symm
    subst hlen
    have hlm : coL.length ≤ m := by rw [hmm]; split <;> omega
    have hD : ∀ i (hi : i < coL.length), D i = .agg [.lit (.int .u16 coL[i].1), .lit (.int .u16 coL[i].2)] := fun i hi => by
      have := congrArg (·[i]?) hx1.1
      simp only [List.getElem?_map, List.getElem?_range hi, List.getElem?_eq_getElem hi, Option.map_some, Option.some.injEq] at this
      exact this.symm
    have hv : W.cell? ⟨2, 0, none⟩ = some (.slice (some a) coL.length cap) := by
      rw [World.var?_cell gOrbit hvar 0, ← Array.getElem?_toList, hcs]
      rfl
    have hat : ∀ i (hi : i < coL.length), W.cell? (a.add (i * 2)) = some (.int .u16 coL[i].1) ∧ W.cell? (a.add (i * 2 + 1)) = some (.int .u16 coL[i].2) := fun i hlt => by
      obtain ⟨cs', hc, ht⟩ := hi i (by omega)
      rw [Tryz.cells119] at hc
      rw [hD i hlt] at ht
      obtain ⟨_, hln, hca⟩ := World.cells?_some hc
      obtain ⟨y0, y1, n', hy, _, t0, t1⟩ := trod_struct2 Tryz.underlying119 ht
      obtain ⟨z0, hz0, hy0, _⟩ := DataW.trod_int Tryz.underlying114 t0
      obtain ⟨z1, hz1, hy1, _⟩ := DataW.trod_int Tryz.underlying114 t1
      have hyy := congrArg Prod.fst hy
      rw [hy0, hy1] at hyy
      simp only [DataW.agg.injEq, List.cons.injEq, DataW.lit.injEq, Lit.int.injEq, true_and, and_true] at hyy
      obtain ⟨e0, e1⟩ := hyy
      clear hx hx1 hD ht hd
      match cs', hln with
      | [u0, u1], _ =>
        have g0 := hca 0 (by omega)
        have g1 := hca 1 (by omega)
        simp [Tryz.cells114] at hz0 hz1
        subst hz0 hz1
        refine ⟨?_, ?_⟩
        · rw [e0]
          simpa [Addr.add] using g0
        · rw [e1]
          have hadd : (a.add (i * 2)).add 1 = a.add (i * 2 + 1) := by
            unfold Addr.add
            by_cases h0 : i * 2 = 0
            · simp [h0]
            · simp [h0, Nat.add_assoc]
          rw [← hadd]
          exact g1
    obtain ⟨b, o, spot⟩ := a
    have hsp : spot = none := by
      have := (hat 0 (by rw [co_len]; omega)).1
      simpa [Addr.add] using World.cell?_spot this
    subst hsp
    refine ⟨b, o, cap, hv, ?_, fun i hlt => ?_⟩
    · have := (hat 0 (by rw [co_len]; omega)).1
      rw [Addr.add_lit] at this
      exact World.block_lt_of_cell? W _ this
    · have := hat i hlt
      rw [Addr.add_lit, Addr.add_lit, ← Nat.add_assoc] at this
      exact this

theorem laid_one {W : World} {n : String} {d : DataW Unit} (h : laidMetH Tryz.prog [(n, d)] W) (hd : d.handleName?.isNone = true) : laidMet Tryz.prog [(n, d)] W := by
  rw [MakeChecks.laidMetH_plain _ _ _ (by simp [hd])] at h
  exact h

set_option maxRecDepth 100000 in
theorem gl_of {W : World} (h1 : laidMetH Tryz.prog [("unicode.asciiFold", Rows.laid_unicode_asciiFold)] W) (h2 : laidMetH Tryz.prog [("unicode.caseOrbit", Rows.laid_unicode_caseOrbit)] W) (h3 : laidMetH Tryz.prog [("pouch/verb.names", Rows.laid_pouch_verb_names)] W) (hs : W.ShapedOpen Tryz.prog) : Gl W := by
  obtain ⟨m, hm⟩ := cell_of_shapedOpen_int (zero := #[.int .i64 0]) (t := 3) (g := 4) hs (of_decide_eq_true (by kernel_rfl)) (by kernel_rfl) rfl (by kernel_rfl) (by kernel_rfl) Tryz.underlying3
  obtain ⟨m9, hm9⟩ : ∃ c, W.heap[9]? = some c := by
    obtain ⟨cs, hh, _⟩ := hs.1 9 ((Array.replicate 64 (Value.int .u8 0))) 145 (of_decide_eq_true (by kernel_rfl)) (by kernel_rfl)
    exact ⟨_, hh⟩
  exact ⟨name_cells (laid_one h3 rfl), fold_cells (laid_one h1 rfl), orbit_cells (laid_one h2 rfl), ⟨m, hm⟩, by
    have := (Array.getElem?_eq_some_iff.1 hm9).1
    omega⟩
set_option maxRecDepth 100000 in
theorem tab_of {W : World} (h : laidMetH Tryz.prog [("internal/strconv.uint64pow10", Rows.laid_internal_strconv_uint64pow10)] W) : Tab W := by
  have h1 := laid_one h rfl
  have h2 : laidMet Tryz.prog [("internal/strconv.uint64pow10", Lib.tabData .u64 Lib.pow10Tab)] W := h1
  exact Lib.tabIs_of_head (rest := []) gTab gTabType Tryz.underlying127 Tryz.underlying109 Tryz.cells109 Tryz.cells127 h2

theorem witness_row_shaped {H : Type} {enc : TypeId × Value → H} {C : Checked} {os : Os} {f : FuncId} {fn : Func} {s : OpenSpec} {conds : List PathCond} {apart : Bool} {laid : List (String × DataW Unit)} (w0 : World) (args : Array Value) (hos : w0.os = os)
    (hsh : (w0.forCall (fun _ _ => 0) ⟨#[], args, []⟩).Shaped C.prog)
    (hok : Input.okWideB C.prog (w0.forCall (fun _ _ => 0) ⟨#[], args, []⟩) f ⟨#[], args, []⟩ = true)
    (hrow : s.preRow enc C.prog fn conds apart laid (w0.forCall (fun _ _ => 0) ⟨#[], args, []⟩).memory args) :
    ∃ (w : World) (tape : Tape) (i : Input), w.os = os ∧ (w.forCall tape i).Shaped C.prog ∧ i.vars = [] ∧ Input.okWide C.prog (w.forCall tape i) .any w.heap.size f i ∧
      s.preRow enc C.prog fn conds apart laid (w.forCall tape i).memory i.args ∧ ({} : Assume).holds C.prog (lone (Frame.enter C.prog f i.args .normal) [] (w.forCall tape i)) :=
  ⟨w0, fun _ _ => 0, ⟨#[], args, []⟩, hos, hsh, (Input.okWide_of_okWideB (base := 0) hok).1, (Input.okWide_of_okWideB hok).2, hrow, by
    simp only [Assume.holds]
    exact ⟨by simp, by simp, fun _ => Modest.zero, by simp, by simp⟩⟩
end Go.Proofs.YtkbhmkofflcpjaaGreatDoor

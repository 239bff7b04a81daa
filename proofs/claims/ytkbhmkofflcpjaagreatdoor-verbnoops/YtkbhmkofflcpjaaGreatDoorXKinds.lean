/-
  The nine laws of kinds, walked: each is the law of one kind at its number.
  Conditions: as each theorem states them.
-/
import Derived.Test.YtkbhmkofflcpjaaGreatDoorXKindW
namespace Go.Proofs.YtkbhmkofflcpjaaGreatDoor
open Go.RowKit

theorem helos_any (l : List Ask) (v : Value) (w : World) (hl : AsksAt w v l) (hg : Gl w) (ht : Tab w) :
    Calls Tryz.prog 6 #[v] w fun e w' => e = .returned (.bool true) ∧ Below w.heap.size w w' := by
  have HK := Lib.hid (kind_any l 1 v w hl hg ht)
  clear hl hg ht
  go_enter Tryz.func6, Tryz.ntmps6
  go_wp2_with fail
  refine Calls.mono (show _ from HK.out) ?_
  rintro e w1 ⟨rfl, hb⟩
  go_wp2_with fail
  go_ret
  exact ⟨rfl, hb⟩

theorem ehlos_any (l : List Ask) (v : Value) (w : World) (hl : AsksAt w v l) (hg : Gl w) (ht : Tab w) :
    Calls Tryz.prog 7 #[v] w fun e w' => e = .returned (.bool true) ∧ Below w.heap.size w w' := by
  have HK := Lib.hid (kind_any l 2 v w hl hg ht)
  clear hl hg ht
  go_enter Tryz.func7, Tryz.ntmps7
  go_wp2_with fail
  refine Calls.mono (show _ from HK.out) ?_
  rintro e w1 ⟨rfl, hb⟩
  go_wp2_with fail
  go_ret
  exact ⟨rfl, hb⟩

theorem mails_any (l : List Ask) (v : Value) (w : World) (hl : AsksAt w v l) (hg : Gl w) (ht : Tab w) :
    Calls Tryz.prog 8 #[v] w fun e w' => e = .returned (.bool true) ∧ Below w.heap.size w w' := by
  have HK := Lib.hid (kind_any l 3 v w hl hg ht)
  clear hl hg ht
  go_enter Tryz.func8, Tryz.ntmps8
  go_wp2_with fail
  refine Calls.mono (show _ from HK.out) ?_
  rintro e w1 ⟨rfl, hb⟩
  go_wp2_with fail
  go_ret
  exact ⟨rfl, hb⟩

theorem rcpts_any (l : List Ask) (v : Value) (w : World) (hl : AsksAt w v l) (hg : Gl w) (ht : Tab w) :
    Calls Tryz.prog 9 #[v] w fun e w' => e = .returned (.bool true) ∧ Below w.heap.size w w' := by
  have HK := Lib.hid (kind_any l 4 v w hl hg ht)
  clear hl hg ht
  go_enter Tryz.func9, Tryz.ntmps9
  go_wp2_with fail
  refine Calls.mono (show _ from HK.out) ?_
  rintro e w1 ⟨rfl, hb⟩
  go_wp2_with fail
  go_ret
  exact ⟨rfl, hb⟩

theorem datas_any (l : List Ask) (v : Value) (w : World) (hl : AsksAt w v l) (hg : Gl w) (ht : Tab w) :
    Calls Tryz.prog 10 #[v] w fun e w' => e = .returned (.bool true) ∧ Below w.heap.size w w' := by
  have HK := Lib.hid (kind_any l 5 v w hl hg ht)
  clear hl hg ht
  go_enter Tryz.func10, Tryz.ntmps10
  go_wp2_with fail
  refine Calls.mono (show _ from HK.out) ?_
  rintro e w1 ⟨rfl, hb⟩
  go_wp2_with fail
  go_ret
  exact ⟨rfl, hb⟩

theorem rsets_any (l : List Ask) (v : Value) (w : World) (hl : AsksAt w v l) (hg : Gl w) (ht : Tab w) :
    Calls Tryz.prog 11 #[v] w fun e w' => e = .returned (.bool true) ∧ Below w.heap.size w w' := by
  have HK := Lib.hid (kind_any l 6 v w hl hg ht)
  clear hl hg ht
  go_enter Tryz.func11, Tryz.ntmps11
  go_wp2_with fail
  refine Calls.mono (show _ from HK.out) ?_
  rintro e w1 ⟨rfl, hb⟩
  go_wp2_with fail
  go_ret
  exact ⟨rfl, hb⟩

theorem noops_any (l : List Ask) (v : Value) (w : World) (hl : AsksAt w v l) (hg : Gl w) (ht : Tab w) :
    Calls Tryz.prog 12 #[v] w fun e w' => e = .returned (.bool true) ∧ Below w.heap.size w w' := by
  have HK := Lib.hid (kind_any l 7 v w hl hg ht)
  clear hl hg ht
  go_enter Tryz.func12, Tryz.ntmps12
  go_wp2_with fail
  refine Calls.mono (show _ from HK.out) ?_
  rintro e w1 ⟨rfl, hb⟩
  go_wp2_with fail
  go_ret
  exact ⟨rfl, hb⟩

theorem quits_any (l : List Ask) (v : Value) (w : World) (hl : AsksAt w v l) (hg : Gl w) (ht : Tab w) :
    Calls Tryz.prog 13 #[v] w fun e w' => e = .returned (.bool true) ∧ Below w.heap.size w w' := by
  have HK := Lib.hid (kind_any l 8 v w hl hg ht)
  clear hl hg ht
  go_enter Tryz.func13, Tryz.ntmps13
  go_wp2_with fail
  refine Calls.mono (show _ from HK.out) ?_
  rintro e w1 ⟨rfl, hb⟩
  go_wp2_with fail
  go_ret
  exact ⟨rfl, hb⟩

theorem vrfys_any (l : List Ask) (v : Value) (w : World) (hl : AsksAt w v l) (hg : Gl w) (ht : Tab w) :
    Calls Tryz.prog 14 #[v] w fun e w' => e = .returned (.bool true) ∧ Below w.heap.size w w' := by
  have HK := Lib.hid (kind_any l 9 v w hl hg ht)
  clear hl hg ht
  go_enter Tryz.func14, Tryz.ntmps14
  go_wp2_with fail
  refine Calls.mono (show _ from HK.out) ?_
  rintro e w1 ⟨rfl, hb⟩
  go_wp2_with fail
  go_ret
  exact ⟨rfl, hb⟩
end Go.Proofs.YtkbhmkofflcpjaaGreatDoor

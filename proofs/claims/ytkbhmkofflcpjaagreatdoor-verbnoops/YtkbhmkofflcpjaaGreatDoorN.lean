/-
  Parse and Path of package addr, and the statements' own small functions, walked.
  Conditions: as each theorem states them.
-/
import Derived.Test.YtkbhmkofflcpjaaGreatDoorM
import Derived.RegionTactic
namespace Go.Proofs.YtkbhmkofflcpjaaGreatDoor
open Go.RowKit

/-- What Parse answers. -/
def boxOf (o : Option (List UInt8 × List UInt8)) : List UInt8 × List UInt8 := o.getD ([], [])
def errOf (o : Option (List UInt8 × List UInt8)) : Int := if o.isSome then 0 else 8

/-- A world in which Parse's own variables have been made. -/
def made3 (s : List UInt8) (w : World) : World := ((w.alloc (.cells #[.string ⟨s.toArray⟩] 9)).alloc (.cells #[.string ⟨#[]⟩, .string ⟨#[]⟩] 25)).alloc (.cells #[.string ⟨#[]⟩, .string ⟨#[]⟩] 25)
theorem made3_size (s : List UInt8) (w : World) : (made3 s w).heap.size = w.heap.size + 3 := by simp [made3]
theorem made3_below (s : List UInt8) (w : World) : Below w.heap.size w (made3 s w) := (((Below.refl _ w).alloc (Nat.le_refl _) _).alloc (by simp) _).alloc (by simp; omega) _
theorem made3_0 (s : List UInt8) (w : World) : SAt (made3 s w) w.heap.size s := ((SAt.new w s).alloc _).alloc _
theorem made3_1 (s : List UInt8) (w : World) : MAt (made3 s w) (w.heap.size + 1) [] [] := by
  have := MAt.new (w.alloc (.cells #[.string ⟨s.toArray⟩] 9)) [] []
  rw [World.size_alloc] at this
  exact MAt.alloc this _
theorem made3_2 (s : List UInt8) (w : World) : MAt (made3 s w) (w.heap.size + 2) [] [] := by
  have := MAt.new ((w.alloc (.cells #[.string ⟨s.toArray⟩] 9)).alloc (.cells #[.string ⟨#[]⟩, .string ⟨#[]⟩] 25)) [] []
  rw [World.size_alloc, World.size_alloc] at this
  exact this

theorem ret_box {a b c d : List UInt8} {n m : Int} (h : (a, b) = (c, d)) (k : n = m) : Ending.returned (.tuple #[.agg #[.string ⟨a.toArray⟩, .string ⟨b.toArray⟩], .int .i64 n]) = .returned (.tuple #[.agg #[.string ⟨c.toArray⟩, .string ⟨d.toArray⟩], .int .i64 m]) := by
  cases h; rw [k]

/-- What readPath comes to. -/
def PathEnd (s : List UInt8) (e : Ending) : Prop :=
  (pathL s = some none ∧ e = .returned (.tuple #[.agg #[.string ⟨#[]⟩, .string ⟨#[]⟩], .bool true])) ∨
  (∃ l d, pathL s = some (some (l, d)) ∧ e = .returned (.tuple #[.agg #[.string ⟨l.toArray⟩, .string ⟨d.toArray⟩], .bool false])) ∨
  (pathL s = none ∧ e = wrongE)

theorem path_no1 {s : List UInt8} (h : s.head? ≠ some 60) : pathL s = none := by
  cases s with
  | nil => rfl
  | cons c t =>
    have hc : c ≠ 60 := by simpa using h
    rw [pathL, if_neg (fun e => hc e.1)]
theorem path_no2 {t : List UInt8} (h : t.getLast? ≠ some 62) : pathL (60 :: t) = none := by
  rw [pathL, if_neg (fun e => h e.2)]
theorem path_in (u : List UInt8) : pathL (60 :: (u ++ [62])) = if u = [] then some none else (parseL u).map some := by
  rw [pathL, if_pos ⟨rfl, by simp⟩]
  simp

set_option maxHeartbeats 1000000 in
set_option maxRecDepth 100000 in
theorem readPath_any (s : List UInt8) (w : World) (hs : s.length ≤ 10000) :
    Calls Tryz.prog 97 #[.string ⟨s.toArray⟩] w fun e w' => PathEnd s e ∧ Below w.heap.size w w' := by
  have HA := Lib.hid ((Below.refl _ w).alloc (Nat.le_refl _) (.cells #[.string ⟨#[]⟩, .string ⟨#[]⟩] 25))
  have HM := Lib.hid (MAt.new w [] [])
  have HP := Lib.hid (fun W => cutPre_one 60 s W)
  go_enter Tryz.func97, Tryz.ntmps97
  go_wp2_with fail
  refine Calls.mono (HP.out _) ?_
  rintro e w' ⟨⟨t, ht, rfl⟩ | ⟨hn, rfl⟩, rfl⟩
  · have HT := Lib.hid ht
    have htl : t.length ≤ 10000 := by rw [ht] at hs; simp at hs; omega
    have HQ := Lib.hid (fun W => cutSuf_one 62 t W (by unfold maxLen; omega))
    clear ht
    go_wp2_with fail
    refine Calls.mono (HQ.out _) ?_
    rintro e w' ⟨⟨u, hu, rfl⟩ | ⟨hn, rfl⟩, rfl⟩
    · have HE := Lib.hid (show pathL s = if u = [] then some none else (parseL u).map some by rw [HT.out, hu]; exact path_in u)
      have hul : u.length ≤ 10000 := by rw [hu] at htl; simp at htl; omega
      have HR := Lib.hid (fun W => readMailbox_any u W hul)
      clear hu
      cases u with
      | nil =>
        have m0 := HM.out.c0
        have m1 := HM.out.c1
        have z0 := HM.out.fz 0
        have z1 := HM.out.fz 1
        go_wp2_with fail
        refine bodyPost_ret (v := .tuple #[.agg #[.string ⟨#[]⟩, .string ⟨#[]⟩], .bool true]) (by simp [results, Tryz.results97, go_sem]) rfl ⟨.inl ⟨HE.out, rfl⟩, HA.out⟩
      | cons x y =>
        have HF := Lib.hid (HE.out.trans (if_neg (List.cons_ne_nil x y)))
        have hne := ne_empty (List.cons_ne_nil x y)
        have hn2 : ((x :: y) == []) = false := rfl
        clear HE
        generalize x :: y = u at *
        go_wp2_with fail
        refine Calls.mono (HR.out _) ?_
        rintro e w2 ⟨⟨l, d, he, rfl⟩ | ⟨he, rfl⟩, hb⟩
        · have HG := Lib.hid (show pathL s = some (some (l, d)) by rw [HF.out, he]; rfl)
          have HB := Lib.hid (HA.out.trans (hb.mono (by simp)))
          have HM1 := Lib.hid (HM.out.later hb)
          have m0 := HM1.out.c0
          have m1 := HM1.out.c1
          have z0 := HM1.out.fz 0
          have z1 := HM1.out.fz 1
          clear hb he
          go_wp2_with fail
          have hf := HM1.out.set l d
          have f0 := hf.c0
          have f1 := hf.c1
          refine bodyPost_ret (v := .tuple #[.agg #[.string ⟨l.toArray⟩, .string ⟨d.toArray⟩], .bool false]) (by simp [results, Tryz.results97, go_sem, f0, f1]) rfl ⟨.inr (.inl ⟨l, d, HG.out, rfl⟩), ?_⟩
          exact (HB.out.setCell (p := ⟨w.heap.size, 0, none⟩) (Nat.le_refl _) _).setCell (p := ⟨w.heap.size, 1, none⟩) (Nat.le_refl _) _
        · exact ⟨rfl, .inr (.inr ⟨by rw [HF.out, he]; rfl, rfl⟩), HA.out.trans (hb.mono (by simp))⟩
    · have HF := Lib.hid (show pathL s = none by rw [HT.out]; exact path_no2 hn)
      clear hn
      go_wp2_with fail
      exact ⟨rfl, .inr (.inr ⟨HF.out, rfl⟩), HA.out⟩
  · have HF := Lib.hid (path_no1 hn)
    have HQ := Lib.hid (fun W => cutSuf_one 62 s W (by unfold maxLen; omega))
    clear hn
    go_wp2_with fail
    refine Calls.mono (HQ.out _) ?_
    rintro e w' ⟨⟨u, hu, rfl⟩ | ⟨hn, rfl⟩, rfl⟩
    · have HU := Lib.hid hu
      clear hu
      go_wp2_with fail
      exact ⟨rfl, .inr (.inr ⟨HF.out, rfl⟩), HA.out⟩
    · have HU := Lib.hid hn
      clear hn
      go_wp2_with fail
      exact ⟨rfl, .inr (.inr ⟨HF.out, rfl⟩), HA.out⟩

theorem enters_Path_1 (args : Array Value) (w : World) : (callFunc 96 args).run Tryz.prog w = .ok (.enter 96 args) w := enters_of Tryz.func96 (by kernel_rfl) rfl args w

/-- A bool in a block of its own. -/
def BAt (w : World) (b : Nat) (x : Bool) : Prop := w.heap[b]? = some (.cells #[.bool x] 4 (0, 0))
theorem BAt.lt {w : World} {b : Nat} {x : Bool} (h : BAt w b x) : b < w.heap.size := (Array.getElem?_eq_some_iff.1 h).1
theorem BAt.c {w : World} {b : Nat} {x : Bool} (h : BAt w b x) : w.cell? ⟨b, 0, none⟩ = some (.bool x) := by
  have h' : w.heap[b]? = some (.cells #[.bool x] 4 (0, 0)) := h
  simp [World.cell?, h']
theorem BAt.fz {w : World} {b : Nat} {x : Bool} (h : BAt w b x) : w.frozen? ⟨b, 0, none⟩ = false := by
  have h' : w.heap[b]? = some (.cells #[.bool x] 4 (0, 0)) := h
  simp [World.frozen?, h']
theorem BAt.later {w w' : World} {b : Nat} {x : Bool} (h : BAt w b x) (hb : Below w.heap.size w w') : BAt w' b x := (hb.block b h.lt).trans h
theorem BAt.alloc {w : World} {b : Nat} {x : Bool} (h : BAt w b x) (o : Obj) : BAt (w.alloc o) b x := (Below.heap_alloc w o b h.lt).trans h
theorem BAt.other {w : World} {b : Nat} {x : Bool} (h : BAt w b x) {p : Addr} (hp : b ≠ p.block) (v : Value) : BAt (w.setCell p v) b x := (Below.heap_setCell w p v b hp).trans h
theorem BAt.set {w : World} {b : Nat} {x : Bool} (h : BAt w b x) (y : Bool) : BAt (w.setCell ⟨b, 0, none⟩ (.bool y)) b y := by
  have h' : w.heap[b]? = some (.cells #[.bool x] 4 (0, 0)) := h
  show (w.setCell ⟨b, 0, none⟩ _).heap[b]? = _
  simp only [World.setCell, Array.getElem?_modify, if_true, h']
  rfl
theorem BAt.new (w : World) (x : Bool) : BAt (w.alloc (.cells #[.bool x] 4)) w.heap.size x := heap_alloc_new w _

/-- What Path answers. -/
def pBox (o : Option (Option (List UInt8 × List UInt8))) : List UInt8 × List UInt8 := match o with | some (some p) => p | _ => ([], [])
def pNull (o : Option (Option (List UInt8 × List UInt8))) : Bool := match o with | some none => true | _ => false
def pErr (o : Option (Option (List UInt8 × List UInt8))) : Int := if o.isSome then 0 else 8

set_option maxHeartbeats 1000000 in
theorem path1_good (s a b : List UInt8) (x : Bool) (n m k : Nat) (w : World) (hn : SAt w n s) (hm : MAt w m a b) (hk : BAt w k x) (hmk : m ≠ k) (hs : s.length ≤ 10000) (hr : (pathL s).isSome = true) :
    Calls Tryz.prog 96 #[.pointer (some ⟨n, 0, none⟩), .pointer (some ⟨m, 0, none⟩), .pointer (some ⟨k, 0, none⟩)] w fun e w' => e = .returned (.tuple #[]) ∧ But [m, k] w.heap.size w w' ∧ MAt w' m (pBox (pathL s)).1 (pBox (pathL s)).2 ∧ BAt w' k (pNull (pathL s)) := by
  have HR := Lib.hid (readPath_any s w hs)
  have HM := Lib.hid hm
  have HK := Lib.hid hk
  have HE := Lib.hid hr
  have hc := hn.c
  have HMK := Lib.hid hmk
  clear hn hm hk hr hmk
  go_enter Tryz.func96, Tryz.ntmps96
  go_wp2_with fail
  refine Calls.mono HR.out ?_
  rintro e w1 ⟨⟨he, rfl⟩ | ⟨l, d, he, rfl⟩ | ⟨he, rfl⟩, hb⟩
  · have HB := Lib.hid hb
    have HM1 := Lib.hid (HM.out.later hb)
    have HK1 := Lib.hid (HK.out.later hb)
    have c0 := HM1.out.c0
    have c1 := HM1.out.c1
    have z0 := HM1.out.fz 0
    have z1 := HM1.out.fz 1
    have HM2 := Lib.hid (HM1.out.set [] [])
    have HK2 := Lib.hid (((HK1.out.other (p := ⟨m, 0, none⟩) (fun e => HMK.out e.symm) (.string ⟨#[]⟩)).other (p := ⟨m, 1, none⟩) (fun e => HMK.out e.symm) (.string ⟨#[]⟩)))
    have k0 := HK2.out.c
    have k1 := HK2.out.fz
    have HF := Lib.hid he
    clear hb he
    go_wp2_with fail
    go_end0
    refine ⟨rfl, (((But.of HB.out).setCell (p := ⟨m, 0, none⟩) (.inl (by simp)) _).setCell (p := ⟨m, 1, none⟩) (.inl (by simp)) _).setCell (p := ⟨k, 0, none⟩) (.inl (by simp)) _, ?_, ?_⟩
    · rw [HF.out]
      exact HM2.out.other (p := ⟨k, 0, none⟩) HMK.out _
    · rw [HF.out]
      exact HK2.out.set true
  · have HB := Lib.hid hb
    have HM1 := Lib.hid (HM.out.later hb)
    have HK1 := Lib.hid (HK.out.later hb)
    have c0 := HM1.out.c0
    have c1 := HM1.out.c1
    have z0 := HM1.out.fz 0
    have z1 := HM1.out.fz 1
    have HM2 := Lib.hid (HM1.out.set l d)
    have HK2 := Lib.hid (((HK1.out.other (p := ⟨m, 0, none⟩) (fun e => HMK.out e.symm) (.string ⟨l.toArray⟩)).other (p := ⟨m, 1, none⟩) (fun e => HMK.out e.symm) (.string ⟨d.toArray⟩)))
    have k0 := HK2.out.c
    have k1 := HK2.out.fz
    have HF := Lib.hid he
    clear hb he
    go_wp2_with fail
    go_end0
    refine ⟨rfl, (((But.of HB.out).setCell (p := ⟨m, 0, none⟩) (.inl (by simp)) _).setCell (p := ⟨m, 1, none⟩) (.inl (by simp)) _).setCell (p := ⟨k, 0, none⟩) (.inl (by simp)) _, ?_, ?_⟩
    · rw [HF.out]
      exact HM2.out.other (p := ⟨k, 0, none⟩) HMK.out _
    · rw [HF.out]
      exact HK2.out.set false
  · have := HE.out
    rw [he] at this
    cases this

theorem path1_bad (s : List UInt8) (n m k : Nat) (w : World) (hn : SAt w n s) (hs : s.length ≤ 10000) (hr : pathL s = none) :
    Calls Tryz.prog 96 #[.pointer (some ⟨n, 0, none⟩), .pointer (some ⟨m, 0, none⟩), .pointer (some ⟨k, 0, none⟩)] w fun e w' => e = .panicked [{ v := .iface 87 (.agg #[.int .i64 8]), recovered := false }] ∧ Below w.heap.size w w' := by
  have HR := Lib.hid (readPath_any s w hs)
  have HE := Lib.hid hr
  have hc := hn.c
  clear hn hr
  go_enter Tryz.func96, Tryz.ntmps96
  go_wp2_with fail
  refine Calls.mono HR.out ?_
  rintro e w1 ⟨⟨he, rfl⟩ | ⟨l, d, he, rfl⟩ | ⟨he, rfl⟩, hb⟩
  · rw [HE.out] at he
    cases he
  · rw [HE.out] at he
    cases he
  · exact ⟨rfl, rfl, hb⟩

/-- A world in which Path's own variables have been made. -/
def made4 (s : List UInt8) (w : World) : World := ((w.alloc (.cells #[.string ⟨s.toArray⟩] 9)).alloc (.cells #[.string ⟨#[]⟩, .string ⟨#[]⟩] 25)).alloc (.cells #[.bool false] 4)
theorem made4_size (s : List UInt8) (w : World) : (made4 s w).heap.size = w.heap.size + 3 := by simp [made4]
theorem made4_below (s : List UInt8) (w : World) : Below w.heap.size w (made4 s w) := (((Below.refl _ w).alloc (Nat.le_refl _) _).alloc (by simp) _).alloc (by simp; omega) _
theorem made4_0 (s : List UInt8) (w : World) : SAt (made4 s w) w.heap.size s := ((SAt.new w s).alloc _).alloc _
theorem made4_1 (s : List UInt8) (w : World) : MAt (made4 s w) (w.heap.size + 1) [] [] := by
  have := MAt.new (w.alloc (.cells #[.string ⟨s.toArray⟩] 9)) [] []
  rw [World.size_alloc] at this
  exact MAt.alloc this _
theorem made4_2 (s : List UInt8) (w : World) : BAt (made4 s w) (w.heap.size + 2) false := by
  have := BAt.new ((w.alloc (.cells #[.string ⟨s.toArray⟩] 9)).alloc (.cells #[.string ⟨#[]⟩, .string ⟨#[]⟩] 25)) false
  rw [World.size_alloc, World.size_alloc] at this
  exact this
end Go.Proofs.YtkbhmkofflcpjaaGreatDoor

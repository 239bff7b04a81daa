/-
  Parse and Path of package addr, and the statements' own small functions, walked.
  Conditions: as each theorem states them.
-/
import Derived.Test.YtlnpenmcpcmidabM
import Derived.RegionTactic
namespace Go.Proofs.Ytlnpenmcpcmidab
open Go.RowKit

theorem enters_Parse_1 (args : Array Value) (w : World) : (callFunc 16 args).run Try.prog w = .ok (.enter 16 args) w := enters_of Try.func16 (by kernel_rfl) rfl args w

theorem parse1_good (s l d a b : List UInt8) (n m : Nat) (w : World) (hn : SAt w n s) (hm : MAt w m a b) (hs : s.length ≤ 10000) (hr : parseL s = some (l, d)) :
    Calls Try.prog 16 #[.pointer (some ⟨n, 0, none⟩), .pointer (some ⟨m, 0, none⟩)] w fun e w' => e = .returned (.tuple #[]) ∧ But [m] w.heap.size w w' ∧ MAt w' m l d := by
  have HR := Lib.hid (readMailbox_any s w hs)
  have HM := Lib.hid hm
  have HE := Lib.hid hr
  have hc := hn.c
  clear hn hm hr
  go_enter Try.func16, Try.ntmps16
  go_wp2_with fail
  refine Calls.mono HR.out ?_
  rintro e w1 ⟨⟨l', d', he, rfl⟩ | ⟨he, rfl⟩, hb⟩
  · rw [HE.out] at he
    cases he
    have HB := Lib.hid hb
    have HM1 := Lib.hid (HM.out.later hb)
    have c0 := HM1.out.c0
    have c1 := HM1.out.c1
    have z0 := HM1.out.fz 0
    have z1 := HM1.out.fz 1
    clear hb
    go_wp2_with fail
    go_end0
    exact ⟨rfl, ((But.of HB.out).setCell (p := ⟨m, 0, none⟩) (.inl (by simp)) _).setCell (p := ⟨m, 1, none⟩) (.inl (by simp)) _, HM1.out.set l d⟩
  · rw [HE.out] at he
    cases he

theorem parse1_bad (s : List UInt8) (n m : Nat) (w : World) (hn : SAt w n s) (hs : s.length ≤ 10000) (hr : parseL s = none) :
    Calls Try.prog 16 #[.pointer (some ⟨n, 0, none⟩), .pointer (some ⟨m, 0, none⟩)] w fun e w' => e = .panicked [{ v := .iface 47 (.agg #[.int .i64 8]), recovered := false }] ∧ Below w.heap.size w w' := by
  have HR := Lib.hid (readMailbox_any s w hs)
  have HE := Lib.hid hr
  have hc := hn.c
  clear hn hr
  go_enter Try.func16, Try.ntmps16
  go_wp2_with fail
  refine Calls.mono HR.out ?_
  rintro e w1 ⟨⟨x', r', he, rfl⟩ | ⟨he, rfl⟩, hb⟩
  · rw [HE.out] at he
    cases he
  · exact ⟨rfl, rfl, hb⟩

/-- What Parse answers. -/
def boxOf (o : Option (List UInt8 × List UInt8)) : List UInt8 × List UInt8 := o.getD ([], [])
def errOf (o : Option (List UInt8 × List UInt8)) : Int := if o.isSome then 0 else 8

/-- A world in which Parse's own variables have been made. -/
def made3 (s : List UInt8) (w : World) : World := ((w.alloc (.cells #[.string ⟨s.toArray⟩] 9)).alloc (.cells #[.string ⟨#[]⟩, .string ⟨#[]⟩] 29)).alloc (.cells #[.string ⟨#[]⟩, .string ⟨#[]⟩] 29)
theorem made3_size (s : List UInt8) (w : World) : (made3 s w).heap.size = w.heap.size + 3 := by simp [made3]
theorem made3_below (s : List UInt8) (w : World) : Below w.heap.size w (made3 s w) := (((Below.refl _ w).alloc (Nat.le_refl _) _).alloc (by simp) _).alloc (by simp; omega) _
theorem made3_0 (s : List UInt8) (w : World) : SAt (made3 s w) w.heap.size s := ((SAt.new w s).alloc _).alloc _
theorem made3_1 (s : List UInt8) (w : World) : MAt (made3 s w) (w.heap.size + 1) [] [] := by
  have := MAt.new (w.alloc (.cells #[.string ⟨s.toArray⟩] 9)) [] []
  rw [World.size_alloc] at this
  exact MAt.alloc this _
theorem made3_2 (s : List UInt8) (w : World) : MAt (made3 s w) (w.heap.size + 2) [] [] := by
  have := MAt.new ((w.alloc (.cells #[.string ⟨s.toArray⟩] 9)).alloc (.cells #[.string ⟨#[]⟩, .string ⟨#[]⟩] 29)) [] []
  rw [World.size_alloc, World.size_alloc] at this
  exact this

theorem ret_box {a b c d : List UInt8} {n m : Int} (h : (a, b) = (c, d)) (k : n = m) : Ending.returned (.tuple #[.agg #[.string ⟨a.toArray⟩, .string ⟨b.toArray⟩], .int .i64 n]) = .returned (.tuple #[.agg #[.string ⟨c.toArray⟩, .string ⟨d.toArray⟩], .int .i64 m]) := by
  cases h; rw [k]

set_option maxHeartbeats 1000000 in
theorem parse_any (s : List UInt8) (w : World) (hs : s.length ≤ 10000) :
    Calls Try.prog 10 #[.string ⟨s.toArray⟩] w fun e w' => e = .returned (.tuple #[.agg #[.string ⟨(boxOf (parseL s)).1.toArray⟩, .string ⟨(boxOf (parseL s)).2.toArray⟩], .int .i64 (errOf (parseL s))]) ∧ Below w.heap.size w w' := by
  have hmf : ∀ (fn : Fn) (first cap : Array Value) (w : World), (Instr.makeFunc fn first cap).run Try.prog w = .ok (.func fn first cap) w := fun _ _ _ _ => rfl
  have hsz := made3_size s w
  cases hr : parseL s with
  | some p =>
    obtain ⟨l, d⟩ := p
    have h := parse1_good s l d [] [] w.heap.size (w.heap.size + 2) ((made3 s w).alloc (.cells #[.int .i64 0] 26)) ((made3_0 s w).alloc _) ((made3_2 s w).alloc _) hs hr
    rw [World.size_alloc] at h
    have HC := Lib.hid (catch_ok 16 _ [w.heap.size + 2] (made3 s w) (fun w' => MAt w' (w.heap.size + 2) l d) (enters_Parse_1 _) (by simp [hsz]) h)
    have HZ := Lib.hid hsz
    clear hr h hsz
    rw [show boxOf (some (l, d)) = (l, d) from rfl, show errOf (some (l, d)) = 0 from rfl]
    go_enter Try.func10, Try.ntmps10
    go_wp2_with fail
    refine Calls.mono (show _ from HC.out) ?_
    rintro e w1 ⟨rfl, hb, w2, h1, hk⟩
    have hz := HZ.out
    have HB := Lib.hid ((made3_below s w).trans (hb.below (B' := w.heap.size) (by omega) (by simp)))
    have hv : MAt w1 (w.heap.size + 2) l d := (hk _ (by omega)).trans h1
    have hres : MAt w1 (w.heap.size + 1) [] [] := (hb.block _ (by omega) (by simp)).trans (made3_1 s w)
    have c0 := hv.c0
    have c1 := hv.c1
    have d0 := hres.c0
    have d1 := hres.c1
    have z0 := hres.fz 0
    have z1 := hres.fz 1
    have HV := Lib.hid hres
    clear hb h1 hk hz hv hres
    go_wp2_with fail
    have hf := HV.out.set l d
    have f0 := hf.c0
    have f1 := hf.c1
    refine bodyPost_ret (v := .tuple #[.agg #[.string ⟨l.toArray⟩, .string ⟨d.toArray⟩], .int .i64 0]) (by simp [results, Try.results10, go_sem, f0, f1]) rfl ⟨rfl, ?_⟩
    exact (HB.out.setCell (p := ⟨w.heap.size + 1, 0, none⟩) (Nat.le_succ _) _).setCell (p := ⟨w.heap.size + 1, 1, none⟩) (Nat.le_succ _) _
  | none =>
    have h := parse1_bad s w.heap.size (w.heap.size + 2) ((made3 s w).alloc (.cells #[.int .i64 0] 26)) ((made3_0 s w).alloc _) hs hr
    rw [World.size_alloc] at h
    have HC := Lib.hid (catch_no 16 _ 8 (made3 s w) (enters_Parse_1 _) h)
    have HZ := Lib.hid hsz
    clear hr h hsz
    rw [show boxOf none = ([], []) from rfl, show errOf none = 8 from rfl]
    go_enter Try.func10, Try.ntmps10
    go_wp2_with fail
    refine Calls.mono (show _ from HC.out) ?_
    rintro e w1 ⟨rfl, hb⟩
    have hz := HZ.out
    have HB := Lib.hid ((made3_below s w).trans (hb.mono (by omega)))
    have hres : MAt w1 (w.heap.size + 1) [] [] := (made3_1 s w).later hb
    have d0 := hres.c0
    have d1 := hres.c1
    have z0 := hres.fz 0
    have z1 := hres.fz 1
    have HV := Lib.hid hres
    clear hb hz hres
    go_wp2_with fail
    have hf := HV.out.set [] []
    have f0 := hf.c0
    have f1 := hf.c1
    refine bodyPost_ret (v := .tuple #[.agg #[.string ⟨#[]⟩, .string ⟨#[]⟩], .int .i64 8]) (by simp [results, Try.results10, go_sem, f0, f1]) rfl ⟨rfl, ?_⟩
    exact (HB.out.setCell (p := ⟨w.heap.size + 1, 0, none⟩) (Nat.le_succ _) _).setCell (p := ⟨w.heap.size + 1, 1, none⟩) (Nat.le_succ _) _

/-- What readPath comes to. -/
def PathEnd (s : List UInt8) (e : Ending) : Prop :=
  (pathL s = some none ∧ e = .returned (.tuple #[.agg #[.string ⟨#[]⟩, .string ⟨#[]⟩], .bool true])) ∨
  (∃ l d, pathL s = some (some (l, d)) ∧ e = .returned (.tuple #[.agg #[.string ⟨l.toArray⟩, .string ⟨d.toArray⟩], .bool false])) ∨
  (pathL s = none ∧ e = wrongE)

theorem path_no1 {s : List UInt8} (h : s.head? ≠ some 60) : pathL s = none := by
  cases s with
  | nil => rfl
  | cons c t =>
    have hc : c ≠ 60 := by simpa using h
    rw [pathL, if_neg (fun e => hc e.1)]
theorem path_no2 {t : List UInt8} (h : t.getLast? ≠ some 62) : pathL (60 :: t) = none := by
  rw [pathL, if_neg (fun e => h e.2)]
theorem path_in (u : List UInt8) : pathL (60 :: (u ++ [62])) = if u = [] then some none else (parseL u).map some := by
  rw [pathL, if_pos ⟨rfl, by simp⟩]
  simp

/-- A bool in a block of its own. -/
def BAt (w : World) (b : Nat) (x : Bool) : Prop := w.heap[b]? = some (.cells #[.bool x] 4 (0, 0))
theorem BAt.lt {w : World} {b : Nat} {x : Bool} (h : BAt w b x) : b < w.heap.size := (Array.getElem?_eq_some_iff.1 h).1
theorem BAt.c {w : World} {b : Nat} {x : Bool} (h : BAt w b x) : w.cell? ⟨b, 0, none⟩ = some (.bool x) := by
  have h' : w.heap[b]? = some (.cells #[.bool x] 4 (0, 0)) := h
  simp [World.cell?, h']
theorem BAt.fz {w : World} {b : Nat} {x : Bool} (h : BAt w b x) : w.frozen? ⟨b, 0, none⟩ = false := by
  have h' : w.heap[b]? = some (.cells #[.bool x] 4 (0, 0)) := h
  simp [World.frozen?, h']
theorem BAt.later {w w' : World} {b : Nat} {x : Bool} (h : BAt w b x) (hb : Below w.heap.size w w') : BAt w' b x := (hb.block b h.lt).trans h
theorem BAt.alloc {w : World} {b : Nat} {x : Bool} (h : BAt w b x) (o : Obj) : BAt (w.alloc o) b x := (Below.heap_alloc w o b h.lt).trans h
theorem BAt.other {w : World} {b : Nat} {x : Bool} (h : BAt w b x) {p : Addr} (hp : b ≠ p.block) (v : Value) : BAt (w.setCell p v) b x := (Below.heap_setCell w p v b hp).trans h
theorem BAt.set {w : World} {b : Nat} {x : Bool} (h : BAt w b x) (y : Bool) : BAt (w.setCell ⟨b, 0, none⟩ (.bool y)) b y := by
  have h' : w.heap[b]? = some (.cells #[.bool x] 4 (0, 0)) := h
  show (w.setCell ⟨b, 0, none⟩ _).heap[b]? = _
  simp only [World.setCell, Array.getElem?_modify, if_true, h']
  rfl
theorem BAt.new (w : World) (x : Bool) : BAt (w.alloc (.cells #[.bool x] 4)) w.heap.size x := heap_alloc_new w _

/-- What Path answers. -/
def pBox (o : Option (Option (List UInt8 × List UInt8))) : List UInt8 × List UInt8 := match o with | some (some p) => p | _ => ([], [])
def pNull (o : Option (Option (List UInt8 × List UInt8))) : Bool := match o with | some none => true | _ => false
def pErr (o : Option (Option (List UInt8 × List UInt8))) : Int := if o.isSome then 0 else 8

/-- A world in which Path's own variables have been made. -/
def made4 (s : List UInt8) (w : World) : World := ((w.alloc (.cells #[.string ⟨s.toArray⟩] 9)).alloc (.cells #[.string ⟨#[]⟩, .string ⟨#[]⟩] 29)).alloc (.cells #[.bool false] 4)
theorem made4_size (s : List UInt8) (w : World) : (made4 s w).heap.size = w.heap.size + 3 := by simp [made4]
theorem made4_below (s : List UInt8) (w : World) : Below w.heap.size w (made4 s w) := (((Below.refl _ w).alloc (Nat.le_refl _) _).alloc (by simp) _).alloc (by simp; omega) _
theorem made4_0 (s : List UInt8) (w : World) : SAt (made4 s w) w.heap.size s := ((SAt.new w s).alloc _).alloc _
theorem made4_1 (s : List UInt8) (w : World) : MAt (made4 s w) (w.heap.size + 1) [] [] := by
  have := MAt.new (w.alloc (.cells #[.string ⟨s.toArray⟩] 9)) [] []
  rw [World.size_alloc] at this
  exact MAt.alloc this _
theorem made4_2 (s : List UInt8) (w : World) : BAt (made4 s w) (w.heap.size + 2) false := by
  have := BAt.new ((w.alloc (.cells #[.string ⟨s.toArray⟩] 9)).alloc (.cells #[.string ⟨#[]⟩, .string ⟨#[]⟩] 29)) false
  rw [World.size_alloc, World.size_alloc] at this
  exact this
end Go.Proofs.Ytlnpenmcpcmidab

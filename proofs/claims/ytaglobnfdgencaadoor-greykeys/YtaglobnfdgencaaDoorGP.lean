/-
  Plain mathematics of greylists: keys and their order, lists that may be, what a list is behind an asking.
  Conditions: as each theorem states them.
-/
import Derived.Test.YtaglobnfdgencaaDoorRows
import Derived.Lib.Bytealg
import Derived.Laws.Strings
namespace Go.Proofs.YtaglobnfdgencaaDoor

/-- An entry. -/
structure Gy where
  k : ByteArray
  b : Int
  l : Int
  p : Bool
instance : Inhabited Gy := ⟨⟨⟨#[]⟩, 0, 0, false⟩⟩

/-- How keys stand. -/
def ltK (a b : ByteArray) : Bool := Op.bytesLess a.data.toList b.data.toList
def eqK (a b : ByteArray) : Bool := a.data.toList == b.data.toList
theorem lt_of_toList (a b : ByteArray) : Op.bytesLess a.toList b.toList = ltK a b := by rw [ByteArray.toList_eq, ByteArray.toList_eq]; rfl
theorem eq_of_toList (a b : ByteArray) : (a.toList == b.toList) = eqK a b := by rw [ByteArray.toList_eq, ByteArray.toList_eq]; rfl
theorem eqK_iff {a b : ByteArray} : eqK a b = true ↔ a = b := by
  unfold eqK
  rw [beq_iff_eq]
  constructor
  · intro h
    cases a; cases b
    simp only [ByteArray.mk.injEq]
    exact Array.ext' h
  · intro h; rw [h]
theorem eqK_refl (a : ByteArray) : eqK a a = true := eqK_iff.2 rfl
theorem bl_irrefl : ∀ x, Op.bytesLess x x = false
  | [] => rfl
  | a :: x => by simp [Op.bytesLess, bl_irrefl x, UInt8.lt_irrefl]
theorem bl_trans : ∀ x y z, Op.bytesLess x y = true → Op.bytesLess y z = true → Op.bytesLess x z = true
  | [], _, [], _, h => by cases h' : (‹List UInt8› : List UInt8) <;> simp_all [Op.bytesLess]
  | [], _, _ :: _, _, _ => rfl
  | _ :: _, [], _, h, _ => by simp [Op.bytesLess] at h
  | _ :: _, _ :: _, [], _, h => by simp [Op.bytesLess] at h
  | a :: x, b :: y, c :: z, h1, h2 => by
    simp only [Op.bytesLess, Bool.or_eq_true, decide_eq_true_eq, Bool.and_eq_true, beq_iff_eq] at h1 h2 ⊢
    rcases h1 with h1 | ⟨rfl, h1⟩
    · rcases h2 with h2 | ⟨rfl, h2⟩
      · exact .inl (UInt8.lt_trans h1 h2)
      · exact .inl h1
    · rcases h2 with h2 | ⟨rfl, h2⟩
      · exact .inl h2
      · exact .inr ⟨rfl, bl_trans x y z h1 h2⟩
theorem bl_tri : ∀ x y, Op.bytesLess x y = false → Op.bytesLess y x = false → x = y
  | [], [], _, _ => rfl
  | [], _ :: _, h, _ => by simp [Op.bytesLess] at h
  | _ :: _, [], _, h => by simp [Op.bytesLess] at h
  | a :: x, b :: y, h1, h2 => by
    simp only [Op.bytesLess, Bool.or_eq_false_iff, decide_eq_false_iff_not, Bool.and_eq_false_iff, beq_eq_false_iff_ne, UInt8.not_lt] at h1 h2
    have hab : a = b := UInt8.le_antisymm h2.1 h1.1
    subst hab
    rw [bl_tri x y (by rcases h1.2 with h | h; exact absurd rfl h; exact h) (by rcases h2.2 with h | h; exact absurd rfl h; exact h)]
theorem cmp_cases : ∀ x y, (Lib.compareBytes x y = -1 ∧ Op.bytesLess x y = true) ∨ (Lib.compareBytes x y = 0 ∧ x = y) ∨ (Lib.compareBytes x y = 1 ∧ Op.bytesLess y x = true)
  | [], [] => .inr (.inl ⟨rfl, rfl⟩)
  | [], _ :: _ => .inl ⟨rfl, rfl⟩
  | _ :: _, [] => .inr (.inr ⟨rfl, rfl⟩)
  | a :: x, b :: y => by
    by_cases h1 : a < b
    · exact .inl ⟨by simp [Lib.compareBytes, h1], by simp [Op.bytesLess, h1]⟩
    · by_cases h2 : b < a
      · exact .inr (.inr ⟨by simp [Lib.compareBytes, h1, h2], by simp [Op.bytesLess, h2]⟩)
      · have hab : a = b := UInt8.le_antisymm (UInt8.not_lt.1 h2) (UInt8.not_lt.1 h1)
        subst hab
        rcases cmp_cases x y with ⟨e, h⟩ | ⟨e, h⟩ | ⟨e, h⟩
        · exact .inl ⟨by simp [Lib.compareBytes, h1, e], by simp [Op.bytesLess, h]⟩
        · exact .inr (.inl ⟨by simp [Lib.compareBytes, h1, e], by rw [h]⟩)
        · exact .inr (.inr ⟨by simp [Lib.compareBytes, h1, e], by simp [Op.bytesLess, h]⟩)
theorem ltK_irrefl (a : ByteArray) : ltK a a = false := bl_irrefl _
theorem ltK_trans {a b c : ByteArray} (h1 : ltK a b = true) (h2 : ltK b c = true) : ltK a c = true := bl_trans _ _ _ h1 h2
theorem ltK_asymm {a b : ByteArray} (h : ltK a b = true) : ltK b a = false := by
  cases e : ltK b a
  · rfl
  · have := ltK_trans h e; rw [ltK_irrefl] at this; cases this
theorem ltK_tri {a b : ByteArray} (h1 : ltK a b = false) (h2 : ltK b a = false) : a = b := eqK_iff.1 (beq_iff_eq.2 (bl_tri _ _ h1 h2))
theorem ltK_ne {a b : ByteArray} (h : ltK a b = true) : eqK a b = false := by
  cases e : eqK a b
  · rfl
  · rw [eqK_iff.1 e, ltK_irrefl] at h; cases h
/-- What Compare says, by the order. -/
def cmpK (a b : ByteArray) : Int := Lib.compareBytes a.data.toList b.data.toList
theorem cmpK_lt {a b : ByteArray} : decide (cmpK a b < 0) = ltK a b := by
  rcases cmp_cases a.data.toList b.data.toList with ⟨e, h⟩ | ⟨e, h⟩ | ⟨e, h⟩
  · unfold cmpK ltK; rw [e, h]; rfl
  · unfold cmpK ltK; rw [e, h, bl_irrefl]; rfl
  · unfold cmpK; rw [e, show ltK a b = false from ltK_asymm (show ltK b a = true from h)]; rfl
theorem cmpK_eq {a b : ByteArray} : (cmpK a b == 0) = eqK a b := by
  rcases cmp_cases a.data.toList b.data.toList with ⟨e, h⟩ | ⟨e, h⟩ | ⟨e, h⟩
  · unfold cmpK; rw [e, ltK_ne (show ltK a b = true from h)]; rfl
  · unfold cmpK eqK; rw [e, h]; simp
  · unfold cmpK; rw [e]
    cases e2 : eqK a b
    · rfl
    · rw [eqK_iff.1 e2] at h; rw [bl_irrefl] at h; cases h

def inB (x lo hi : Int) : Bool := decide (lo ≤ x) && decide (x ≤ hi)
theorem inB_iff {x lo hi : Int} : inB x lo hi = true ↔ lo ≤ x ∧ x ≤ hi := by
  unfold inB
  rw [Bool.and_eq_true, decide_eq_true_eq, decide_eq_true_eq]
theorem inB_not {x lo hi : Int} : inB x lo hi = false ↔ ¬ (lo ≤ x ∧ x ≤ hi) := by
  rw [← inB_iff]
  cases inB x lo hi <;> simp

/-- May a key be, an entry, a list? -/
def okK (k : ByteArray) : Bool := inB (k.size : Int) 1 700
def okG (g : Gy) : Bool := okK g.k && inB g.b 0 1099511627776 && inB g.l 0 1099511627776 && decide (g.b ≤ g.l)
def Srt (l : List Gy) : Prop := l.Pairwise fun a b => ltK a.k b.k = true
instance (l : List Gy) : Decidable (Srt l) := inferInstanceAs (Decidable (l.Pairwise _))
def okL (l : List Gy) : Bool := decide (l.length ≤ 32) && (l.all okG && decide (Srt l))
theorem okL_iff {l : List Gy} : okL l = true ↔ l.length ≤ 32 ∧ (∀ g ∈ l, okG g = true) ∧ Srt l := by
  unfold okL
  simp only [Bool.and_eq_true, decide_eq_true_eq, List.all_eq_true]
theorem okL_long {l : List Gy} (h : 32 < l.length) : okL l = false := by
  cases e : okL l
  · rfl
  · have := (okL_iff.1 e).1; omega
theorem okL_bad {l : List Gy} {i : Nat} (hi : i < l.length) (h : okG l[i] = false) : okL l = false := by
  cases e : okL l
  · rfl
  · rw [(okL_iff.1 e).2.1 _ (List.getElem_mem hi)] at h; cases h
theorem Srt.get {l : List Gy} (h : Srt l) {i j : Nat} (hij : i < j) (hj : j < l.length) : ltK (l[i]'(by omega)).k l[j].k = true := List.pairwise_iff_getElem.1 h i j (by omega) hj hij
theorem okL_turned {l : List Gy} {i : Nat} (hi : i + 1 < l.length) (h : ltK (l[i]'(by omega)).k l[i + 1].k = false) : okL l = false := by
  cases e : okL l
  · rfl
  · rw [(okL_iff.1 e).2.2.get (Nat.lt_succ_self i) hi] at h; cases h
theorem srt_of_next {l : List Gy} (h : ∀ i (hi : i + 1 < l.length), ltK (l[i]'(by omega)).k l[i + 1].k = true) : Srt l := by
  refine List.pairwise_iff_getElem.2 fun i j hi hj hij => ?_
  obtain ⟨d, rfl⟩ : ∃ d, j = i + 1 + d := ⟨j - (i + 1), by omega⟩
  clear hij
  induction d with
  | zero => exact h i hj
  | succ d ih => exact ltK_trans (ih (by omega)) (h (i + 1 + d) hj)
theorem okL_all {l : List Gy} (hn : l.length ≤ 32) (h1 : ∀ i (hi : i < l.length), okG l[i] = true) (h2 : ∀ i (hi : i + 1 < l.length), ltK (l[i]'(by omega)).k l[i + 1].k = true) : okL l = true := by
  refine okL_iff.2 ⟨hn, fun g hg => ?_, srt_of_next h2⟩
  obtain ⟨i, hi, rfl⟩ := List.getElem_of_mem hg
  exact h1 i hi

/-- Those not too old; one met again; one put in its place; the stalest one. -/
def sinceL (l : List Gy) (t : Int) : List Gy := l.filter fun g => decide (t ≤ g.l)
def meetG (g : Gy) (now wait : Int) : Gy := ⟨g.k, g.b, max g.l now, g.p || decide (wait ≤ now - g.b)⟩
def insL (l : List Gy) (g : Gy) : List Gy := l.filter (fun x => ltK x.k g.k) ++ g :: l.filter (fun x => !ltK x.k g.k)
def hasK (l : List Gy) (key : ByteArray) : Bool := l.any fun g => eqK g.k key
def stI (l : List Gy) : Nat := ((List.range l.length).find? fun s => l.all fun x => decide ((l.getD s default).l ≤ x.l)).getD 0
def newG (key : ByteArray) (now wait : Int) : Gy := ⟨key, now, now, wait == 0⟩
def roomL (m : List Gy) : List Gy := if m.length = 32 then m.eraseIdx (stI m) else m
def askM (m : List Gy) (key : ByteArray) (now wait : Int) : List Gy × Bool :=
  if hasK m key then (m.map (fun g => if eqK g.k key then meetG g now wait else g), m.any fun g => eqK g.k key && (meetG g now wait).p)
  else (insL (roomL m) (newG key now wait), wait == 0)
def askL (l : List Gy) (key : ByteArray) (now wait : Int) : List Gy × Bool := askM (sinceL l (now - 65536)) key now wait
def mayL (l : List Gy) (key : ByteArray) (now wait : Int) : Bool := okL l && okK key && inB now 0 1099511627776 && inB wait 0 1099511627776

theorem Srt.filter {l : List Gy} (h : Srt l) (p : Gy → Bool) : Srt (l.filter p) := List.Pairwise.sublist List.filter_sublist h
theorem Srt.since {l : List Gy} (h : Srt l) (t : Int) : Srt (sinceL l t) := h.filter _
theorem Srt.erase {l : List Gy} (h : Srt l) (i : Nat) : Srt (l.eraseIdx i) := List.Pairwise.sublist (List.eraseIdx_sublist l i) h

/-- The place of a key. -/
structure At (l : List Gy) (key : ByteArray) (p : Nat) (q : Bool) : Prop where
  le : p ≤ l.length
  low : ∀ i (hi : i < l.length), i < p → ltK l[i].k key = true
  high : ∀ i (hi : i < l.length), p ≤ i → ltK l[i].k key = false
  yes : q = true → ∃ h : p < l.length, eqK l[p].k key = true
  no : q = false → ∀ h : p < l.length, eqK l[p].k key = false
theorem At.hasK {l : List Gy} {key : ByteArray} {p : Nat} {q : Bool} (hs : Srt l) (h : At l key p q) : hasK l key = q := by
  cases q with
  | true =>
    obtain ⟨hp, he⟩ := h.yes rfl
    exact List.any_eq_true.2 ⟨_, List.getElem_mem hp, he⟩
  | false =>
    refine List.any_eq_false.2 fun g hg => ?_
    obtain ⟨i, hi, rfl⟩ := List.getElem_of_mem hg
    rw [Bool.not_eq_true]
    by_cases h1 : i < p
    · exact ltK_ne (h.low i hi h1)
    · by_cases h2 : i = p
      · subst h2; exact h.no rfl hi
      · have hp : p < l.length := by omega
        have h3 := h.no rfl hp
        have h4 := h.high p hp (Nat.le_refl _)
        cases e : eqK l[i].k key
        · rfl
        · have := hs.get (show p < i by omega) hi
          rw [eqK_iff.1 e, h4] at this
          cases this
theorem At.only {l : List Gy} {key : ByteArray} {p : Nat} (hs : Srt l) (hp : p < l.length) (he : eqK l[p].k key = true) {i : Nat} (hi : i < l.length) : eqK l[i].k key = decide (i = p) := by
  by_cases h : i = p
  · subst h; rw [he]; simp
  · rw [decide_eq_false h]
    rw [eqK_iff] at he
    subst he
    rcases Nat.lt_or_gt_of_ne h with h | h
    · exact ltK_ne (hs.get h hp)
    · cases e : eqK l[i].k l[p].k
      · rfl
      · have := hs.get h hi
        rw [eqK_iff.1 e, ltK_irrefl] at this
        cases this
theorem askM_known {m : List Gy} {key : ByteArray} {p : Nat} (now wait : Int) (hs : Srt m) (hp : p < m.length) (he : eqK m[p].k key = true) :
    askM m key now wait = (m.set p (meetG m[p] now wait), (meetG m[p] now wait).p) := by
  have hh : hasK m key = true := List.any_eq_true.2 ⟨_, List.getElem_mem hp, he⟩
  unfold askM
  rw [if_pos hh]
  refine Prod.ext ?_ ?_
  · show m.map _ = m.set p _
    apply List.ext_getElem
    · simp
    · intro i h1 h2
      have hi : i < m.length := by simpa using h1
      rw [List.getElem_map, At.only hs hp he hi, List.getElem_set]
      by_cases h : p = i
      · subst h; simp
      · rw [if_neg h, if_neg (by simp; omega)]
  · show m.any _ = _
    cases e : (meetG m[p] now wait).p
    · refine List.any_eq_false.2 fun g hg => ?_
      obtain ⟨i, hi, rfl⟩ := List.getElem_of_mem hg
      rw [At.only hs hp he hi]
      by_cases h : i = p
      · subst h; simp [e]
      · simp [h]
    · exact List.any_eq_true.2 ⟨_, List.getElem_mem hp, by rw [he, e]; rfl⟩
theorem filter_take {l : List Gy} {f : Gy → Bool} {p : Nat} (hl : ∀ i (hi : i < l.length), i < p → f l[i] = true) (hh : ∀ i (hi : i < l.length), p ≤ i → f l[i] = false) : l.filter f = l.take p ∧ l.filter (fun x => !f x) = l.drop p := by
  have h1 : ∀ x ∈ l.take p, f x = true := fun x hx => by
    obtain ⟨i, hi, rfl⟩ := List.getElem_of_mem hx
    rw [List.getElem_take]
    simp at hi
    exact hl i (by omega) (by omega)
  have h2 : ∀ x ∈ l.drop p, f x = false := fun x hx => by
    obtain ⟨i, hi, rfl⟩ := List.getElem_of_mem hx
    rw [List.getElem_drop]
    simp at hi
    exact hh (p + i) (by omega) (by omega)
  constructor
  · conv => lhs; rw [← List.take_append_drop p l, List.filter_append]
    rw [List.filter_eq_self.2 h1, List.filter_eq_nil_iff.2 (fun x hx => by rw [h2 x hx]; simp), List.append_nil]
  · conv => lhs; rw [← List.take_append_drop p l, List.filter_append]
    rw [List.filter_eq_nil_iff.2 (fun x hx => by rw [h1 x hx]; simp), List.filter_eq_self.2 (fun x hx => by rw [h2 x hx]; rfl), List.nil_append]
theorem At.ins {l : List Gy} {g : Gy} {p : Nat} {q : Bool} (h : At l g.k p q) : insL l g = l.take p ++ g :: l.drop p := by
  obtain ⟨h1, h2⟩ := filter_take (f := fun x => ltK x.k g.k) h.low h.high
  unfold insL
  rw [h1, h2]

/-- The first one of the smallest Last. -/
structure Stal (l : List Gy) (s : Nat) : Prop where
  lt : s < l.length
  le : ∀ j (hj : j < l.length), (l[s]'lt).l ≤ l[j].l
  first : ∀ j (hj : j < s), (l[s]'lt).l < (l[j]'(Nat.lt_trans hj lt)).l
theorem Stal.eq {l : List Gy} {s : Nat} (h : Stal l s) : stI l = s := by
  unfold stI
  have hg : ∀ j (hj : j < l.length), l.getD j default = l[j] := fun j hj => by simp [List.getD, List.getElem?_eq_getElem hj]
  have hf : (List.range l.length).find? (fun s => l.all fun x => decide ((l.getD s default).l ≤ x.l)) = some s := by
    rw [List.find?_range_eq_some]
    refine ⟨?_, List.mem_range.2 h.lt, fun j hj => ?_⟩
    · refine List.all_eq_true.2 fun x hx => ?_
      obtain ⟨i, hi, rfl⟩ := List.getElem_of_mem hx
      rw [decide_eq_true_eq, hg s h.lt]
      exact h.le i hi
    · rw [Bool.not_eq_true', List.all_eq_false]
      refine ⟨l[s]'h.lt, List.getElem_mem _, ?_⟩
      have := h.first j hj
      have h3 := h.lt
      rw [decide_eq_true_eq, hg j (by omega)]
      omega
  rw [hf]
  rfl

/-- The page's second pass: what is still to come. -/
def outL (g : Gy) (old : Int) : Nat → Bool → List Gy → List Gy
  | _, q, [] => if q then [] else [g]
  | i, q, x :: r => (if !q && ltK g.k x.k then [g] else []) ++ ((if (i : Int) = old then [] else [x]) ++ outL g old (i + 1) (q || ltK g.k x.k) r)
def erL (old : Int) : Nat → List Gy → List Gy
  | _, [] => []
  | i, x :: r => (if (i : Int) = old then [] else [x]) ++ erL old (i + 1) r
theorem outL_true (g : Gy) (old : Int) : ∀ (l : List Gy) (i : Nat), outL g old i true l = erL old i l
  | [], _ => rfl
  | x :: r, i => by simp [outL, erL, outL_true g old r (i + 1)]
theorem erL_mem (old : Int) : ∀ (l : List Gy) (i : Nat) (x : Gy), x ∈ erL old i l → x ∈ l
  | [], _, _, h => by simp [erL] at h
  | y :: r, i, x, h => by
    simp only [erL, List.mem_append] at h
    rcases h with h | h
    · split at h
      · cases h
      · rw [List.mem_singleton.1 h]; exact List.mem_cons_self
    · exact List.mem_cons_of_mem _ (erL_mem old r _ x h)
theorem outL_ins (g : Gy) (old : Int) : ∀ (l : List Gy) (i : Nat), Srt l → hasK l g.k = false → outL g old i false l = insL (erL old i l) g
  | [], _, _, _ => rfl
  | x :: r, i, hs, hk => by
    have hs' := List.pairwise_cons.1 hs
    have hk' : eqK x.k g.k = false ∧ hasK r g.k = false := by simpa [hasK] using hk
    by_cases hgt : ltK g.k x.k = true
    · have hx : ltK x.k g.k = false := ltK_asymm hgt
      have hr : ∀ y ∈ erL old (i + 1) r, ltK y.k g.k = false := fun y hy => ltK_asymm (ltK_trans hgt (hs'.1 y (erL_mem old r _ y hy)))
      have e1 : (erL old (i + 1) r).filter (fun y => ltK y.k g.k) = [] := List.filter_eq_nil_iff.2 fun y hy => by rw [hr y hy]; simp
      have e2 : (erL old (i + 1) r).filter (fun y => !ltK y.k g.k) = erL old (i + 1) r := List.filter_eq_self.2 fun y hy => by rw [hr y hy]; rfl
      simp only [outL, hgt, Bool.not_false, Bool.true_and, if_true, Bool.false_or, outL_true, erL, insL, List.filter_append, e1, e2]
      split <;> simp [hx]
    · have hgt' : ltK g.k x.k = false := by simpa using hgt
      have hx : ltK x.k g.k = true := by
        cases e : ltK x.k g.k
        · rw [ltK_tri e hgt', eqK_refl] at hk'; cases hk'.1
        · rfl
      have ih := outL_ins g old r (i + 1) hs'.2 hk'.2
      simp only [outL, hgt', Bool.and_false, Bool.false_eq_true, if_false, Bool.or_false, ih, erL, insL, List.filter_append, List.nil_append]
      split <;> simp [hx]
theorem erL_none : ∀ (l : List Gy) (i : Nat), erL (-1) i l = l
  | [], _ => rfl
  | x :: r, i => by
    simp only [erL, erL_none r (i + 1)]
    rw [if_neg (by omega)]
    rfl
theorem erL_past : ∀ (l : List Gy) (i s : Nat), s < i → erL (s : Int) i l = l
  | [], _, _, _ => rfl
  | x :: r, i, s, h => by
    simp only [erL, erL_past r (i + 1) s (by omega)]
    rw [if_neg (by omega)]
    rfl
theorem erL_some : ∀ (l : List Gy) (i s : Nat), erL ((i + s : Nat) : Int) i l = l.eraseIdx s
  | [], _, _ => by simp [erL]
  | x :: r, i, 0 => by
    simp only [erL, Nat.add_zero, if_true, List.nil_append, List.eraseIdx_zero, List.tail_cons]
    exact erL_past r (i + 1) i (by omega)
  | x :: r, i, s + 1 => by
    simp only [erL, List.eraseIdx_cons_succ]
    rw [if_neg (by omega), show i + (s + 1) = i + 1 + s by omega, erL_some r (i + 1) s]
    rfl
end Go.Proofs.YtaglobnfdgencaaDoor

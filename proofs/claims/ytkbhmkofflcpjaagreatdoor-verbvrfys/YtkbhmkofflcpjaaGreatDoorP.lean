/-
  Plain mathematics of addresses: words, labels, numbers, domains, local parts, mailboxes, paths, as lists of bytes.
  No condition beyond those that each theorem states.
-/
import Derived.Test.YtkbhmkofflcpjaaGreatDoorRows
import Derived.Lib.ItoaNum
namespace Go.Proofs.YtkbhmkofflcpjaaGreatDoor

def smallB (c : UInt8) : Bool := decide (97 ≤ c.toNat) && decide (c.toNat ≤ 122)
def capB (c : UInt8) : Bool := decide (65 ≤ c.toNat) && decide (c.toNat ≤ 90)
def digB (c : UInt8) : Bool := decide (48 ≤ c.toNat) && decide (c.toNat ≤ 57)
def printB (c : UInt8) : Bool := decide (32 ≤ c.toNat) && decide (c.toNat ≤ 126)
/-- The signs of a word. -/
def signL : List UInt8 := [33, 35, 36, 37, 38, 39, 42, 43, 45, 47, 61, 63, 94, 95, 96, 123, 124, 125, 126]
def signB (c : UInt8) : Bool := signL.contains c
def wordC (c : UInt8) : Bool := smallB c || capB c || digB c || signB c
def labC (c : UInt8) : Bool := smallB c || digB c || c == 45
def wordB (s : List UInt8) : Bool := s.all wordC && !s.isEmpty
def labelB (s : List UInt8) : Bool := s.all labC && !s.isEmpty && decide (s.length ≤ 63) && !(s.head? == some 45) && !(s.getLast? == some 45)
/-- The number that some digits write. -/
def valN (t : List UInt8) : Nat := t.foldl (fun n c => 10 * n + (c.toNat - 48)) 0
def numB (s : List UInt8) : Bool := s.all digB && decide (valN s ≤ 255) && !s.isEmpty && (s == [48] || !(s.head? == some 48))

/-- What stands between a byte. -/
def splitB (b : UInt8) : List UInt8 → List (List UInt8)
  | [] => [[]]
  | c :: t => if c = b then [] :: splitB b t else match splitB b t with
    | [] => [[c]]
    | p :: r => (c :: p) :: r

theorem split_none {b : UInt8} : ∀ {p : List UInt8}, b ∉ p → splitB b p = [p] := by
  intro p
  induction p with
  | nil => intro _; rfl
  | cons c t ih =>
    intro h
    simp only [List.mem_cons, not_or] at h
    rw [splitB, if_neg (fun e => h.1 e.symm), ih h.2]

theorem split_some {b : UInt8} {r : List UInt8} : ∀ {p : List UInt8}, b ∉ p → splitB b (p ++ b :: r) = p :: splitB b r := by
  intro p
  induction p with
  | nil => intro _; rw [List.nil_append, splitB, if_pos rfl]
  | cons c t ih =>
    intro h
    simp only [List.mem_cons, not_or] at h
    rw [List.cons_append, splitB, if_neg (fun e => h.1 e.symm), ih h.2]

theorem split_len (b : UInt8) (s : List UInt8) : (splitB b s).length = s.count b + 1 := by
  induction s with
  | nil => rfl
  | cons c t ih =>
    rw [splitB]
    split
    · rename_i h
      subst h
      rw [List.length_cons, ih, List.count_cons_self]
    · rename_i h
      have h1 : ¬ ((c == b) = true) := by simpa using h
      split
      · rename_i h2
        rw [h2] at ih
        simp at ih
      · rename_i h2
        rw [h2] at ih
        rw [List.count_cons, if_neg h1]
        simp only [List.length_cons] at ih ⊢
        omega

theorem split_mem {b c : UInt8} {s : List UInt8} (h : c ∈ s) (hb : c ≠ b) : ∃ p ∈ splitB b s, c ∈ p := by
  induction s with
  | nil => cases h
  | cons d t ih =>
    rw [splitB]
    rcases List.mem_cons.1 h with rfl | h
    · rw [if_neg hb]
      split
      · exact ⟨_, List.mem_cons_self, List.mem_cons_self⟩
      · exact ⟨_, List.mem_cons_self, List.mem_cons_self⟩
    · obtain ⟨p, hp, hc⟩ := ih h
      split
      · exact ⟨p, List.mem_cons_of_mem _ hp, hc⟩
      · split
        · rename_i h2
          rw [h2] at hp
          cases hp
        · rename_i q r h2
          rw [h2] at hp
          rcases List.mem_cons.1 hp with rfl | hp
          · exact ⟨_, List.mem_cons_self, List.mem_cons_of_mem _ hc⟩
          · exact ⟨p, List.mem_cons_of_mem _ hp, hc⟩

def plainL (s : List UInt8) : Bool := (splitB 46 s).all wordB
def hostL (s : List UInt8) : Bool := (splitB 46 s).all labelB
/-- An address between brackets. -/
def litL : List UInt8 → Bool
  | [] => false
  | c :: t => c == 91 && (t.getLast? == some 93) && decide ((splitB 46 t.dropLast).length = 4) && (splitB 46 t.dropLast).all numB
def domL (s : List UInt8) : Bool := decide (s.length ≤ 255) && (hostL s || litL s)
def lowC (c : UInt8) : UInt8 := if capB c then c + 32 else c
def lowL (s : List UInt8) : List UInt8 := s.map lowC
def upC (c : UInt8) : UInt8 := if smallB c then c - 32 else c
def upL (s : List UInt8) : List UInt8 := s.map upC

/-- What stands behind an opening quote, up to the closing one, and what follows it. -/
def rq (acc : List UInt8) : List UInt8 → Option (List UInt8 × List UInt8)
  | [] => none
  | [c] => if c = 34 then some (acc, []) else none
  | c :: d :: u => if c = 34 then some (acc, d :: u) else if c = 92 then (if printB d then rq (acc ++ [d]) u else none)
    else if printB c then rq (acc ++ [c]) (d :: u) else none

theorem rq_end (acc t : List UInt8) : rq acc (34 :: t) = some (acc, t) := by
  cases t with
  | nil => simp [rq]
  | cons d u => simp [rq]
theorem rq_cut (acc : List UInt8) : rq acc [92] = none := by simp [rq]
theorem rq_pair (acc u : List UInt8) (d : UInt8) : rq acc (92 :: d :: u) = if printB d then rq (acc ++ [d]) u else none := by simp [rq]
theorem rq_char (acc t : List UInt8) {c : UInt8} (h1 : c ≠ 34) (h2 : c ≠ 92) : rq acc (c :: t) = if printB c then rq (acc ++ [c]) t else none := by
  cases t with
  | nil => simp [rq, h1]
  | cons d u => simp [rq, h1, h2]

/-- A byte between quotes. -/
def escC (c : UInt8) : List UInt8 := if c = 34 ∨ c = 92 then [92, c] else [c]
def escL (t : List UInt8) : List UInt8 := t.flatMap escC
def quoteL (t : List UInt8) : List UInt8 := 34 :: (escL t ++ [34])
def shortL (t : List UInt8) : List UInt8 := if plainL t then t else quoteL t

/-- The bytes that a quoted text stands for, and what follows it. -/
def rdL : List UInt8 → Option (List UInt8 × List UInt8)
  | [] => none
  | c :: t => if c = 34 then rq [] t else none

def quotL (s : List UInt8) : Bool := match rdL s with
  | some (x, _) => s == shortL x
  | none => false
def localL (s : List UInt8) : Bool := !s.isEmpty && decide (s.length ≤ 64) && (plainL s || quotL s)
def boxL (l d : List UInt8) : Bool := localL l && domL d

/-- The local part at the beginning, and what follows it. -/
def locL (s : List UInt8) : Option (List UInt8 × List UInt8) :=
  if s.head? = some 34 then (rdL s).map fun x => (shortL x.1, x.2)
  else if 64 ∈ s then some (s.takeWhile (· != 64), s.dropWhile (· != 64)) else none

/-- Behind the local part: the mailbox. -/
def behL (l : List UInt8) : List UInt8 → Option (List UInt8 × List UInt8)
  | [] => none
  | c :: d => if c = 64 ∧ domL (lowL d) = true ∧ localL l = true then some (l, lowL d) else none

def parseL (s : List UInt8) : Option (List UInt8 × List UInt8) := match locL s with
  | none => none
  | some (l, r) => behL l r

/-- A path: none, the empty one, a mailbox. -/
def pathL : List UInt8 → Option (Option (List UInt8 × List UInt8))
  | [] => none
  | c :: t => if c = 60 ∧ t.getLast? = some 62 then (if t.dropLast = [] then some none else (parseL t.dropLast).map some) else none

theorem parse_valid {s l d : List UInt8} (h : parseL s = some (l, d)) : boxL l d = true := by
  unfold parseL at h
  split at h
  · cases h
  · rename_i l' r _
    cases r with
    | nil => cases h
    | cons c u =>
      rw [behL] at h
      split at h
      · rename_i hc
        cases h
        simp [boxL, hc.2.1, hc.2.2]
      · cases h

theorem plain_mem {s : List UInt8} (h : plainL s = true) {c : UInt8} (hc : c ∈ s) : c = 46 ∨ wordC c = true := by
  by_cases h46 : c = 46
  · exact .inl h46
  · obtain ⟨p, hp, hcp⟩ := split_mem hc h46
    have h1 := List.all_eq_true.1 h p hp
    simp only [wordB, Bool.and_eq_true] at h1
    exact .inr (List.all_eq_true.1 h1.1 c hcp)

theorem plain_34 {s : List UInt8} (h : plainL s = true) : (34 : UInt8) ∉ s := fun hc => by
  rcases plain_mem h hc with h | h
  · exact absurd h (by decide)
  · exact absurd h (by decide)
theorem plain_64 {s : List UInt8} (h : plainL s = true) : (64 : UInt8) ∉ s := fun hc => by
  rcases plain_mem h hc with h | h
  · exact absurd h (by decide)
  · exact absurd h (by decide)

theorem rq_print : ∀ (n : Nat) {t acc x r : List UInt8}, t.length ≤ n → acc.all printB = true → rq acc t = some (x, r) → x.all printB = true := by
  intro n
  induction n with
  | zero =>
    intro t acc x r hn _ h
    obtain rfl : t = [] := List.eq_nil_of_length_eq_zero (by omega)
    cases h
  | succ n ih =>
    intro t acc x r hn ha h
    cases t with
    | nil => cases h
    | cons c t =>
      have hn' : t.length ≤ n := by simpa using hn
      by_cases h1 : c = 34
      · subst h1
        rw [rq_end] at h
        cases h
        exact ha
      · by_cases h2 : c = 92
        · subst h2
          cases t with
          | nil => rw [rq_cut] at h; cases h
          | cons d u =>
            rw [rq_pair] at h
            split at h
            · rename_i hd
              exact ih (by simp at hn'; omega) (by simp [ha, hd]) h
            · cases h
        · rw [rq_char _ _ h1 h2] at h
          split at h
          · rename_i hd
            exact ih hn' (by simp [ha, hd]) h
          · cases h

theorem rq_esc {x : List UInt8} (r : List UInt8) : ∀ (acc : List UInt8), x.all printB = true → rq acc (escL x ++ 34 :: r) = some (acc ++ x, r) := by
  induction x with
  | nil =>
    intro acc _
    show rq acc (34 :: r) = _
    rw [rq_end, List.append_nil]
  | cons c t ih =>
    intro acc h
    simp only [List.all_cons, Bool.and_eq_true] at h
    have e : escL (c :: t) ++ 34 :: r = escC c ++ (escL t ++ 34 :: r) := by simp [escL]
    rw [e, escC]
    split
    · show rq acc (92 :: c :: (escL t ++ 34 :: r)) = _
      rw [rq_pair, if_pos h.1, ih _ h.2]
      simp
    · rename_i hc
      simp only [not_or] at hc
      show rq acc (c :: (escL t ++ 34 :: r)) = _
      rw [rq_char _ _ hc.1 hc.2, if_pos h.1, ih _ h.2]
      simp

theorem quot_iff {s : List UInt8} (h : quotL s = true) : ∃ x, s = quoteL x ∧ plainL x = false ∧ x.all printB = true := by
  unfold quotL at h
  split at h
  · rename_i x r hr
    have hs : s = shortL x := by simpa using h
    cases s with
    | nil => cases hr
    | cons c t =>
      rw [rdL] at hr
      split at hr
      · rename_i hc
        subst hc
        have hp := rq_print t.length (Nat.le_refl _) (by rfl) hr
        unfold shortL at hs
        split at hs
        · rename_i hpl
          rw [← hs] at hpl
          exact absurd List.mem_cons_self (plain_34 hpl)
        · rename_i hpl
          exact ⟨x, hs, by simpa using hpl, hp⟩
      · cases hr
  · cases h

theorem rd_quote {x : List UInt8} (hx : x.all printB = true) (r : List UInt8) : rdL (quoteL x ++ r) = some (x, r) := by
  have e : quoteL x ++ r = 34 :: (escL x ++ 34 :: r) := by simp [quoteL]
  rw [e, rdL, if_pos rfl, rq_esc r [] hx, List.nil_append]

theorem quot_of {x : List UInt8} (hx : x.all printB = true) (hp : plainL x = false) : quotL (quoteL x) = true := by
  have h := rd_quote hx []
  rw [List.append_nil] at h
  unfold quotL
  rw [h]
  simp [shortL, hp]

theorem nocap_dom {s : List UInt8} (h : domL s = true) {c : UInt8} (hc : c ∈ s) : capB c = false := by
  have hlab : ∀ c, labC c = true → capB c = false := by
    intro c h
    simp only [labC, smallB, digB, Bool.or_eq_true, Bool.and_eq_true, decide_eq_true_eq, beq_iff_eq] at h
    rcases h with (h | h) | h
    · simp [capB]; omega
    · simp [capB]; omega
    · subst h; decide
  simp only [domL, Bool.and_eq_true, Bool.or_eq_true] at h
  rcases h.2 with h | h
  · by_cases h46 : c = 46
    · subst h46; decide
    · obtain ⟨p, hp, hcp⟩ := split_mem hc h46
      have h1 := List.all_eq_true.1 h p hp
      simp only [labelB, Bool.and_eq_true] at h1
      exact hlab c (List.all_eq_true.1 h1.1.1.1.1 c hcp)
  · cases s with
    | nil => cases hc
    | cons a t =>
      simp only [litL, Bool.and_eq_true, beq_iff_eq] at h
      obtain ⟨⟨⟨h1, h2⟩, _⟩, h4⟩ := h
      have ht : t = t.dropLast ++ [93] := by
        have hne : t ≠ [] := fun e => by rw [e] at h2; cases h2
        have := List.dropLast_concat_getLast hne
        rw [List.getLast?_eq_some_getLast hne] at h2
        have h3 : t.getLast hne = 93 := by simpa using h2
        rw [h3] at this
        exact this.symm
      rcases List.mem_cons.1 hc with rfl | hc
      · subst h1; decide
      · rw [ht] at hc
        rcases List.mem_append.1 hc with hc | hc
        · by_cases h46 : c = 46
          · subst h46; decide
          · obtain ⟨p, hp, hcp⟩ := split_mem hc h46
            have h1 := List.all_eq_true.1 h4 p hp
            simp only [numB, Bool.and_eq_true] at h1
            have := List.all_eq_true.1 h1.1.1.1 c hcp
            exact hlab c (by simp [labC, this])
        · rw [List.mem_singleton.1 hc]; decide

theorem low_up {c : UInt8} (h : capB c = false) : lowC (upC c) = c := by
  unfold upC
  split
  · rename_i hs
    simp only [smallB, Bool.and_eq_true, decide_eq_true_eq] at hs
    have h32 : (c - 32).toNat = c.toNat - 32 := UInt8.toNat_sub_of_le _ _ (by rw [UInt8.le_iff_toNat_le]; show 32 ≤ c.toNat; omega)
    have hc : capB (c - 32) = true := by simp [capB, h32]; omega
    rw [lowC, if_pos hc]
    exact UInt8.sub_add_cancel c 32
  · simp [lowC, h]
theorem low_same {c : UInt8} (h : capB c = false) : lowC c = c := by simp [lowC, h]

theorem low_dom {s : List UInt8} (h : domL s = true) : lowL s = s := by
  unfold lowL
  conv => rhs; rw [← List.map_id s]
  exact List.map_congr_left fun c hc => low_same (nocap_dom h hc)
theorem low_up_dom {s : List UInt8} (h : domL s = true) : lowL (upL s) = s := by
  unfold lowL upL
  rw [List.map_map]
  conv => rhs; rw [← List.map_id s]
  exact List.map_congr_left fun c hc => low_up (nocap_dom h hc)

/-- A mailbox's text is read as it, whatever the letters of its domain. -/
theorem parse_text {l d u : List UInt8} (h : boxL l d = true) (hu : lowL u = d) : parseL (l ++ 64 :: u) = some (l, d) := by
  simp only [boxL, Bool.and_eq_true] at h
  obtain ⟨hl, hd⟩ := h
  have hl' := hl
  simp only [localL, Bool.and_eq_true, Bool.or_eq_true, decide_eq_true_eq] at hl
  obtain ⟨⟨h1, _⟩, h3⟩ := hl
  have hbeh : behL l (64 :: u) = some (l, d) := by
    rw [behL, if_pos ⟨rfl, by rw [hu]; exact hd, hl'⟩, hu]
  rcases h3 with h3 | h3
  · have h64 := plain_64 h3
    have h34 := plain_34 h3
    have hloc : locL (l ++ 64 :: u) = some (l, 64 :: u) := by
      unfold locL
      rw [if_neg, if_pos (by simp)]
      · have ha : ∀ c ∈ l, (c != 64) = true := fun c hc => by
          rw [bne_iff_ne]
          exact fun e => h64 (e ▸ hc)
        rw [List.takeWhile_append_of_pos ha, List.dropWhile_append_of_pos ha]
        simp
      · cases l with
        | nil => cases h1
        | cons a t =>
          intro e
          simp only [List.cons_append, List.head?_cons, Option.some.injEq] at e
          subst e
          exact h34 List.mem_cons_self
    unfold parseL
    rw [hloc]
    exact hbeh
  · obtain ⟨x, rfl, hp, hx⟩ := quot_iff h3
    have hloc : locL (quoteL x ++ 64 :: u) = some (quoteL x, 64 :: u) := by
      unfold locL
      rw [rd_quote hx, if_pos (show (quoteL x ++ 64 :: u).head? = some 34 from rfl)]
      simp [shortL, hp]
    unfold parseL
    rw [hloc]
    exact hbeh

theorem path_text {s : List UInt8} (hs : s ≠ []) : pathL (60 :: (s ++ [62])) = (parseL s).map some := by
  rw [pathL, if_pos ⟨rfl, by simp⟩, if_neg (by simpa using hs)]
  simp

/-- The page's own local part. -/
def pgLocal (s : List UInt8) : Bool := !s.isEmpty && decide (s.length ≤ 64) &&
  (if s.head? = some 34 then (match rdL s with | some (x, r) => r.isEmpty && !plainL x && quoteL x == s | none => false) else plainL s)

theorem pg_local (s : List UInt8) : pgLocal s = localL s := by
  unfold pgLocal localL
  congr 1
  split
  · rename_i h
    cases s with
    | nil => cases h
    | cons c t =>
      obtain rfl : c = 34 := by simpa using h
      have hp : plainL (34 :: t) = false := by
        cases hp : plainL (34 :: t) with
        | false => rfl
        | true => exact absurd List.mem_cons_self (plain_34 hp)
      rw [hp, Bool.false_or]
      cases hq : quotL (34 :: t) with
      | true =>
        obtain ⟨x, hx, hpx, hpr⟩ := quot_iff hq
        have h2 := rd_quote hpr []
        rw [List.append_nil, ← hx] at h2
        rw [h2]
        simp [hpx, hx]
      | false =>
        split
        · rename_i x r hr
          cases hb : (r.isEmpty && !plainL x && quoteL x == 34 :: t) with
          | false => rfl
          | true =>
            simp only [Bool.and_eq_true, Bool.not_eq_true', beq_iff_eq] at hb
            rw [rdL, if_pos rfl] at hr
            have := quot_of (rq_print t.length (Nat.le_refl _) (by rfl) hr) hb.1.2
            rw [hb.2, hq] at this
            cases this
        · rfl
  · rename_i h
    have hq : quotL s = false := by
      cases s with
      | nil => rfl
      | cons c t =>
        have hc : c ≠ 34 := by simpa using h
        unfold quotL
        rw [rdL, if_neg hc]
    rw [hq, Bool.or_false]
end Go.Proofs.YtkbhmkofflcpjaaGreatDoor

namespace Go.Proofs.YtkbhmkofflcpjaaGreatDoor

/-- A command. -/
structure Vb where
  kind : Int
  word : List UInt8
  null : Bool
  l : List UInt8
  d : List UInt8
  size : Int

def seenB (c : UInt8) : Bool := decide (33 ≤ c.toNat) && decide (c.toNat ≤ 126)
/-- Words with single blanks between them. -/
def wordsL (s : List UInt8) : Bool := decide (s.length ≤ 64) && (splitB 32 s).all fun p => !p.isEmpty && p.all seenB

def bareV (v : Vb) : Bool := !v.null && v.l.isEmpty && v.d.isEmpty && decide (v.size = 0)
def validV (v : Vb) : Bool :=
  if v.kind = 1 ∨ v.kind = 2 then bareV v && domL v.word
  else if v.kind = 3 then v.word.isEmpty && ((v.null && v.l.isEmpty && v.d.isEmpty) || (!v.null && boxL v.l v.d)) && decide (-1 ≤ v.size) && decide (v.size ≤ 1073741824)
  else if v.kind = 4 then v.word.isEmpty && !v.null && decide (v.size = 0) && boxL v.l v.d
  else if v.kind = 7 then bareV v && (v.word.isEmpty || wordsL v.word)
  else if v.kind = 9 then bareV v && wordsL v.word
  else if v.kind = 5 ∨ v.kind = 6 ∨ v.kind = 8 then bareV v && v.word.isEmpty
  else false

/-- The names. -/
def nameL (k : Int) : List UInt8 :=
  if k = 1 then [72, 69, 76, 79] else if k = 2 then [69, 72, 76, 79] else if k = 3 then [77, 65, 73, 76] else if k = 4 then [82, 67, 80, 84]
  else if k = 5 then [68, 65, 84, 65] else if k = 6 then [82, 83, 69, 84] else if k = 7 then [78, 79, 79, 80] else if k = 8 then [81, 85, 73, 84] else [86, 82, 70, 89]

def sizeT (z : Int) : List UInt8 := if 0 ≤ z then [32, 83, 73, 90, 69, 61] ++ Lib.decDigits z.toNat else []
def pathT (v : Vb) : List UInt8 := if v.null then [] else v.l ++ 64 :: v.d
def textV (v : Vb) : List UInt8 :=
  if v.kind = 3 then nameL 3 ++ [32, 70, 82, 79, 77, 58, 60] ++ pathT v ++ [62] ++ sizeT v.size
  else if v.kind = 4 then nameL 4 ++ [32, 84, 79, 58, 60] ++ (v.l ++ 64 :: v.d) ++ [62]
  else if v.word.isEmpty then nameL v.kind else nameL v.kind ++ 32 :: v.word

def beginsL (s w : List UInt8) : Bool := decide (w.length ≤ s.length) && lowL (s.take w.length) == lowL w

/-- How far a path reaches. -/
def peL : Bool → List UInt8 → Nat
  | _, [] => 0
  | q, [c] => if q = true ∧ c = 92 then 1 else 1
  | q, c :: e :: t => if q = true ∧ c = 92 then 2 + peL q t
    else if c = 62 ∧ (if c = 34 then !q else q) = false then 1 else 1 + peL (if c = 34 then !q else q) (e :: t)

/-- The number of some digits. -/
def sizeL (s : List UInt8) : Option Nat :=
  if 1 ≤ s.length ∧ s.length ≤ 10 ∧ s.all digB = true ∧ valN s ≤ 1073741824 then some (valN s) else none

def kindL (s : List UInt8) : Int :=
  if beginsL s (nameL 9) then 9 else if beginsL s (nameL 8) then 8 else if beginsL s (nameL 7) then 7 else if beginsL s (nameL 6) then 6 else if beginsL s (nameL 5) then 5
  else if beginsL s (nameL 4) then 4 else if beginsL s (nameL 3) then 3 else if beginsL s (nameL 2) then 2 else if beginsL s (nameL 1) then 1 else 0

def zeroV : Vb := ⟨0, [], false, [], [], 0⟩
/-- A command that may be, or the error. -/
def outV (v : Vb) : Vb × Int := if validV v then (v, 0) else (zeroV, 8)
def blankL (r : List UInt8) : List UInt8 := if r.head? = some 32 then r.drop 1 else r

/-- The rest of a line, behind the path: the size, or nothing. -/
def tailL (t : List UInt8) : Option Int :=
  if t = [] then some (-1) else if beginsL t [32, 83, 73, 90, 69, 61] then (sizeL (t.drop 6)).map fun n => (n : Int) else none

def ofPath (o : Option (Option (List UInt8 × List UInt8))) : Option (Bool × List UInt8 × List UInt8) :=
  o.map fun x => match x with | none => (true, [], []) | some p => (false, p.1, p.2)

def mailL (r : List UInt8) : Vb × Int :=
  match ofPath (pathL (r.take (peL false r))), tailL (r.drop (peL false r)) with
  | some (n, l, d), some z => outV ⟨3, [], n, l, d, z⟩
  | _, _ => (zeroV, 8)
def rcptL (r : List UInt8) : Vb × Int :=
  match ofPath (pathL r) with
  | some (n, l, d) => outV ⟨4, [], n, l, d, 0⟩
  | none => (zeroV, 8)

/-- How a line is read. -/
def readV (s : List UInt8) : Vb × Int :=
  if kindL s = 0 ∨ (4 < s.length ∧ s.getD 4 0 ≠ 32) then (zeroV, 3)
  else if kindL s = 1 ∨ kindL s = 2 then (if s.drop 4 = [] then (zeroV, 8) else outV ⟨kindL s, lowL (s.drop 5), false, [], [], 0⟩)
  else if kindL s = 7 ∨ kindL s = 9 then (if s.drop 4 = [32] then (zeroV, 8) else outV ⟨kindL s, s.drop 5, false, [], [], 0⟩)
  else if kindL s = 3 then (if beginsL (s.drop 4) [32, 70, 82, 79, 77, 58] then mailL (blankL (s.drop 10)) else (zeroV, 8))
  else if kindL s = 4 then (if beginsL (s.drop 4) [32, 84, 79, 58] then rcptL (blankL (s.drop 8)) else (zeroV, 8))
  else if s.drop 4 = [] then outV ⟨kindL s, [], false, [], [], 0⟩ else (zeroV, 8)

theorem dig_ofNat {k : Nat} (h : k < 10) : digB (UInt8.ofNat (48 + k)) = true ∧ (UInt8.ofNat (48 + k)).toNat - 48 = k := by
  have e : (UInt8.ofNat (48 + k)).toNat = 48 + k := UInt8.toNat_ofNat_of_lt' (by show 48 + k < 256; omega)
  refine ⟨?_, by omega⟩
  unfold digB
  rw [e, decide_eq_true (by omega), decide_eq_true (by omega)]
  rfl
theorem dec_all (n : Nat) : (Lib.decDigits n).all digB = true := by
  induction n using Nat.strongRecOn with
  | _ n ih =>
    rw [Lib.decDigits]
    split
    · rename_i h
      rw [List.all_cons, List.all_nil, (dig_ofNat h).1]
      rfl
    · rw [List.all_append, ih (n / 10) (by omega)]
      rw [List.all_cons, List.all_nil, (dig_ofNat (k := n % 10) (by omega)).1]
      rfl
theorem dec_val (n : Nat) : valN (Lib.decDigits n) = n := by
  induction n using Nat.strongRecOn with
  | _ n ih =>
    rw [Lib.decDigits]
    split
    · rename_i h
      have := (dig_ofNat h).2
      show 10 * 0 + _ = n
      omega
    · have h1 := ih (n / 10) (by omega)
      have h2 := (dig_ofNat (k := n % 10) (by omega)).2
      unfold valN at h1 ⊢
      rw [List.foldl_append, h1]
      show 10 * (n / 10) + _ = n
      omega
theorem dec_len : ∀ (m n : Nat), n < 10 ^ (m + 1) → (Lib.decDigits n).length ≤ m + 1 := by
  intro m
  induction m with
  | zero =>
    intro n h
    rw [Lib.decDigits, dif_pos (by simpa using h)]
    simp
  | succ m ih =>
    intro n h
    rw [Lib.decDigits]
    split
    · simp
    · have := ih (n / 10) (by rw [Nat.pow_succ] at h; omega)
      simp
      omega
theorem dec_pos (n : Nat) : 1 ≤ (Lib.decDigits n).length := by
  rw [Lib.decDigits]
  split <;> simp
theorem val_small {t : List UInt8} (h : t.all digB = true) : valN t < 10 ^ t.length := by
  have key : ∀ (t : List UInt8) (n : Nat), t.all digB = true → t.foldl (fun n c => 10 * n + (c.toNat - 48)) n < (n + 1) * 10 ^ t.length := by
    intro t
    induction t with
    | nil => intro n _; simp
    | cons c t ih =>
      intro n h
      simp only [List.all_cons, Bool.and_eq_true] at h
      have hd : 48 ≤ c.toNat ∧ c.toNat ≤ 57 := by simpa [digB] using h.1
      rw [List.foldl_cons, List.length_cons, Nat.pow_succ]
      refine Nat.lt_of_lt_of_le (ih _ h.2) ?_
      have : (n + 1) * (10 ^ t.length * 10) = (10 * (n + 1)) * 10 ^ t.length := by rw [Nat.mul_comm 10 (n + 1), Nat.mul_assoc, Nat.mul_comm (10 ^ t.length) 10]
      rw [this]
      exact Nat.mul_le_mul_right _ (by omega)
  have := key t 0 h
  simpa [valN] using this
theorem size_dec {n : Nat} (h : n ≤ 1073741824) : sizeL (Lib.decDigits n) = some n := by
  have h1 := dec_len 9 n (by omega)
  unfold sizeL
  rw [if_pos ⟨dec_pos n, h1, dec_all n, by rw [dec_val]; exact h⟩, dec_val]
theorem size_len {t : List UInt8} {n : Nat} (h : sizeL t = some n) : (Lib.decDigits n).length ≤ t.length ∧ n ≤ 1073741824 := by
  unfold sizeL at h
  split at h
  · rename_i hc
    obtain ⟨h1, h2, h3, h4⟩ := hc
    cases h
    have h5 := val_small h3
    obtain ⟨m, hm⟩ : ∃ m, t.length = m + 1 := ⟨t.length - 1, by omega⟩
    rw [hm] at h5 ⊢
    exact ⟨dec_len m _ h5, h4⟩
  · cases h

theorem pe_pair (e : UInt8) (t : List UInt8) : peL true (92 :: e :: t) = 2 + peL true t := by simp [peL]
theorem pe_quote (q : Bool) (t : List UInt8) : peL q (34 :: t) = 1 + peL (!q) t := by
  cases t with
  | nil => simp [peL]
  | cons e t => simp [peL]
theorem pe_close (t : List UInt8) : peL false (62 :: t) = 1 := by
  cases t with
  | nil => simp [peL]
  | cons e t => simp [peL]
theorem pe_other {q : Bool} {c : UInt8} (t : List UInt8) (h1 : c ≠ 34) (h2 : ¬ (q = true ∧ c = 92)) (h3 : ¬ (c = 62 ∧ q = false)) : peL q (c :: t) = 1 + peL q t := by
  cases t with
  | nil => simp [peL]
  | cons e t =>
    have h4 : ¬ (c = 62 ∧ (if c = 34 then !q else q) = false) := by rw [if_neg h1]; exact h3
    rw [peL, if_neg h2, if_neg h4, if_neg h1]
theorem pe_skip {u : List UInt8} (h : ∀ c ∈ u, c ≠ 34 ∧ c ≠ 62) (t : List UInt8) : peL false (u ++ t) = u.length + peL false t := by
  induction u with
  | nil => simp
  | cons c u ih =>
    have hc := h c List.mem_cons_self
    rw [List.cons_append, pe_other _ hc.1 (by simp) (by simp [hc.2]), ih (fun x hx => h x (List.mem_cons_of_mem _ hx))]
    simp
    omega
theorem pe_esc {x : List UInt8} (t : List UInt8) : peL true (escL x ++ t) = (escL x).length + peL true t := by
  induction x with
  | nil => simp [escL]
  | cons c x ih =>
    have e : escL (c :: x) = escC c ++ escL x := by simp [escL]
    rw [e, List.append_assoc, escC]
    split
    · show peL true (92 :: c :: (escL x ++ t)) = _
      rw [pe_pair, ih]
      simp
      omega
    · rename_i hc
      simp only [not_or] at hc
      show peL true (c :: (escL x ++ t)) = _
      rw [pe_other _ hc.1 (by simp [hc.2]) (by simp), ih]
      simp
      omega

theorem word_not {c : UInt8} (h : wordC c = true) : c ≠ 34 ∧ c ≠ 62 := by
  refine ⟨fun e => ?_, fun e => ?_⟩ <;> (subst e; exact absurd h (by decide))
theorem dom_not {d : List UInt8} (h : domL d = true) : ∀ c ∈ d, c ≠ 34 ∧ c ≠ 62 := by
  have hlab : ∀ c, labC c = true → c ≠ 34 ∧ c ≠ 62 := fun c h => by
    refine ⟨fun e => ?_, fun e => ?_⟩ <;> (subst e; exact absurd h (by decide))
  intro c hc
  simp only [domL, Bool.and_eq_true, Bool.or_eq_true] at h
  rcases h.2 with h | h
  · by_cases h46 : c = 46
    · subst h46; decide
    · obtain ⟨p, hp, hcp⟩ := split_mem hc h46
      have h1 := List.all_eq_true.1 h p hp
      simp only [labelB, Bool.and_eq_true] at h1
      exact hlab c (List.all_eq_true.1 h1.1.1.1.1 c hcp)
  · cases d with
    | nil => cases hc
    | cons a t =>
      simp only [litL, Bool.and_eq_true, beq_iff_eq] at h
      obtain ⟨⟨⟨h1, h2⟩, _⟩, h4⟩ := h
      have ht : t = t.dropLast ++ [93] := by
        have hne : t ≠ [] := fun e => by rw [e] at h2; cases h2
        have := List.dropLast_concat_getLast hne
        rw [List.getLast?_eq_some_getLast hne] at h2
        have h3 : t.getLast hne = 93 := by simpa using h2
        rw [h3] at this
        exact this.symm
      rcases List.mem_cons.1 hc with rfl | hc
      · subst h1; decide
      · rw [ht] at hc
        rcases List.mem_append.1 hc with hc | hc
        · by_cases h46 : c = 46
          · subst h46; decide
          · obtain ⟨p, hp, hcp⟩ := split_mem hc h46
            have h1 := List.all_eq_true.1 h4 p hp
            simp only [numB, Bool.and_eq_true] at h1
            have := List.all_eq_true.1 h1.1.1.1 c hcp
            exact hlab c (by simp [labC, this])
        · rw [List.mem_singleton.1 hc]; decide

/-- A mailbox's path reaches just as far as it is long. -/
theorem pe_box {l d : List UInt8} (h : boxL l d = true) (r : List UInt8) : peL false (60 :: ((l ++ 64 :: d) ++ 62 :: r)) = (l ++ 64 :: d).length + 2 := by
  simp only [boxL, Bool.and_eq_true] at h
  obtain ⟨hl, hd⟩ := h
  have hd' := dom_not hd
  have htail : peL false ((64 :: d) ++ 62 :: r) = (64 :: d).length + 1 := by
    rw [pe_skip (u := 64 :: d) (fun c hc => by
      rcases List.mem_cons.1 hc with rfl | hc
      · decide
      · exact hd' c hc), pe_close]
  rw [pe_other _ (by decide) (by simp) (by simp), List.append_assoc]
  simp only [localL, Bool.and_eq_true, Bool.or_eq_true, decide_eq_true_eq] at hl
  rcases hl.2 with hp | hq
  · rw [pe_skip (fun c hc => by
      rcases plain_mem hp hc with rfl | hw
      · decide
      · exact word_not hw), htail]
    simp
    omega
  · obtain ⟨x, rfl, _, _⟩ := quot_iff hq
    have e : quoteL x ++ ((64 :: d) ++ 62 :: r) = 34 :: (escL x ++ (34 :: ((64 :: d) ++ 62 :: r))) := by simp [quoteL]
    rw [e, pe_quote, Bool.not_false, pe_esc, pe_quote, Bool.not_true, htail]
    simp [quoteL]
    omega

theorem pe_null (r : List UInt8) : peL false (60 :: 62 :: r) = 2 := by
  rw [pe_other _ (by decide) (by simp) (by simp), pe_close]

theorem low_len' (s : List UInt8) : (lowL s).length = s.length := by simp [lowL]
theorem low_app (a b : List UInt8) : lowL (a ++ b) = lowL a ++ lowL b := by simp [lowL]
theorem low_eq_len {a b : List UInt8} (h : lowL a = lowL b) : a.length = b.length := by
  have := congrArg List.length h
  rwa [low_len', low_len'] at this
theorem begins_of {a r w : List UInt8} (h : a.length = w.length) : beginsL (a ++ r) w = (lowL a == lowL w) := by
  unfold beginsL
  rw [List.take_left' h, decide_eq_true (by simp; omega), Bool.true_and]
theorem begins_same {a r w : List UInt8} (h : lowL a = lowL w) : beginsL (a ++ r) w = true := by
  rw [begins_of (low_eq_len h), h]
  exact beq_self_eq_true _
theorem begins_iff {s w : List UInt8} (h : beginsL s w = true) : w.length ≤ s.length ∧ lowL (s.take w.length) = lowL w := by
  simp only [beginsL, Bool.and_eq_true, decide_eq_true_eq, beq_iff_eq] at h
  exact h

theorem name_len (k : Int) : (nameL k).length = 4 := by
  unfold nameL
  repeat' split
  all_goals rfl

/-- The names are told from one another in whatever letters. -/
theorem kind_of {a r : List UInt8} {k : Int} (h1 : 1 ≤ k) (h9 : k ≤ 9) (h : lowL a = lowL (nameL k)) : kindL (a ++ r) = k := by
  have hl : a.length = 4 := (low_eq_len h).trans (name_len k)
  have hb : ∀ j, beginsL (a ++ r) (nameL j) = (lowL (nameL k) == lowL (nameL j)) := fun j => by rw [begins_of (hl.trans (name_len j).symm), h]
  unfold kindL
  simp only [hb]
  have hk : k = 1 ∨ k = 2 ∨ k = 3 ∨ k = 4 ∨ k = 5 ∨ k = 6 ∨ k = 7 ∨ k = 8 ∨ k = 9 := by omega
  rcases hk with rfl | rfl | rfl | rfl | rfl | rfl | rfl | rfl | rfl <;> decide

theorem kind_range (s : List UInt8) : 0 ≤ kindL s ∧ kindL s ≤ 9 ∧ (kindL s ≠ 0 → 4 ≤ s.length) := by
  unfold kindL
  have hb : ∀ j, beginsL s (nameL j) = true → 4 ≤ s.length := fun j h => by
    have := (begins_iff h).1
    rwa [name_len] at this
  repeat' split
  all_goals (rename_i h; first | exact ⟨by omega, by omega, fun _ => hb _ h⟩ | exact ⟨by omega, by omega, fun e => absurd rfl e⟩)

theorem out_good {v : Vb} (h : validV v = true) : outV v = (v, 0) := by rw [outV, if_pos h]

/-- What a command's text begins with, and what comes behind that. -/
def headV (v : Vb) : List UInt8 := if v.kind = 3 then nameL 3 ++ [32, 70, 82, 79, 77, 58] else if v.kind = 4 then nameL 4 ++ [32, 84, 79, 58] else nameL v.kind
def restV (v : Vb) : List UInt8 := if v.kind = 3 then 60 :: (pathT v ++ 62 :: sizeT v.size) else if v.kind = 4 then 60 :: ((v.l ++ 64 :: v.d) ++ [62]) else if v.word.isEmpty then [] else 32 :: v.word
theorem text_parts (v : Vb) : textV v = headV v ++ restV v := by
  unfold textV headV restV
  by_cases h3 : v.kind = 3
  · simp [h3]
  · by_cases h4 : v.kind = 4
    · simp [h4]
    · simp only [h3, h4, if_false]
      split <;> simp

theorem valid_kind {v : Vb} (h : validV v = true) : 1 ≤ v.kind ∧ v.kind ≤ 9 := by
  unfold validV at h
  repeat' split at h
  all_goals first | omega | cases h

theorem getD_four {a r : List UInt8} {c : UInt8} (h : a.length = 4) : (a ++ c :: r).getD 4 0 = c := by
  rw [List.getD_eq_getElem?_getD, List.getElem?_append_right (by omega), h]
  rfl
theorem drop_four {a r : List UInt8} (h : a.length = 4) : (a ++ r).drop 4 = r := List.drop_left' h
theorem drop_five {a r : List UInt8} {c : UInt8} (h : a.length = 4) : (a ++ c :: r).drop 5 = r := by
  rw [show a ++ c :: r = (a ++ [c]) ++ r by simp]
  exact List.drop_left' (by simp [h])

theorem bare_eq {v : Vb} (h : bareV v = true) : v = ⟨v.kind, v.word, false, [], [], 0⟩ := by
  simp only [bareV, Bool.and_eq_true, Bool.not_eq_true', List.isEmpty_iff, decide_eq_true_eq] at h
  obtain ⟨k, wd, n, l, d, z⟩ := v
  obtain ⟨⟨⟨h1, h2⟩, h3⟩, h4⟩ := h
  simp only at h1 h2 h3 h4
  subst h1 h2 h3 h4
  rfl

theorem low_32 {c : UInt8} (h : lowC c = 32) : c = 32 := by
  unfold lowC at h
  split at h
  · rename_i hc
    have h1 : 65 ≤ c.toNat ∧ c.toNat ≤ 90 := by simpa [capB] using hc
    have h2 := congrArg UInt8.toNat h
    rw [UInt8.toNat_add] at h2
    have h3 : (c.toNat + 32) % 256 = 32 := h2
    omega
  · exact h

theorem tail_size {z : Int} (h1 : -1 ≤ z) (h2 : z ≤ 1073741824) : tailL (sizeT z) = some z := by
  by_cases h : 0 ≤ z
  · have e : sizeT z = [32, 83, 73, 90, 69, 61] ++ Lib.decDigits z.toNat := if_pos h
    have hne : sizeT z ≠ [] := by rw [e]; simp
    have hb : beginsL ([32, 83, 73, 90, 69, 61] ++ Lib.decDigits z.toNat) [32, 83, 73, 90, 69, 61] = true := begins_same rfl
    have hd : ([32, 83, 73, 90, 69, 61] ++ Lib.decDigits z.toNat : List UInt8).drop 6 = Lib.decDigits z.toNat := rfl
    unfold tailL
    rw [if_neg hne, e, if_pos hb, hd, size_dec (by omega)]
    show some ((z.toNat : Int)) = some z
    rw [Int.toNat_of_nonneg h]
  · have e : sizeT z = [] := if_neg h
    rw [e, tailL, if_pos rfl, show z = -1 by omega]

theorem box_ne {l d : List UInt8} : (l ++ 64 :: d) ≠ [] := by simp
theorem box_path {l d : List UInt8} (h : boxL l d = true) : pathL (60 :: ((l ++ 64 :: d) ++ [62])) = some (some (l, d)) := by
  have hd : domL d = true := by simp only [boxL, Bool.and_eq_true] at h; exact h.2
  rw [path_text box_ne, parse_text h (low_dom hd)]
  rfl

theorem mail_text {v : Vb} (h : validV v = true) (h3 : v.kind = 3) : mailL (60 :: (pathT v ++ 62 :: sizeT v.size)) = (v, 0) := by
  have hv := h
  obtain ⟨k, wd, n, l, d, z⟩ := v
  simp only at h3
  subst h3
  simp only [validV, show ¬ ((3 : Int) = 1 ∨ (3 : Int) = 2) by decide, if_false, if_true, Bool.and_eq_true, Bool.or_eq_true, List.isEmpty_iff, Bool.not_eq_true', decide_eq_true_eq] at h
  obtain ⟨⟨⟨hw, hb⟩, hz1⟩, hz2⟩ := h
  subst hw
  have htl := tail_size hz1 hz2
  have key : ∀ pt : List UInt8, peL false (60 :: (pt ++ 62 :: sizeT z)) = pt.length + 2 → (60 :: (pt ++ 62 :: sizeT z)).take (pt.length + 2) = 60 :: (pt ++ [62]) ∧ (60 :: (pt ++ 62 :: sizeT z)).drop (pt.length + 2) = sizeT z := by
    intro pt _
    have e : 60 :: (pt ++ 62 :: sizeT z) = (60 :: (pt ++ [62])) ++ sizeT z := by simp
    rw [e]
    exact ⟨List.take_left' (by simp), List.drop_left' (by simp)⟩
  rcases hb with ⟨⟨hn, hl⟩, hd⟩ | ⟨hn, hbx⟩
  · subst hn hl hd
    have hp : peL false (60 :: (([] : List UInt8) ++ 62 :: sizeT z)) = ([] : List UInt8).length + 2 := pe_null _
    obtain ⟨k1, k2⟩ := key [] hp
    show mailL (60 :: ([] ++ 62 :: sizeT z)) = _
    unfold mailL
    rw [hp, k1, k2, htl]
    exact out_good hv
  · subst hn
    have hp := pe_box hbx (sizeT z)
    obtain ⟨k1, k2⟩ := key (l ++ 64 :: d) hp
    show mailL (60 :: ((l ++ 64 :: d) ++ 62 :: sizeT z)) = _
    unfold mailL
    rw [hp, k1, k2, htl, box_path hbx]
    exact out_good hv

theorem rcpt_text {v : Vb} (h : validV v = true) (h4 : v.kind = 4) : rcptL (60 :: ((v.l ++ 64 :: v.d) ++ [62])) = (v, 0) := by
  have hv := h
  obtain ⟨k, wd, n, l, d, z⟩ := v
  simp only at h4
  subst h4
  simp only [validV, show ¬ ((4 : Int) = 1 ∨ (4 : Int) = 2) by decide, show ¬ ((4 : Int) = 3) by decide, if_false, if_true, Bool.and_eq_true, List.isEmpty_iff, Bool.not_eq_true', decide_eq_true_eq] at h
  obtain ⟨⟨⟨hw, hn⟩, hz⟩, hb⟩ := h
  subst hw hn hz
  unfold rcptL
  rw [box_path hb]
  exact out_good hv

/-- A line whose words are the command's, in whatever letters, is read as it. -/
theorem read_text {v : Vb} (h : validV v = true) {a : List UInt8} (ha : lowL a = lowL (headV v)) : readV (a ++ restV v) = (v, 0) := by
  obtain ⟨hk1, hk9⟩ := valid_kind h
  by_cases h3 : v.kind = 3
  · have e1 : headV v = nameL 3 ++ [32, 70, 82, 79, 77, 58] := if_pos h3
    have e2 : restV v = 60 :: (pathT v ++ 62 :: sizeT v.size) := if_pos h3
    rw [e1] at ha
    rw [e2]
    have hl : a.length = 10 := low_eq_len ha
    have hs : a = a.take 4 ++ a.drop 4 := (List.take_append_drop 4 a).symm
    have ha1 : lowL (a.take 4) = lowL (nameL 3) := by
      have := congrArg (List.take 4) ha
      simpa [lowL, nameL] using this
    have ha2 : lowL (a.drop 4) = lowL [32, 70, 82, 79, 77, 58] := by
      have := congrArg (List.drop 4) ha
      simpa [lowL, nameL] using this
    have hl1 : (a.take 4).length = 4 := by simp; omega
    generalize a.take 4 = a1 at *
    generalize a.drop 4 = a2 at *
    subst hs
    have hl2 : a2.length = 6 := low_eq_len ha2
    cases a2 with
    | nil => simp at hl2
    | cons c a3 =>
      have hc : c = 32 := by
        have := congrArg List.head? ha2
        have h2 : lowC c = lowC 32 := by simpa [lowL] using this
        exact low_32 (h2.trans (by decide))
      subst hc
      have hkd : kindL ((a1 ++ 32 :: a3) ++ 60 :: (pathT v ++ 62 :: sizeT v.size)) = 3 := by
        rw [List.append_assoc]
        exact kind_of (by decide) (by decide) ha1
      have hd4 : ((a1 ++ 32 :: a3) ++ 60 :: (pathT v ++ 62 :: sizeT v.size)).drop 4 = (32 :: a3) ++ 60 :: (pathT v ++ 62 :: sizeT v.size) := by
        rw [List.append_assoc]
        exact drop_four hl1
      have hd10 : ((a1 ++ 32 :: a3) ++ 60 :: (pathT v ++ 62 :: sizeT v.size)).drop 10 = 60 :: (pathT v ++ 62 :: sizeT v.size) := List.drop_left' (by simp at hl2 ⊢; omega)
      have hg : ((a1 ++ 32 :: a3) ++ 60 :: (pathT v ++ 62 :: sizeT v.size)).getD 4 0 = 32 := by
        rw [List.append_assoc]
        exact getD_four hl1
      unfold readV
      rw [hkd, hd4, hd10, hg, if_neg (by simp), if_neg (by decide), if_neg (by decide), if_pos rfl, if_pos (begins_same ha2), blankL, if_neg (by simp)]
      exact mail_text h h3
  · by_cases h4 : v.kind = 4
    · have e1 : headV v = nameL 4 ++ [32, 84, 79, 58] := by rw [headV, if_neg h3, if_pos h4]
      have e2 : restV v = 60 :: ((v.l ++ 64 :: v.d) ++ [62]) := by rw [restV, if_neg h3, if_pos h4]
      rw [e1] at ha
      rw [e2]
      have hl : a.length = 8 := low_eq_len ha
      have hs : a = a.take 4 ++ a.drop 4 := (List.take_append_drop 4 a).symm
      have ha1 : lowL (a.take 4) = lowL (nameL 4) := by
        have := congrArg (List.take 4) ha
        simpa [lowL, nameL] using this
      have ha2 : lowL (a.drop 4) = lowL [32, 84, 79, 58] := by
        have := congrArg (List.drop 4) ha
        simpa [lowL, nameL] using this
      have hl1 : (a.take 4).length = 4 := by simp; omega
      generalize a.take 4 = a1 at *
      generalize a.drop 4 = a2 at *
      subst hs
      have hl2 : a2.length = 4 := low_eq_len ha2
      cases a2 with
      | nil => simp at hl2
      | cons c a3 =>
        have hc : c = 32 := by
          have := congrArg List.head? ha2
          have h2 : lowC c = lowC 32 := by simpa [lowL] using this
          exact low_32 (h2.trans (by decide))
        subst hc
        have hkd : kindL ((a1 ++ 32 :: a3) ++ 60 :: ((v.l ++ 64 :: v.d) ++ [62])) = 4 := by
          rw [List.append_assoc]
          exact kind_of (by decide) (by decide) ha1
        have hd4 : ((a1 ++ 32 :: a3) ++ 60 :: ((v.l ++ 64 :: v.d) ++ [62])).drop 4 = (32 :: a3) ++ 60 :: ((v.l ++ 64 :: v.d) ++ [62]) := by
          rw [List.append_assoc]
          exact drop_four hl1
        have hd8 : ((a1 ++ 32 :: a3) ++ 60 :: ((v.l ++ 64 :: v.d) ++ [62])).drop 8 = 60 :: ((v.l ++ 64 :: v.d) ++ [62]) := List.drop_left' (by simp at hl2 ⊢; omega)
        have hg : ((a1 ++ 32 :: a3) ++ 60 :: ((v.l ++ 64 :: v.d) ++ [62])).getD 4 0 = 32 := by
          rw [List.append_assoc]
          exact getD_four hl1
        unfold readV
        rw [hkd, hd4, hd8, hg, if_neg (by simp), if_neg (by decide), if_neg (by decide), if_neg (by decide), if_pos rfl, if_pos (begins_same ha2), blankL, if_neg (by simp)]
        exact rcpt_text h h4
    · have e1 : headV v = nameL v.kind := by rw [headV, if_neg h3, if_neg h4]
      have e2 : restV v = if v.word.isEmpty then [] else 32 :: v.word := by rw [restV, if_neg h3, if_neg h4]
      rw [e1] at ha
      have hl : a.length = 4 := (low_eq_len ha).trans (name_len _)
      rw [e2]
      have hkd : ∀ r, kindL (a ++ r) = v.kind := fun r => kind_of hk1 hk9 ha
      have hvv := h
      unfold validV at h
      rw [if_neg h3, if_neg h4] at h
      cases hw : v.word with
      | nil =>
        show readV (a ++ []) = _
        have hl4 : ¬ (kindL (a ++ []) = 0 ∨ (4 < (a ++ []).length ∧ (a ++ []).getD 4 0 ≠ 32)) := by
          rw [hkd]
          simp only [List.append_nil, hl]
          omega
        have hd4 : (a ++ []).drop 4 = [] := drop_four hl
        have hd5 : (a ++ []).drop 5 = [] := by
          rw [List.append_nil, List.drop_eq_nil_iff]
          omega
        unfold readV
        rw [if_neg hl4, hkd, hd4, hd5]
        split at h
        · rename_i h12
          simp only [Bool.and_eq_true] at h
          rw [hw] at h
          exact absurd h.2 (by decide)
        · rename_i h12
          have hb : bareV v = true := by
            repeat' split at h
            all_goals first | (simp only [Bool.and_eq_true] at h; exact h.1) | cases h
          have hbe := bare_eq hb
          rw [hw] at hbe
          rw [if_neg h12]
          split
          · rw [if_neg (by simp), ← hbe]
            exact out_good hvv
          · first
            | rw [if_neg h3, if_neg h4, if_pos rfl, ← hbe]
            | rw [if_pos rfl, ← hbe]
            exact out_good hvv
      | cons c t =>
        show readV (a ++ 32 :: (c :: t)) = _
        have hl4 : ¬ (kindL (a ++ 32 :: (c :: t)) = 0 ∨ (4 < (a ++ 32 :: (c :: t)).length ∧ (a ++ 32 :: (c :: t)).getD 4 0 ≠ 32)) := by
          rw [hkd, getD_four hl]
          simp
          omega
        have hd4 : (a ++ 32 :: (c :: t)).drop 4 = 32 :: (c :: t) := drop_four hl
        have hd5 : (a ++ 32 :: (c :: t)).drop 5 = c :: t := drop_five hl
        unfold readV
        rw [if_neg hl4, hkd, hd4, hd5]
        have hb : bareV v = true := by
          repeat' split at h
          all_goals first | (simp only [Bool.and_eq_true] at h; exact h.1) | cases h
        have hbe := bare_eq hb
        rw [hw] at hbe
        split
        · rename_i h12
          rw [if_pos h12] at h
          simp only [Bool.and_eq_true] at h
          rw [hw] at h
          rw [if_neg (by simp), low_dom h.2, ← hbe]
          exact out_good hvv
        · rename_i h12
          rw [if_neg h12] at h
          split
          · rw [if_neg (by simp), ← hbe]
            exact out_good hvv
          · rename_i h79
            exfalso
            simp only [not_or] at h79
            rw [if_neg h79.1, if_neg h79.2] at h
            split at h
            · simp only [Bool.and_eq_true] at h
              rw [hw] at h
              cases h.2
            · cases h
theorem read_text0 {v : Vb} (h : validV v = true) : readV (textV v) = (v, 0) := by
  rw [text_parts]
  exact read_text h rfl

theorem esc_app (a : List UInt8) (c : UInt8) : escL (a ++ [c]) = escL a ++ escC c := by simp [escL]
theorem esc_one_le (c : UInt8) : 1 ≤ (escC c).length ∧ (escC c).length ≤ 2 := by
  unfold escC
  split <;> simp
theorem esc_ge (x : List UInt8) : x.length ≤ (escL x).length := by
  induction x with
  | nil => simp
  | cons c t ih =>
    have e : escL (c :: t) = escC c ++ escL t := by simp [escL]
    have := (esc_one_le c).1
    rw [e]
    simp
    omega
theorem rq_esc_len : ∀ (n : Nat) {t acc x r : List UInt8}, t.length ≤ n → rq acc t = some (x, r) → (escL x).length + r.length + 1 ≤ (escL acc).length + t.length := by
  intro n
  induction n with
  | zero =>
    intro t acc x r hn h
    obtain rfl : t = [] := List.eq_nil_of_length_eq_zero (by omega)
    cases h
  | succ n ih =>
    intro t acc x r hn h
    cases t with
    | nil => cases h
    | cons c t =>
      have hn' : t.length ≤ n := by simpa using hn
      by_cases h1 : c = 34
      · subst h1
        rw [rq_end] at h
        cases h
        simp
        omega
      · by_cases h2 : c = 92
        · subst h2
          cases t with
          | nil => rw [rq_cut] at h; cases h
          | cons d u =>
            rw [rq_pair] at h
            split at h
            · have := ih (by simp at hn'; omega) h
              have he := (esc_one_le d).2
              rw [esc_app] at this
              simp at this ⊢
              omega
            · cases h
        · rw [rq_char _ _ h1 h2] at h
          split at h
          · have := ih hn' h
            have he : (escC c).length = 1 := by simp [escC, h1, h2]
            rw [esc_app] at this
            simp at this ⊢
            omega
          · cases h
theorem loc_len {s l r : List UInt8} (h : locL s = some (l, r)) : l.length + r.length ≤ s.length := by
  unfold locL at h
  split at h
  · rename_i hq
    cases s with
    | nil => cases hq
    | cons c t =>
      obtain rfl : c = 34 := by simpa using hq
      rw [rdL, if_pos rfl] at h
      cases hr : rq [] t with
      | none => rw [hr] at h; cases h
      | some p =>
        obtain ⟨x, r'⟩ := p
        rw [hr] at h
        cases h
        have h1 := rq_esc_len t.length (Nat.le_refl _) hr
        have h2 := esc_ge x
        have h3 : (escL []).length = 0 := rfl
        unfold shortL
        split
        · simp
          omega
        · simp [quoteL]
          omega
  · split at h
    · cases h
      have := congrArg List.length (List.takeWhile_append_dropWhile (p := fun c : UInt8 => c != 64) (l := s))
      rw [List.length_append] at this
      exact Nat.le_of_eq this
    · cases h
theorem parse_len {s l d : List UInt8} (h : parseL s = some (l, d)) : l.length + 1 + d.length ≤ s.length := by
  unfold parseL at h
  split at h
  · cases h
  · rename_i l' r hl
    have h1 := loc_len hl
    cases r with
    | nil => cases h
    | cons c u =>
      rw [behL] at h
      split at h
      · cases h
        rw [low_len']
        simp at h1
        omega
      · cases h
theorem path_len {u : List UInt8} {o : Option (List UInt8 × List UInt8)} (h : pathL u = some o) : (match o with | none => 2 | some p => p.1.length + 1 + p.2.length + 2) ≤ u.length := by
  cases u with
  | nil => cases h
  | cons c t =>
    rw [pathL] at h
    split at h
    · rename_i hc
      have hne : t ≠ [] := fun e => by rw [e] at hc; cases hc.2
      have hl : t.length = t.dropLast.length + 1 := by
        rw [List.length_dropLast]
        have := List.length_pos_iff.2 hne
        omega
      split at h
      · cases h
        simp
        omega
      · cases hp : parseL t.dropLast with
        | none => rw [hp] at h; cases h
        | some p =>
          obtain ⟨l, d⟩ := p
          rw [hp] at h
          cases h
          have := parse_len hp
          simp
          simp at this hl
          omega
    · cases h
theorem tail_len {w : List UInt8} {z : Int} (h : tailL w = some z) : (sizeT z).length ≤ w.length := by
  unfold tailL at h
  split at h
  · cases h
    simp [sizeT]
  · split at h
    · rename_i hb
      cases hs : sizeL (w.drop 6) with
      | none => rw [hs] at h; cases h
      | some n =>
        rw [hs] at h
        cases h
        have h1 := (size_len hs).1
        have h2 := (begins_iff hb).1
        show (sizeT (n : Int)).length ≤ _
        rw [sizeT, if_pos (Int.natCast_nonneg n)]
        simp at h1 h2 ⊢
        omega
    · cases h

theorem out_inv {v v' : Vb} (h : outV v = (v', 0)) : v = v' ∧ validV v' = true := by
  unfold outV at h
  split at h
  · rename_i hv
    cases h
    exact ⟨rfl, hv⟩
  · simp at h

theorem mail_len {r : List UInt8} {v : Vb} (h : mailL r = (v, 0)) : v.kind = 3 ∧ validV v = true ∧ (restV v).length ≤ r.length := by
  unfold mailL at h
  have hr : r.length = (r.take (peL false r)).length + (r.drop (peL false r)).length := by
    have := congrArg List.length (List.take_append_drop (peL false r) r)
    simp only [List.length_append] at this
    omega
  generalize r.take (peL false r) = u at *
  generalize r.drop (peL false r) = w at *
  split at h
  · rename_i n l d z h1 h2
    obtain ⟨rfl, hv⟩ := out_inv h
    refine ⟨rfl, hv, ?_⟩
    have h3 := tail_len h2
    have e : (restV ⟨3, [], n, l, d, z⟩).length = (pathT ⟨3, [], n, l, d, z⟩).length + 2 + (sizeT z).length := by
      simp [restV]
      omega
    rw [e, hr]
    cases hp : pathL u with
    | none => rw [hp] at h1; cases h1
    | some o =>
      rw [hp] at h1
      have h4 := path_len hp
      cases o with
      | none =>
        simp only [ofPath, Option.map_some, Option.some.injEq, Prod.mk.injEq] at h1
        obtain ⟨rfl, rfl, rfl⟩ := h1
        simp [pathT]
        simp at h4
        omega
      | some p =>
        simp only [ofPath, Option.map_some, Option.some.injEq, Prod.mk.injEq] at h1
        obtain ⟨rfl, rfl, rfl⟩ := h1
        simp [pathT]
        simp at h4
        omega
  · simp at h
theorem rcpt_len {r : List UInt8} {v : Vb} (h : rcptL r = (v, 0)) : v.kind = 4 ∧ validV v = true ∧ (restV v).length ≤ r.length := by
  unfold rcptL at h
  split at h
  · rename_i n l d h1
    obtain ⟨rfl, hv⟩ := out_inv h
    refine ⟨rfl, hv, ?_⟩
    have hv2 := hv
    simp [validV] at hv2
    cases hp : pathL r with
    | none => rw [hp] at h1; cases h1
    | some o =>
      rw [hp] at h1
      have h4 := path_len hp
      cases o with
      | none =>
        simp only [ofPath, Option.map_some, Option.some.injEq, Prod.mk.injEq] at h1
        obtain ⟨rfl, _, _⟩ := h1
        exact absurd hv2.1 (by simp)
      | some p =>
        simp only [ofPath, Option.map_some, Option.some.injEq, Prod.mk.injEq] at h1
        obtain ⟨rfl, rfl, rfl⟩ := h1
        simp [restV]
        simp at h4
        omega
  · simp at h
theorem blank_len (r : List UInt8) : (blankL r).length ≤ r.length := by
  unfold blankL
  split <;> simp

/-- No line is read as a command that is shorter than its text. -/
theorem read_len {t : List UInt8} {v : Vb} (h : readV t = (v, 0)) : validV v = true ∧ (textV v).length ≤ t.length := by
  unfold readV at h
  split at h
  · simp at h
  · rename_i h0
    simp only [not_or] at h0
    have h4 := (kind_range t).2.2 h0.1
    split at h
    · split at h
      · simp at h
      · rename_i h12 hne
        obtain ⟨rfl, hv⟩ := out_inv h
        refine ⟨hv, ?_⟩
        have hl : 5 ≤ t.length := by
          have : ¬ t.length ≤ 4 := fun e => hne (List.drop_eq_nil_iff.2 e)
          omega
        rw [text_parts, List.length_append]
        have e1 : (headV ⟨kindL t, lowL (t.drop 5), false, [], [], 0⟩).length = 4 := by
          rw [headV, if_neg (by simp only; omega), if_neg (by simp only; omega)]
          exact name_len _
        have e2 : (restV ⟨kindL t, lowL (t.drop 5), false, [], [], 0⟩).length ≤ t.length - 4 := by
          rw [restV, if_neg (by simp only; omega), if_neg (by simp only; omega)]
          split
          · simp
          · simp [low_len']
            omega
        omega
    · split at h
      · split at h
        · simp at h
        · rename_i h12 h79 hne
          obtain ⟨rfl, hv⟩ := out_inv h
          refine ⟨hv, ?_⟩
          rw [text_parts, List.length_append]
          have e1 : (headV ⟨kindL t, t.drop 5, false, [], [], 0⟩).length = 4 := by
            rw [headV, if_neg (by simp only; omega), if_neg (by simp only; omega)]
            exact name_len _
          have e2 : (restV ⟨kindL t, t.drop 5, false, [], [], 0⟩).length ≤ t.length - 4 := by
            rw [restV, if_neg (by simp only; omega), if_neg (by simp only; omega)]
            split
            · simp
            · rename_i hw
              have : t.drop 5 ≠ [] := fun e => hw (by simp only; rw [e]; rfl)
              have : ¬ t.length ≤ 5 := fun e => this (List.drop_eq_nil_iff.2 e)
              simp
              omega
          omega
      · split at h
        · split at h
          · rename_i h12 h79 h3 hb
            obtain ⟨hk, hv, hl⟩ := mail_len h
            refine ⟨hv, ?_⟩
            have h10 := (begins_iff hb).1
            have hbl := blank_len (t.drop 10)
            rw [text_parts, List.length_append]
            have e1 : (headV v).length = 10 := by rw [headV, if_pos hk]; rfl
            simp at h10 hbl
            omega
          · simp at h
        · split at h
          · split at h
            · rename_i h12 h79 h3 h4' hb
              obtain ⟨hk, hv, hl⟩ := rcpt_len h
              refine ⟨hv, ?_⟩
              have h10 := (begins_iff hb).1
              have hbl := blank_len (t.drop 8)
              rw [text_parts, List.length_append]
              have e1 : (headV v).length = 8 := by rw [headV, if_neg (by omega), if_pos hk]; rfl
              simp at h10 hbl
              omega
            · simp at h
          · split at h
            · rename_i h12 h79 h3 h4' hd
              obtain ⟨rfl, hv⟩ := out_inv h
              refine ⟨hv, ?_⟩
              rw [text_parts, List.length_append]
              have e1 : (headV ⟨kindL t, [], false, [], [], 0⟩).length = 4 := by
                rw [headV, if_neg h3, if_neg h4']
                exact name_len _
              have e2 : (restV ⟨kindL t, [], false, [], [], 0⟩).length = 0 := by
                rw [restV, if_neg h3, if_neg h4']
                rfl
              omega
            · simp at h
end Go.Proofs.YtkbhmkofflcpjaaGreatDoor

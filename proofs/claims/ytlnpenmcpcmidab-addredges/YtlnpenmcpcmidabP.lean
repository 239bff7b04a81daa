/-
  Plain mathematics of addresses: words, labels, numbers, domains, local parts, mailboxes, paths, as lists of bytes.
  No condition beyond those that each theorem states.
-/
import Derived.Test.YtlnpenmcpcmidabRows
namespace Go.Proofs.Ytlnpenmcpcmidab

def smallB (c : UInt8) : Bool := decide (97 ≤ c.toNat) && decide (c.toNat ≤ 122)
def capB (c : UInt8) : Bool := decide (65 ≤ c.toNat) && decide (c.toNat ≤ 90)
def digB (c : UInt8) : Bool := decide (48 ≤ c.toNat) && decide (c.toNat ≤ 57)
def printB (c : UInt8) : Bool := decide (32 ≤ c.toNat) && decide (c.toNat ≤ 126)
/-- The signs of a word. -/
def signL : List UInt8 := [33, 35, 36, 37, 38, 39, 42, 43, 45, 47, 61, 63, 94, 95, 96, 123, 124, 125, 126]
def signB (c : UInt8) : Bool := signL.contains c
def wordC (c : UInt8) : Bool := smallB c || capB c || digB c || signB c
def labC (c : UInt8) : Bool := smallB c || digB c || c == 45
def wordB (s : List UInt8) : Bool := s.all wordC && !s.isEmpty
def labelB (s : List UInt8) : Bool := s.all labC && !s.isEmpty && decide (s.length ≤ 63) && !(s.head? == some 45) && !(s.getLast? == some 45)
/-- The number that some digits write. -/
def valN (t : List UInt8) : Nat := t.foldl (fun n c => 10 * n + (c.toNat - 48)) 0
def numB (s : List UInt8) : Bool := s.all digB && decide (valN s ≤ 255) && !s.isEmpty && (s == [48] || !(s.head? == some 48))

/-- What stands between a byte. -/
def splitB (b : UInt8) : List UInt8 → List (List UInt8)
  | [] => [[]]
  | c :: t => if c = b then [] :: splitB b t else match splitB b t with
    | [] => [[c]]
    | p :: r => (c :: p) :: r

theorem split_none {b : UInt8} : ∀ {p : List UInt8}, b ∉ p → splitB b p = [p] := by
  intro p
  induction p with
  | nil => intro _; rfl
  | cons c t ih =>
    intro h
    simp only [List.mem_cons, not_or] at h
    rw [splitB, if_neg (fun e => h.1 e.symm), ih h.2]

theorem split_some {b : UInt8} {r : List UInt8} : ∀ {p : List UInt8}, b ∉ p → splitB b (p ++ b :: r) = p :: splitB b r := by
  intro p
  induction p with
  | nil => intro _; rw [List.nil_append, splitB, if_pos rfl]
  | cons c t ih =>
    intro h
    simp only [List.mem_cons, not_or] at h
    rw [List.cons_append, splitB, if_neg (fun e => h.1 e.symm), ih h.2]

theorem split_len (b : UInt8) (s : List UInt8) : (splitB b s).length = s.count b + 1 := by
  induction s with
  | nil => rfl
  | cons c t ih =>
    rw [splitB]
    split
    · rename_i h
      subst h
      rw [List.length_cons, ih, List.count_cons_self]
    · rename_i h
      have h1 : ¬ ((c == b) = true) := by simpa using h
      split
      · rename_i h2
        rw [h2] at ih
        simp at ih
      · rename_i h2
        rw [h2] at ih
        rw [List.count_cons, if_neg h1]
        simp only [List.length_cons] at ih ⊢
        omega

theorem split_mem {b c : UInt8} {s : List UInt8} (h : c ∈ s) (hb : c ≠ b) : ∃ p ∈ splitB b s, c ∈ p := by
  induction s with
  | nil => cases h
  | cons d t ih =>
    rw [splitB]
    rcases List.mem_cons.1 h with rfl | h
    · rw [if_neg hb]
      split
      · exact ⟨_, List.mem_cons_self, List.mem_cons_self⟩
      · exact ⟨_, List.mem_cons_self, List.mem_cons_self⟩
    · obtain ⟨p, hp, hc⟩ := ih h
      split
      · exact ⟨p, List.mem_cons_of_mem _ hp, hc⟩
      · split
        · rename_i h2
          rw [h2] at hp
          cases hp
        · rename_i q r h2
          rw [h2] at hp
          rcases List.mem_cons.1 hp with rfl | hp
          · exact ⟨_, List.mem_cons_self, List.mem_cons_of_mem _ hc⟩
          · exact ⟨p, List.mem_cons_of_mem _ hp, hc⟩

def plainL (s : List UInt8) : Bool := (splitB 46 s).all wordB
def hostL (s : List UInt8) : Bool := (splitB 46 s).all labelB
/-- An address between brackets. -/
def litL : List UInt8 → Bool
  | [] => false
  | c :: t => c == 91 && (t.getLast? == some 93) && decide ((splitB 46 t.dropLast).length = 4) && (splitB 46 t.dropLast).all numB
def domL (s : List UInt8) : Bool := decide (s.length ≤ 255) && (hostL s || litL s)
def lowC (c : UInt8) : UInt8 := if capB c then c + 32 else c
def lowL (s : List UInt8) : List UInt8 := s.map lowC
def upC (c : UInt8) : UInt8 := if smallB c then c - 32 else c
def upL (s : List UInt8) : List UInt8 := s.map upC

/-- What stands behind an opening quote, up to the closing one, and what follows it. -/
def rq (acc : List UInt8) : List UInt8 → Option (List UInt8 × List UInt8)
  | [] => none
  | [c] => if c = 34 then some (acc, []) else none
  | c :: d :: u => if c = 34 then some (acc, d :: u) else if c = 92 then (if printB d then rq (acc ++ [d]) u else none)
    else if printB c then rq (acc ++ [c]) (d :: u) else none

theorem rq_end (acc t : List UInt8) : rq acc (34 :: t) = some (acc, t) := by
  cases t with
  | nil => simp [rq]
  | cons d u => simp [rq]
theorem rq_cut (acc : List UInt8) : rq acc [92] = none := by simp [rq]
theorem rq_pair (acc u : List UInt8) (d : UInt8) : rq acc (92 :: d :: u) = if printB d then rq (acc ++ [d]) u else none := by simp [rq]
theorem rq_char (acc t : List UInt8) {c : UInt8} (h1 : c ≠ 34) (h2 : c ≠ 92) : rq acc (c :: t) = if printB c then rq (acc ++ [c]) t else none := by
  cases t with
  | nil => simp [rq, h1]
  | cons d u => simp [rq, h1, h2]

/-- A byte between quotes. -/
def escC (c : UInt8) : List UInt8 := if c = 34 ∨ c = 92 then [92, c] else [c]
def escL (t : List UInt8) : List UInt8 := t.flatMap escC
def quoteL (t : List UInt8) : List UInt8 := 34 :: (escL t ++ [34])
def shortL (t : List UInt8) : List UInt8 := if plainL t then t else quoteL t

/-- The bytes that a quoted text stands for, and what follows it. -/
def rdL : List UInt8 → Option (List UInt8 × List UInt8)
  | [] => none
  | c :: t => if c = 34 then rq [] t else none

def quotL (s : List UInt8) : Bool := match rdL s with
  | some (x, _) => s == shortL x
  | none => false
def localL (s : List UInt8) : Bool := !s.isEmpty && decide (s.length ≤ 64) && (plainL s || quotL s)
def boxL (l d : List UInt8) : Bool := localL l && domL d

/-- The local part at the beginning, and what follows it. -/
def locL (s : List UInt8) : Option (List UInt8 × List UInt8) :=
  if s.head? = some 34 then (rdL s).map fun x => (shortL x.1, x.2)
  else if 64 ∈ s then some (s.takeWhile (· != 64), s.dropWhile (· != 64)) else none

/-- Behind the local part: the mailbox. -/
def behL (l : List UInt8) : List UInt8 → Option (List UInt8 × List UInt8)
  | [] => none
  | c :: d => if c = 64 ∧ domL (lowL d) = true ∧ localL l = true then some (l, lowL d) else none

def parseL (s : List UInt8) : Option (List UInt8 × List UInt8) := match locL s with
  | none => none
  | some (l, r) => behL l r

/-- A path: none, the empty one, a mailbox. -/
def pathL : List UInt8 → Option (Option (List UInt8 × List UInt8))
  | [] => none
  | c :: t => if c = 60 ∧ t.getLast? = some 62 then (if t.dropLast = [] then some none else (parseL t.dropLast).map some) else none

theorem parse_valid {s l d : List UInt8} (h : parseL s = some (l, d)) : boxL l d = true := by
  unfold parseL at h
  split at h
  · cases h
  · rename_i l' r _
    cases r with
    | nil => cases h
    | cons c u =>
      rw [behL] at h
      split at h
      · rename_i hc
        cases h
        simp [boxL, hc.2.1, hc.2.2]
      · cases h

theorem plain_mem {s : List UInt8} (h : plainL s = true) {c : UInt8} (hc : c ∈ s) : c = 46 ∨ wordC c = true := by
  by_cases h46 : c = 46
  · exact .inl h46
  · obtain ⟨p, hp, hcp⟩ := split_mem hc h46
    have h1 := List.all_eq_true.1 h p hp
    simp only [wordB, Bool.and_eq_true] at h1
    exact .inr (List.all_eq_true.1 h1.1 c hcp)

theorem plain_34 {s : List UInt8} (h : plainL s = true) : (34 : UInt8) ∉ s := fun hc => by
  rcases plain_mem h hc with h | h
  · exact absurd h (by decide)
  · exact absurd h (by decide)
theorem plain_64 {s : List UInt8} (h : plainL s = true) : (64 : UInt8) ∉ s := fun hc => by
  rcases plain_mem h hc with h | h
  · exact absurd h (by decide)
  · exact absurd h (by decide)

theorem rq_print : ∀ (n : Nat) {t acc x r : List UInt8}, t.length ≤ n → acc.all printB = true → rq acc t = some (x, r) → x.all printB = true := by
  intro n
  induction n with
  | zero =>
    intro t acc x r hn _ h
    obtain rfl : t = [] := List.eq_nil_of_length_eq_zero (by omega)
    cases h
  | succ n ih =>
    intro t acc x r hn ha h
    cases t with
    | nil => cases h
    | cons c t =>
      have hn' : t.length ≤ n := by simpa using hn
      by_cases h1 : c = 34
      · subst h1
        rw [rq_end] at h
        cases h
        exact ha
      · by_cases h2 : c = 92
        · subst h2
          cases t with
          | nil => rw [rq_cut] at h; cases h
          | cons d u =>
            rw [rq_pair] at h
            split at h
            · rename_i hd
              exact ih (by simp at hn'; omega) (by simp [ha, hd]) h
            · cases h
        · rw [rq_char _ _ h1 h2] at h
          split at h
          · rename_i hd
            exact ih hn' (by simp [ha, hd]) h
          · cases h

theorem rq_esc {x : List UInt8} (r : List UInt8) : ∀ (acc : List UInt8), x.all printB = true → rq acc (escL x ++ 34 :: r) = some (acc ++ x, r) := by
  induction x with
  | nil =>
    intro acc _
    show rq acc (34 :: r) = _
    rw [rq_end, List.append_nil]
  | cons c t ih =>
    intro acc h
    simp only [List.all_cons, Bool.and_eq_true] at h
    have e : escL (c :: t) ++ 34 :: r = escC c ++ (escL t ++ 34 :: r) := by simp [escL]
    rw [e, escC]
    split
    · show rq acc (92 :: c :: (escL t ++ 34 :: r)) = _
      rw [rq_pair, if_pos h.1, ih _ h.2]
      simp
    · rename_i hc
      simp only [not_or] at hc
      show rq acc (c :: (escL t ++ 34 :: r)) = _
      rw [rq_char _ _ hc.1 hc.2, if_pos h.1, ih _ h.2]
      simp

theorem quot_iff {s : List UInt8} (h : quotL s = true) : ∃ x, s = quoteL x ∧ plainL x = false ∧ x.all printB = true := by
  unfold quotL at h
  split at h
  · rename_i x r hr
    have hs : s = shortL x := by simpa using h
    cases s with
    | nil => cases hr
    | cons c t =>
      rw [rdL] at hr
      split at hr
      · rename_i hc
        subst hc
        have hp := rq_print t.length (Nat.le_refl _) (by rfl) hr
        unfold shortL at hs
        split at hs
        · rename_i hpl
          rw [← hs] at hpl
          exact absurd List.mem_cons_self (plain_34 hpl)
        · rename_i hpl
          exact ⟨x, hs, by simpa using hpl, hp⟩
      · cases hr
  · cases h

theorem rd_quote {x : List UInt8} (hx : x.all printB = true) (r : List UInt8) : rdL (quoteL x ++ r) = some (x, r) := by
  have e : quoteL x ++ r = 34 :: (escL x ++ 34 :: r) := by simp [quoteL]
  rw [e, rdL, if_pos rfl, rq_esc r [] hx, List.nil_append]

theorem quot_of {x : List UInt8} (hx : x.all printB = true) (hp : plainL x = false) : quotL (quoteL x) = true := by
  have h := rd_quote hx []
  rw [List.append_nil] at h
  unfold quotL
  rw [h]
  simp [shortL, hp]

theorem nocap_dom {s : List UInt8} (h : domL s = true) {c : UInt8} (hc : c ∈ s) : capB c = false := by
  have hlab : ∀ c, labC c = true → capB c = false := by
    intro c h
    simp only [labC, smallB, digB, Bool.or_eq_true, Bool.and_eq_true, decide_eq_true_eq, beq_iff_eq] at h
    rcases h with (h | h) | h
    · simp [capB]; omega
    · simp [capB]; omega
    · subst h; decide
  simp only [domL, Bool.and_eq_true, Bool.or_eq_true] at h
  rcases h.2 with h | h
  · by_cases h46 : c = 46
    · subst h46; decide
    · obtain ⟨p, hp, hcp⟩ := split_mem hc h46
      have h1 := List.all_eq_true.1 h p hp
      simp only [labelB, Bool.and_eq_true] at h1
      exact hlab c (List.all_eq_true.1 h1.1.1.1.1 c hcp)
  · cases s with
    | nil => cases hc
    | cons a t =>
      simp only [litL, Bool.and_eq_true, beq_iff_eq] at h
      obtain ⟨⟨⟨h1, h2⟩, _⟩, h4⟩ := h
      have ht : t = t.dropLast ++ [93] := by
        have hne : t ≠ [] := fun e => by rw [e] at h2; cases h2
        have := List.dropLast_concat_getLast hne
        rw [List.getLast?_eq_some_getLast hne] at h2
        have h3 : t.getLast hne = 93 := by simpa using h2
        rw [h3] at this
        exact this.symm
      rcases List.mem_cons.1 hc with rfl | hc
      · subst h1; decide
      · rw [ht] at hc
        rcases List.mem_append.1 hc with hc | hc
        · by_cases h46 : c = 46
          · subst h46; decide
          · obtain ⟨p, hp, hcp⟩ := split_mem hc h46
            have h1 := List.all_eq_true.1 h4 p hp
            simp only [numB, Bool.and_eq_true] at h1
            have := List.all_eq_true.1 h1.1.1.1 c hcp
            exact hlab c (by simp [labC, this])
        · rw [List.mem_singleton.1 hc]; decide

theorem low_up {c : UInt8} (h : capB c = false) : lowC (upC c) = c := by
  unfold upC
  split
  · rename_i hs
    simp only [smallB, Bool.and_eq_true, decide_eq_true_eq] at hs
    have h32 : (c - 32).toNat = c.toNat - 32 := UInt8.toNat_sub_of_le _ _ (by rw [UInt8.le_iff_toNat_le]; show 32 ≤ c.toNat; omega)
    have hc : capB (c - 32) = true := by simp [capB, h32]; omega
    rw [lowC, if_pos hc]
    exact UInt8.sub_add_cancel c 32
  · simp [lowC, h]
theorem low_same {c : UInt8} (h : capB c = false) : lowC c = c := by simp [lowC, h]

theorem low_dom {s : List UInt8} (h : domL s = true) : lowL s = s := by
  unfold lowL
  conv => rhs; rw [← List.map_id s]
  exact List.map_congr_left fun c hc => low_same (nocap_dom h hc)
theorem low_up_dom {s : List UInt8} (h : domL s = true) : lowL (upL s) = s := by
  unfold lowL upL
  rw [List.map_map]
  conv => rhs; rw [← List.map_id s]
  exact List.map_congr_left fun c hc => low_up (nocap_dom h hc)

/-- A mailbox's text is read as it, whatever the letters of its domain. -/
theorem parse_text {l d u : List UInt8} (h : boxL l d = true) (hu : lowL u = d) : parseL (l ++ 64 :: u) = some (l, d) := by
  simp only [boxL, Bool.and_eq_true] at h
  obtain ⟨hl, hd⟩ := h
  have hl' := hl
  simp only [localL, Bool.and_eq_true, Bool.or_eq_true, decide_eq_true_eq] at hl
  obtain ⟨⟨h1, _⟩, h3⟩ := hl
  have hbeh : behL l (64 :: u) = some (l, d) := by
    rw [behL, if_pos ⟨rfl, by rw [hu]; exact hd, hl'⟩, hu]
  rcases h3 with h3 | h3
  · have h64 := plain_64 h3
    have h34 := plain_34 h3
    have hloc : locL (l ++ 64 :: u) = some (l, 64 :: u) := by
      unfold locL
      rw [if_neg, if_pos (by simp)]
      · have ha : ∀ c ∈ l, (c != 64) = true := fun c hc => by
          rw [bne_iff_ne]
          exact fun e => h64 (e ▸ hc)
        rw [List.takeWhile_append_of_pos ha, List.dropWhile_append_of_pos ha]
        simp
      · cases l with
        | nil => cases h1
        | cons a t =>
          intro e
          simp only [List.cons_append, List.head?_cons, Option.some.injEq] at e
          subst e
          exact h34 List.mem_cons_self
    unfold parseL
    rw [hloc]
    exact hbeh
  · obtain ⟨x, rfl, hp, hx⟩ := quot_iff h3
    have hloc : locL (quoteL x ++ 64 :: u) = some (quoteL x, 64 :: u) := by
      unfold locL
      rw [rd_quote hx, if_pos (show (quoteL x ++ 64 :: u).head? = some 34 from rfl)]
      simp [shortL, hp]
    unfold parseL
    rw [hloc]
    exact hbeh

theorem path_text {s : List UInt8} (hs : s ≠ []) : pathL (60 :: (s ++ [62])) = (parseL s).map some := by
  rw [pathL, if_pos ⟨rfl, by simp⟩, if_neg (by simpa using hs)]
  simp

/-- The page's own local part. -/
def pgLocal (s : List UInt8) : Bool := !s.isEmpty && decide (s.length ≤ 64) &&
  (if s.head? = some 34 then (match rdL s with | some (x, r) => r.isEmpty && !plainL x && quoteL x == s | none => false) else plainL s)

theorem pg_local (s : List UInt8) : pgLocal s = localL s := by
  unfold pgLocal localL
  congr 1
  split
  · rename_i h
    cases s with
    | nil => cases h
    | cons c t =>
      obtain rfl : c = 34 := by simpa using h
      have hp : plainL (34 :: t) = false := by
        cases hp : plainL (34 :: t) with
        | false => rfl
        | true => exact absurd List.mem_cons_self (plain_34 hp)
      rw [hp, Bool.false_or]
      cases hq : quotL (34 :: t) with
      | true =>
        obtain ⟨x, hx, hpx, hpr⟩ := quot_iff hq
        have h2 := rd_quote hpr []
        rw [List.append_nil, ← hx] at h2
        rw [h2]
        simp [hpx, hx]
      | false =>
        split
        · rename_i x r hr
          cases hb : (r.isEmpty && !plainL x && quoteL x == 34 :: t) with
          | false => rfl
          | true =>
            simp only [Bool.and_eq_true, Bool.not_eq_true', beq_iff_eq] at hb
            rw [rdL, if_pos rfl] at hr
            have := quot_of (rq_print t.length (Nat.le_refl _) (by rfl) hr) hb.1.2
            rw [hb.2, hq] at this
            cases this
        · rfl
  · rename_i h
    have hq : quotL s = false := by
      cases s with
      | nil => rfl
      | cons c t =>
        have hc : c ≠ 34 := by simpa using h
        unfold quotL
        rw [rdL, if_neg hc]
    rw [hq, Bool.or_false]
end Go.Proofs.Ytlnpenmcpcmidab

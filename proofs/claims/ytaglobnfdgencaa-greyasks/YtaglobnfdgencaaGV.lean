/-
  The page's Ask, walked.
  Conditions: as each theorem states them.
-/
import Derived.Test.YtaglobnfdgencaaGU
namespace Go.Proofs.Ytaglobnfdgencaa
open Go.RowKit

theorem set_self {α : Type} {L : List α} {j : Nat} {v : α} (h : L[j]? = some v) : L.set j v = L := by
  apply List.ext_getElem?
  intro i
  rw [List.getElem?_set]
  split
  · rename_i e
    subst e
    split
    · exact h.symm
    · rename_i h2
      rw [List.getElem?_eq_none (by omega)] at h
      cases h
  · rfl
/-- The two last cells of an entry are written. -/
theorem GRow.put2 {w : World} {g cap : Nat} {cur : List Value} {l : List Gy} (h : GRow w g cap cur l) (p : Nat) (hp : p < l.length) (M : Int) (P : Bool) :
    ∃ cur', GRow ((w.setCell ⟨g, p * 4 + 2, none⟩ (.int .i64 M)).setCell ⟨g, p * 4 + 3, none⟩ (.bool P)) g cap cur' (l.set p ⟨l[p].k, l[p].b, M, P⟩) := by
  refine ⟨(cur.set (p * 4 + 2) (.int .i64 M)).set (p * 4 + 3) (.bool P), ?_⟩
  rw [setCell_eq_setRow w g (p * 4 + 2) cur.toArray 45 (0, 0) _ h.blk, setCell_eq_setRow _ g (p * 4 + 3) _ 45 (0, 0) _ (setRow_heap w g cur.toArray _ 45 (0, 0) h.blk), setRow_setRow]
  have e : ((cur.toArray.setIfInBounds (p * 4 + 2) (.int .i64 M)).setIfInBounds (p * 4 + 3) (.bool P)) = ((cur.set (p * 4 + 2) (.int .i64 M)).set (p * 4 + 3) (.bool P)).toArray := by simp
  rw [e]
  refine h.set _ _ (by simp) (by rw [List.length_set]; exact h.le) ?_
  have k0 : (gcs l)[p * 4]? = some (.string l[p].k) := (gcs_at l p hp 0 (by omega)).trans rfl
  have k1 : (gcs l)[p * 4 + 1]? = some (.int .i64 l[p].b) := (gcs_at l p hp 1 (by omega)).trans rfl
  rw [List.length_set, gcs_set _ l p hp, set_self k0, set_self k1, ← h.take]
  simp only [List.take_set]

/-- Where a key stands, so far. -/
def AtI (m : List Gy) (key : ByteArray) (a : Int) : Prop := (a = -1 ∧ hasK m key = false) ∨ ∃ p : Nat, a = p ∧ ∃ h : p < m.length, eqK m[p].k key = true
theorem AtI.hit {m : List Gy} {x : Gy} {key : ByteArray} (h : eqK x.k key = true) : AtI (m ++ [x]) key m.length :=
  .inr ⟨m.length, rfl, by simp, by simpa using h⟩
theorem AtI.miss {m : List Gy} {x : Gy} {key : ByteArray} {a : Int} (h : eqK x.k key = false) (hm : AtI m key a) : AtI (m ++ [x]) key a := by
  rcases hm with ⟨h1, h2⟩ | ⟨p, h1, h2, h3⟩
  · refine .inl ⟨h1, ?_⟩
    unfold hasK at *
    rw [List.any_append, h2]
    simp [h]
  · refine .inr ⟨p, h1, by simp; omega, ?_⟩
    rw [List.getElem_append_left h2]
    exact h3

/-- The second pass, so far. -/
def Rel3 (m : List Gy) (g : Gy) (o : Int) (wc : World) (xv qv iv : Value) (w2 : World) : Prop :=
  ∃ (i : Nat) (q : Bool) (acc : List Gy), iv = .int .i64 i ∧ qv = .bool q ∧ i ≤ m.length ∧ acc.length ≤ 2 * i ∧ GO w2 wc.heap.size xv acc ∧ Hid (acc ++ outL g o i q (m.drop i) = insL (roomL m) g) ∧ Below wc.heap.size wc w2
theorem Rel3.mk {m : List Gy} {g : Gy} {o : Int} {wc : World} {xv : Value} {iv : Int} {w2 : World} (i : Nat) (q : Bool) (acc : List Gy) (h1 : iv = i) (h2 : i ≤ m.length) (h3 : acc.length ≤ 2 * i) (h4 : GO w2 wc.heap.size xv acc)
    (h5 : acc ++ outL g o i q (m.drop i) = insL (roomL m) g) (h6 : Below wc.heap.size wc w2) : Rel3 m g o wc xv (.bool q) (.int .i64 iv) w2 := ⟨i, q, acc, by rw [h1], rfl, h2, h3, h4, h5, h6⟩
set_option maxHeartbeats 4000000 in
set_option maxRecDepth 100000 in
theorem rAsk_any (l : List Gy) (key : ByteArray) (now wait : Int) (v : Value) (w : World) (h : GR w v l) (hl : l.length < 1000000) (hm : mayL l key now wait = true) :
    Calls Try.prog 14 #[v, .string key, .int .i64 now, .int .i64 wait] w fun e w' => ∃ u, e = .returned (.tuple #[u, .bool (askL l key now wait).2]) ∧ GO w' w.heap.size u (askL l key now wait).1 ∧ Below w.heap.size w w' := by
  have HU := Lib.hid h
  obtain ⟨A, c, rfl, hlc, hc⟩ := h.slice
  unfold mayL at hm
  simp only [Bool.and_eq_true] at hm
  obtain ⟨⟨⟨hm1, hm2⟩, hm3⟩, hm4⟩ := hm
  obtain ⟨hlen, hall, hsrt⟩ := okL_iff.1 hm1
  have hnow := inB_iff.1 hm3
  have HN := Lib.hid hnow
  obtain ⟨tt, htt⟩ : ∃ tt, now - 65536 = tt := ⟨_, rfl⟩
  have HS := Lib.hid (hsrt.since tt)
  have HAL := Lib.hid (fun g (hg : g ∈ sinceL l tt) => okG_b (hall g (mem_since hg)))
  have HLN := Lib.hid (show (sinceL l tt).length ≤ 32 from Nat.le_trans (since_len l _) hlen)
  have HQ := Lib.hid (show askL l key now wait = askM (sinceL l tt) key now wait from by rw [← htt]; rfl)
  have hwa : IntKind.i64.wrap (now - 65536) = tt := by rw [← htt]; exact wrap_id (by omega) (by omega)
  clear htt h hm1 hm2 hm3 hm4 hlen hall hsrt hnow
  generalize askL l key now wait = r at *
  go_enter Try.func14, Try.ntmps14
  go_wp2_with fail
  go_loopw [10, 11, 12] (fun xv av iv wr => ∃ (i : Nat) (a : Int), iv = .int .i64 i ∧ av = .int .i64 a ∧ i ≤ l.length ∧ GO wr w.heap.size xv (sinceL (l.take i) tt) ∧ Hid (AtI (sinceL (l.take i) tt) key a) ∧ Below w.heap.size w wr) (fun _ _ iv _ => l.length - (intOf iv).toNat)
  case atStart => exact ⟨0, -1, rfl, rfl, Nat.zero_le _, GO.nil _ _, .inl ⟨rfl, rfl⟩, Below.refl _ _⟩
  case round =>
    obtain ⟨i, a, rfl, rfl, hil, hrow, hat, hb⟩ := hrel
    have HW := Lib.hid hrow
    have HT := Lib.hid hat.out
    have HB := Lib.hid hb
    have hsz := hb.size
    obtain ⟨gA, gC, rfl, _, _⟩ := hrow.slice
    clear hrow hat hb
    by_cases hlt : i < l.length
    · have hlti : (i : Int) < (l.length : Int) := by omega
      obtain ⟨b, o, hA, hbl, c0, c1, c2, c3⟩ := HU.out.at (i := i) hlt rfl HB.out
      subst hA
      have HTN := Lib.hid (since_take hlt tt)
      have htl : (sinceL (l.take i) tt).length < 1000000 := by have := since_len (l.take i) tt; rw [List.length_take] at this; omega
      generalize l[i] = x at *
      have HRW := Lib.hid (show GO (wr.alloc (.cells #[.string x.k, .int .i64 x.b, .int .i64 x.l, .bool x.p] 45)) w.heap.size (.slice gA (sinceL (l.take i) tt).length gC) (sinceL (l.take i) tt) from World.ownsRow.alloc HW.out _)
      have HBK := Lib.hid (show (wr.alloc (.cells #[.string x.k, .int .i64 x.b, .int .i64 x.l, .bool x.p] 45)).heap[wr.heap.size]? = some (.cells #[.string x.k, .int .i64 x.b, .int .i64 x.l, .bool x.p] 45 (0, 0)) from heap_alloc_new wr _)
      generalize hrr : sinceL (l.take i) tt = rows at *
      by_cases hg : tt ≤ x.l
      · rw [if_pos hg] at HTN
        have hgd : ¬ (x.l < tt) := by omega
        have hek := eq_of_toList x.k key
        cases hq : eqK x.k key with
        | true =>
          rw [hq] at hek
          have HTI := Lib.hid (AtI.hit (m := rows) hq)
          go_wp2_with (at_builtin; refine wpList_append_g _ (.tmp 42) (.tmp 47) w.heap.size wr.heap.size (.slice gA rows.length gC) rows x rfl rfl rfl rfl HRW.out HBK.out (by simp; omega) htl ?_)
          intro g cap w2 hrow2 hgrow
          have HB2 := Lib.hid (show Below w.heap.size w w2 from below_grown_g (HB.out.alloc (by omega) _) (by simp; omega) HRW.out hgrow)
          have HR2 := Lib.hid hrow2
          clear hrow2 hgrow
          go_wp2_with fail
          refine ⟨⟨i + 1, _, by go_num, rfl, by omega, ?_, ?_, HB2.out⟩, by simp [intOf]; omega⟩
          · rw [HTN.out]; exact HR2.out
          · rw [HTN.out]; exact HTI.out
        | false =>
          rw [hq] at hek
          have HTI := Lib.hid (AtI.miss hq HT.out)
          go_wp2_with (at_builtin; refine wpList_append_g _ (.tmp 42) (.tmp 47) w.heap.size wr.heap.size (.slice gA rows.length gC) rows x rfl rfl rfl rfl HRW.out HBK.out (by simp; omega) htl ?_)
          intro g cap w2 hrow2 hgrow
          have HB2 := Lib.hid (show Below w.heap.size w w2 from below_grown_g (HB.out.alloc (by omega) _) (by simp; omega) HRW.out hgrow)
          have HR2 := Lib.hid hrow2
          clear hrow2 hgrow
          go_wp2_with fail
          refine ⟨⟨i + 1, _, by go_num, rfl, by omega, ?_, ?_, HB2.out⟩, by simp [intOf]; omega⟩
          · rw [HTN.out]; exact HR2.out
          · rw [HTN.out]; exact HTI.out
      · rw [if_neg hg] at HTN
        have hgd : x.l < tt := by omega
        go_wp2_with fail
        refine ⟨⟨i + 1, a, by go_num, rfl, by omega, ?_, ?_, HB.out⟩, by simp [intOf]; omega⟩
        · rw [HTN.out]; exact HW.out
        · rw [HTN.out]; exact HT.out
    · have hlti : ¬ ((i : Int) < (l.length : Int)) := by omega
      obtain rfl : i = l.length := by omega
      rw [List.take_length] at HW HT ⊢
      generalize sinceL l tt = m at *
      have hlm : m.length < 1000000 := by have := HLN.out; omega
      rcases HT.out with ⟨rfl, hk⟩ | ⟨p, rfl, hp, hek⟩
      · have HK := Lib.hid hk
        clear hk hlti hil hwa
        have HMY := Lib.hid (show askM m key now wait = (insL (roomL m) (newG key now wait), wait == 0) by unfold askM; rw [HK.out]; rfl)
        obtain ⟨q32, hq32⟩ : ∃ q, decide ((32 : Int) ≤ (m.length : Int)) = q := ⟨_, rfl⟩
        go_upto_if 87 with (fail)
        go_cut [14, 15] from 88 to 105 (fun ov _ wc => ∃ o : Int, ov = .int .i64 o ∧ Hid (erL o 0 m = roomL m) ∧ Below w.heap.size w wc ∧ GO wc w.heap.size (.slice gA m.length gC) m)
        case first =>
          cases q32 with
          | true =>
            have h32 : m.length = 32 := by have := of_decide_eq_true hq32; have := HLN.out; omega
            have H32 := Lib.hid h32
            have h1m : 1 ≤ m.length := by omega
            clear h32 hq32
            go_wp2_with fail
            go_loopw [14, 15] (fun sv iv w2 => ∃ s i : Nat, sv = .int .i64 s ∧ iv = .int .i64 i ∧ i ≤ m.length ∧ 1 ≤ i ∧ s < m.length ∧ s < i ∧ Hid ((∀ j (hj : j < m.length) (hs : s < m.length), j < i → m[s].l ≤ m[j].l) ∧ (∀ j (hj : j < m.length) (hs : s < m.length), j < s → m[s].l < m[j].l)) ∧ Below wr.heap.size wr w2) (fun _ iv _ => m.length - (intOf iv).toNat)
            case atStart => exact ⟨0, 1, rfl, rfl, by omega, Nat.le_refl _, by omega, by omega, ⟨fun j _ _ h => by (obtain rfl : j = 0 := (by omega)); exact Int.le_refl _, fun j _ _ h => absurd h (Nat.not_lt_zero _)⟩, Below.refl _ _⟩
            case round =>
              obtain ⟨s, i, rfl, rfl, hil, h1i, hsl, hsi, I, hb⟩ := hrel
              have HB2 := Lib.hid hb
              clear hb
              by_cases hlt2 : i < m.length
              · have hlti : (i : Int) < (m.length : Int) := by omega
                obtain ⟨b, o, hA, hbl, c0, c1, c2, c3⟩ := HW.out.gr.at (i := i) hlt2 rfl HB2.out
                subst hA
                obtain ⟨b', o', hA, _, _, _, s2, _⟩ := HW.out.gr.at (i := s) hsl rfl HB2.out
                simp only [Option.some.injEq, Addr.mk.injEq, and_true] at hA
                obtain ⟨rfl, rfl⟩ := hA
                obtain ⟨xl, hxl⟩ : ∃ xl, m[i].l = xl := ⟨_, rfl⟩
                obtain ⟨y, hy⟩ : ∃ y, m[s].l = y := ⟨_, rfl⟩
                rw [hxl] at c2
                rw [hy] at s2
                have HX := Lib.hid hxl
                have HY := Lib.hid hy
                clear hxl hy c0 c1 c3
                have hsi' : (0 : Int) ≤ (s : Int) := by omega
                have hsl' : (s : Int) < (m.length : Int) := by omega
                by_cases hxy : xl < y
                · go_wp2_with fail
                  go_quiet (fail)
                  go_wp2_with fail
                  refine ⟨⟨i, i + 1, rfl, by go_num, by omega, by omega, hlt2, by omega, ⟨fun j h1 h2 h3 => ?_, fun j h1 h2 h3 => ?_⟩, below_drewN HB2.out _⟩, by simp [intOf]; omega⟩
                  · rw [HX.out]
                    by_cases h4 : j = i
                    · subst h4; rw [HX.out]; exact Int.le_refl _
                    · have := I.out.1 j h1 hsl (by omega)
                      rw [HY.out] at this
                      omega
                  · have := I.out.1 j h1 hsl h3
                    rw [HY.out] at this
                    rw [HX.out]
                    omega
                · go_wp2_with fail
                  go_quiet (fail)
                  go_wp2_with fail
                  refine ⟨⟨s, i + 1, rfl, by go_num, by omega, by omega, hsl, by omega, ⟨fun j h1 h2 h3 => ?_, I.out.2⟩, below_drewN HB2.out _⟩, by simp [intOf]; omega⟩
                  by_cases h4 : j = i
                  · subst h4; rw [HX.out, HY.out]; omega
                  · exact I.out.1 j h1 hsl (by omega)
              · have hlti : ¬ (i : Int) < (m.length : Int) := by omega
                have HII := Lib.hid (show i = m.length by omega)
                go_wp2_with fail
                go_meet
                case rel =>
                  refine ⟨(s : Int), rfl, ?_, HB.out.trans (HB2.out.mono HB.out.size), HW.out.later HB2.out⟩
                  have hst : Stal m s := ⟨hsl, fun j hj => I.out.1 j hj hsl (by have := HII.out; omega), fun j hj => I.out.2 j _ hsl hj⟩
                  have := erL_some m 0 s
                  rw [Nat.zero_add] at this
                  show erL (s : Int) 0 m = roomL m
                  unfold roomL
                  rw [this, if_pos H32.out, hst.eq]
          | false =>
            have h32 : ¬ m.length = 32 := by have := of_decide_eq_false hq32; omega
            have H32 := Lib.hid h32
            clear h32 hq32
            go_wp2_with fail
            go_meet
            case rel => exact ⟨-1, rfl, (show erL (-1) 0 m = roomL m by rw [erL_none]; unfold roomL; rw [if_neg H32.out]), HB.out, HW.out⟩
        case rest =>
          obtain ⟨o, rfl, hero, hbc, hgc⟩ := hcut
          have HER := Lib.hid hero.out
          have HBC := Lib.hid hbc
          have HGC := Lib.hid hgc
          clear hero hbc hgc
          obtain ⟨z, hz⟩ : ∃ z, (wait == 0) = z := ⟨_, rfl⟩
          have HNG := Lib.hid (show newG key now wait = ⟨key, now, now, z⟩ by unfold newG; rw [hz])
          have HZ := Lib.hid hz
          have HOI := Lib.hid (show outL ⟨key, now, now, z⟩ o 0 false m = insL (roomL m) ⟨key, now, now, z⟩ by rw [← HER.out]; exact outL_ins _ o m 0 HS.out HK.out)
          have HEL := Lib.hid (show ∀ j (hj : j < m.length), eqK (m[j]).k key = false from fun j hj => by
            have := HK.out
            unfold hasK at this
            rw [List.any_eq_false] at this
            have := this m[j] (List.getElem_mem hj)
            simpa using this)
          go_wp2_with fail
          go_loopw [16, 17, 18] (fun xv qv iv w2 => Rel3 m ⟨key, now, now, z⟩ o wc xv qv iv w2) (fun _ _ iv _ => m.length - (intOf iv).toNat)
          case atStart => exact Rel3.mk 0 false [] rfl (Nat.zero_le _) (Nat.zero_le _) (GO.nil _ _) (by rw [List.nil_append, List.drop_zero]; exact HOI.out) (Below.refl _ _)
          case round =>
            obtain ⟨i, q, acc, rfl, rfl, hil, hal, hrow, J, hb⟩ := hrel
            have HW2 := Lib.hid hrow
            have HJ := Lib.hid J.out
            have HB2 := Lib.hid hb
            have hsz2 := hb.size
            obtain ⟨aA, aC, rfl, _, _⟩ := hrow.slice
            clear hrow J hb
            by_cases hlt2 : i < m.length
            · have hlti : (i : Int) < (m.length : Int) := by omega
              obtain ⟨b, o2, hA, hbl, c0, c1, c2, c3⟩ := HGC.out.gr.at (i := i) hlt2 rfl HB2.out
              subst hA
              obtain ⟨b', o', hA', hbw, d0, d1, d2, d3⟩ := HGC.out.gr.at (i := i) hlt2 rfl (Below.refl _ wc)
              simp only [Option.some.injEq, Addr.mk.injEq, and_true] at hA'
              obtain ⟨rfl, rfl⟩ := hA'
              have hne := HEL.out i hlt2
              have HDR := Lib.hid (show m.drop i = m[i] :: m.drop (i + 1) from List.drop_eq_getElem_cons hlt2)
              rw [HDR.out] at HJ
              generalize m[i] = x at *
              have HNE := Lib.hid hne
              have HD0 := Lib.hid d0
              have HD1 := Lib.hid d1
              have HD2 := Lib.hid d2
              have HD3 := Lib.hid d3
              clear d0 d1 d2 d3
              clear hne
              have hek := eq_of_toList x.k key
              rw [HNE.out] at hek
              have hlk := lt_of_toList x.k key
              simp only [outL] at HJ
              have HACC := Lib.hid (show acc.length < 100 by have := HLN.out; omega)
              have HALL := Lib.hid hal
              have hwi : IntKind.i64.wrap ((i : Int) + 1) = (i : Int) + 1 := wrap_id (by omega) (by have := HLN.out; omega)
              clear hal hlm
              cases q with
              | true =>
                cases hio : ((i : Int) == o) with
                | false =>
                  have HIO := Lib.hid (show ¬ (i : Int) = o from beq_eq_false_iff_ne.1 hio)
                  have HRN4 := Lib.hid (show GO (wr.alloc (.cells #[.string x.k, .int .i64 x.b, .int .i64 x.l, .bool x.p] 45)) wc.heap.size (.slice aA acc.length aC) acc from World.ownsRow.alloc HW2.out _)
                  have HBN4 := Lib.hid (show (wr.alloc (.cells #[.string x.k, .int .i64 x.b, .int .i64 x.l, .bool x.p] 45)).heap[wr.heap.size]? = some (.cells #[.string x.k, .int .i64 x.b, .int .i64 x.l, .bool x.p] 45 (0, 0)) from heap_alloc_new wr _)
                  have hsz4 := HB2.out.size
                  go_wp2_with (at_builtin; refine wpList_append_g _ (.tmp 135) (.tmp 140) wc.heap.size wr.heap.size (.slice aA acc.length aC) acc x rfl rfl rfl rfl HRN4.out HBN4.out (by simp; omega) (by have := HACC.out; omega) ?_)
                  intro g4 cap4 w4 hrow4 hgrow4
                  have HB4 := Lib.hid (show Below wc.heap.size wc w4 from below_grown_g (HB2.out.alloc (by omega) _) (by simp; omega) HRN4.out hgrow4)
                  have HR4 := Lib.hid hrow4
                  clear hrow4 hgrow4 hsz4
                  go_wp2_with fail
                  refine ⟨Rel3.mk (i + 1) true (acc ++ [x]) (by first | rfl | omega | (simp; done)) (by omega) (by have := HALL.out; rw [List.length_append]; simp only [List.length_cons, List.length_nil]; omega) HR4.out ?_ HB4.out, by simp [intOf]; omega⟩
                  have hj := HJ.out
                  have hio := HIO.out
                  simp only [Bool.not_true, Bool.false_and, Bool.true_or, Bool.false_eq_true, if_false, List.nil_append] at hj
                  rw [if_neg hio] at hj
                  simpa only [List.append_assoc, List.nil_append, List.cons_append] using hj
                | true =>
                  have HIO := Lib.hid (show (i : Int) = o from beq_iff_eq.1 hio)
                  go_wp2_with fail
                  refine ⟨Rel3.mk (i + 1) true acc (by first | rfl | omega | (simp; done)) (by omega) (by have := HALL.out; omega) HW2.out ?_ HB2.out, by simp [intOf]; omega⟩
                  have hj := HJ.out
                  have hio := HIO.out
                  simp only [Bool.not_true, Bool.false_and, Bool.true_or, Bool.false_eq_true, if_false, List.nil_append] at hj
                  rw [if_pos hio] at hj
                  simpa only [List.append_assoc, List.nil_append, List.cons_append] using hj
              | false =>
                cases hl2 : ltK x.k key with
                | true =>
                  rw [hl2] at hlk
                  have HKX := Lib.hid (ltK_asymm hl2)
                  cases hio : ((i : Int) == o) with
                  | false =>
                    have HIO := Lib.hid (show ¬ (i : Int) = o from beq_eq_false_iff_ne.1 hio)
                    have HRN4 := Lib.hid (show GO (wr.alloc (.cells #[.string x.k, .int .i64 x.b, .int .i64 x.l, .bool x.p] 45)) wc.heap.size (.slice aA acc.length aC) acc from World.ownsRow.alloc HW2.out _)
                    have HBN4 := Lib.hid (show (wr.alloc (.cells #[.string x.k, .int .i64 x.b, .int .i64 x.l, .bool x.p] 45)).heap[wr.heap.size]? = some (.cells #[.string x.k, .int .i64 x.b, .int .i64 x.l, .bool x.p] 45 (0, 0)) from heap_alloc_new wr _)
                    have hsz4 := HB2.out.size
                    go_wp2_with (at_builtin; refine wpList_append_g _ (.tmp 135) (.tmp 140) wc.heap.size wr.heap.size (.slice aA acc.length aC) acc x rfl rfl rfl rfl HRN4.out HBN4.out (by simp; omega) (by have := HACC.out; omega) ?_)
                    intro g4 cap4 w4 hrow4 hgrow4
                    have HB4 := Lib.hid (show Below wc.heap.size wc w4 from below_grown_g (HB2.out.alloc (by omega) _) (by simp; omega) HRN4.out hgrow4)
                    have HR4 := Lib.hid hrow4
                    clear hrow4 hgrow4 hsz4
                    go_wp2_with fail
                    refine ⟨Rel3.mk (i + 1) false (acc ++ [x]) (by first | rfl | omega | (simp; done)) (by omega) (by have := HALL.out; rw [List.length_append]; simp only [List.length_cons, List.length_nil]; omega) HR4.out ?_ HB4.out, by simp [intOf]; omega⟩
                    have hj := HJ.out
                    have hio := HIO.out
                    have hkx := HKX.out
                    simp only [Bool.not_false, Bool.true_and, Bool.false_or, Bool.false_eq_true, if_false, List.nil_append, hkx] at hj
                    rw [if_neg hio] at hj
                    simpa only [List.append_assoc, List.nil_append, List.cons_append] using hj
                  | true =>
                    have HIO := Lib.hid (show (i : Int) = o from beq_iff_eq.1 hio)
                    go_wp2_with fail
                    refine ⟨Rel3.mk (i + 1) false acc (by first | rfl | omega | (simp; done)) (by omega) (by have := HALL.out; omega) HW2.out ?_ HB2.out, by simp [intOf]; omega⟩
                    have hj := HJ.out
                    have hio := HIO.out
                    have hkx := HKX.out
                    simp only [Bool.not_false, Bool.true_and, Bool.false_or, Bool.false_eq_true, if_false, List.nil_append, hkx] at hj
                    rw [if_pos hio] at hj
                    simpa only [List.append_assoc, List.nil_append, List.cons_append] using hj
                | false =>
                  rw [hl2] at hlk
                  have HKX := Lib.hid (show ltK key x.k = true by
                    cases e : ltK key x.k
                    · have := ltK_tri hl2 e
                      rw [eqK_iff.2 this] at HNE
                      exact absurd HNE.out (by simp)
                    · rfl)
                  cases hio : ((i : Int) == o) with
                  | false =>
                    have HIO := Lib.hid (show ¬ (i : Int) = o from beq_eq_false_iff_ne.1 hio)
                    have HRN3 := Lib.hid (show GO (wr.alloc (.cells #[.string key, .int .i64 now, .int .i64 now, .bool z] 45)) wc.heap.size (.slice aA acc.length aC) acc from World.ownsRow.alloc HW2.out _)
                    have HBN3 := Lib.hid (show (wr.alloc (.cells #[.string key, .int .i64 now, .int .i64 now, .bool z] 45)).heap[wr.heap.size]? = some (.cells #[.string key, .int .i64 now, .int .i64 now, .bool z] 45 (0, 0)) from heap_alloc_new wr _)
                    have hsz3 := HB2.out.size
                    go_wp2_with (at_builtin; refine wpList_append_g _ (.tmp 123) (.tmp 130) wc.heap.size wr.heap.size (.slice aA acc.length aC) acc ⟨key, now, now, z⟩ rfl rfl rfl rfl HRN3.out HBN3.out (by simp; omega) (by have := HACC.out; omega) ?_)
                    intro g3 cap3 w3 hrow3 hgrow3
                    have HB3 := Lib.hid (show Below wc.heap.size wc w3 from below_grown_g (HB2.out.alloc (by omega) _) (by simp; omega) HRN3.out hgrow3)
                    have HR3 := Lib.hid (show GO w3 wc.heap.size (.slice (some ⟨g3, 0, none⟩) (acc ++ [(⟨key, now, now, z⟩ : Gy)]).length cap3) (acc ++ [(⟨key, now, now, z⟩ : Gy)]) by rw [List.length_append]; exact hrow3)
                    clear hrow3 hgrow3 hsz3
                    have hac3 : (acc ++ [(⟨key, now, now, z⟩ : Gy)]).length = acc.length + 1 := by simp
                    generalize hrw3 : acc ++ [(⟨key, now, now, z⟩ : Gy)] = acc3 at *
                    rw [← hac3]
                    have HC3 := Lib.hid hrw3
                    clear hrw3
                    have e0 := (HB3.out.cell (p := ⟨b, o2 + i * 4, none⟩) hbw).trans HD0.out
                    have e1 := (HB3.out.cell (p := ⟨b, o2 + i * 4 + 1, none⟩) hbw).trans HD1.out
                    have e2 := (HB3.out.cell (p := ⟨b, o2 + i * 4 + 2, none⟩) hbw).trans HD2.out
                    have e3 := (HB3.out.cell (p := ⟨b, o2 + i * 4 + 3, none⟩) hbw).trans HD3.out
                    have hbl3 : b < w3.heap.size := Nat.lt_of_lt_of_le hbw HB3.out.size
                    have HRN4 := Lib.hid (show GO (w3.alloc (.cells #[.string x.k, .int .i64 x.b, .int .i64 x.l, .bool x.p] 45)) wc.heap.size (.slice (some ⟨g3, 0, none⟩) acc3.length cap3) acc3 from World.ownsRow.alloc HR3.out _)
                    have HBN4 := Lib.hid (show (w3.alloc (.cells #[.string x.k, .int .i64 x.b, .int .i64 x.l, .bool x.p] 45)).heap[w3.heap.size]? = some (.cells #[.string x.k, .int .i64 x.b, .int .i64 x.l, .bool x.p] 45 (0, 0)) from heap_alloc_new w3 _)
                    have hsz4 := HB3.out.size
                    go_wp2_with (at_builtin; refine wpList_append_g _ (.tmp 135) (.tmp 140) wc.heap.size w3.heap.size (.slice (some ⟨g3, 0, none⟩) acc3.length cap3) acc3 x rfl rfl rfl rfl HRN4.out HBN4.out (by simp; omega) (by have := HACC.out; omega) ?_)
                    intro g4 cap4 w4 hrow4 hgrow4
                    have HB4 := Lib.hid (show Below wc.heap.size wc w4 from below_grown_g (HB3.out.alloc (by omega) _) (by simp; omega) HRN4.out hgrow4)
                    have HR4 := Lib.hid hrow4
                    clear hrow4 hgrow4 hsz4
                    go_wp2_with fail
                    refine ⟨Rel3.mk (i + 1) true (acc3 ++ [x]) (by first | rfl | omega | (simp; done)) (by omega) (by have := HALL.out; rw [List.length_append]; simp only [List.length_cons, List.length_nil]; omega) HR4.out ?_ HB4.out, by simp [intOf]; omega⟩
                    have hj := HJ.out
                    rw [← HC3.out]
                    have hio := HIO.out
                    have hkx := HKX.out
                    simp only [Bool.not_false, Bool.true_and, Bool.false_or, if_true, hkx] at hj
                    rw [if_neg hio] at hj
                    simpa only [List.append_assoc, List.nil_append, List.cons_append] using hj
                  | true =>
                    have HIO := Lib.hid (show (i : Int) = o from beq_iff_eq.1 hio)
                    have HRN3 := Lib.hid (show GO (wr.alloc (.cells #[.string key, .int .i64 now, .int .i64 now, .bool z] 45)) wc.heap.size (.slice aA acc.length aC) acc from World.ownsRow.alloc HW2.out _)
                    have HBN3 := Lib.hid (show (wr.alloc (.cells #[.string key, .int .i64 now, .int .i64 now, .bool z] 45)).heap[wr.heap.size]? = some (.cells #[.string key, .int .i64 now, .int .i64 now, .bool z] 45 (0, 0)) from heap_alloc_new wr _)
                    have hsz3 := HB2.out.size
                    go_wp2_with (at_builtin; refine wpList_append_g _ (.tmp 123) (.tmp 130) wc.heap.size wr.heap.size (.slice aA acc.length aC) acc ⟨key, now, now, z⟩ rfl rfl rfl rfl HRN3.out HBN3.out (by simp; omega) (by have := HACC.out; omega) ?_)
                    intro g3 cap3 w3 hrow3 hgrow3
                    have HB3 := Lib.hid (show Below wc.heap.size wc w3 from below_grown_g (HB2.out.alloc (by omega) _) (by simp; omega) HRN3.out hgrow3)
                    have HR3 := Lib.hid (show GO w3 wc.heap.size (.slice (some ⟨g3, 0, none⟩) (acc ++ [(⟨key, now, now, z⟩ : Gy)]).length cap3) (acc ++ [(⟨key, now, now, z⟩ : Gy)]) by rw [List.length_append]; exact hrow3)
                    clear hrow3 hgrow3 hsz3
                    have hac3 : (acc ++ [(⟨key, now, now, z⟩ : Gy)]).length = acc.length + 1 := by simp
                    generalize hrw3 : acc ++ [(⟨key, now, now, z⟩ : Gy)] = acc3 at *
                    rw [← hac3]
                    have HC3 := Lib.hid hrw3
                    clear hrw3
                    have e0 := (HB3.out.cell (p := ⟨b, o2 + i * 4, none⟩) hbw).trans HD0.out
                    have e1 := (HB3.out.cell (p := ⟨b, o2 + i * 4 + 1, none⟩) hbw).trans HD1.out
                    have e2 := (HB3.out.cell (p := ⟨b, o2 + i * 4 + 2, none⟩) hbw).trans HD2.out
                    have e3 := (HB3.out.cell (p := ⟨b, o2 + i * 4 + 3, none⟩) hbw).trans HD3.out
                    have hbl3 : b < w3.heap.size := Nat.lt_of_lt_of_le hbw HB3.out.size
                    go_wp2_with fail
                    refine ⟨Rel3.mk (i + 1) true acc3 (by first | rfl | omega | (simp; done)) (by omega) (by have := HALL.out; omega) HR3.out ?_ HB3.out, by simp [intOf]; omega⟩
                    have hj := HJ.out
                    rw [← HC3.out]
                    have hio := HIO.out
                    have hkx := HKX.out
                    simp only [Bool.not_false, Bool.true_and, Bool.false_or, if_true, hkx] at hj
                    rw [if_pos hio] at hj
                    simpa only [List.append_assoc, List.nil_append, List.cons_append] using hj
            · have hlti : ¬ ((i : Int) < (m.length : Int)) := by omega
              obtain rfl : i = m.length := by omega
              have HJ2 := Lib.hid (show acc ++ (if q then [] else [⟨key, now, now, z⟩]) = insL (roomL m) ⟨key, now, now, z⟩ by
                have := HJ.out
                rw [List.drop_length] at this
                exact this)
              have HACC := Lib.hid (show acc.length < 100 by have := HLN.out; omega)
              clear hal
              cases q with
              | true =>
                go_wp2_with fail
                go_ret2
                refine ⟨_, by rw [HQ.out, HMY.out, HZ.out]; rfl, ?_, HBC.out.trans (HB2.out.mono HBC.out.size)⟩
                rw [HQ.out, HMY.out, HNG.out]
                have := HJ2.out
                simp only [if_true, List.append_nil] at this
                simp only []
                rw [← this]
                exact HW2.out.mono HBC.out.size
              | false =>
                have HRN5 := Lib.hid (show GO (wr.alloc (.cells #[.string key, .int .i64 now, .int .i64 now, .bool z] 45)) wc.heap.size (.slice aA acc.length aC) acc from World.ownsRow.alloc HW2.out _)
                have HBN5 := Lib.hid (show (wr.alloc (.cells #[.string key, .int .i64 now, .int .i64 now, .bool z] 45)).heap[wr.heap.size]? = some (.cells #[.string key, .int .i64 now, .int .i64 now, .bool z] 45 (0, 0)) from heap_alloc_new wr _)
                have hsz5 := HB2.out.size
                go_wp2_with (at_builtin; refine wpList_append_g _ (.tmp 144) (.tmp 151) wc.heap.size wr.heap.size (.slice aA acc.length aC) acc ⟨key, now, now, z⟩ rfl rfl rfl rfl HRN5.out HBN5.out (by simp; omega) (by have := HACC.out; omega) ?_)
                intro g5 cap5 w5 hrow5 hgrow5
                have HB5 := Lib.hid (show Below wc.heap.size wc w5 from below_grown_g (HB2.out.alloc (by omega) _) (by simp; omega) HRN5.out hgrow5)
                have HR5 := Lib.hid hrow5
                clear hrow5 hgrow5 hsz5
                go_wp2_with fail
                go_ret2
                refine ⟨_, by rw [HQ.out, HMY.out, HZ.out]; rfl, ?_, HBC.out.trans (HB5.out.mono HBC.out.size)⟩
                rw [HQ.out, HMY.out, HNG.out]
                have := HJ2.out
                simp only [Bool.false_eq_true, if_false] at this
                simp only []
                rw [← this]
                exact HR5.out.mono HBC.out.size
      · have HEK := Lib.hid hek
        obtain ⟨g, cap, cur, hA2, hBg, hr⟩ := HW.out.row (by omega)
        injection hA2 with e1 _ e2
        subst e1
        subst e2
        obtain ⟨x, hx⟩ : ∃ x, m[p] = x := ⟨_, rfl⟩
        obtain ⟨c0, c1, c2, c3⟩ := hr.at hp
        rw [hx] at c0 c1 c2 c3
        have z2 := hr.fz (p * 4 + 2)
        have z3 := hr.fz (p * 4 + 3)
        have hltg := hr.lt
        have HBX := HAL.out x (by rw [← hx]; exact List.getElem_mem hp)
        have hw2 : IntKind.i64.wrap (now - x.b) = now - x.b := wrap_id (by have := HN.out; omega) (by have := HN.out; omega)
        obtain ⟨M, hM, hM2⟩ : ∃ M, max x.l now = M ∧ (if x.l < now then now else x.l) = M := ⟨_, rfl, by split <;> omega⟩
        obtain ⟨q, hq⟩ : ∃ q, decide (wait ≤ now - x.b) = q := ⟨_, rfl⟩
        have HMY := Lib.hid (show askM m key now wait = (m.set p ⟨x.k, x.b, M, x.p || q⟩, x.p || q) by
          rw [askM_known now wait HS.out hp hek, hx]
          unfold meetG
          rw [hM, hq])
        obtain ⟨cur', hr5⟩ := hr.put2 p hp M (x.p || q)
        rw [hx] at hr5
        have HR5 := Lib.hid hr5
        have HB5 := Lib.hid (show Below w.heap.size w ((wr.setCell ⟨g, p * 4 + 2, none⟩ (.int .i64 M)).setCell ⟨g, p * 4 + 3, none⟩ (.bool (x.p || q))) from (HB.out.setCell (p := ⟨g, p * 4 + 2, none⟩) hBg _).setCell (p := ⟨g, p * 4 + 3, none⟩) hBg _)
        have d3 := (hr5.at (i := p) (by rw [List.length_set]; exact hp)).2.2.2
        rw [List.getElem_set_self] at d3
        have HL := Lib.hid (show (m.set p ⟨x.k, x.b, M, x.p || q⟩).length = m.length by simp)
        have hp0 : (0 : Int) ≤ (p : Int) := by omega
        have hp1 : (p : Int) < (m.length : Int) := by omega
        clear hr hr5 hx hek HBX hM hlti hil hwa
        obtain ⟨P, hP⟩ : ∃ P, (x.p || q) = P := ⟨_, rfl⟩
        rw [hP] at HMY HR5 HB5 d3 HL
        obtain ⟨w5, hw5⟩ : ∃ w5, w5 = (wr.setCell ⟨g, p * 4 + 2, none⟩ (.int .i64 M)).setCell ⟨g, p * 4 + 3, none⟩ (.bool P) := ⟨_, rfl⟩
        rw [← hw5] at HR5 HB5 d3
        have HW5 := Lib.hid hw5
        clear hw5
        cases hxp : x.p with
        | true =>
          rw [hxp] at c3 hP
          simp only [Bool.true_or] at hP
          subst hP
          go_upto_region 14 with (fail)
          rw [← HW5.out]
          clear c0 c1 c2 c3 z2 z3
          go_quiet (fail)
          go_wp2_with fail
          go_ret2
          have HGO := HR5.out.go hBg
          rw [HL.out] at HGO
          refine ⟨_, by rw [HQ.out, HMY.out]; rfl, ?_, below_drewN HB5.out nq⟩
          rw [HQ.out, HMY.out]
          exact GO.blocks HGO (fun _ _ _ h => h)
        | false =>
          rw [hxp] at c3 hP
          simp only [Bool.false_or] at hP
          subst hP
          go_upto_region 14 with (fail)
          rw [← HW5.out]
          clear c0 c1 c2 c3 z2 z3
          go_quiet (fail)
          go_wp2_with fail
          go_ret2
          have HGO := HR5.out.go hBg
          rw [HL.out] at HGO
          refine ⟨_, by rw [HQ.out, HMY.out]; rfl, ?_, below_drewN HB5.out nq⟩
          rw [HQ.out, HMY.out]
          exact GO.blocks HGO (fun _ _ _ h => h)
end Go.Proofs.Ytaglobnfdgencaa

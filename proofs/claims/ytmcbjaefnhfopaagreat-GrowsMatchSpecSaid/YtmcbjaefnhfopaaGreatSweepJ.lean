/- The plain mathematics of the sweep's loop. -/
import Derived.Test.YtmcbjaefnhfopaaGreatSweepI
import Derived.Test.YtmcbjaefnhfopaaGreatRefH
namespace Go.Proofs.YtmcbjaefnhfopaaGreat
open Go.RowKit
open Reg (R4 E5 Span Band strG stepOf sumOf addP RelP rowK bandsK sweepL allE aliveL edgesL told stackL heightsL bandsFrom)
set_option linter.unusedSimpArgs false
set_option linter.unusedVariables false

/-- What is known of the sides, once they are sorted, and of the heights. -/
structure Sides (a b : List R4) (E : List E5) (hs : List Int) : Prop where
  ga : Reg.Good a
  gb : Reg.Good b
  perm : E.Perm (allE a b)
  sort : E.Pairwise (fun d e => d.y0 < e.y0 ∨ (d.y0 = e.y0 ∧ d.x ≤ e.x))
  up : hs.Pairwise (· < ·)
  mem : ∀ y, y ∈ hs ↔ ∃ e, e ∈ E ∧ (y = e.y0 ∨ y = e.y1)
  many : E.length ≤ 200000
theorem edge_of {a b : List R4} {e : E5} (h : e ∈ allE a b) : ∃ r, r ∈ a ++ b ∧ e.y0 = r.y0 ∧ e.y1 = r.y1 ∧ (e.li = 0 ∨ e.li = 1) ∧ (e.st = 1 ∨ e.st = -1) := by
  simp only [allE, edgesL, List.mem_append, List.mem_flatMap, List.mem_cons, List.not_mem_nil, or_false] at h
  rcases h with ⟨r, hr, rfl | rfl⟩ | ⟨r, hr, rfl | rfl⟩
  · exact ⟨r, List.mem_append_left _ hr, rfl, rfl, .inl rfl, .inl rfl⟩
  · exact ⟨r, List.mem_append_left _ hr, rfl, rfl, .inl rfl, .inr rfl⟩
  · exact ⟨r, List.mem_append_right _ hr, rfl, rfl, .inr rfl, .inl rfl⟩
  · exact ⟨r, List.mem_append_right _ hr, rfl, rfl, .inr rfl, .inr rfl⟩
theorem of_edge {a b : List R4} {r : R4} (h : r ∈ a ++ b) : ∃ e, e ∈ allE a b ∧ e.y0 = r.y0 ∧ e.y1 = r.y1 := by
  rcases List.mem_append.1 h with h | h
  · exact ⟨⟨r.x0, r.y0, r.y1, 0, 1⟩, List.mem_append_left _ (List.mem_flatMap.2 ⟨r, h, by simp⟩), rfl, rfl⟩
  · exact ⟨⟨r.x0, r.y0, r.y1, 1, 1⟩, List.mem_append_right _ (List.mem_flatMap.2 ⟨r, h, by simp⟩), rfl, rfl⟩
section
variable {a b : List R4} {E : List E5} {hs : List Int} {keep : Int → Int → Bool}
theorem Sides.edge (S : Sides a b E hs) {e : E5} (h : e ∈ E) : e.y0 < e.y1 ∧ (e.li = 0 ∨ e.li = 1) ∧ (e.st = 1 ∨ e.st = -1) ∧ e.y0 ∈ hs ∧ e.y1 ∈ hs := by
  obtain ⟨r, hr, h0, h1, h2, h3⟩ := edge_of (S.perm.mem_iff.1 h)
  have hg := Reg.good_append S.ga S.gb r hr
  exact ⟨by omega, h2, h3, (S.mem _).2 ⟨e, h, .inl rfl⟩, (S.mem _).2 ⟨e, h, .inr rfl⟩⟩
theorem Sides.heights (S : Sides a b E hs) : hs = heightsL (a ++ b) := by
  refine Reg.sorted_unique S.up (Reg.heights_sorted _) fun y => ?_
  rw [S.mem, Reg.mem_heights]
  constructor
  · rintro ⟨e, he, h⟩
    obtain ⟨r, hr, h0, h1, _⟩ := edge_of (S.perm.mem_iff.1 he)
    exact ⟨r, hr, by rw [← h0, ← h1]; exact h⟩
  · rintro ⟨r, hr, h⟩
    obtain ⟨e, he, h0, h1⟩ := of_edge hr
    exact ⟨e, S.perm.mem_iff.2 he, by rw [h0, h1]; exact h⟩
theorem next_height {hs : List Int} (h : hs.Pairwise (· < ·)) {i : Nat} {lo hi y : Int} (h1 : hs[i]? = some lo) (h2 : hs[i + 1]? = some hi) (hy : y ∈ hs) : lo < y ↔ hi ≤ y := by
  obtain ⟨i1, rfl⟩ := List.getElem?_eq_some_iff.1 h1
  obtain ⟨i2, rfl⟩ := List.getElem?_eq_some_iff.1 h2
  obtain ⟨j, hj, rfl⟩ := List.getElem_of_mem hy
  rw [List.pairwise_iff_getElem] at h
  constructor
  · intro hlt
    by_cases hji : j ≤ i
    · rcases Nat.lt_or_eq_of_le hji with h3 | h3
      · have := h j i hj i1 h3; omega
      · subst h3; omega
    · rcases Nat.lt_or_eq_of_le (Nat.lt_of_not_le hji) with h3 | h3
      · exact Int.le_of_lt (h (i + 1) j i2 hj h3)
      · have h4 : i + 1 = j := h3
        subst h4; exact Int.le_refl _
  · intro hle
    have := h i (i + 1) i1 i2 (by omega)
    omega

/-- Where the sweep stands. -/
structure SwI (keep : Int → Int → Bool) (a b : List R4) (E : List E5) (hs : List Int) (i nc : Nat) (cr : List E5) (rs : List R4) (last : Nat) (bs : List Band) : Prop where
  hi : 1 ≤ i
  ncl : nc ≤ E.length
  early : ∀ (t : Nat) (e : E5), t < nc → E[t]? = some e → ∀ lo, hs[i - 1]? = some lo → e.y0 < lo
  late : ∀ (t : Nat) (e : E5), nc ≤ t → E[t]? = some e → ∀ lo, hs[i - 1]? = some lo → lo ≤ e.y0
  crp : ∀ lo, hs[i - 1]? = some lo → cr.Perm ((E.take nc).filter (fun e => decide (lo ≤ e.y1)))
  crs : SortX cr
  crl : cr.length ≤ E.length
  bands : bandsFrom (rowK keep a b) bs (hs.drop (i - 1)) = bandsK keep a b
  rel : ∀ lo, hs[i - 1]? = some lo → RelP lo rs last bs
  told : rs = told bs
  la : last ≤ rs.length
  len : rs.length ≤ (i - 1) * 200000
theorem SwI.start (S : Sides a b E hs) : SwI keep a b E hs 1 0 [] [] 0 [] := by
  refine ⟨Nat.le_refl _, Nat.zero_le _, fun t e ht => absurd ht (by omega), fun t e _ he lo hlo => ?_, fun _ _ => by simp, List.Pairwise.nil, Nat.zero_le _, ?_, fun lo _ => ⟨rfl, fun c hc => absurd hc (by simp), .inr ⟨rfl, fun bi c h => absurd h (by simp)⟩⟩, rfl, Nat.le_refl _, Nat.zero_le _⟩
  · have hm := (S.edge (List.mem_of_getElem? he)).2.2.2.1
    obtain ⟨j, hj, hje⟩ := List.getElem_of_mem hm
    obtain ⟨i1, rfl⟩ := List.getElem?_eq_some_iff.1 hlo
    have hp := S.up
    rw [List.pairwise_iff_getElem] at hp
    rcases Nat.eq_zero_or_pos j with h0 | h0
    · subst h0; rw [← hje]; exact Int.le_refl _
    · have := hp 0 j i1 hj h0
      rw [← hje]
      exact Int.le_of_lt this
  · rw [bandsK, ← S.heights]; rfl

variable {i nc : Nat} {cr cr2 : List E5} {rs : List R4} {last : Nat} {bs : List Band} {lo hi : Int}
theorem startN_le (y : Int) (l : List E5) : startN y l ≤ l.length := (List.takeWhile_sublist _).length_le
theorem startN_in {y : Int} {l : List E5} : ∀ {k : Nat} {e : E5}, k < startN y l → l[k]? = some e → e.y0 = y := by
  induction l with
  | nil => intro k e h; simp [startN] at h
  | cons a l ih =>
    intro k e h hk
    by_cases ha : a.y0 = y
    · cases k with
      | zero => simp at hk; subst hk; exact ha
      | succ k => rw [startN_eq ha] at h; exact ih (k := k) (by omega) (by simpa using hk)
    · rw [startN_ne ha] at h; omega
theorem startN_at {y : Int} {l : List E5} : ∀ {e : E5}, l[startN y l]? = some e → e.y0 ≠ y := by
  induction l with
  | nil => intro e h; simp at h
  | cons a l ih =>
    intro e h
    by_cases ha : a.y0 = y
    · rw [startN_eq ha] at h; exact ih (by simpa using h)
    · rw [startN_ne ha] at h; simp at h; subst h; exact ha
theorem sortE_le (S : Sides a b E hs) {t k : Nat} {e f : E5} (ht : E[t]? = some e) (hk : E[k]? = some f) (hlt : t < k) : e.y0 < f.y0 ∨ (e.y0 = f.y0 ∧ e.x ≤ f.x) := by
  obtain ⟨h1, rfl⟩ := List.getElem?_eq_some_iff.1 ht
  obtain ⟨h2, rfl⟩ := List.getElem?_eq_some_iff.1 hk
  have := S.sort
  rw [List.pairwise_iff_getElem] at this
  exact this t k h1 h2 hlt
/-- The sides that begin at the height. -/
theorem SwI.moreX (S : Sides a b E hs) (I : SwI keep a b E hs i nc cr rs last bs) : SortX ((E.drop nc).take (startN lo (E.drop nc))) := by
  rw [SortX, List.pairwise_iff_getElem]
  intro s t h1 h2 hst
  have e1 : ((E.drop nc).take (startN lo (E.drop nc)))[s]? = some _ := List.getElem?_eq_getElem h1
  have e2 : ((E.drop nc).take (startN lo (E.drop nc)))[t]? = some _ := List.getElem?_eq_getElem h2
  simp only [List.length_take] at h1 h2
  rw [List.getElem?_take_of_lt (by omega)] at e1 e2
  have y1 := startN_in (y := lo) (by omega) e1
  have y2 := startN_in (y := lo) (by omega) e2
  rw [List.getElem?_drop] at e1 e2
  rcases sortE_le S e1 e2 (by omega) with h | h
  · omega
  · exact h.2
/-- What crosses the row. -/
theorem SwI.alive (S : Sides a b E hs) (I : SwI keep a b E hs i nc cr rs last bs) (hlo : hs[i - 1]? = some lo)
    (hp : cr2.Perm (cr.filter (keepY lo) ++ (E.drop nc).take (startN lo (E.drop nc)))) : cr2.Perm ((E.take (nc + startN lo (E.drop nc))).filter (fun e => decide (lo < e.y1))) ∧ cr2.Perm (aliveL lo E) ∧
      (∀ (t : Nat) (e : E5), t < nc + startN lo (E.drop nc) → E[t]? = some e → e.y0 ≤ lo) ∧ ∀ (t : Nat) (e : E5), nc + startN lo (E.drop nc) ≤ t → E[t]? = some e → lo < e.y0 := by
  have hle := startN_le lo (E.drop nc)
  have hnc := I.ncl
  have hA : ∀ (t : Nat) (e : E5), t < nc + startN lo (E.drop nc) → E[t]? = some e → e.y0 ≤ lo := by
    intro t e ht he
    by_cases h : t < nc
    · exact Int.le_of_lt (I.early t e h he lo hlo)
    · have e1 : (E.drop nc)[t - nc]? = some e := by rw [List.getElem?_drop, show nc + (t - nc) = t from by omega]; exact he
      have := startN_in (y := lo) (by omega) e1
      omega
  have hB : ∀ (t : Nat) (e : E5), nc + startN lo (E.drop nc) ≤ t → E[t]? = some e → lo < e.y0 := by
    intro t e ht he
    have hl := I.late t e (by omega) he lo hlo
    have hlt : nc + startN lo (E.drop nc) < E.length := Nat.lt_of_le_of_lt ht (List.getElem?_eq_some_iff.1 he).1
    have e0 : E[nc + startN lo (E.drop nc)]? = some E[nc + startN lo (E.drop nc)] := List.getElem?_eq_getElem hlt
    have n0 : (E[nc + startN lo (E.drop nc)]).y0 ≠ lo := startN_at (l := E.drop nc) (by rw [List.getElem?_drop]; exact e0)
    have l0 := I.late _ _ (by omega) e0 lo hlo
    rcases Nat.lt_or_eq_of_le ht with h | h
    · rcases sortE_le S e0 he h with h3 | h3 <;> omega
    · subst h
      rw [e0] at he
      injection he with he
      subst he
      omega
  have h1 : (cr.filter (keepY lo)).Perm ((E.take nc).filter (fun e => decide (lo < e.y1))) := by
    refine ((I.crp lo hlo).filter (keepY lo)).trans ?_
    rw [List.filter_filter]
    refine List.Perm.of_eq (List.filter_congr fun e he => ?_)
    rw [Bool.eq_iff_iff]
    simp [keepY]
    omega
  have h2 : (E.drop nc).take (startN lo (E.drop nc)) = ((E.drop nc).take (startN lo (E.drop nc))).filter (fun e => decide (lo < e.y1)) := by
    symm
    rw [List.filter_eq_self]
    intro e he
    obtain ⟨k, hk⟩ := List.getElem?_of_mem he
    have hkl : k < startN lo (E.drop nc) := by
      have := (List.getElem?_eq_some_iff.1 hk).1
      simp at this
      omega
    rw [List.getElem?_take_of_lt hkl] at hk
    have hy := startN_in hkl hk
    have := (S.edge (List.mem_of_mem_drop (List.mem_of_getElem? hk))).1
    simp
    omega
  have h3 : cr2.Perm ((E.take (nc + startN lo (E.drop nc))).filter (fun e => decide (lo < e.y1))) := by
    rw [List.take_add, List.filter_append, ← h2]
    exact hp.trans (h1.append_right _)
  refine ⟨h3, ?_, hA, hB⟩
  have e1 : aliveL lo E = aliveL lo (E.take (nc + startN lo (E.drop nc))) ++ aliveL lo (E.drop (nc + startN lo (E.drop nc))) := by rw [← Reg.aliveL_append, List.take_append_drop]
  have e2 : aliveL lo (E.drop (nc + startN lo (E.drop nc))) = [] := by
    rw [aliveL, List.filter_eq_nil_iff]
    intro e he
    obtain ⟨k, hk⟩ := List.getElem?_of_mem he
    rw [List.getElem?_drop] at hk
    have := hB _ e (by omega) hk
    simp
    omega
  have e3 : aliveL lo (E.take (nc + startN lo (E.drop nc))) = (E.take (nc + startN lo (E.drop nc))).filter (fun e => decide (lo < e.y1)) := by
    refine List.filter_congr fun e he => ?_
    obtain ⟨k, hk⟩ := List.getElem?_of_mem he
    have hkl : k < nc + startN lo (E.drop nc) := by
      have := (List.getElem?_eq_some_iff.1 hk).1
      simp at this
      omega
    rw [List.getElem?_take_of_lt hkl] at hk
    simp [hA k e hkl hk]
  rw [e1, e2, e3, List.append_nil]
  exact h3
theorem strG_len (keep : Int → Int → Bool) : ∀ (es : List E5) (a b : Int) (o : Option Int), (strG keep a b o es).length ≤ es.length
  | [], _, _, _ => by simp [strG]
  | e :: t, a, b, o => by
    unfold strG
    split
    · exact Nat.le_trans (strG_len keep t _ _ _) (by simp)
    · split
      · exact Nat.le_trans (strG_len keep t _ _ _) (by simp)
      · simp only [List.length_cons]; exact Nat.succ_le_succ (strG_len keep t _ _ _)
      · exact Nat.le_trans (strG_len keep t _ _ _) (by simp)
theorem addP_len (rs : List R4) (last : Nat) (lo hi : Int) (sp : List Span) (h : last ≤ rs.length) : (addP rs last lo hi sp).1.length ≤ rs.length + sp.length := by
  unfold addP
  split
  · simp; omega
  · simp
/-- One row. -/
theorem SwI.step (hk : keep 0 0 = false) (S : Sides a b E hs) (I : SwI keep a b E hs i nc cr rs last bs) (hlo : hs[i - 1]? = some lo) (hhi : hs[i]? = some hi)
    (hp : cr2.Perm (cr.filter (keepY lo) ++ (E.drop nc).take (startN lo (E.drop nc)))) (hs2 : SortX cr2) :
    strG keep 0 0 none cr2 = rowK keep a b lo ∧ (∀ e, e ∈ cr2 → (e.li = 0 ∨ e.li = 1) ∧ (e.st = 1 ∨ e.st = -1)) ∧ keep (sumOf 0 cr2) (sumOf 1 cr2) = false ∧ cr2.length ≤ E.length ∧ (rowK keep a b lo).length ≤ E.length ∧
      SwI keep a b E hs (i + 1) (nc + startN lo (E.drop nc)) cr2 (addP rs last lo hi (rowK keep a b lo)).1 (addP rs last lo hi (rowK keep a b lo)).2 (stackL bs ⟨lo, hi, rowK keep a b lo⟩) := by
  obtain ⟨p1, p2, hA, hB⟩ := I.alive S hlo hp
  have hi1 := I.hi
  have hlh : lo < hi := by
    have h := S.up
    rw [List.pairwise_iff_getElem] at h
    obtain ⟨i1, rfl⟩ := List.getElem?_eq_some_iff.1 hlo
    obtain ⟨i2, rfl⟩ := List.getElem?_eq_some_iff.1 hhi
    exact h (i - 1) i i1 i2 (by omega)
  have p3 : cr2.Perm (aliveL lo (allE a b)) := p2.trans (S.perm.filter _)
  have hrow := Reg.strG_rowK hk S.ga S.gb p3 hs2
  have hlen : cr2.length ≤ E.length := by
    rw [p1.length_eq]
    exact Nat.le_trans (List.length_filter_le _ _) (by simp; omega)
  have hmem : ∀ e, e ∈ cr2 → e ∈ E := fun e he => List.mem_of_mem_take (List.mem_filter.1 (p1.mem_iff.1 he)).1
  have hrl : (rowK keep a b lo).length ≤ E.length := by rw [← hrow]; exact Nat.le_trans (strG_len _ _ _ _ _) hlen
  have hrel := Reg.addP_ok (sp := rowK keep a b lo) hlh (I.rel lo hlo)
  refine ⟨hrow, fun e he => ⟨(S.edge (hmem e he)).2.1, (S.edge (hmem e he)).2.2.1⟩, ?_, hlen, hrl, ?_⟩
  · have z : ∀ li, sumOf li cr2 = 0 := fun li => by
      rw [Reg.sumOf_perm p3, allE, Reg.aliveL_append, Reg.sumOf_append, Reg.alive_sumOf, Reg.alive_sumOf]; rfl
    rw [z, z]; exact hk
  · have hii : i + 1 - 1 = i := rfl
    refine ⟨by omega, ?_, fun t e ht he lo' hlo' => ?_, fun t e ht he lo' hlo' => ?_, fun lo' hlo' => ?_, hs2, hlen, ?_, fun lo' hlo' => ?_, hrel.1, ?_, ?_⟩
    · have := startN_le lo (E.drop nc)
      have := I.ncl
      simp at *
      omega
    · rw [hii, hhi] at hlo'
      injection hlo' with hlo'
      subst hlo'
      have := hA t e ht he
      omega
    · rw [hii, hhi] at hlo'
      injection hlo' with hlo'
      subst hlo'
      have h1 := hB t e ht he
      have hm := (S.edge (List.mem_of_getElem? he)).2.2.2.1
      exact (next_height S.up hlo (by rw [show i - 1 + 1 = i from by omega]; exact hhi) hm).1 h1
    · rw [hii, hhi] at hlo'
      injection hlo' with hlo'
      subst hlo'
      refine p1.trans (List.Perm.of_eq (List.filter_congr fun e he => ?_))
      have hm := (S.edge (List.mem_of_mem_take he)).2.2.2.2
      have := next_height S.up hlo (by rw [show i - 1 + 1 = i from by omega]; exact hhi) hm
      rw [Bool.eq_iff_iff]
      simpa using this
    · rw [hii, ← I.bands, bandsFrom_step _ _ _ (i - 1) lo hi hlo (by rw [show i - 1 + 1 = i from by omega]; exact hhi), show i - 1 + 1 = i from by omega]
    · rw [hii, hhi] at hlo'
      injection hlo' with hlo'
      subst hlo'
      exact hrel
    · exact hrel.le
    · have h1 := addP_len rs last lo hi (rowK keep a b lo) I.la
      have h2 := I.len
      have h3 := S.many
      rw [hii]
      have h4 : (i - 1) * 200000 + 200000 = i * 200000 := by
        obtain ⟨j, rfl⟩ : ∃ j, i = j + 1 := ⟨i - 1, by omega⟩
        rw [Nat.add_sub_cancel, Nat.add_mul]
      omega
/-- At the end. -/
theorem SwI.done (S : Sides a b E hs) (I : SwI keep a b E hs i nc cr rs last bs) (h : ¬ i < hs.length) : rs = sweepL keep a b := by
  have hb := I.bands
  have hi := I.hi
  rw [bandsFrom_end _ _ _ _ (by omega)] at hb
  rw [sweepL, ← hb]
  exact I.told
/-- A result only grows. -/
theorem SwI.grows (I : SwI keep a b E hs i nc cr rs last bs) : rs.length ≤ (sweepL keep a b).length := by
  rw [sweepL, ← I.bands, I.told]
  exact Reg.bandsFrom_len _ _ _
end
end Go.Proofs.YtmcbjaefnhfopaaGreat

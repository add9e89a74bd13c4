/- Plain lemmas on a sweep of two lists of rectangles from below to above: the stretches of a row out of the sides that cross it, the bands so far, and that what is kept is fixed by its squares. No condition. -/
import Derived.Test.YtmcbjaefnhfopaaGreatReg
namespace Go.Proofs.YtmcbjaefnhfopaaGreat
namespace Reg

/-- A vertical side of a rectangle of a list. -/
structure E5 where
  x : Int
  y0 : Int
  y1 : Int
  li : Int
  st : Int
  deriving DecidableEq, Inhabited

def edgesL (li : Int) (l : List R4) : List E5 := l.flatMap fun r => [⟨r.x0, r.y0, r.y1, li, 1⟩, ⟨r.x1, r.y0, r.y1, li, -1⟩]

/-- What the sides of a list up to an X add up to. -/
def stepAt (li x : Int) (e : E5) : Int := if e.li = li ∧ e.x ≤ x then e.st else 0
def sumAt (li x : Int) (es : List E5) : Int := (es.map (stepAt li x)).sum
def stepOf (li : Int) (e : E5) : Int := if e.li = li then e.st else 0
def sumOf (li : Int) (es : List E5) : Int := (es.map (stepOf li)).sum

theorem sumAt_cons (li x : Int) (e : E5) (es : List E5) : sumAt li x (e :: es) = stepAt li x e + sumAt li x es := by simp [sumAt]
theorem sumOf_cons (li : Int) (e : E5) (es : List E5) : sumOf li (e :: es) = stepOf li e + sumOf li es := by simp [sumOf]
theorem sumAt_append (li x : Int) (a b : List E5) : sumAt li x (a ++ b) = sumAt li x a + sumAt li x b := by simp [sumAt]
theorem sumOf_append (li : Int) (a b : List E5) : sumOf li (a ++ b) = sumOf li a + sumOf li b := by simp [sumOf]
theorem perm_sum {a b : List Int} (h : a.Perm b) : a.sum = b.sum := by
  induction h with
  | nil => rfl
  | cons x _ ih => simp [ih]
  | swap x y l => simp; omega
  | trans _ _ ih1 ih2 => exact ih1.trans ih2
theorem sumAt_perm {li x : Int} {a b : List E5} (h : a.Perm b) : sumAt li x a = sumAt li x b := perm_sum (h.map _)
theorem sumOf_perm {li : Int} {a b : List E5} (h : a.Perm b) : sumOf li a = sumOf li b := perm_sum (h.map _)

/-- The stretches of a row: the sums so far, where the open one began, the sides that are left. -/
def strG (keep : Int → Int → Bool) : Int → Int → Option Int → List E5 → List Span
  | _, _, _, [] => []
  | a, b, o, e :: t =>
    if t.head?.map E5.x = some e.x then strG keep (a + stepOf 0 e) (b + stepOf 1 e) o t
    else match o, keep (a + stepOf 0 e) (b + stepOf 1 e) with
      | none, true => strG keep (a + stepOf 0 e) (b + stepOf 1 e) (some e.x) t
      | some f, false => (f, e.x) :: strG keep (a + stepOf 0 e) (b + stepOf 1 e) none t
      | o, _ => strG keep (a + stepOf 0 e) (b + stepOf 1 e) o t

theorem strG_in (keep : Int → Int → Bool) (es : List E5) : ∀ (a b : Int) (o : Option Int), es.Pairwise (fun d e => d.x ≤ e.x) → (∀ f, o = some f → ∀ e, e ∈ es → f < e.x) →
    keep (a + sumOf 0 es) (b + sumOf 1 es) = false →
    ∀ x, inS (strG keep a b o es) x ↔ ∃ h t, es = h :: t ∧ ((x < h.x ∧ ∃ f, o = some f ∧ f ≤ x) ∨ (h.x ≤ x ∧ keep (a + sumAt 0 x es) (b + sumAt 1 x es) = true)) := by
  induction es with
  | nil =>
    intro a b o _ _ _ x
    constructor
    · intro h; exact absurd h inS_nil
    · rintro ⟨_, _, h, _⟩; cases h
  | cons e t ih =>
    intro a b o hp ho hk x
    have hp' := List.pairwise_cons.1 hp
    rw [sumOf_cons, sumOf_cons, ← Int.add_assoc, ← Int.add_assoc] at hk
    have hsum : ∀ li, e.x ≤ x → sumAt li x (e :: t) = stepOf li e + sumAt li x t := fun li hx => by
      rw [sumAt_cons]; congr 1; simp only [stepAt, stepOf, hx, and_true]
    have key : ∀ v : Prop, (∃ h t', e :: t = h :: t' ∧ ((x < h.x ∧ ∃ f, o = some f ∧ f ≤ x) ∨ (h.x ≤ x ∧ keep (a + sumAt 0 x (e :: t)) (b + sumAt 1 x (e :: t)) = true))) ↔
        ((x < e.x ∧ ∃ f, o = some f ∧ f ≤ x) ∨ (e.x ≤ x ∧ keep (a + stepOf 0 e + sumAt 0 x t) (b + stepOf 1 e + sumAt 1 x t) = true)) := fun v => by
      constructor
      · rintro ⟨h, t', he, h1⟩
        cases he
        rcases h1 with h1 | ⟨h1, h2⟩
        · exact .inl h1
        · rw [hsum 0 h1, hsum 1 h1, ← Int.add_assoc, ← Int.add_assoc] at h2
          exact .inr ⟨h1, h2⟩
      · rintro (h1 | ⟨h1, h2⟩)
        · exact ⟨e, t, rfl, .inl h1⟩
        · rw [Int.add_assoc, Int.add_assoc, ← hsum 0 h1, ← hsum 1 h1] at h2
          exact ⟨e, t, rfl, .inr ⟨h1, h2⟩⟩
    rw [key True]
    clear key hsum
    -- the sums of what is left, left of all of it
    have hless : ∀ li, (∀ d, d ∈ t → x < d.x) → sumAt li x t = 0 := by
      intro li
      clear ih hp hk ho hp'
      induction t with
      | nil => intro _; rfl
      | cons d t ih2 =>
        intro h
        rw [sumAt_cons, ih2 (fun d' hd => h d' (List.mem_cons_of_mem _ hd))]
        have := h d List.mem_cons_self
        simp only [stepAt]
        rw [if_neg (by omega)]; rfl
    simp only [strG]
    by_cases hgrp : t.head?.map E5.x = some e.x
    · rw [if_pos hgrp]
      cases t with
      | nil => simp at hgrp
      | cons h' t' =>
        simp only [List.head?_cons, Option.map_some, Option.some.injEq] at hgrp
        rw [ih _ _ o hp'.2 (fun f hf d hd => ho f hf d (List.mem_cons_of_mem _ hd)) hk x]
        constructor
        · rintro ⟨h, t1, he, h1⟩
          cases he
          rcases h1 with ⟨h1, h2⟩ | ⟨h1, h2⟩
          · exact .inl ⟨by omega, h2⟩
          · exact .inr ⟨by omega, h2⟩
        · rintro (⟨h1, h2⟩ | ⟨h1, h2⟩)
          · exact ⟨h', t', rfl, .inl ⟨by omega, h2⟩⟩
          · exact ⟨h', t', rfl, .inr ⟨by omega, h2⟩⟩
    · rw [if_neg hgrp]
      have hgap : ∀ d, d ∈ t → e.x < d.x := by
        cases t with
        | nil => intro d hd; cases hd
        | cons h' t' =>
          simp only [List.head?_cons, Option.map_some, Option.some.injEq] at hgrp
          have h1 := hp'.1 h' List.mem_cons_self
          intro d hd
          rcases List.mem_cons.1 hd with rfl | hd
          · omega
          · have := (List.pairwise_cons.1 hp'.2).1 d hd
            omega
      -- just right of the side
      have hnow : ∀ v, keep (a + stepOf 0 e) (b + stepOf 1 e) = v → e.x ≤ x → (∀ d, d ∈ t → x < d.x) → keep (a + stepOf 0 e + sumAt 0 x t) (b + stepOf 1 e + sumAt 1 x t) = v := fun v hv _ h => by
        rw [hless 0 h, hless 1 h, Int.add_zero, Int.add_zero]; exact hv
      have hhead : (∀ d, d ∈ t → x < d.x) ∨ ∃ h t1, t = h :: t1 ∧ h.x ≤ x := by
        cases t with
        | nil => exact .inl fun d hd => by cases hd
        | cons h' t' =>
          by_cases hx : h'.x ≤ x
          · exact .inr ⟨h', t', rfl, hx⟩
          · refine .inl fun d hd => ?_
            rcases List.mem_cons.1 hd with rfl | hd
            · omega
            · have := (List.pairwise_cons.1 hp'.2).1 d hd
              omega
      have IH : ∀ o', (∀ f, o' = some f → f ≤ e.x) → (inS (strG keep (a + stepOf 0 e) (b + stepOf 1 e) o' t) x ↔ ∃ h t1, t = h :: t1 ∧ ((x < h.x ∧ ∃ f, o' = some f ∧ f ≤ x) ∨ (h.x ≤ x ∧ keep (a + stepOf 0 e + sumAt 0 x t) (b + stepOf 1 e + sumAt 1 x t) = true))) := fun o' ho' =>
        ih _ _ o' hp'.2 (fun f hf d hd => by have := ho' f hf; have := hgap d hd; omega) hk x
      clear ih
      have hemp : t = [] → keep (a + stepOf 0 e) (b + stepOf 1 e) = false := by
        rintro rfl
        simpa [sumOf] using hk
      cases hn : keep (a + stepOf 0 e) (b + stepOf 1 e) with
      | false =>
        cases o with
        | none =>
          simp only []
          rw [IH none (fun f hf => by cases hf)]
          constructor
          · rintro ⟨h, t1, rfl, h1⟩
            rcases h1 with ⟨_, f, hf, _⟩ | ⟨h1, h2⟩
            · cases hf
            · exact .inr ⟨by have := hgap h List.mem_cons_self; omega, h2⟩
          · rintro (⟨_, f, hf, _⟩ | ⟨h1, h2⟩)
            · cases hf
            · rcases hhead with h | ⟨h, t1, rfl, hx⟩
              · rw [hnow false hn h1 h] at h2; cases h2
              · exact ⟨h, t1, rfl, .inr ⟨hx, h2⟩⟩
        | some f0 =>
          simp only []
          rw [inS_cons, IH none (fun f hf => by cases hf)]
          constructor
          · rintro (h1 | ⟨h, t1, rfl, h1⟩)
            · exact .inl ⟨h1.2, f0, rfl, h1.1⟩
            · rcases h1 with ⟨_, f, hf, _⟩ | ⟨h1, h2⟩
              · cases hf
              · exact .inr ⟨by have := hgap h List.mem_cons_self; omega, h2⟩
          · rintro (⟨h1, f, hf, h2⟩ | ⟨h1, h2⟩)
            · cases hf
              exact .inl ⟨h2, h1⟩
            · rcases hhead with h | ⟨h, t1, rfl, hx⟩
              · rw [hnow false hn h1 h] at h2; cases h2
              · exact .inr ⟨h, t1, rfl, .inr ⟨hx, h2⟩⟩
      | true =>
        have hne : ∀ v : Prop, (∀ h t1, t = h :: t1 → v) → v := fun v hv => by
          cases t with
          | nil => have := hemp rfl; rw [hn] at this; cases this
          | cons h t1 => exact hv h t1 rfl
        cases o with
        | none =>
          simp only []
          rw [IH (some e.x) (fun f hf => by cases hf; exact Int.le_refl _)]
          constructor
          · rintro ⟨h, t1, rfl, h1⟩
            rcases h1 with ⟨h0, f, hf, h1⟩ | ⟨h1, h2⟩
            · cases hf
              refine .inr ⟨h1, hnow true hn h1 fun d hd => ?_⟩
              rcases List.mem_cons.1 hd with rfl | hd
              · exact h0
              · have := (List.pairwise_cons.1 hp'.2).1 d hd; omega
            · exact .inr ⟨by have := hgap h List.mem_cons_self; omega, h2⟩
          · rintro (⟨_, f, hf, _⟩ | ⟨h1, h2⟩)
            · cases hf
            · refine hne _ fun h t1 ht => ⟨h, t1, ht, ?_⟩
              by_cases hx : h.x ≤ x
              · exact .inr ⟨hx, h2⟩
              · exact .inl ⟨by omega, _, rfl, h1⟩
        | some f0 =>
          simp only []
          have hf0 := ho f0 rfl e List.mem_cons_self
          rw [IH (some f0) (fun f hf => by cases hf; omega)]
          constructor
          · rintro ⟨h, t1, rfl, h1⟩
            rcases h1 with ⟨h0, f, hf, h1⟩ | ⟨h1, h2⟩
            · cases hf
              by_cases hxe : x < e.x
              · exact .inl ⟨hxe, _, rfl, h1⟩
              · refine .inr ⟨by omega, hnow true hn (by omega) fun d hd => ?_⟩
                rcases List.mem_cons.1 hd with rfl | hd
                · exact h0
                · have := (List.pairwise_cons.1 hp'.2).1 d hd; omega
            · exact .inr ⟨by have := hgap h List.mem_cons_self; omega, h2⟩
          · rintro (⟨h1, f, hf, h2⟩ | ⟨h1, h2⟩)
            · cases hf
              exact hne _ fun h t1 ht => ⟨h, t1, ht, .inl ⟨by have := hgap h (by rw [ht]; exact List.mem_cons_self); omega, _, rfl, h2⟩⟩
            · refine hne _ fun h t1 ht => ⟨h, t1, ht, ?_⟩
              by_cases hx : h.x ≤ x
              · exact .inr ⟨hx, h2⟩
              · exact .inl ⟨by omega, _, rfl, by omega⟩

theorem strG_sep (keep : Int → Int → Bool) (es : List E5) : ∀ (a b : Int) (o : Option Int) (lo : Int), es.Pairwise (fun d e => d.x ≤ e.x) → (o = none → ∀ e, e ∈ es → lo < e.x) → (∀ f, o = some f → lo < f ∧ ∀ e, e ∈ es → f < e.x) →
    SepF lo (strG keep a b o es) := by
  induction es with
  | nil => intro a b o lo _ _ _; exact trivial
  | cons e t ih =>
    intro a b o lo hp h0 h1
    have hp' := List.pairwise_cons.1 hp
    simp only [strG]
    by_cases hgrp : t.head?.map E5.x = some e.x
    · rw [if_pos hgrp]
      exact ih _ _ o lo hp'.2 (fun h d hd => h0 h d (List.mem_cons_of_mem _ hd)) (fun f hf => ⟨(h1 f hf).1, fun d hd => (h1 f hf).2 d (List.mem_cons_of_mem _ hd)⟩)
    · rw [if_neg hgrp]
      have hgap : ∀ d, d ∈ t → e.x < d.x := by
        cases t with
        | nil => intro d hd; cases hd
        | cons h' t' =>
          simp only [List.head?_cons, Option.map_some, Option.some.injEq] at hgrp
          have h1 := hp'.1 h' List.mem_cons_self
          intro d hd
          rcases List.mem_cons.1 hd with rfl | hd
          · omega
          · have := (List.pairwise_cons.1 hp'.2).1 d hd
            omega
      cases hn : keep (a + stepOf 0 e) (b + stepOf 1 e) with
      | false =>
        cases o with
        | none => exact ih _ _ none lo hp'.2 (fun _ d hd => h0 rfl d (List.mem_cons_of_mem _ hd)) (fun f hf => by cases hf)
        | some f0 =>
          obtain ⟨h2, h3⟩ := h1 f0 rfl
          exact ⟨h2, h3 e List.mem_cons_self, ih _ _ none e.x hp'.2 (fun _ d hd => hgap d hd) (fun f hf => by cases hf)⟩
      | true =>
        cases o with
        | none => exact ih _ _ (some e.x) lo hp'.2 (fun h => by cases h) (fun f hf => by cases hf; exact ⟨h0 rfl e List.mem_cons_self, hgap⟩)
        | some f0 =>
          obtain ⟨h2, h3⟩ := h1 f0 rfl
          exact ih _ _ (some f0) lo hp'.2 (fun h => by cases h) (fun f hf => by cases hf; exact ⟨h2, fun d hd => h3 d (List.mem_cons_of_mem _ hd)⟩)

/-- How many of some rectangles a square lies in. -/
def cntR (l : List R4) (x y : Int) : Int := (l.map fun r => if r.x0 ≤ x ∧ x < r.x1 ∧ r.y0 ≤ y ∧ y < r.y1 then (1 : Int) else 0).sum
theorem cntR_nil (x y : Int) : cntR [] x y = 0 := rfl
theorem cntR_cons (r : R4) (l : List R4) (x y : Int) : cntR (r :: l) x y = (if r.x0 ≤ x ∧ x < r.x1 ∧ r.y0 ≤ y ∧ y < r.y1 then (1 : Int) else 0) + cntR l x y := by simp [cntR]
theorem cntR_nonneg (l : List R4) (x y : Int) : 0 ≤ cntR l x y := by
  induction l with
  | nil => exact Int.le_refl _
  | cons r l ih => rw [cntR_cons]; split <;> omega
theorem cntR_pos {l : List R4} {x y : Int} : 0 < cntR l x y ↔ inR l x y := by
  induction l with
  | nil => constructor
           · intro h; exact absurd h (by simp [cntR])
           · rintro ⟨_, h, _⟩; cases h
  | cons r l ih =>
    rw [cntR_cons]
    have h0 := cntR_nonneg l x y
    constructor
    · intro h
      split at h
      · rename_i hr; exact ⟨r, List.mem_cons_self, hr⟩
      · obtain ⟨u, hu, hx⟩ := ih.1 (by omega)
        exact ⟨u, List.mem_cons_of_mem _ hu, hx⟩
    · rintro ⟨u, hu, hx⟩
      rcases List.mem_cons.1 hu with rfl | hu
      · rw [if_pos (show u.x0 ≤ x ∧ x < u.x1 ∧ u.y0 ≤ y ∧ y < u.y1 from hx)]; omega
      · have := ih.2 ⟨u, hu, hx⟩
        split <;> omega

/-- The sides that cross a height. -/
def aliveL (y : Int) (es : List E5) : List E5 := es.filter fun e => decide (e.y0 ≤ y) && decide (y < e.y1)
theorem aliveL_append (y : Int) (a b : List E5) : aliveL y (a ++ b) = aliveL y a ++ aliveL y b := by simp [aliveL]
theorem edgesL_cons (li : Int) (r : R4) (l : List R4) : edgesL li (r :: l) = ⟨r.x0, r.y0, r.y1, li, 1⟩ :: ⟨r.x1, r.y0, r.y1, li, -1⟩ :: edgesL li l := rfl
theorem aliveL_edges_cons (y li : Int) (r : R4) (l : List R4) : aliveL y (edgesL li (r :: l)) = (if r.y0 ≤ y ∧ y < r.y1 then [⟨r.x0, r.y0, r.y1, li, 1⟩, ⟨r.x1, r.y0, r.y1, li, -1⟩] else []) ++ aliveL y (edgesL li l) := by
  rw [edgesL_cons]
  unfold aliveL
  simp only [List.filter_cons]
  by_cases h : r.y0 ≤ y ∧ y < r.y1
  · simp [h]
  · have : (decide (r.y0 ≤ y) && decide (y < r.y1)) = false := by
      simp only [Bool.and_eq_false_iff, decide_eq_false_iff_not]; omega
    simp [this, h]
theorem alive_sumAt {l : List R4} (hg : Good l) (li x y : Int) : sumAt li x (aliveL y (edgesL li l)) = cntR l x y := by
  induction l with
  | nil => rfl
  | cons r l ih =>
    have h1 := (hg r List.mem_cons_self).1
    rw [aliveL_edges_cons, sumAt_append, ih (fun u hu => hg u (List.mem_cons_of_mem _ hu)), cntR_cons]
    congr 1
    by_cases h : r.y0 ≤ y ∧ y < r.y1
    · rw [if_pos h]
      simp only [sumAt, List.map_cons, List.map_nil, List.sum_cons, List.sum_nil, stepAt, true_and]
      by_cases h2 : r.x0 ≤ x
      · by_cases h3 : x < r.x1
        · rw [if_pos h2, if_neg (by omega), if_pos ⟨h2, h3, h⟩]; rfl
        · rw [if_pos h2, if_pos (by omega), if_neg (by omega)]; rfl
      · rw [if_neg h2, if_neg (by omega), if_neg (by omega)]; rfl
    · rw [if_neg h, if_neg (by omega)]; rfl
theorem alive_sumAt_ne {l : List R4} (li li' x y : Int) (hn : li ≠ li') : sumAt li' x (aliveL y (edgesL li l)) = 0 := by
  induction l with
  | nil => rfl
  | cons r l ih =>
    rw [aliveL_edges_cons, sumAt_append, ih]
    split <;> simp [sumAt, stepAt, hn]
theorem alive_sumOf {l : List R4} (li li' y : Int) : sumOf li' (aliveL y (edgesL li l)) = 0 := by
  induction l with
  | nil => rfl
  | cons r l ih =>
    rw [aliveL_edges_cons, sumOf_append, ih]
    split
    · simp only [sumOf, List.map_cons, List.map_nil, List.sum_cons, List.sum_nil, stepOf]
      split <;> rfl
    · rfl

def allE (a b : List R4) : List E5 := edgesL 0 a ++ edgesL 1 b
def Kept (keep : Int → Int → Bool) (a b : List R4) (x y : Int) : Prop := keep (cntR a x y) (cntR b x y) = true

theorem strG_row {keep : Int → Int → Bool} (hk : keep 0 0 = false) {a b : List R4} (ha : Good a) (hb : Good b) {y : Int} {es : List E5} (hp : es.Perm (aliveL y (allE a b))) (hs : es.Pairwise (fun d e => d.x ≤ e.x)) :
    (∃ z, SepF z (strG keep 0 0 none es)) ∧ ∀ x, inS (strG keep 0 0 none es) x ↔ Kept keep a b x y := by
  have s0 : ∀ x, sumAt 0 x es = cntR a x y := fun x => by
    rw [sumAt_perm hp, allE, aliveL_append, sumAt_append, alive_sumAt ha, alive_sumAt_ne _ _ _ _ (by decide), Int.add_zero]
  have s1 : ∀ x, sumAt 1 x es = cntR b x y := fun x => by
    rw [sumAt_perm hp, allE, aliveL_append, sumAt_append, alive_sumAt hb, alive_sumAt_ne _ _ _ _ (by decide), Int.zero_add]
  have t0 : ∀ li, sumOf li es = 0 := fun li => by
    rw [sumOf_perm hp, allE, aliveL_append, sumOf_append, alive_sumOf, alive_sumOf]; rfl
  refine ⟨?_, fun x => ?_⟩
  · cases es with
    | nil => exact ⟨0, trivial⟩
    | cons h t =>
      refine ⟨h.x - 1, strG_sep keep _ 0 0 none _ hs (fun _ e he => ?_) (fun f hf => by cases hf)⟩
      rcases List.mem_cons.1 he with rfl | he
      · omega
      · have := (List.pairwise_cons.1 hs).1 e he; omega
  · rw [strG_in keep es 0 0 none hs (fun f hf => by cases hf) (by rw [t0, t0]; exact hk) x]
    simp only [Int.zero_add, s0, s1, Kept]
    constructor
    · rintro ⟨h, t, _, (⟨_, f, hf, _⟩ | ⟨_, h2⟩)⟩
      · cases hf
      · exact h2
    · intro h
      cases es with
      | nil =>
        have e0 := s0 x
        have e1 := s1 x
        simp only [sumAt, List.map_nil, List.sum_nil] at e0 e1
        rw [← e0, ← e1, hk] at h; cases h
      | cons d t =>
        refine ⟨d, t, rfl, .inr ⟨?_, h⟩⟩
        refine Classical.byContradiction fun hx => ?_
        have hz : ∀ li, sumAt li x (d :: t) = 0 := fun li => by
          have : ∀ e, e ∈ d :: t → x < e.x := fun e he => by
            rcases List.mem_cons.1 he with rfl | he
            · omega
            · have := (List.pairwise_cons.1 hs).1 e he; omega
          clear hp hs s0 s1 t0 h hx
          generalize d :: t = l at *
          induction l with
          | nil => rfl
          | cons u l ih2 =>
            rw [sumAt_cons, ih2 (fun e he => this e (List.mem_cons_of_mem _ he))]
            have := this u List.mem_cons_self
            simp only [stepAt]
            rw [if_neg (by omega)]; rfl
        have e0 := s0 x
        have e1 := s1 x
        rw [hz] at e0 e1
        rw [← e0, ← e1, hk] at h; cases h

/-- The row of what is kept at a height. -/
def rowK (keep : Int → Int → Bool) (a b : List R4) (y : Int) : List Span := strG keep 0 0 none ((aliveL y (allE a b)).mergeSort fun d e => decide (d.x ≤ e.x))
theorem sortX_ok (l : List E5) : (l.mergeSort fun d e => decide (d.x ≤ e.x)).Perm l ∧ (l.mergeSort fun d e => decide (d.x ≤ e.x)).Pairwise (fun d e => d.x ≤ e.x) := by
  refine ⟨List.mergeSort_perm _ _, ?_⟩
  have := List.pairwise_mergeSort (le := fun d e : E5 => decide (d.x ≤ e.x)) (fun a b c h1 h2 => by simp at *; omega) (fun a b => by simp; omega) l
  exact this.imp fun h => by simpa using h
theorem rowK_ok {keep : Int → Int → Bool} (hk : keep 0 0 = false) {a b : List R4} (ha : Good a) (hb : Good b) (y : Int) :
    (∃ z, SepF z (rowK keep a b y)) ∧ ∀ x, inS (rowK keep a b y) x ↔ Kept keep a b x y :=
  strG_row hk ha hb (sortX_ok _).1 (sortX_ok _).2
theorem strG_rowK {keep : Int → Int → Bool} (hk : keep 0 0 = false) {a b : List R4} (ha : Good a) (hb : Good b) {y : Int} {es : List E5} (hp : es.Perm (aliveL y (allE a b))) (hs : es.Pairwise (fun d e => d.x ≤ e.x)) :
    strG keep 0 0 none es = rowK keep a b y := by
  obtain ⟨⟨z, h1⟩, h2⟩ := strG_row hk ha hb hp hs
  obtain ⟨⟨z', h3⟩, h4⟩ := rowK_ok hk ha hb y
  exact h1.unique h3 fun x => (h2 x).trans (h4 x).symm

theorem between_iff (row : Int → List Span) (x y : Int) (ys : List Int) : ys.Pairwise (· < ·) →
    (between row ys x y ↔ ∃ z, z ∈ ys ∧ z ≤ y ∧ (∀ u, u ∈ ys → u ≤ y → u ≤ z) ∧ (∃ u, u ∈ ys ∧ y < u) ∧ inS (row z) x) := by
  induction ys with
  | nil => intro _; exact ⟨fun h => h.elim, fun ⟨_, h, _⟩ => by cases h⟩
  | cons a ys ih =>
    intro hp
    have hp' := List.pairwise_cons.1 hp
    cases ys with
    | nil =>
      constructor
      · intro h; exact h.elim
      · rintro ⟨z, hz, h1, _, ⟨u, hu, h2⟩, _⟩
        simp at hz hu
        omega
    | cons b ys =>
      have hab := hp'.1 b List.mem_cons_self
      have hbl : ∀ u, u ∈ b :: ys → b ≤ u := fun u hu => by
        rcases List.mem_cons.1 hu with rfl | hu
        · omega
        · have := (List.pairwise_cons.1 hp'.2).1 u hu; omega
      rw [between, ih hp'.2]
      constructor
      · rintro (⟨h1, h2, h3⟩ | ⟨z, hz, h1, h2, ⟨u, hu, h3⟩, h4⟩)
        · refine ⟨a, List.mem_cons_self, h1, fun u hu huy => ?_, ⟨b, by simp, h2⟩, h3⟩
          rcases List.mem_cons.1 hu with rfl | hu
          · omega
          · have := hbl u hu; omega
        · refine ⟨z, List.mem_cons_of_mem _ hz, h1, fun u hu huy => ?_, ⟨u, List.mem_cons_of_mem _ hu, h3⟩, h4⟩
          rcases List.mem_cons.1 hu with rfl | hu
          · have := hp'.1 z hz; omega
          · exact h2 u hu huy
      · rintro ⟨z, hz, h1, h2, ⟨u, hu, h3⟩, h4⟩
        rcases List.mem_cons.1 hz with rfl | hz2
        · refine .inl ⟨h1, ?_, h4⟩
          refine Classical.byContradiction fun hn => ?_
          have := h2 b (by simp) (by omega)
          omega
        · refine .inr ⟨z, hz2, h1, fun v hv => h2 v (List.mem_cons_of_mem _ hv), ⟨u, ?_, h3⟩, h4⟩
          rcases List.mem_cons.1 hu with rfl | hu
          · have := hp'.1 z hz2; omega
          · exact hu

theorem cntR_same {l : List R4} {y z : Int} (h : ∀ r, r ∈ l → (r.y0 ≤ y ↔ r.y0 ≤ z) ∧ (r.y1 ≤ y ↔ r.y1 ≤ z)) (x : Int) : cntR l x y = cntR l x z := by
  induction l with
  | nil => rfl
  | cons r l ih =>
    rw [cntR_cons, cntR_cons, ih fun u hu => h u (List.mem_cons_of_mem _ hu)]
    obtain ⟨h1, h2⟩ := h r List.mem_cons_self
    have : (r.x0 ≤ x ∧ x < r.x1 ∧ r.y0 ≤ y ∧ y < r.y1) ↔ (r.x0 ≤ x ∧ x < r.x1 ∧ r.y0 ≤ z ∧ z < r.y1) := by
      constructor <;> rintro ⟨k1, k2, k3, k4⟩ <;> refine ⟨k1, k2, ?_, ?_⟩ <;> omega
    simp only [this]
theorem cntR_zero {l : List R4} {x y : Int} (h : ∀ r, r ∈ l → y < r.y0 ∨ r.y1 ≤ y) : cntR l x y = 0 := by
  induction l with
  | nil => rfl
  | cons r l ih =>
    rw [cntR_cons, ih fun u hu => h u (List.mem_cons_of_mem _ hu)]
    have := h r List.mem_cons_self
    rw [if_neg (by omega)]; rfl

/-- The bands of what is kept. -/
def bandsK (keep : Int → Int → Bool) (a b : List R4) : List Band := bandsFrom (rowK keep a b) [] (heightsL (a ++ b))
def sweepL (keep : Int → Int → Bool) (a b : List R4) : List R4 := told (bandsK keep a b)
theorem good_append {a b : List R4} (ha : Good a) (hb : Good b) : Good (a ++ b) := fun r hr => by
  rcases List.mem_append.1 hr with h | h
  · exact ha r h
  · exact hb r h

/-- Whatever rows have at each height just what is in Q, and heights at which alone Q changes. -/
theorem bands_gen {row : Int → List Span} {Q : Int → Int → Prop} {ys : List Int} (hp : ys.Pairwise (· < ·)) (hrow : ∀ y, ∃ z, SepF z (row y)) (hq : ∀ x y, inS (row y) x ↔ Q x y)
    (hsame : ∀ x y z, (∀ u, u ∈ ys → (u ≤ y ↔ u ≤ z)) → (Q x y ↔ Q x z)) (hlow : ∀ x y, (∀ u, u ∈ ys → y < u) → ¬ Q x y) (hhigh : ∀ x y, (∀ u, u ∈ ys → u ≤ y) → ¬ Q x y) :
    (∃ z, CanF z [] (bandsFrom row [] ys)) ∧ ∀ x y, inB (bandsFrom row [] ys) x y ↔ Q x y := by
  have hend : ∃ z, ∀ y, ys.head? = some y → z ≤ y := by
    cases ys.head? with
    | none => exact ⟨0, fun y h => by cases h⟩
    | some v => exact ⟨v, fun y h => by injection h with h; omega⟩
  obtain ⟨z, hz⟩ := hend
  obtain ⟨k1, k2⟩ := bandsFrom_ok row hrow ys [] z trivial hz hp
  refine ⟨⟨z, k1⟩, fun x y => ?_⟩
  rw [k2 x y, between_iff row x y ys hp]
  constructor
  · rintro (h | ⟨z, hz, h1, h2, h3, h4⟩)
    · exact absurd h inB_nil
    · refine (hsame x y z fun u hu => ⟨fun h => h2 u hu h, fun h => by omega⟩).2 ((hq x z).1 h4)
  · intro h
    -- the greatest height that is not above
    have hex : ∃ z, z ∈ ys ∧ z ≤ y := by
      refine Classical.byContradiction fun hn => hlow x y (fun u hu => ?_) h
      refine Classical.byContradiction fun h2 => hn ⟨u, hu, by omega⟩
    have hup : ∃ u, u ∈ ys ∧ y < u := by
      refine Classical.byContradiction fun hn => hhigh x y (fun u hu => ?_) h
      refine Classical.byContradiction fun h2 => hn ⟨u, hu, by omega⟩
    have hmax : ∃ z, z ∈ ys ∧ z ≤ y ∧ ∀ u, u ∈ ys → u ≤ y → u ≤ z := by
      clear h hup k1 k2 hsame hlow hhigh hp hz
      induction ys with
      | nil => obtain ⟨_, h, _⟩ := hex; cases h
      | cons a ys ih =>
        by_cases he : ∃ z, z ∈ ys ∧ z ≤ y
        · obtain ⟨z, h1, h2, h3⟩ := ih he
          by_cases hay : a ≤ y ∧ z < a
          · refine ⟨a, List.mem_cons_self, hay.1, fun u hu hy => ?_⟩
            rcases List.mem_cons.1 hu with rfl | hu
            · omega
            · have := h3 u hu hy; omega
          · refine ⟨z, List.mem_cons_of_mem _ h1, h2, fun u hu hy => ?_⟩
            rcases List.mem_cons.1 hu with rfl | hu
            · omega
            · exact h3 u hu hy
        · obtain ⟨z, hz, hzy⟩ := hex
          rcases List.mem_cons.1 hz with rfl | hz
          · refine ⟨z, List.mem_cons_self, hzy, fun u hu hy => ?_⟩
            rcases List.mem_cons.1 hu with rfl | hu
            · omega
            · exact absurd ⟨u, hu, hy⟩ he
          · exact absurd ⟨z, hz, hzy⟩ he
    obtain ⟨z, h1, h2, h3⟩ := hmax
    exact .inr ⟨z, h1, h2, h3, hup, (hq x z).2 ((hsame x y z fun u hu => ⟨fun h => h3 u hu h, fun h => by omega⟩).1 h)⟩

theorem mem_heights {l : List R4} {y : Int} : y ∈ heightsL l ↔ ∃ r, r ∈ l ∧ (y = r.y0 ∨ y = r.y1) := by
  rw [heightsL, (heightsFrom_ok l [] List.Pairwise.nil).2 y]; simp
theorem heights_sorted (l : List R4) : (heightsL l).Pairwise (· < ·) := (heightsFrom_ok l [] List.Pairwise.nil).1

/-- A way of keeping by how often a square lies in two lists, heights at which alone that changes. -/
theorem kept_bands {row : Int → List Span} {keep : Int → Int → Bool} (hk : keep 0 0 = false) {a b : List R4} (hrow : ∀ y, ∃ z, SepF z (row y)) (hq : ∀ x y, inS (row y) x ↔ Kept keep a b x y) :
    (∃ z, CanF z [] (bandsFrom row [] (heightsL (a ++ b)))) ∧ ∀ x y, inB (bandsFrom row [] (heightsL (a ++ b))) x y ↔ Kept keep a b x y := by
  have hm : ∀ r, r ∈ a ∨ r ∈ b → r.y0 ∈ heightsL (a ++ b) ∧ r.y1 ∈ heightsL (a ++ b) := fun r hr =>
    ⟨mem_heights.2 ⟨r, List.mem_append.2 hr, .inl rfl⟩, mem_heights.2 ⟨r, List.mem_append.2 hr, .inr rfl⟩⟩
  refine bands_gen (heights_sorted _) hrow hq (fun x y z h => ?_) (fun x y h => ?_) (fun x y h => ?_)
  · rw [Kept, Kept, cntR_same (z := z) (fun r hr => ⟨h _ (hm r (.inl hr)).1, h _ (hm r (.inl hr)).2⟩), cntR_same (l := b) (z := z) (fun r hr => ⟨h _ (hm r (.inr hr)).1, h _ (hm r (.inr hr)).2⟩)]
  · rw [Kept, cntR_zero (fun r hr => .inl (h _ (hm r (.inl hr)).1)), cntR_zero (fun r hr => .inl (h _ (hm r (.inr hr)).1)), hk]; simp
  · rw [Kept, cntR_zero (fun r hr => .inr (h _ (hm r (.inl hr)).2)), cntR_zero (fun r hr => .inr (h _ (hm r (.inr hr)).2)), hk]; simp

theorem bandsK_ok {keep : Int → Int → Bool} (hk : keep 0 0 = false) {a b : List R4} (ha : Good a) (hb : Good b) :
    (∃ z, CanF z [] (bandsK keep a b)) ∧ ∀ x y, inB (bandsK keep a b) x y ↔ Kept keep a b x y :=
  kept_bands hk (fun y => (rowK_ok hk ha hb y).1) (fun x y => (rowK_ok hk ha hb y).2 x)

/-- What is swept is fixed by the squares. -/
theorem sweepL_inR {keep : Int → Int → Bool} (hk : keep 0 0 = false) {a b : List R4} (ha : Good a) (hb : Good b) (x y : Int) : inR (sweepL keep a b) x y ↔ Kept keep a b x y := by
  rw [sweepL, inR_told, (bandsK_ok hk ha hb).2 x y]
theorem sweepL_can {keep : Int → Int → Bool} (hk : keep 0 0 = false) {a b : List R4} (ha : Good a) (hb : Good b) : sweepL keep a b = canonL (sweepL keep a b) := by
  obtain ⟨⟨z, h⟩, _⟩ := bandsK_ok hk ha hb
  exact (canonL_told h).symm
theorem sweepL_good {keep : Int → Int → Bool} (hk : keep 0 0 = false) {a b : List R4} (ha : Good a) (hb : Good b) : Good (sweepL keep a b) := by
  obtain ⟨⟨z, h⟩, _⟩ := bandsK_ok hk ha hb
  exact good_told h
theorem told_unique {a b : List Band} {z z' : Int} (ha : CanF z [] a) (hb : CanF z' [] b) (h : ∀ x y, inR (told a) x y ↔ inR (told b) x y) : told a = told b := by
  rw [CanF.unique ha hb fun x y => by rw [← inR_told, h, inR_told]]
/-- Right regions with the same squares are the same. -/
theorem canon_unique {a b : List R4} (ha : Good a) (hb : Good b) (h : ∀ x y, inR a x y ↔ inR b x y) : canonL a = canonL b := by
  obtain ⟨⟨z, h1⟩, h2⟩ := bandsC_ok ha
  obtain ⟨⟨z', h3⟩, h4⟩ := bandsC_ok hb
  exact told_unique h1 h3 fun x y => by rw [inR_told, inR_told, h2, h4, h]
theorem canonL_inR {l : List R4} (hg : Good l) (x y : Int) : inR (canonL l) x y ↔ inR l x y := by rw [canonL, inR_told, (bandsC_ok hg).2]
theorem canonL_good {l : List R4} (hg : Good l) : Good (canonL l) := by
  obtain ⟨⟨z, h⟩, _⟩ := bandsC_ok hg
  exact good_told h
theorem canonL_twice {l : List R4} (hg : Good l) : canonL (canonL l) = canonL l := canon_unique (canonL_good hg) hg (canonL_inR hg)

def inFirstK (a _b : Int) : Bool := decide (0 < a)
theorem sweep_first {l : List R4} (hg : Good l) : sweepL inFirstK l [] = canonL l := by
  obtain ⟨⟨z, h1⟩, h2⟩ := bandsK_ok (keep := inFirstK) rfl hg (b := []) (fun r hr => by cases hr)
  obtain ⟨⟨z', h3⟩, h4⟩ := bandsC_ok hg
  exact told_unique h1 h3 fun x y => by
    rw [inR_told, inR_told, h2, h4, Kept, ← cntR_pos]
    simp [inFirstK]

/-! The number of rectangles does not fall. -/
theorem told_append (a b : List Band) : told (a ++ b) = told a ++ told b := by simp [told]
theorem stackL_len (b : Band) : ∀ l : List Band, (told l).length ≤ (told (stackL l b)).length
  | [] => by simp [told]
  | [c] => by
    simp only [stackL]
    split
    · exact Nat.le_refl _
    · split
      · simp [told, rectsOf]
      · simp [told, rectsOf]
  | c :: d :: l => by
    have := stackL_len b (d :: l)
    rw [stackL]
    simp only [told, List.flatMap_cons, List.length_append] at this ⊢
    omega
theorem bandsFrom_len (row : Int → List Span) (ys : List Int) : ∀ acc : List Band, (told acc).length ≤ (told (bandsFrom row acc ys)).length := by
  induction ys with
  | nil => intro acc; exact Nat.le_refl _
  | cons a ys ih =>
    intro acc
    cases ys with
    | nil => exact Nat.le_refl _
    | cons b ys => exact Nat.le_trans (stackL_len _ acc) (ih _)

/-! The bands as the program keeps them: rectangles, and where the last band begins. -/
def goesOnP (rs : List R4) (last : Nat) (lo : Int) (sp : List Span) : Bool := decide ((rs.drop last).map (fun r => (r.y1, spanOf r)) = sp.map fun s => (lo, s))
def addP (rs : List R4) (last : Nat) (lo hi : Int) (sp : List Span) : List R4 × Nat :=
  if goesOnP rs last lo sp then (rs.take last ++ (rs.drop last).map (fun r => ⟨r.x0, r.y0, r.x1, hi⟩), last)
  else (rs ++ sp.map (fun s => ⟨s.1, lo, s.2, hi⟩), rs.length)
def RelP (lo : Int) (rs : List R4) (last : Nat) (bs : List Band) : Prop :=
  rs = told bs ∧ (∀ c, c ∈ bs → c.sp ≠ [] ∧ c.hi ≤ lo) ∧ ((∃ bi c, bs = bi ++ [c] ∧ last = (told bi).length) ∨ (last = rs.length ∧ ∀ bi c, bs = bi ++ [c] → c.hi < lo))
theorem RelP.le {lo : Int} {rs : List R4} {last : Nat} {bs : List Band} (h : RelP lo rs last bs) : last ≤ rs.length := by
  obtain ⟨rfl, _, (⟨bi, c, rfl, rfl⟩ | ⟨rfl, _⟩)⟩ := h
  · rw [told_append, List.length_append]; omega
  · exact Nat.le_refl _
theorem stackL_last' {b c : Band} (h : b.sp ≠ []) : ∀ l : List Band, stackL (l ++ [c]) b = if c.hi = b.lo ∧ c.sp = b.sp then l ++ [⟨c.lo, b.hi, c.sp⟩] else l ++ [c, b]
  | [] => by simp [stackL, h]
  | [d] => by simp only [List.cons_append, List.nil_append, stackL, if_neg h]; split <;> rfl
  | d :: e :: l => by
    have := stackL_last' (c := c) h (e :: l)
    simp only [List.cons_append] at this ⊢
    rw [stackL, this]
    split <;> rfl
theorem stackL_nil' {b : Band} (h : b.sp = []) : ∀ l : List Band, stackL l b = l
  | [] => by simp [stackL, h]
  | [c] => by simp [stackL, h]
  | c :: d :: l => by rw [stackL, stackL_nil' h (d :: l)]
theorem told_one (c : Band) : told [c] = rectsOf c := by simp [told]
theorem addP_ok {lo hi : Int} {rs : List R4} {last : Nat} {bs : List Band} {sp : List Span} (hlt : lo < hi) (h : RelP lo rs last bs) :
    RelP hi (addP rs last lo hi sp).1 (addP rs last lo hi sp).2 (stackL bs ⟨lo, hi, sp⟩) := by
  obtain ⟨rfl, h2, h3⟩ := h
  have h2' : ∀ c, c ∈ bs → c.sp ≠ [] ∧ c.hi ≤ hi := fun c hc => ⟨(h2 c hc).1, by have := (h2 c hc).2; omega⟩
  rcases h3 with ⟨bi, c, rfl, rfl⟩ | ⟨rfl, h3⟩
  · have hc := h2 c (by simp)
    have hdrop : (told (bi ++ [c])).drop (told bi).length = rectsOf c := by rw [told_append, told_one, List.drop_left]
    have htake : (told (bi ++ [c])).take (told bi).length = told bi := by rw [told_append, List.take_left]
    have hg : goesOnP (told (bi ++ [c])) (told bi).length lo sp = decide (c.hi = lo ∧ c.sp = sp) := by
      rw [goesOnP, hdrop]
      congr 1
      rw [eq_iff_iff]
      simp only [rectsOf, List.map_map]
      constructor
      · intro h
        have h5 : c.sp = sp := by
          have := congrArg (List.map Prod.snd) h
          simp only [List.map_map] at this
          have e1 : (Prod.snd ∘ (fun r : R4 => (r.y1, spanOf r)) ∘ fun s : Span => (⟨s.1, c.lo, s.2, c.hi⟩ : R4)) = id := rfl
          have e2 : (Prod.snd ∘ fun s : Span => (lo, s)) = id := rfl
          rw [e1, e2, List.map_id, List.map_id] at this
          exact this
        refine ⟨?_, h5⟩
        cases hs : c.sp with
        | nil => exact absurd hs hc.1
        | cons s t =>
          rw [← h5, hs] at h
          simp at h
          exact h.1.1
      · rintro ⟨h4, h5⟩
        rw [h5, ← h4]
        rfl
    unfold addP
    rw [hg]
    by_cases hgo : c.hi = lo ∧ c.sp = sp
    · have hsp : sp ≠ [] := by rw [← hgo.2]; exact hc.1
      rw [decide_eq_true hgo, if_pos rfl, stackL_last' (b := ⟨lo, hi, sp⟩) hsp, if_pos hgo]
      simp only [htake, hdrop]
      refine ⟨?_, ?_, .inl ⟨bi, _, rfl, rfl⟩⟩
      · rw [told_append, told_one]
        simp [rectsOf]
      · intro d hd
        rcases List.mem_append.1 hd with hd | hd
        · exact h2' d (List.mem_append_left _ hd)
        · simp at hd; subst hd
          exact ⟨hc.1, Int.le_refl _⟩
    · rw [decide_eq_false hgo, if_neg (by simp)]
      by_cases hsp : sp = []
      · rw [stackL_nil' hsp, hsp]
        refine ⟨by simp, h2', .inr ⟨by simp, fun bi' c' he => ?_⟩⟩
        obtain ⟨_, he⟩ := List.append_inj' he rfl
        simp at he; subst he
        have := hc.2; omega
      · rw [stackL_last' (b := ⟨lo, hi, sp⟩) hsp, if_neg hgo]
        refine ⟨?_, ?_, .inl ⟨bi ++ [c], ⟨lo, hi, sp⟩, by simp, rfl⟩⟩
        · rw [show bi ++ [c, ⟨lo, hi, sp⟩] = (bi ++ [c]) ++ [⟨lo, hi, sp⟩] from by simp, told_append (bi ++ [c]), told_one]
          rfl
        · intro d hd
          rw [show bi ++ [c, (⟨lo, hi, sp⟩ : Band)] = (bi ++ [c]) ++ [⟨lo, hi, sp⟩] from by simp] at hd
          rcases List.mem_append.1 hd with hd | hd
          · exact h2' d hd
          · simp at hd; subst hd; exact ⟨hsp, Int.le_refl _⟩
  · have hg : goesOnP (told bs) (told bs).length lo sp = decide (sp = []) := by
      rw [goesOnP, List.drop_length]
      congr 1
      rw [eq_iff_iff]
      simp only [List.map_nil]
      exact ⟨fun h => by simpa using h.symm, fun h => by rw [h]; rfl⟩
    unfold addP
    rw [hg]
    by_cases hsp : sp = []
    · rw [decide_eq_true hsp, if_pos rfl, stackL_nil' hsp]
      exact ⟨by simp, h2', .inr ⟨by simp, fun bi c he => by have := h3 bi c he; omega⟩⟩
    · rw [decide_eq_false hsp, if_neg (by simp)]
      have hst : stackL bs ⟨lo, hi, sp⟩ = bs ++ [⟨lo, hi, sp⟩] := by
        rcases List.eq_nil_or_concat bs with rfl | ⟨bi, c, rfl⟩
        · simp [stackL, hsp]
        · rw [List.concat_eq_append] at h3 ⊢
          have := h3 bi c rfl
          rw [stackL_last' (b := ⟨lo, hi, sp⟩) hsp, if_neg (by simp only; omega)]
          simp
      rw [hst]
      refine ⟨?_, ?_, .inl ⟨bs, _, rfl, rfl⟩⟩
      · rw [told_append, told_one]; rfl
      · intro d hd
        rcases List.mem_append.1 hd with hd | hd
        · exact h2' d hd
        · simp at hd; subst hd; exact ⟨hsp, Int.le_refl _⟩

/-- Numbers in order are fixed by what they are. -/
theorem sorted_unique {a : List Int} : ∀ {b : List Int}, a.Pairwise (· < ·) → b.Pairwise (· < ·) → (∀ x, x ∈ a ↔ x ∈ b) → a = b := by
  induction a with
  | nil =>
    intro b _ _ h
    cases b with
    | nil => rfl
    | cons y b => exact absurd ((h y).2 List.mem_cons_self) (by simp)
  | cons x a ih =>
    intro b ha hb h
    have ha' := List.pairwise_cons.1 ha
    cases b with
    | nil => exact absurd ((h x).1 List.mem_cons_self) (by simp)
    | cons y b =>
      have hb' := List.pairwise_cons.1 hb
      have hxy : x = y := by
        rcases List.mem_cons.1 ((h x).1 List.mem_cons_self) with h1 | h1
        · exact h1
        · rcases List.mem_cons.1 ((h y).2 List.mem_cons_self) with h2 | h2
          · exact h2.symm
          · have := hb'.1 x h1; have := ha'.1 y h2; omega
      subst hxy
      rw [ih ha'.2 hb'.2 fun z => ?_]
      constructor
      · intro hz
        rcases List.mem_cons.1 ((h z).1 (List.mem_cons_of_mem _ hz)) with h1 | h1
        · have := ha'.1 z hz; omega
        · exact h1
      · intro hz
        rcases List.mem_cons.1 ((h z).2 (List.mem_cons_of_mem _ hz)) with h1 | h1
        · have := hb'.1 z hz; omega
        · exact h1
end Reg
end Go.Proofs.YtmcbjaefnhfopaaGreat

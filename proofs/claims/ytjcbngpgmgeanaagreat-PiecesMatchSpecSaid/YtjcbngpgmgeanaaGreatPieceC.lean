/- Several texts in one: PcQ, PrtA, PrtB, Pcs, HolP, HolQ. -/
import Derived.Test.YtjcbngpgmgeanaaGreatPieceA
import Derived.Test.YtjcbngpgmgeanaaGreatArea
import Derived.Test.YtjcbngpgmgeanaaGreatTailA
import Derived.Test.YtjcbngpgmgeanaaGreatGrown
import Derived.Maps.OwnOps
import Derived.Test.YtjcbngpgmgeanaaGreatShapeM
import Derived.Test.YtjcbngpgmgeanaaGreatCanon
import Derived.Deep.Slices
/- Plain mathematics of pieces, second part: together they are the region, and have its area; each one is its own only piece. -/
namespace Go.Proofs.YtjcbngpgmgeanaaGreat
open Go.RowKit
open Reg (R4 Span Band inR canonL cntR)
set_option linter.unusedSimpArgs false
set_option linter.unusedVariables false

theorem cR_good {l : List R4} (h : regF l = 0) : Reg.Good l := (good_of_rects (regF_zero.1 h).1).1
theorem rowed_of {l : List R4} (h : regF l = 0) : Rowed l := by
  have h2 := (regF_zero.1 h).2
  have := canon_rowed (cR_good h)
  rw [← h2] at this
  exact this
theorem told_nodup {l : List R4} (hg : Reg.Good l) : (canonL l).Nodup := by
  obtain ⟨⟨z, h⟩, _⟩ := Reg.bandsC_ok hg
  have := told_pair h
  unfold canonL
  refine List.Pairwise.imp (fun {p u} hpu e => ?_) this
  subst e
  have := lessYX_iff.1 hpu
  omega
theorem nodup_of {l : List R4} (h : regF l = 0) : l.Nodup := by
  have h2 := (regF_zero.1 h).2
  have := told_nodup (cR_good h)
  rw [← h2] at this
  exact this
/-- A list by its places. -/
theorem by_place (l : List R4) : (List.range l.length).map (fun j => l.getD j ⟨0, 0, 0, 0⟩) = l := by
  apply List.ext_getElem?
  intro i
  by_cases h : i < l.length
  · simp [h, List.getD]
  · simp [h]
theorem own_list (l : List R4) (i : Nat) : (own_ l i).Sublist l := by
  have : (own_ l i).Sublist ((List.range l.length).map (fun j => l.getD j ⟨0, 0, 0, 0⟩)) := List.Sublist.map _ List.filter_sublist
  rw [by_place] at this
  exact this
theorem own_canon {l : List R4} (h : regF l = 0) (i : Nat) : (canonL (own_ l i)).length ≤ (own_ l i).length := by
  refine canon_count fun r hr s hs => ?_
  exact region_banded h r (own_sub r hr) s (own_sub s hs)
theorem own_inR {l : List R4} (h : regF l = 0) (i : Nat) (x y : Int) : inR (canonL (own_ l i)) x y ↔ inR (own_ l i) x y := canon_inR (own_good (cR_good h) i) x y
theorem own_reg {l : List R4} (h : regF l = 0) (i : Nat) : regF (canonL (own_ l i)) = 0 := by
  have h1 := (rectsF_zero.1 (regF_zero.1 h).1)
  have h2 := own_canon h i
  have h3 := (own_list l i).length_le
  refine reg_canon (own_good (cR_good h) i) (by omega) fun x y hx => ?_
  obtain ⟨r, hr, hh⟩ := hx
  exact inR_range h1.2 x y ⟨r, own_sub r hr, hh⟩
theorem count_range (k : Nat) : ∀ n : Nat, (List.range n).count k = if k < n then 1 else 0
  | 0 => by simp
  | n + 1 => by
    rw [List.range_succ, List.count_append, count_range k n, List.count_singleton]
    by_cases h : k < n
    · have : (n == k) = false := by simp; omega
      simp [h, this]; omega
    · by_cases h2 : n = k
      · subst h2; simp
      · have : (n == k) = false := by simpa using h2
        simp [h, this]; omega
/-- Sums over classes. -/
theorem sum_classes (f : Nat → Nat) (g : Nat → Int) (n : Nat) (hle : ∀ x, f x ≤ x) (hff : ∀ x, f (f x) = f x) :
    (((List.range n).filter fun i => decide (f i = i)).map fun i => (((List.range n).filter fun j => decide (f j = i)).map g).sum).sum = ((List.range n).map g).sum := by
  have key : ∀ m, m ≤ n → (((List.range n).filter fun i => decide (f i = i)).map fun i => (((List.range m).filter fun j => decide (f j = i)).map g).sum).sum = ((List.range m).map g).sum := by
    intro m
    induction m with
    | zero =>
      intro _
      simp only [List.range_zero, List.filter_nil, List.map_nil, List.sum_nil]
      generalize (List.range n).filter _ = I
      induction I with
      | nil => rfl
      | cons a I ih => simp only [List.map_cons, List.sum_cons, ih]; rfl
    | succ m ih =>
      intro hm
      have i1 := ih (by omega)
      have e : ∀ i, (((List.range (m + 1)).filter fun j => decide (f j = i)).map g).sum = (((List.range m).filter fun j => decide (f j = i)).map g).sum + if f m = i then g m else 0 := by
        intro i
        rw [List.range_succ, List.filter_append, List.map_append, List.sum_append]
        by_cases h : f m = i
        · simp [h]
        · simp [h]
      have one : ∀ (k : Nat) (I : List Nat) (v : Int), (I.map fun i => if k = i then v else 0).sum = (I.count k : Int) * v := by
        intro k I v
        induction I with
        | nil => simp
        | cons a I ih2 =>
          simp only [List.map_cons, List.sum_cons, ih2, List.count_cons]
          by_cases h : k = a
          · subst h; simp [Int.add_mul]; omega
          · have h' : (a == k) = false := by simp; exact fun e => h e.symm
            simp [h, h']
      have split_ : ∀ (I : List Nat) (p q : Nat → Int), (I.map fun i => p i + q i).sum = (I.map p).sum + (I.map q).sum := by
        intro I p q
        induction I with
        | nil => rfl
        | cons a I ih2 => simp only [List.map_cons, List.sum_cons, ih2]; omega
      rw [show (fun i => (((List.range (m + 1)).filter fun j => decide (f j = i)).map g).sum) = fun i => (((List.range m).filter fun j => decide (f j = i)).map g).sum + if f m = i then g m else 0 from funext e, split_, i1, one,
        List.range_succ, List.map_append, List.sum_append]
      have hc : ((List.range n).filter fun i => decide (f i = i)).count (f m) = 1 := by
        rw [List.count_filter (by simp [hff])]
        have := hle m
        rw [count_range, if_pos (by omega)]
      rw [hc]
      simp
  exact key n (Nat.le_refl _)
theorem map_sum_own (l : List R4) (g : R4 → Int) (i : Nat) : ((own_ l i).map g).sum = (((List.range l.length).filter fun j => decide (fst_ l j = i)).map fun j => g (l.getD j ⟨0, 0, 0, 0⟩)).sum := by
  unfold own_
  rw [List.map_map]
  rfl
theorem sum_own (l : List R4) (g : R4 → Int) : (((List.range l.length).filter fun i => decide (fst_ l i = i)).map fun i => ((own_ l i).map g).sum).sum = (l.map g).sum := by
  rw [show (fun i => ((own_ l i).map g).sum) = fun i => (((List.range l.length).filter fun j => decide (fst_ l j = i)).map fun j => g (l.getD j ⟨0, 0, 0, 0⟩)).sum from funext fun i => map_sum_own l g i,
    sum_classes (fst_ l) _ _ (fst_ok l).le (fst_ok l).ff]
  conv => rhs; rw [← by_place l]
  rw [List.map_map]
  rfl
theorem cnt_sub {a l : List R4} (h : a.Sublist l) (x y : Int) : cntR a x y ≤ cntR l x y := by
  induction h with
  | slnil => exact Int.le_refl _
  | cons r _ ih => rw [Reg.cntR_cons]; split <;> omega
  | cons_cons r _ ih => rw [Reg.cntR_cons, Reg.cntR_cons]; omega
theorem cnt_le {l : List R4} (h : regF l = 0) (x y : Int) : cntR l x y ≤ 1 := by
  classical
  rw [cnt_region h]
  split <;> omega
theorem area_own {l : List R4} (h : regF l = 0) (i : Nat) : areaL (canonL (own_ l i)) = areaL (own_ l i) := by
  classical
  have h1 := (rectsF_zero.1 (regF_zero.1 h).1)
  rw [area_region (own_reg h i), area_sum (fun r hr => h1.2 r (own_sub r hr))]
  refine boxS_congr fun x y => ?_
  rw [cnt_region (own_reg h i)]
  have a1 := Reg.cntR_nonneg (own_ l i) x y
  have a2 := Int.le_trans (cnt_sub (own_list l i) x y) (cnt_le h x y)
  by_cases hin : inR (own_ l i) x y
  · rw [if_pos ((own_inR h i x y).2 hin)]
    have := Reg.cntR_pos.2 hin
    omega
  · rw [if_neg (fun k => hin ((own_inR h i x y).1 k))]
    exact (cntR_zero_iff.2 hin).symm
theorem pcs_area {l : List R4} (h : regF l = 0) : ((pcsL l).map areaL).sum = areaL l := by
  unfold pcsL
  rw [List.map_map, show (areaL ∘ fun i => canonL (own_ l i)) = fun i => ((own_ l i).map fun r => (r.x1 - r.x0) * (r.y1 - r.y0)).sum from funext fun i => area_own h i, sum_own]
  rfl
theorem sum_const (l : List R4) : (l.map fun _ => (1 : Int)).sum = l.length := by
  induction l with
  | nil => rfl
  | cons r l ih => simp only [List.map_cons, List.sum_cons, ih, List.length_cons]; omega
theorem pcs_len {l : List R4} (h : regF l = 0) : (pcsL l).flatten.length ≤ l.length := by
  have e1 := sum_own l (fun _ => 1)
  rw [sum_const] at e1
  have key : ∀ I : List Nat, ((I.map fun i => canonL (own_ l i)).flatten.length : Int) ≤ (I.map fun i => ((own_ l i).map fun _ => (1 : Int)).sum).sum := by
    intro I
    induction I with
    | nil => simp
    | cons i I ih =>
      have := own_canon h i
      simp only [List.map_cons, List.flatten_cons, List.length_append, List.sum_cons, sum_const] at *
      omega
  have := key ((List.range l.length).filter fun i => decide (fst_ l i = i))
  rw [e1] at this
  unfold pcsL
  omega
theorem mem_pcs {l : List R4} {P : List R4} : P ∈ pcsL l ↔ ∃ i, i < l.length ∧ fst_ l i = i ∧ P = canonL (own_ l i) := by
  simp only [pcsL, List.mem_map, List.mem_filter, List.mem_range, decide_eq_true_eq]
  constructor
  · rintro ⟨i, ⟨h1, h2⟩, rfl⟩; exact ⟨i, h1, h2, rfl⟩
  · rintro ⟨i, h1, h2, rfl⟩; exact ⟨i, ⟨h1, h2⟩, rfl⟩
theorem pcs_inR {l : List R4} (h : regF l = 0) (x y : Int) : inR (pcsL l).flatten x y ↔ inR l x y := by
  constructor
  · rintro ⟨r, hr, hh⟩
    obtain ⟨P, hP, hr⟩ := List.mem_flatten.1 hr
    obtain ⟨i, _, _, rfl⟩ := mem_pcs.1 hP
    obtain ⟨s, hs, hk⟩ := (own_inR h i x y).1 ⟨r, hr, hh⟩
    exact ⟨s, own_sub s hs, hk⟩
  · rintro ⟨r, hr, hh⟩
    obtain ⟨j, hj, e⟩ := List.getElem_of_mem hr
    have hle := (fst_ok l).le j
    obtain ⟨s, hs, hk⟩ := (own_inR h (fst_ l j) x y).2 ⟨r, mem_own.2 ⟨j, by rw [List.getElem?_eq_getElem hj, e], rfl⟩, hh⟩
    exact ⟨s, List.mem_flatten.2 ⟨_, mem_pcs.2 ⟨fst_ l j, by omega, (fst_ok l).ff j, rfl⟩, hs⟩, hk⟩
theorem pcs_region {l : List R4} (h : regF l = 0) : rgF (pcsL l).flatten = 0 ∧ rgL (pcsL l).flatten = l := by
  have h1 := (rectsF_zero.1 (regF_zero.1 h).1)
  have hl := pcs_len h
  have hr : rectsF (pcsL l).flatten = 0 := rectsF_zero.2 ⟨by omega, fun r hr => by
    obtain ⟨P, hP, hr⟩ := List.mem_flatten.1 hr
    obtain ⟨i, _, _, rfl⟩ := mem_pcs.1 hP
    exact (rectsF_zero.1 (regF_zero.1 (own_reg h i)).1).2 r hr⟩
  have hc : canonL (pcsL l).flatten = l := by
    rw [Reg.canon_unique (good_of_rects hr).1 (cR_good h) (pcs_inR h)]
    exact (regF_zero.1 h).2.symm
  have h0 : rgF (pcsL l).flatten = 0 := rgF_zero.2 ⟨hr, by rw [hc]; omega⟩
  exact ⟨h0, by rw [rgL_of h0, hc]⟩
theorem own_all {P : List R4} (h : ∀ a, a < P.length → fst_ P a = 0) : own_ P 0 = P := by
  unfold own_
  rw [List.filter_eq_self.2 (fun a ha => by simp [h a (List.mem_range.1 ha)]), by_place]
/-- A piece is its own only piece. -/
theorem pcs_self {l P : List R4} (h : regF l = 0) (hP : P ∈ pcsL l) : regF P = 0 ∧ P ≠ [] ∧ pcsL P = [P] := by
  obtain ⟨i, hi, hf, rfl⟩ := mem_pcs.1 hP
  have hr := own_reg h i
  have hg := cR_good h
  have hmem : l[i] ∈ own_ l i := mem_own.2 ⟨i, List.getElem?_eq_getElem hi, hf⟩
  have hne : canonL (own_ l i) ≠ [] := by
    intro e
    have g := hg l[i] (List.getElem_mem hi)
    have : inR (canonL (own_ l i)) l[i].x0 l[i].y0 := (own_inR h i _ _).2 ⟨l[i], hmem, by simp only [R4.has]; omega⟩
    rw [e] at this
    obtain ⟨r, hr, _⟩ := this
    cases hr
  refine ⟨hr, hne, ?_⟩
  have hn := told_nodup (own_good hg i)
  have all0 : ∀ a, a < (canonL (own_ l i)).length → fst_ (canonL (own_ l i)) a = 0 := by
    intro a ha
    have h0 : 0 < (canonL (own_ l i)).length := by omega
    rw [piece_one hg (rowed_of h) (nodup_of h) hn (List.getElem?_eq_getElem ha) (List.getElem?_eq_getElem h0)]
    have := (fst_ok (canonL (own_ l i))).le 0
    omega
  have hown : own_ (canonL (own_ l i)) 0 = canonL (own_ l i) := own_all all0
  have hidx : ((List.range (canonL (own_ l i)).length).filter fun a => decide (fst_ (canonL (own_ l i)) a = a)) = [0] := by
    obtain ⟨n, hn⟩ : ∃ n, (canonL (own_ l i)).length = n + 1 := by
      cases hL : canonL (own_ l i) with
      | nil => exact absurd hL hne
      | cons r t => exact ⟨t.length, rfl⟩
    rw [hn, List.range_succ_eq_map, List.filter_cons]
    have h0 := all0 0 (by omega)
    rw [if_pos (by simp [h0])]
    congr 1
    rw [List.filter_eq_nil_iff]
    intro a ha
    obtain ⟨b, hb, rfl⟩ := List.mem_map.1 ha
    have := all0 (b + 1) (by have := List.mem_range.1 hb; omega)
    simp [this]
  unfold pcsL
  rw [hidx, List.map_singleton, hown, ← (regF_zero.1 hr).2]
end Go.Proofs.YtjcbngpgmgeanaaGreat
/- What package shape's parts builds: plain lemmas on the parts, and the world that holds a row of rows each in a block of its own. -/
namespace Go.Proofs.YtjcbngpgmgeanaaGreat
open Go.RowKit Go.ChangeShapes
open Reg (R4 canonL)
set_option linter.unusedSimpArgs false
set_option linter.unusedVariables false

/-! ## Plain -/
theorem nodup_inj {α : Type} {L : List α} (h : L.Nodup) {i j : Nat} {x : α} (hi : L[i]? = some x) (hj : L[j]? = some x) : i = j := by
  obtain ⟨h1, e1⟩ := List.getElem?_eq_some_iff.1 hi
  obtain ⟨h2, e2⟩ := List.getElem?_eq_some_iff.1 hj
  have hp := List.pairwise_iff_getElem.1 h
  rcases Nat.lt_trichotomy i j with h3 | h3 | h3
  · exact absurd (e1.trans e2.symm) (hp i j h1 h2 h3)
  · exact h3
  · exact absurd (e2.trans e1.symm) (hp j i h2 h1 h3)
/-- The first rectangles of parts, below k. -/
def frs (l : List R4) (k : Nat) : List Nat := (List.range k).filter fun i => decide (fst_ l i = i)
/-- What belongs to a part, below k. -/
def ownK (l : List R4) (k i : Nat) : List R4 := ((List.range k).filter fun j => decide (fst_ l j = i)).map fun j => l.getD j ⟨0, 0, 0, 0⟩
/-- The parts' rectangles below k, with an empty place for a part that begins at k. -/
def plsK (l : List R4) (m k : Nat) : List (List R4) := (frs l m).map (ownK l k)
theorem frs_succ (l : List R4) (k : Nat) : frs l (k + 1) = frs l k ++ if fst_ l k = k then [k] else [] := by
  unfold frs
  rw [List.range_succ, List.filter_append]
  congr 1
  by_cases h : fst_ l k = k
  · rw [if_pos h, List.filter_cons, if_pos (decide_eq_true h)]; rfl
  · rw [if_neg h, List.filter_cons, if_neg (by rw [decide_eq_false h]; simp)]; rfl
theorem ownK_succ (l : List R4) (k i : Nat) : ownK l (k + 1) i = ownK l k i ++ if fst_ l k = i then [l.getD k ⟨0, 0, 0, 0⟩] else [] := by
  unfold ownK
  rw [List.range_succ, List.filter_append, List.map_append]
  congr 1
  by_cases h : fst_ l k = i
  · rw [if_pos h, List.filter_cons, if_pos (decide_eq_true h)]; rfl
  · rw [if_neg h, List.filter_cons, if_neg (by rw [decide_eq_false h]; simp)]; rfl
theorem ownK_end (l : List R4) (i : Nat) : ownK l l.length i = own_ l i := rfl
theorem ownK_sub {l : List R4} {k i : Nat} (hk : k ≤ l.length) : ∀ r, r ∈ ownK l k i → r ∈ l := fun r hr => by
  simp only [ownK, List.mem_map, List.mem_filter, List.mem_range] at hr
  obtain ⟨j, ⟨hj, _⟩, rfl⟩ := hr
  rw [List.getD_eq_getElem?_getD, List.getElem?_eq_getElem (by omega)]
  exact List.getElem_mem _
theorem ownK_len (l : List R4) (k i : Nat) : (ownK l k i).length ≤ k := by
  unfold ownK
  rw [List.length_map]
  have := List.length_filter_le (fun j => decide (fst_ l j = i)) (List.range k)
  rwa [List.length_range] at this
theorem ownK_new (l : List R4) (k : Nat) : ownK l k k = [] := by
  unfold ownK
  rw [List.map_eq_nil_iff, List.filter_eq_nil_iff]
  intro j hj
  have h1 := (fst_ok l).le j
  have h2 := List.mem_range.1 hj
  simp
  omega
theorem frs_len (l : List R4) (k : Nat) : (frs l k).length ≤ k := by
  unfold frs
  have := List.length_filter_le (fun i => decide (fst_ l i = i)) (List.range k)
  rwa [List.length_range] at this
theorem plsK_len (l : List R4) (m k : Nat) : (plsK l m k).length = (frs l m).length := by simp [plsK]
theorem frs_nodup (l : List R4) (k : Nat) : (frs l k).Nodup := List.Nodup.sublist List.filter_sublist List.nodup_range
theorem mem_frs {l : List R4} {k i : Nat} : i ∈ frs l k ↔ i < k ∧ fst_ l i = i := by simp [frs]
/-- A part of which the first one is k begins. -/
theorem pls_push {l : List R4} {k : Nat} (h : fst_ l k = k) : plsK l (k + 1) k = plsK l k k ++ [[]] := by
  unfold plsK
  rw [frs_succ, if_pos h, List.map_append, List.map_singleton, ownK_new]
theorem pls_same {l : List R4} {k : Nat} (h : fst_ l k ≠ k) : plsK l (k + 1) k = plsK l k k := by
  unfold plsK
  rw [frs_succ, if_neg h, List.append_nil]
/-- Rectangle k goes to the part of its first one. -/
theorem pls_put {l : List R4} {k c : Nat} (hc : (frs l (k + 1))[c]? = some (fst_ l k)) : plsK l (k + 1) (k + 1) = (plsK l (k + 1) k).set c (ownK l k (fst_ l k) ++ [l.getD k ⟨0, 0, 0, 0⟩]) := by
  apply List.ext_getElem?
  intro j
  obtain ⟨hcl, hce⟩ := List.getElem?_eq_some_iff.1 hc
  by_cases hj : j = c
  · subst hj
    rw [List.getElem?_set_self (by rw [plsK_len]; exact hcl)]
    unfold plsK
    rw [List.getElem?_map, hc]
    simp only [Option.map_some]
    rw [ownK_succ, if_pos rfl]
  · rw [List.getElem?_set_ne (fun e => hj e.symm)]
    unfold plsK
    rw [List.getElem?_map, List.getElem?_map]
    cases hx : (frs l (k + 1))[j]? with
    | none => rfl
    | some i =>
      have hne : fst_ l k ≠ i := by
        intro e
        subst e
        exact hj (nodup_inj (frs_nodup l (k + 1)) hx hc)
      simp only [Option.map_some]
      rw [ownK_succ, if_neg hne, List.append_nil]
theorem pls_at {l : List R4} {m k c i : Nat} (h : (frs l m)[c]? = some i) : (plsK l m k)[c]? = some (ownK l k i) := by
  unfold plsK; rw [List.getElem?_map, h]; rfl
theorem pls_end (l : List R4) : (plsK l l.length l.length).map canonL = pcsL l := by
  unfold plsK pcsL frs
  rw [List.map_map]
  rfl
/-- The number of a part, by its first rectangle. -/
def rnk (l : List R4) (i : Nat) : Nat := (frs l i).length
theorem rnk_at {l : List R4} {i : Nat} (h : fst_ l i = i) : ∀ {k : Nat}, i < k → (frs l k)[rnk l i]? = some i := by
  intro k
  induction k with
  | zero => intro hk; omega
  | succ k ih =>
    intro hk
    rw [frs_succ]
    by_cases e : i = k
    · subst e
      rw [if_pos h]
      unfold rnk
      simp
    · have := ih (by omega)
      rw [List.getElem?_append_left (List.getElem?_eq_some_iff.1 this).1]
      exact this

/-- The first m lists in their canonical form. -/
def mixC (ls : List (List R4)) (m : Nat) : List (List R4) := (ls.take m).map canonL ++ ls.drop m
theorem mixC_zero (ls : List (List R4)) : mixC ls 0 = ls := by simp [mixC]
theorem mixC_end (ls : List (List R4)) : mixC ls ls.length = ls.map canonL := by simp [mixC]
theorem mixC_len (ls : List (List R4)) (m : Nat) : (mixC ls m).length = ls.length := by simp [mixC]; omega
theorem mixC_at {ls : List (List R4)} {m : Nat} (h : m < ls.length) : (mixC ls m)[m]? = some ls[m] := by
  unfold mixC
  rw [List.getElem?_append_right (by simp; omega)]
  simp [Nat.min_eq_left (Nat.le_of_lt h), h]
theorem mixC_set {ls : List (List R4)} {m : Nat} (h : m < ls.length) : (mixC ls m).set m (canonL ls[m]) = mixC ls (m + 1) := by
  have hl : ((ls.take m).map canonL).length = m := by simp; omega
  unfold mixC
  rw [List.set_append_right _ _ (by omega), hl, Nat.sub_self, List.drop_eq_getElem_cons h, List.set_cons_zero, List.take_succ_eq_append_getElem h, List.map_append, List.append_assoc]
  rfl

/-! ## The world -/
/-- A row of rows each in a block of its own. -/
structure PtW (gm : Nat) (ov : Value) (rows : List Value) (ls : List (List R4)) (wr : World) : Prop where
  o : wr.ownsRow (gm + 1) 22 1 ov rows.length rows
  n : rows.length = ls.length
  r : ∀ (c : Nat) (v : Value) (x : List R4), rows[c]? = some v → ls[c]? = some x → wr.ownsRow (gm + 1) 30 4 v x.length (cR x)
  d : ∀ (c c' : Nat) (v v' : Value) (g : Nat), rows[c]? = some v → rows[c']? = some v' → v.ownBlock = some g → v'.ownBlock = some g → c = c'
  e : ∀ (c : Nat) (v : Value) (g : Nat), rows[c]? = some v → v.ownBlock = some g → ov.ownBlock ≠ some g
theorem PtW.start (gm : Nat) (wr : World) : PtW gm (.slice none 0 0) [] [] wr where
  o := ⟨by simp, .inl ⟨rfl, rfl⟩⟩
  n := rfl
  r c v x h := by simp at h
  d c c' v v' g h := by simp at h
  e c v g h := by simp at h
theorem PtW.get {gm : Nat} {ov : Value} {rows : List Value} {ls : List (List R4)} {wr : World} (h : PtW gm ov rows ls wr) {c : Nat} {x : List R4} (hc : ls[c]? = some x) : ∃ v, rows[c]? = some v ∧ wr.ownsRow (gm + 1) 30 4 v x.length (cR x) := by
  have hl := (List.getElem?_eq_some_iff.1 hc).1
  have hr := List.getElem?_eq_getElem (l := rows) (i := c) (by have := h.n; omega)
  exact ⟨_, hr, h.r c _ x hr hc⟩
theorem PtW.kept {gm : Nat} {ov : Value} {rows : List Value} {ls : List (List R4)} {wr w' : World} (h : PtW gm ov rows ls wr) {row : Option Nat} (hg : wr.grownBy w' row) (hr : ∀ j, row = some j → j ≤ gm) : PtW gm ov rows ls w' where
  o := own_grown h.o hg (fun g e e2 => by have := (h.o.lt g e).1; have := hr g e2; omega)
  n := h.n
  r c v x h1 h2 := own_grown (h.r c v x h1 h2) hg (fun g e e2 => by have := ((h.r c v x h1 h2).lt g e).1; have := hr g e2; omega)
  d := h.d
  e := h.e
/-- Every row has its block below the world's end. -/
theorem PtW.lt {gm : Nat} {ov : Value} {rows : List Value} {ls : List (List R4)} {wr : World} (h : PtW gm ov rows ls wr) {c : Nat} {v : Value} (hv : rows[c]? = some v) {g : Nat} (hg : v.ownBlock = some g) : gm + 1 ≤ g ∧ g < wr.heap.size := by
  have hl := (List.getElem?_eq_some_iff.1 hv).1
  have hx := List.getElem?_eq_getElem (l := ls) (i := c) (by have := h.n; omega)
  exact (h.r c v _ hv hx).lt g hg
/-- An empty row is put behind. -/
theorem PtW.push {gm : Nat} {ov nv : Value} {rows : List Value} {ls : List (List R4)} {wr w' : World} (h : PtW gm ov rows ls wr) (ho : w'.ownsRow (gm + 1) 22 1 nv (rows.length + 1) (rows ++ [.slice none 0 0])) (hg : wr.grownBy w' ov.ownBlock)
    (hn : nv.ownBlock = ov.ownBlock ∨ ∃ g, nv.ownBlock = some g ∧ wr.heap.size ≤ g) : PtW gm nv (rows ++ [.slice none 0 0]) (ls ++ [[]]) w' := by
  have key : ∀ (c : Nat) (v : Value), (rows ++ [Value.slice none 0 0])[c]? = some v → (rows[c]? = some v) ∨ (c = rows.length ∧ v = .slice none 0 0) := by
    intro c v hv
    by_cases hc : c < rows.length
    · rw [List.getElem?_append_left hc] at hv; exact .inl hv
    · rw [List.getElem?_append_right (by omega)] at hv
      have : c - rows.length = 0 := by
        have := (List.getElem?_eq_some_iff.1 hv).1
        simp at this; omega
      rw [this] at hv
      exact .inr ⟨by omega, by simpa using hv.symm⟩
  refine ⟨by simpa using ho, by simp [h.n], fun c v x hv hx => ?_, fun c c' v v' g hv hv' e e' => ?_, fun c v g hv e e2 => ?_⟩
  · rcases key c v hv with h1 | ⟨rfl, rfl⟩
    · have hc := (List.getElem?_eq_some_iff.1 h1).1
      rw [List.getElem?_append_left (by have := h.n; omega)] at hx
      exact own_grown (h.r c v x h1 hx) hg (fun g e e2 => h.e c v g h1 e e2)
    · rw [h.n, List.getElem?_append_right (Nat.le_refl _), Nat.sub_self] at hx
      simp at hx
      subst hx
      exact ⟨by simp [cR], .inl ⟨rfl, rfl⟩⟩
  · rcases key c v hv with h1 | ⟨rfl, rfl⟩
    · rcases key c' v' hv' with h2 | ⟨rfl, rfl⟩
      · exact h.d c c' v v' g h1 h2 e e'
      · cases e'
    · cases e
  · rcases key c v hv with h1 | ⟨rfl, rfl⟩
    · rcases hn with hn | ⟨g', hn, hge⟩
      · exact h.e c v g h1 e (hn.symm.trans e2)
      · have h3 := (h.lt h1 e).2
        rw [hn] at e2
        cases e2
        omega
    · cases e
/-- A row is put in the place of one. -/
theorem PtW.put {gm go cap : Nat} {rows : List Value} {ls : List (List R4)} {wr w' : World} {c : Nat} {v nv : Value} {x : List R4} (h : PtW gm (.slice (some ⟨go, 0, none⟩) rows.length cap) rows ls wr) (hv : rows[c]? = some v) {row : Option Nat} (hg : wr.grownBy w' row) (hrow : row = none ∨ row = v.ownBlock)
    (ho : w'.ownsRow (gm + 1) 30 4 nv x.length (cR x)) (hn : ∀ g, nv.ownBlock = some g → v.ownBlock = some g ∨ wr.heap.size ≤ g) :
    PtW gm (.slice (some ⟨go, 0, none⟩) rows.length cap) (rows.set c nv) (ls.set c x) (w'.setCell ⟨go, c, none⟩ nv) := by
  have hcl := (List.getElem?_eq_some_iff.1 hv).1
  have h0 := h.n
  have hov := h.e
  have key : ∀ (j : Nat) (u : Value), (rows.set c nv)[j]? = some u → (j ≠ c ∧ rows[j]? = some u) ∨ (j = c ∧ u = nv) := by
    intro j u hu
    by_cases hj : c = j
    · subst hj
      rw [List.getElem?_set_self hcl] at hu
      exact .inr ⟨rfl, (Option.some.inj hu).symm⟩
    · rw [List.getElem?_set_ne hj] at hu
      exact .inl ⟨fun e => hj e.symm, hu⟩
  have hgo : (Value.slice (some ⟨go, 0, none⟩) rows.length cap).ownBlock = some go := rfl
  have ngo := (h.o.lt go hgo).2
  have nvo : nv.ownBlock ≠ some go := by
    intro e
    rcases hn go e with h1 | h1
    · exact h.e c v go hv h1 hgo
    · omega
  have hrow2 : ∀ g, row = some g → v.ownBlock = some g := fun g e => by
    rcases hrow with h1 | h1
    · rw [h1] at e; cases e
    · exact h1 ▸ e
  have hO : w'.ownsRow (gm + 1) 22 1 (.slice (some ⟨go, 0, none⟩) rows.length cap) rows.length rows :=
    own_grown h.o hg (fun g e e2 => h.e c v g hv (hrow2 g e2) e)
  refine ⟨?_, by simp [h0], fun j u y hu hy => ?_, fun j j' u u' g hu hu' e e' => ?_, fun j u g hu e e2 => ?_⟩
  · have := own_setC hO (j := c) (by omega) nv
    simpa using this
  · rcases key j u hu with ⟨hj, h1⟩ | ⟨rfl, rfl⟩
    · rw [List.getElem?_set_ne (fun e => hj e.symm)] at hy
      refine ownsRow_setCell_other ?_ (fun e => h.e j u go h1 e hgo) nv
      exact own_grown (h.r j u y h1 hy) hg (fun g e e2 => hj (h.d j c u v g h1 hv e (hrow2 g e2)))
    · rw [List.getElem?_set_self (by omega)] at hy
      obtain rfl := Option.some.inj hy
      exact ownsRow_setCell_other ho nvo _
  · rcases key j u hu with ⟨hj, h1⟩ | ⟨rfl, rfl⟩
    · rcases key j' u' hu' with ⟨hj', h2⟩ | ⟨rfl, rfl⟩
      · exact h.d j j' u u' g h1 h2 e e'
      · rcases hn g e' with h3 | h3
        · exact h.d j j' u v g h1 hv e h3
        · have := (h.lt h1 e).2; omega
    · rcases key j' u' hu' with ⟨hj', h2⟩ | ⟨rfl, rfl⟩
      · rcases hn g e with h3 | h3
        · exact h.d j j' v u' g hv h2 h3 e'
        · have := (h.lt h2 e').2; omega
      · rfl
  · rcases key j u hu with ⟨hj, h1⟩ | ⟨rfl, rfl⟩
    · exact h.e j u g h1 e e2
    · rw [hgo] at e2
      cases e2
      exact nvo e
end Go.Proofs.YtjcbngpgmgeanaaGreat
/- parts of package shape, whatever the world. -/
namespace Go.Proofs.YtjcbngpgmgeanaaGreat
open Go.RowKit Go.ChangeShapes Go.Maps
open Reg (R4 canonL)
set_option linter.unusedSimpArgs false
set_option linter.unusedVariables false

theorem infoSl : (Tryz.prog.info? 22).map (fun i => (i.zero, i.size, i.bytes)) = some (some (.slice none 0 0), 1, 24) := by kernel_rfl
theorem zeroI (w : World) : (zeroValue 3).run Tryz.prog w = .ok (.int .i64 0) w := by kernel_rfl
abbrev OwnN (w : World) (b n : Nat) (D : DataW Unit) : Prop := w.ownsMap Tryz.prog 3 (plainElem (H := Unit) Tryz.prog 3) b n D
/-- A map tells the number of every part that begins below k. -/
def NumD (l : List R4) (k : Nat) (D : DataW Unit) : Prop := Maps.IsMap D ∧ ∀ i : Nat, i < k → fst_ l i = i → D.atKey (.int .i64 (i : Int)) (.lit (.int .i64 0)) = .lit (.int .i64 (rnk l i : Int))
theorem numD_start (l : List R4) : NumD l 0 (.map []) := ⟨Maps.isMap_empty, fun i hi => by omega⟩
theorem numD_skip {l : List R4} {k : Nat} {D : DataW Unit} (h : NumD l k D) (hk : fst_ l k ≠ k) : NumD l (k + 1) D := ⟨h.1, fun i hi e => h.2 i (Nat.lt_of_le_of_ne (by omega) (fun e2 => hk (e2 ▸ e))) e⟩
theorem numD_put {l : List R4} {k : Nat} {D : DataW Unit} (h : NumD l k D) : NumD l (k + 1) (D.put (.int .i64 (k : Int)) (.lit (.int .i64 (rnk l k : Int)))) := by
  refine ⟨h.1.put _ _, fun i hi e => ?_⟩
  by_cases e2 : i = k
  · subst e2
    rw [Maps.atKey_put_same h.1 (by simp [WideAt.IsKeyLit])]
  · rw [Maps.atKey_put_other (by simp; omega)]
    exact h.2 i (by omega) e
/-- The world while the parts are gathered. -/
structure PgW (w : World) (l : List R4) (g m k : Nat) (ov : Value) (rows : List Value) (D : DataW Unit) (wr : World) : Prop where
  p : PtW g ov rows (plsK l m k) wr
  n : NumD l m D
  m : OwnN wr w.heap.size m D
  t : NumsAt wr g ((List.range l.length).map (fst_ l))
  z : Below w.heap.size w wr

theorem PgW.begin {w : World} {l : List R4} {g k : Nat} {ov nv : Value} {rows : List Value} {D : DataW Unit} {wr w2 w3 w5 : World} (hk : fst_ l k = k) (hg : w.heap.size < g) (h : PgW w l g k k ov rows D wr)
    (hm : OwnN w2 w.heap.size (k + 1) (D.put (.int .i64 (k : Int)) (.lit (.int .i64 (rows.length : Int))))) (g1 : wr.grownBy w2 (some w.heap.size)) (g2 : w2.grownBy w3 none)
    (ho : w5.ownsRow (g + 1) 22 1 nv (rows.length + 1) (rows ++ [.slice none 0 0])) (g3 : w3.grownBy w5 ov.ownBlock) (hn : nv.ownBlock = ov.ownBlock ∨ ∃ x, nv.ownBlock = some x ∧ w3.heap.size ≤ x) :
    PgW w l g (k + 1) k nv (rows ++ [.slice none 0 0]) (D.put (.int .i64 (k : Int)) (.lit (.int .i64 (rows.length : Int)))) w5 := by
  have hr : rows.length = rnk l k := h.p.n.trans (plsK_len _ _ _)
  have p2 := h.p.kept g1 (fun j hj => by cases hj; omega)
  have p3 := p2.kept g2 (fun j hj => by cases hj)
  have hov : ∀ x, ov.ownBlock = some x → g < x := fun x hx => (h.p.o.lt x hx).1
  have s1 := g1.size
  have s2 := g2.size
  have s0 := h.z.size
  refine ⟨by rw [pls_push hk]; exact p3.push ho g3 hn, by rw [hr]; exact numD_put h.n, (hm.kept g2 (by simp)).kept g3 (fun e => by have := hov _ e.symm; omega), ((h.t.grown g1 (fun e => by cases e; omega)).grown g2 (by simp)).grown g3 (fun e => by have := hov _ e.symm; omega), ?_⟩
  exact ((h.z.grown g1 s0 (fun j hj => by cases hj; exact Nat.le_refl _)).grown g2 (by omega) (fun j hj => by cases hj)).grown g3 (by omega) (fun j hj => by have := hov _ hj; omega)

theorem PgW.gather {w : World} {l : List R4} {g k f go cap : Nat} {v nv : Value} {rows : List Value} {D : DataW Unit} {wr w5 : World} {r : R4} (hf : fst_ l k = f) (hff : fst_ l f = f) (hr : l[k]? = some r) (hg : w.heap.size < g)
    (h : PgW w l g (k + 1) k (.slice (some ⟨go, 0, none⟩) rows.length cap) rows D wr) (hv : rows[rnk l f]? = some v) (g1 : wr.grownBy w5 v.ownBlock)
    (ho : w5.ownsRow (g + 1) 30 4 nv ((ownK l k f).length + 1) (cR (ownK l k f) ++ [.int .i64 r.x0, .int .i64 r.y0, .int .i64 r.x1, .int .i64 r.y1])) (hn : ∀ x, nv.ownBlock = some x → v.ownBlock = some x ∨ wr.heap.size ≤ x) :
    PgW w l g (k + 1) (k + 1) (.slice (some ⟨go, 0, none⟩) rows.length cap) (rows.set (rnk l f) nv) D (w5.setCell ⟨go, rnk l f, none⟩ nv) := by
  have hfle : f ≤ k := hf ▸ (fst_ok l).le k
  have hq := rnk_at hff (show f < k + 1 by omega)
  have hgo := (h.p.o.lt go rfl).1
  have hvb : ∀ x, v.ownBlock = some x → g < x := fun x hx => (h.p.lt hv hx).1
  have s1 := g1.size
  have s0 := h.z.size
  have hr2 : l.getD k ⟨0, 0, 0, 0⟩ = r := by rw [List.getD_eq_getElem?_getD, hr]; rfl
  have hc : (frs l (k + 1))[rnk l f]? = some (fst_ l k) := by rw [hf]; exact hq
  have g2 := grownBy_setAt w5 go (rnk l f) nv
  refine ⟨?_, h.n, (h.m.kept g1 (fun e => by have := hvb _ e.symm; omega)).kept g2 (fun e => by cases e; omega), (h.t.grown g1 (fun e => by have := hvb _ e.symm; omega)).grown g2 (fun e => by cases e; omega), ?_⟩
  · rw [pls_put hc, hf, hr2]
    refine h.p.put hv g1 (.inr rfl) ?_ hn
    rw [List.length_append, cR_append]
    exact ho
  · exact (h.z.grown g1 s0 (fun j hj => by have := hvb _ hj; omega)).grown g2 (by omega) (fun j hj => by cases hj; omega)

theorem own_low {w : World} {base base' size n : Nat} {T : TypeId} {v : Value} {xs : List Value} (h : w.ownsRow base T size v n xs) (hb : base' ≤ base) : w.ownsRow base' T size v n xs := by
  rcases own_open h with ⟨rfl, rfl⟩ | ⟨g, cap, cur, rfl, h1, h2, h3, h4, h5, h6⟩
  · exact ⟨h.1, .inl ⟨rfl, rfl⟩⟩
  · exact own_mk (by omega) h2 h3 h4 h5 h6
theorem PtW.lower {gm gm' : Nat} {ov : Value} {rows : List Value} {ls : List (List R4)} {wr : World} (h : PtW gm ov rows ls wr) (hg : gm' ≤ gm) : PtW gm' ov rows ls wr where
  o := own_low h.o (by omega)
  n := h.n
  r c v x h1 h2 := own_low (h.r c v x h1 h2) (by omega)
  d := h.d
  e := h.e

set_option maxRecDepth 100000 in
set_option maxHeartbeats 4000000 in
theorem parts_any (A : Option Addr) (l : List R4) (c : Nat) (w : World) (hl : l.length ≤ 20000) (hin : ∀ r, r ∈ l → Ry r) (hg : Reg.Good l) (h : Rd w A l) :
    Calls Tryz.prog 20 #[.slice A l.length c] w fun e w' => ∃ v rows, e = .returned v ∧ PtW w.heap.size v rows (pcsL l) w' ∧ Below w.heap.size w w' := by
  obtain ⟨i0, hi0, hz0, hz1, hz2⟩ := info_parts infoSl
  obtain ⟨i1, hi1, hy0, hy1, hy2⟩ := info_parts infoR
  have hmm := @run_makeMap Tryz.prog
  have H0 := Lib.hid h
  have HG := Lib.hid hg
  have B0 := (Below.refl w.heap.size w).alloc (Nat.le_refl _) (.map #[] 0)
  have C1 := Lib.hid (firsts_any A l c (w.alloc (.map #[] 0)) hl hin (h.below B0))
  clear h hg hin
  go_enter Tryz.func20, Tryz.ntmps20
  go_wp2_with (first | (go_at_call 45; refine C1.out.mono ?_; rintro e w1 ⟨g, cc, rfl, hN, hgz, hB⟩; have HN := Lib.hid hN; have HB := Lib.hid hB; have lg := hN.l; clear hN hB))
  have hgz' : w.heap.size < g := by simp at hgz; omega
  go_loopw [4, 13] (fun ov i wr => ∃ (k : Nat) (rows : List Value) (D : DataW Unit), k ≤ l.length ∧ i = .int .i64 k ∧ PgW w l g k k ov rows D wr) (fun _ i _ => l.length - (intOf i).toNat)
  case atStart =>
    refine ⟨0, [], .map [], Nat.zero_le _, rfl, PtW.start _ _, numD_start l, ?_, HN.out, ?_⟩
    · exact (World.ownsMap_made w Tryz.prog 3 _).kept (w' := w1) (gb_below (show (w.alloc (.map #[] 0)).grownBy (w.alloc (.map #[] 0)) none from ⟨rfl, rfl, rfl, Nat.le_refl _, fun _ _ _ => rfl⟩) HB.out (Nat.le_refl _)) (by simp)
    · exact B0.trans (HB.out.mono (by simp))
  case round =>
    obtain ⟨k, rows, D, hk, rfl, hW⟩ := hrel
    have HW := Lib.hid hW
    clear HN HB C1
    have zw := hW.z.size
    have lg2 := hW.t.l
    obtain ⟨Ao, co, hov, ho1, ho2, ho3⟩ := own_cells hW.p.o
    subst hov
    have ho2' : co ≤ 9223372036854775807 := ho2
    have hkz : (0 : Int) ≤ (k : Int) := by omega
    have hrl : rows.length = (frs l k).length := hW.p.n.trans (plsK_len _ _ _)
    have hrk := frs_len l k
    have hrl2 : rows.length ≤ k := by omega
    have HRL := Lib.hid hrl
    clear hW ho2 ho3 hrl hrk
    by_cases hlt : k < l.length
    · have hklt : (k : Int) < (l.length : Int) := by omega
      have hfle : fst_ l k ≤ k := (fst_ok l).le k
      have hff : fst_ l (fst_ l k) = fst_ l k := (fst_ok l).ff k
      have hT : ((List.range l.length).map (fst_ l))[k]? = some (fst_ l k) := by rw [List.getElem?_map, List.getElem?_range hlt]; rfl
      have cf := HW.out.t.c k _ hT
      have HFF := Lib.hid hff
      clear hT hff
      generalize hf : fst_ l k = f at hfle cf HFF
      have HFk := Lib.hid hf
      clear hf
      have hfz : (0 : Int) ≤ (f : Int) := by omega
      obtain ⟨w8, rfl⟩ : ∃ w8, w8 = wr := ⟨wr, rfl⟩
      go_upto_if 20 with fail
      go_cut [4] (fun s4 wx => ∃ (rows' : List Value) (D' : DataW Unit), PgW w l g (k + 1) k s4 rows' D' wx)
      case first =>
        by_cases hfk : f = k
        · have hd1 : ((f : Int) == (k : Int)) = true := by simp; omega
          subst hfk
          have hwf : (Lit.int .i64 (f : Int)).wf = true := WalkArith.wf_i64 (by omega)
          go_wp2_with (first
            | (at_mapUpdate; refine wpList_mapUpdate_own _ rfl (.tmp 21) (.tmp 22) (.tmp 24) 72 rfl 3 3 (Maps.int_keyed Tryz.underlying3) Tryz.underlying72 (plainElem (H := Unit) Tryz.prog 3) w.heap.size f D rfl HW.out.m (by simp only [maxLen]; omega) _ (.int .i64 (rows.length : Int)) (.int .i64 (f : Int)) rfl rfl (Maps.keyOf_int_mk Tryz.underlying3 hwf) (.lit (.int .i64 (rows.length : Int))) [] (plainElem_int Tryz.underlying3 (WalkArith.wf_i64 (by omega))) ?_; intro w2 hown2 hgrow2; have y2 := hgrow2.size)
            | (at_builtin; refine wpList_append_lies _ rfl (.tmp 25) (.tmp 26) 23 rfl (g + 1) 22 i0 (.slice none 0 0) 1 24 Tryz.underlying23 hi0 hz0 hz1 hz2 rfl (by omega) (.slice Ao rows.length co) rows.length rows rfl ((HW.out.p.kept hgrow2 (fun j hj => by cases hj; omega)).o.alloc _) ⟨w2.heap.size, 0, none⟩ 1 1 [.slice none 0 0] rfl rfl (cell_one_new _ _ _) (by simp [Value.oneCell']) (by omega) (by unfold maxLen; omega) (by omega) (by simp; omega) (w2.heap.size + 1) (by simp) ?_; intro gg cap w5 hown5 hgrow hat5 hlt5))
          go_wp2_with fail
          go_meet
          exact ⟨_, _, PgW.begin HFk.out hgz' HW.out hown2 hgrow2 (World.grownBy_alloc w2 _ none) hown5 hgrow (hat5.imp (fun h => h.symm) (fun h => ⟨gg, rfl, by simp; omega⟩))⟩
        · have hd1 : ((f : Int) == (k : Int)) = false := by simp; omega
          have hne : fst_ l k ≠ k := by rw [HFk.out]; exact hfk
          go_wp2_with fail
          go_meet
          exact ⟨rows, D, by rw [pls_same hne]; exact HW.out.p, numD_skip HW.out.n hne, HW.out.m.mono (Nat.le_succ _), HW.out.t, HW.out.z⟩
      case rest =>
        obtain ⟨rows', D', hP⟩ := hcut
        have HP := Lib.hid hP
        obtain ⟨A2, c2, hs4, -, p2, p3⟩ := own_cells hP.p.o
        subst hs4
        have p2' : c2 ≤ 9223372036854775807 := p2
        have hq := rnk_at HFF.out (show f < k + 1 by omega)
        obtain ⟨v, hv, hvo⟩ := hP.p.get (pls_at (k := k) hq)
        have hql := (List.getElem?_eq_some_iff.1 hv).1
        obtain ⟨go, e2, go1, go2, hcs⟩ := p3 (by omega)
        subst e2
        have hcell := hcs _ _ hv
        have hwf : (Lit.int .i64 (f : Int)).wf = true := WalkArith.wf_i64 (by omega)
        obtain ⟨cc0, hrun, hat, hwc⟩ := hP.m.lookup_int (Maps.int_keyed Tryz.underlying3) Tryz.underlying72 Tryz.underlying3 (zeroI _) (key := .int .i64 (f : Int)) (Maps.keyOf_int_mk Tryz.underlying3 hwf)
        rw [hP.n.2 f (by omega) HFF.out] at hat
        injection hat with hat
        injection hat with _ hat
        subst hat
        obtain ⟨b, off, eA, hb, hc⟩ := H0.out.below hP.z (by omega)
        subst eA
        have hi := List.getElem?_eq_getElem hlt
        obtain ⟨d0, d1, d2, d3⟩ := hc k _ hi
        have HI := Lib.hid hi
        have hnl := ownK_len l k f
        have zc := hP.z.size
        have hvb : ∀ x, v.ownBlock = some x → g < x := fun x hx => (hP.p.lt hv hx).1
        have hbw : b < w.heap.size := by
          obtain ⟨b', _, e', hb', _⟩ := H0.out (by omega)
          simp only [Option.some.injEq, Addr.mk.injEq] at e'
          omega
        have nb : v.ownBlock ≠ some b := fun e => by have := hvb _ e; omega
        have ng : v.ownBlock ≠ some go := fun e => hP.p.e _ v go hv e rfl
        have HV := Lib.hid hv
        have HVO := Lib.hid hvo
        have HVB := Lib.hid hvb
        clear hP p2 p3 hq hv hvo hcs hc hi hvb HW cf zw
        generalize l[k] = r at *
        have hqz : (0 : Int) ≤ (rnk l f : Int) := by omega
        have hqr : (rnk l f : Int) < (rows'.length : Int) := by omega
        go_wp2_with fail
        go_region_law
          (first
            | (refine step_append_lies _ rfl (.tmp 36) (.tmp 41) 22 rfl (g + 1) 30 i1 (.agg #[.int .i64 0, .int .i64 0, .int .i64 0, .int .i64 0]) 4 32 Tryz.underlying22 hi1 hy0 hy1 hy2 rfl (by omega) v (ownK l k f).length (cR (ownK l k f)) rfl ((HVO.out.alloc _).drew) ⟨wc.heap.size, 0, none⟩ 1 1 [.int .i64 r.x0, .int .i64 r.y0, .int .i64 r.x1, .int .i64 r.y1] rfl rfl (four_new _ _ _ _ _ _) (by simp [Value.oneCell']) (by omega) (by unfold maxLen; omega) (by omega) (by simp; omega) (wc.heap.size + 1) (by simp) ?_; intro gg cap w5 hown5 hgrow hat5 hlt5; have y5 := hgrow.size; (try simp only [World.size_alloc, World.size_setCell, World.size_drew] at y5); have O5 := own_grown ((HP.out.p.o.alloc _).drew) hgrow (fun x e e2 => by cases e; exact ng e2); have fz5 := O5.frozenAt (rnk l f); have cv5 := (O5.cellAt (rnk l f) (by omega)).trans HV.out; have HO5 := Lib.hid hown5; clear hown5 O5))
        go_wp2_with fail
        all_goals
          go_roundw
          case rel =>
            have hnb : ∀ x, (Value.slice (some ⟨gg, 0, none⟩) ((ownK l k f).length + 1) cap).ownBlock = some x → v.ownBlock = some x ∨ wc.heap.size ≤ x := by
              intro x e
              have e9 : gg = x := Option.some.inj e
              subst e9
              exact hat5.imp (fun h => h) (fun h => by rw [h]; exact Nat.le_succ _)
            exact ⟨k + 1, _, D', by omega, by go_num, PgW.gather HFk.out HFF.out HI.out hgz' HP.out HV.out ((gb_drew (World.grownBy_alloc wc _ v.ownBlock)).trans hgrow) HO5.out hnb⟩
          case measure => simp [intOf]; omega
    · obtain rfl : k = l.length := by omega
      have hlen : (plsK l l.length l.length).length = rows.length := by rw [plsK_len, HRL.out]
      have HLen := Lib.hid hlen
      clear hlen hlt hk hkz zw lg2
      obtain ⟨M, hM⟩ : ∃ M, M = plsK l l.length l.length := ⟨_, rfl⟩
      have HM := Lib.hid hM
      clear hM
      go_wp2_with fail
      go_loopw [47] (fun i wx => ∃ (m : Nat) (R2 : List Value), m ≤ rows.length ∧ i = .int .i64 m ∧ R2.length = rows.length ∧ PtW g (.slice Ao rows.length co) R2 (mixC M m) wx ∧ Below w.heap.size w wx) (fun i _ => rows.length - (intOf i).toNat)
      case atStart => exact ⟨0, rows, Nat.zero_le _, rfl, rfl, by rw [mixC_zero, HM.out]; exact HW.out.p, HW.out.z⟩
      case round =>
        obtain ⟨m, R2, hm, rfl, hR2, hP, hz⟩ := hrel
        have HP := Lib.hid hP
        have HZ := Lib.hid hz
        have HR2 := Lib.hid hR2
        have zw := hz.size
        have hmz : (0 : Int) ≤ (m : Int) := by omega
        have hML : M.length = rows.length := by rw [HM.out]; exact HLen.out
        by_cases hlt : m < rows.length
        · have hml : (m : Int) < (rows.length : Int) := by omega
          have hat := mixC_at (ls := M) (m := m) (by omega)
          have hset := Lib.hid (mixC_set (ls := M) (m := m) (by omega))
          have hmem : M[m] ∈ plsK l l.length l.length := (fun (y : List R4) (hy : y ∈ M) => (show y ∈ plsK l l.length l.length from HM.out ▸ hy)) _ (List.getElem_mem _)
          obtain ⟨i9, _, hi9⟩ := List.mem_map.1 hmem
          have hgd : Reg.Good M[m] := by rw [← hi9]; exact fun r hr => HG.out r (ownK_sub (Nat.le_refl _) r hr)
          have hsz : M[m].length ≤ 20000 := by rw [← hi9]; exact Nat.le_trans (ownK_len _ _ _) hl
          generalize M[m] = x at *
          obtain ⟨v, hv, hvo⟩ := hP.get hat
          obtain ⟨A2, c2, e1, p1, p2, p3⟩ := own_cells hP.o
          simp only [Value.slice.injEq] at e1
          obtain ⟨rfl, -, rfl⟩ := e1
          obtain ⟨Av, cv, rfl, _, _, hrd, _⟩ := rd_own hvo
          obtain ⟨go, rfl, go1, go2, hcs⟩ := p3 (by omega)
          have hcell := hcs _ _ hv
          have C1 := Lib.hid (covered_any Av x cv wr (by omega) hgd hrd)
          have hP2 : PtW g (.slice (some ⟨go, 0, none⟩) R2.length co) R2 (mixC M m) wr := by rw [hR2]; exact hP
          have HP2 := Lib.hid hP2
          have HV := Lib.hid hv
          clear hP hP2 hv hvo p1 p2 p3 hrd hcs hat hmem hgd hR2 hML hz
          go_wp2_with (first | (go_at_call 46; refine C1.out.mono ?_; rintro e w5 ⟨nv, rfl, hown5, hb5⟩; obtain ⟨A5, c5, hnv, -, -, -⟩ := own_cells hown5; subst hnv; have y5 := hb5.size; have g5 : wr.grownBy w5 none := ⟨hb5.os, hb5.tape, hb5.output, hb5.size, fun j hj _ => hb5.block j hj⟩; have O5 := own_grown HP2.out.o g5 (fun x e e2 => by cases e2); have fz5 := O5.frozenAt m; have cv5 := (O5.cellAt m (by rw [HR2.out]; omega)).trans HV.out; have HO5 := Lib.hid hown5; have G5 := Lib.hid g5; clear hown5 hb5 O5 g5))
          go_roundw
          case rel =>
            have h9 := HP2.out.put HV.out G5.out (.inl rfl) (own_low HO5.out (by omega)) (fun y e => .inr (HO5.out.lt y e).1)
            rw [hset.out, HR2.out] at h9
            exact ⟨m + 1, _, by omega, by go_num, by rw [List.length_set]; exact HR2.out, h9, (HZ.out.grown G5.out zw (fun j hj => by cases hj)).setCell (by show w.heap.size ≤ go; omega) _⟩
          case measure => simp [intOf]; omega
        · obtain rfl : m = rows.length := by omega
          go_wp2_with fail
          go_ret
          refine ⟨_, R2, rfl, ?_, HZ.out⟩
          have h9 := HP.out
          rw [← hML, mixC_end, HM.out, pls_end] at h9
          rw [← HLen.out]
          exact h9.lower (by omega)
end Go.Proofs.YtjcbngpgmgeanaaGreat
/- Pieces of package shape, whatever the world. -/
namespace Go.Proofs.YtjcbngpgmgeanaaGreat
open Go.RowKit Go.ChangeShapes
open Reg (R4 canonL)
set_option linter.unusedSimpArgs false
set_option linter.unusedVariables false
set_option maxRecDepth 100000

/-- A slice of slices of rectangles, all of them with room up to the longest that there can be. -/
def RdO (w : World) (A : Option Addr) (L : List (List R4)) (hd : Nat → Option Addr × Nat) : Prop :=
  (0 < L.length → ∃ b off, A = some ⟨b, off, none⟩ ∧ b < w.heap.size ∧ ∀ i l, L[i]? = some l → w.cell? ⟨b, off + i, none⟩ = some (.slice (hd i).1 l.length (hd i).2)) ∧
  ∀ i l, L[i]? = some l → Rd w (hd i).1 l ∧ l.length ≤ (hd i).2 ∧ (hd i).2 ≤ maxLen
theorem RdO.below {w w' : World} {A : Option Addr} {L : List (List R4)} {hd : Nat → Option Addr × Nat} (h : RdO w A L hd) (hb : Below w.heap.size w w') : RdO w' A L hd := by
  refine ⟨fun hn => ?_, fun i l hi => ?_⟩
  · obtain ⟨b, off, e, hlt, hc⟩ := h.1 hn
    exact ⟨b, off, e, Nat.lt_of_lt_of_le hlt hb.size, fun i l hi => ((bcell hb).1 _ _ hlt).trans (hc i l hi)⟩
  · obtain ⟨h1, h2, h3⟩ := h.2 i l hi
    exact ⟨h1.below hb, h2, h3⟩
theorem rdO_nil (w : World) (A : Option Addr) : RdO w A [] (fun _ => (none, 0)) := ⟨fun h => absurd h (by simp), fun i l h => by simp at h⟩
theorem pt_rd {gm : Nat} {ov : Value} {rows : List Value} {ls : List (List R4)} {w : World} (h : PtW gm ov rows ls w) : ∃ A c hd, ov = .slice A ls.length c ∧ ls.length ≤ c ∧ c ≤ maxLen ∧ RdO w A ls hd := by
  obtain ⟨A, c, rfl, h1, h2, h3⟩ := own_cells h.o
  have hn := h.n
  have each : ∀ i : Nat, i < ls.length → ∃ y : Option Addr × Nat, ∀ x, ls[i]? = some x → rows[i]? = some (.slice y.1 x.length y.2) ∧ Rd w y.1 x ∧ x.length ≤ y.2 ∧ y.2 ≤ maxLen := by
    intro i hi
    obtain ⟨v, hv, ho⟩ := h.get (List.getElem?_eq_getElem hi)
    obtain ⟨A', c', rfl, k1, k2, k3, -⟩ := rd_own ho
    refine ⟨(A', c'), fun x hx => ?_⟩
    rw [List.getElem?_eq_getElem hi] at hx
    cases hx
    exact ⟨hv, k3, k1, k2⟩
  obtain ⟨Y, hY⟩ := Deep.choose_lt each
  refine ⟨A, c, Y, by rw [hn], by omega, h2, fun hp => ?_, fun i l hi => ?_⟩
  · obtain ⟨g, e, _, hlt, hc⟩ := h3 (by omega)
    refine ⟨g, 0, e, hlt, fun i l hi => ?_⟩
    rw [Nat.zero_add]
    exact hc i _ (hY i (List.getElem?_eq_some_iff.1 hi).1 l hi).1
  · exact (hY i (List.getElem?_eq_some_iff.1 hi).1 l hi).2

/-- A function that gives a slice of slices of rectangles, and a fault. -/
def GotPs (w : World) (L : List (List R4)) (f : Int) (e : Ending) (w' : World) : Prop := ∃ A c hd, e = .returned (.tuple #[.slice A L.length c, .int .i64 f]) ∧ L.length ≤ c ∧ c ≤ maxLen ∧ RdO w' A L hd ∧ Below w.heap.size w w'
def pcL (l : List R4) : List (List R4) := if regF l = 0 then pcsL l else []

theorem reg_ry {l : List R4} (h : regF l = 0) : ∀ r, r ∈ l → Ry r := fun r hr => by
  have := rect_in (regF_rects h) r hr
  simp only [In6] at this
  unfold Ry
  omega

set_option maxHeartbeats 4000000 in
theorem pieces_any (A : Option Addr) (l : List R4) (c : Nat) (w : World) (hl : l.length ≤ c) (hc : c ≤ maxLen) (hl2 : l.length ≤ 140737488355328) (h : Rd w A l) :
    Calls Tryz.prog 6 #[.slice A l.length c] w (GotPs w (pcL l) (regF l)) := by
  have H0 := Lib.hid h
  have C1 := Lib.hid (checkRegion_anyM A l c w hl (by simpa [maxLen] using hc) hl2 h)
  unfold GotPs pcL
  clear h
  by_cases h0 : regF l = 0
  · obtain ⟨hg, h2000⟩ := good_of_rects (regF_rects h0)
    have C2 := Lib.hid (fun W h => parts_any A l c W (by omega) (reg_ry h0) hg h)
    rw [if_pos h0]
    rw [h0] at C1 ⊢
    clear h0 hg
    go_enter Tryz.func6, Tryz.ntmps6
    go_wp2_with fail
    refine C1.out.mono ?_
    rintro e w1 ⟨rfl, hb⟩
    have B1 := Lib.hid hb
    have H1 := Lib.hid (H0.out.below hb)
    clear hb
    go_wp2_with fail
    refine (C2.out w1 H1.out).mono ?_
    rintro e w2 ⟨v, rows, rfl, hP, hb⟩
    have B2 := Lib.hid (B1.out.trans (hb.mono B1.out.size))
    obtain ⟨A', c', hd, rfl, k1, k2, k3⟩ := pt_rd hP
    have R := Lib.hid k3
    clear hP hb k3
    go_wp2_with fail
    go_ret2
    exact ⟨A', c', hd, rfl, k1, k2, R.out, B2.out⟩
  · rw [if_neg h0]
    have hd1 : (regF l != 0) = true := by simpa using h0
    clear h0
    generalize regF l = F at *
    go_enter Tryz.func6, Tryz.ntmps6
    go_wp2_with fail
    refine C1.out.mono ?_
    rintro e w1 ⟨rfl, hb⟩
    have B1 := Lib.hid hb
    clear hb
    go_wp2_with fail
    go_ret2
    exact ⟨none, 0, _, rfl, by simp, by simp [maxLen], rdO_nil _ _, B1.out⟩
end Go.Proofs.YtjcbngpgmgeanaaGreat
/- Plain mathematics of holes: they are pieces of what is not in a region, each a right region; filled, the region has none. -/
namespace Go.Proofs.YtjcbngpgmgeanaaGreat
open Go.RowKit
open Reg (R4 Span Band inR canonL cntR sweepL CanF inB inS told)
set_option linter.unusedSimpArgs false
set_option linter.unusedVariables false

/-! ## Canonical lists and their pieces -/
def Cn (l : List R4) : Prop := Reg.Good l ∧ canonL l = l
theorem Cn.rowed {l : List R4} (h : Cn l) : Rowed l := by
  have := canon_rowed h.1
  rw [h.2] at this
  exact this
theorem Cn.nodup {l : List R4} (h : Cn l) : l.Nodup := by
  have := told_nodup h.1
  rw [h.2] at this
  exact this
theorem cn_reg {l : List R4} (h : regF l = 0) : Cn l := ⟨cR_good h, (regF_zero.1 h).2.symm⟩
theorem cn_out {l : List R4} (h : regF l = 0) (hpos : 0 < l.length) : Cn (outL l) := by
  obtain ⟨-, -, gf⟩ := frame_ok h hpos
  exact ⟨(out_banded h hpos).2, (Reg.sweepL_can (keep := notK) rfl gf (cR_good h)).symm⟩
theorem cn_own {l : List R4} (h : Cn l) (i : Nat) (x y : Int) : inR (canonL (own_ l i)) x y ↔ inR (own_ l i) x y := canon_inR (own_good h.1 i) x y
theorem good_sq {l : List R4} (hg : Reg.Good l) {r : R4} (hr : r ∈ l) : inR l r.x0 r.y0 := ⟨r, hr, by have := hg r hr; simp only [R4.has]; omega⟩
theorem pc_sub {l P : List R4} (h : Cn l) (hP : P ∈ pcsL l) {x y : Int} (hx : inR P x y) : inR l x y := by
  obtain ⟨i, _, _, rfl⟩ := mem_pcs.1 hP
  obtain ⟨s, hs, hk⟩ := (cn_own h i x y).1 hx
  exact ⟨s, own_sub s hs, hk⟩
theorem pc_some {l P : List R4} (h : Cn l) (hP : P ∈ pcsL l) : ∃ x y, inR P x y := by
  obtain ⟨i, hi, hf, rfl⟩ := mem_pcs.1 hP
  have hm : l[i] ∈ own_ l i := mem_own.2 ⟨i, List.getElem?_eq_getElem hi, hf⟩
  exact ⟨_, _, (cn_own h i _ _).2 (good_sq (own_good h.1 i) hm)⟩
theorem pc_good {l P : List R4} (h : Cn l) (hP : P ∈ pcsL l) : Reg.Good P := by
  obtain ⟨i, hi, hf, rfl⟩ := mem_pcs.1 hP
  exact canon_good (own_good h.1 i)
theorem pc_pos {l P : List R4} (h : Cn l) (hP : P ∈ pcsL l) : 0 < P.length := by
  obtain ⟨x, y, r, hr, _⟩ := pc_some h hP
  exact List.length_pos_of_mem hr
theorem pc_ex {l : List R4} (h : Cn l) {x y : Int} (hx : inR l x y) : ∃ P, P ∈ pcsL l ∧ inR P x y := by
  obtain ⟨r, hr, hh⟩ := hx
  obtain ⟨j, hj, e⟩ := List.getElem_of_mem hr
  have hle := (fst_ok l).le j
  exact ⟨_, mem_pcs.2 ⟨fst_ l j, by omega, (fst_ok l).ff j, rfl⟩, (cn_own h (fst_ l j) x y).2 ⟨r, mem_own.2 ⟨j, by rw [List.getElem?_eq_getElem hj, e], rfl⟩, hh⟩⟩
theorem pc_way {l P : List R4} (h : Cn l) (hP : P ∈ pcsL l) {x y u v : Int} (hx : inR P x y) (hw : SqWay l x y u v) : SqWay P x y u v := by
  obtain ⟨i, hi, hf, rfl⟩ := mem_pcs.1 hP
  exact (own_way h.rowed h.nodup i hw ((cn_own h i _ _).1 hx)).to fun a b k => (cn_own h i a b).2 k
theorem pc_conn {l P : List R4} (h : Cn l) (hP : P ∈ pcsL l) {x y u v : Int} (hx : inR P x y) (hu : inR P u v) : SqWay l x y u v := by
  obtain ⟨i, hi, hf, rfl⟩ := mem_pcs.1 hP
  obtain ⟨p, hp, h1⟩ := (cn_own h i _ _).1 hx
  obtain ⟨q, hq, h2⟩ := (cn_own h i _ _).1 hu
  obtain ⟨m, em, fm⟩ := mem_own.1 hp
  obtain ⟨k, ek, fk⟩ := mem_own.1 hq
  exact way_sq h.1 (((fst_ok l).iff m k).1 (fm.trans fk.symm)) em ek h1 h2
theorem nodup_at {l : List R4} (h : l.Nodup) {i j : Nat} {r : R4} (hi : l[i]? = some r) (hj : l[j]? = some r) : i = j := by
  obtain ⟨h1, e1⟩ := List.getElem?_eq_some_iff.1 hi
  obtain ⟨h2, e2⟩ := List.getElem?_eq_some_iff.1 hj
  have hp := List.pairwise_iff_getElem.1 h
  rcases Nat.lt_trichotomy i j with k | k | k
  · exact absurd (e1.trans e2.symm) (hp i j h1 h2 k)
  · exact k
  · exact absurd (e2.trans e1.symm) (hp j i h2 h1 k)
theorem own_same {l : List R4} (h : Cn l) {i j : Nat} {x y : Int} (h1 : inR (own_ l i) x y) (h2 : inR (own_ l j) x y) : i = j := by
  obtain ⟨p, hp, k1⟩ := h1
  obtain ⟨q, hq, k2⟩ := h2
  obtain ⟨m, em, fm⟩ := mem_own.1 hp
  obtain ⟨k, ek, fk⟩ := mem_own.1 hq
  have e := h.rowed.one (List.mem_of_getElem? em) (List.mem_of_getElem? ek) k1 k2
  subst e
  have : m = k := nodup_at h.nodup em ek
  rw [← fm, ← fk, this]
theorem pc_same {l P Q : List R4} (h : Cn l) (hP : P ∈ pcsL l) (hQ : Q ∈ pcsL l) {x y : Int} (h1 : inR P x y) (h2 : inR Q x y) : P = Q := by
  obtain ⟨i, hi, hf, rfl⟩ := mem_pcs.1 hP
  obtain ⟨j, hj, hg, rfl⟩ := mem_pcs.1 hQ
  rw [own_same h ((cn_own h i _ _).1 h1) ((cn_own h j _ _).1 h2)]
theorem pc_nodup {l : List R4} (h : Cn l) : (pcsL l).Nodup := by
  unfold pcsL
  refine List.Pairwise.map _ (R := fun i j => i ≠ j ∧ i ∈ (List.range l.length).filter (fun i => decide (fst_ l i = i)) ∧ j ∈ (List.range l.length).filter (fun i => decide (fst_ l i = i))) ?_ ?_
  · rintro i j ⟨hne, hi, hj⟩ e
    have mi : canonL (own_ l i) ∈ pcsL l := List.mem_map_of_mem hi
    obtain ⟨x, y, hx⟩ := pc_some h mi
    exact hne (own_same h ((cn_own h i _ _).1 hx) ((cn_own h j _ _).1 (e ▸ hx)))
  · have hn : ((List.range l.length).filter fun i => decide (fst_ l i = i)).Nodup := List.Pairwise.filter _ List.nodup_range
    exact (List.pairwise_iff_forall_sublist.2 fun {a b} hs => ⟨by have := hn.sublist hs; simpa using this, hs.subset (by simp), hs.subset (by simp)⟩)

/-! ## Counting -/
theorem inj_len {α β : Type} (f : α → β) : ∀ (a : List α) (b : List β), a.Nodup → (∀ x, x ∈ a → f x ∈ b) → (∀ x, x ∈ a → ∀ y, y ∈ a → f x = f y → x = y) → a.length ≤ b.length
  | [], _, _, _, _ => Nat.zero_le _
  | x :: a, b, hn, hm, hi => by
    obtain ⟨b1, b2, rfl⟩ := List.append_of_mem (hm x (by simp))
    have hx := (List.nodup_cons.1 hn).1
    have := inj_len f a (b1 ++ b2) (List.nodup_cons.1 hn).2 (fun y hy => by
      have := hm y (List.mem_cons_of_mem _ hy)
      simp only [List.mem_append, List.mem_cons] at this ⊢
      rcases this with k | k | k
      · exact .inl k
      · exact absurd (hi y (List.mem_cons_of_mem _ hy) x (by simp) k) (fun e => hx (e ▸ hy))
      · exact .inr k) (fun y hy z hz => hi y (List.mem_cons_of_mem _ hy) z (List.mem_cons_of_mem _ hz))
    simp only [List.length_append, List.length_cons] at this ⊢
    omega
/-- Pieces of one region, and of another one, into which squares are mapped so that what hangs together there did so before. -/
theorem pcs_inj {l m : List R4} (hl : Cn l) (hm : Cn m) (T : Int → Int → Int × Int) (p q : List R4 → Bool)
    (h1 : ∀ x y, inR l x y → inR m (T x y).1 (T x y).2)
    (h2 : ∀ x y u v, inR l x y → inR l u v → SqWay m (T x y).1 (T x y).2 (T u v).1 (T u v).2 → SqWay l x y u v)
    (h3 : ∀ P, P ∈ pcsL l → p P = true → ∀ Q, Q ∈ pcsL m → ∀ x y, inR P x y → inR Q (T x y).1 (T x y).2 → q Q = true) :
    ((pcsL l).filter p).length ≤ ((pcsL m).filter q).length := by
  classical
  have sel : ∀ P : List R4, ∃ s : List R4 × Int × Int, P ∈ pcsL l → inR P s.2.1 s.2.2 ∧ s.1 ∈ pcsL m ∧ inR s.1 (T s.2.1 s.2.2).1 (T s.2.1 s.2.2).2 := by
    intro P
    by_cases hP : P ∈ pcsL l
    · obtain ⟨x, y, hx⟩ := pc_some hl hP
      obtain ⟨Q, hQ, hq⟩ := pc_ex hm (h1 x y (pc_sub hl hP hx))
      exact ⟨(Q, x, y), fun _ => ⟨hx, hQ, hq⟩⟩
    · exact ⟨([], 0, 0), fun h => absurd h hP⟩
  refine inj_len (fun P => (Classical.choose (sel P)).1) _ _ (List.Pairwise.filter _ (pc_nodup hl)) (fun P hP => ?_) (fun P hP Q hQ e => ?_)
  · obtain ⟨k1, k2⟩ := List.mem_filter.1 hP
    obtain ⟨a1, a2, a3⟩ := Classical.choose_spec (sel P) k1
    exact List.mem_filter.2 ⟨a2, h3 P k1 k2 _ a2 _ _ a1 a3⟩
  · obtain ⟨k1, _⟩ := List.mem_filter.1 hP
    obtain ⟨k2, _⟩ := List.mem_filter.1 hQ
    obtain ⟨a1, a2, a3⟩ := Classical.choose_spec (sel P) k1
    obtain ⟨b1, b2, b3⟩ := Classical.choose_spec (sel Q) k2
    rw [← e] at b3
    have w := h2 _ _ _ _ (pc_sub hl k1 a1) (pc_sub hl k2 b1) (pc_conn hm a2 a3 b3)
    exact pc_same hl k1 k2 (pc_way hl k1 a1 w).last b1

/-! ## Rows of a canonical list -/
theorem band_edge {bs : List Band} : ∀ {lo : Int} {p : List Span}, CanF lo p bs → ∀ b, b ∈ bs → ¬ ∀ x, inB bs x (b.lo - 1) ↔ inB bs x b.lo := by
  induction bs with
  | nil => intro lo p _ b hb; cases hb
  | cons c bs ih =>
    intro lo p h b hb hr
    have hc := h
    obtain ⟨a1, a2, a3, a4, ⟨z, a5⟩, a6⟩ := h
    rcases List.mem_cons.1 hb with rfl | hb
    · obtain ⟨x, hx⟩ := Reg.sep_some a5 a4
      have k := (hr x).2 ((Reg.head_row hc x b.lo (Int.le_refl _) a3).2 hx)
      have hge : CanF b.lo [] (b :: bs) := ⟨Int.le_refl _, fun _ => a4, a3, a4, ⟨z, a5⟩, a6⟩
      have := hge.ge k
      omega
    · obtain ⟨b1, b2, b3, b4⟩ := a6.mem b hb
      by_cases he : b.lo = c.hi
      · refine Reg.next_row hc fun x => ?_
        rw [← he, ← hr x]
        exact Reg.head_row hc x _ (by omega) (by omega)
      · refine ih a6 b hb fun x => ?_
        have k := hr x
        rw [Reg.inB_cons, Reg.inB_cons] at k
        constructor
        · intro hx
          rcases k.1 (.inr hx) with h1 | h1
          · omega
          · exact h1
        · intro hx
          rcases k.2 (.inr hx) with h1 | h1
          · omega
          · exact h1
/-- A rectangle of a canonical list begins where the row below is another one. -/
theorem Cn.edge {l : List R4} (h : Cn l) {r : R4} (hr : r ∈ l) : ¬ ∀ x, inR l x (r.y0 - 1) ↔ inR l x r.y0 := by
  obtain ⟨⟨z, hc⟩, _⟩ := Reg.bandsC_ok h.1
  have e : told (Reg.bandsC l) = l := h.2
  intro hx
  rw [← e] at hr
  simp only [told, List.mem_flatMap, Reg.rectsOf, List.mem_map] at hr
  obtain ⟨b, hb, s, hs, rfl⟩ := hr
  refine band_edge hc b hb fun x => ?_
  have := hx x
  rw [← e, Reg.inR_told, Reg.inR_told] at this
  exact this

/-! ## The holes -/
def inBox (b : R4) (x y : Int) : Prop := b.x0 ≤ x ∧ x < b.x1 ∧ b.y0 ≤ y ∧ y < b.y1
def hlB (l P : List R4) : Bool := decide (aroundR P = commonR (aroundR P) (aroundR l))
def hlsL (l : List R4) : List (List R4) := (pcsL (outL l)).filter (hlB l)
theorem common_cov {a b : R4} : a = commonR a b ↔ Cov b a := by
  obtain ⟨a0, a1, a2, a3⟩ := a
  simp only [commonR, maxI, minI, Cov, R4.mk.injEq]
  constructor
  · rintro ⟨h1, h2, h3, h4⟩
    split at h1 <;> split at h2 <;> split at h3 <;> split at h4 <;> omega
  · rintro ⟨h1, h2, h3, h4⟩
    refine ⟨?_, ?_, ?_, ?_⟩ <;> split <;> omega
/-- The box around a list lies in another box just if all squares of the list do. -/
theorem cov_iff {P : List R4} (hg : Reg.Good P) (hp : 0 < P.length) (b : R4) : Cov b (aroundR P) ↔ ∀ x y, inR P x y → inBox b x y := by
  constructor
  · intro h x y hx
    have := around_sq hx
    simp only [Cov, inBox] at *
    omega
  · intro h
    refine around_least hp fun r hr => ?_
    have g := hg r hr
    have k1 := h r.x0 r.y0 (good_sq hg hr)
    have k2 := h (r.x1 - 1) (r.y1 - 1) ⟨r, hr, by simp only [R4.has]; omega⟩
    simp only [Cov, inBox] at *
    omega
theorem hlB_iff {l P : List R4} (hg : Reg.Good P) (hp : 0 < P.length) : hlB l P = true ↔ ∀ x y, inR P x y → inBox (aroundR l) x y := by
  rw [hlB, decide_eq_true_eq, common_cov, cov_iff hg hp]
theorem mem_hls {l P : List R4} (h : regF l = 0) (hpos : 0 < l.length) : P ∈ hlsL l ↔ P ∈ pcsL (outL l) ∧ ∀ x y, inR P x y → inBox (aroundR l) x y := by
  rw [hlsL, List.mem_filter]
  constructor
  · rintro ⟨h1, h2⟩
    exact ⟨h1, (hlB_iff (pc_good (cn_out h hpos) h1) (pc_pos (cn_out h hpos) h1)).1 h2⟩
  · rintro ⟨h1, h2⟩
    exact ⟨h1, (hlB_iff (pc_good (cn_out h hpos) h1) (pc_pos (cn_out h hpos) h1)).2 h2⟩
/-- A rectangle outside that has a rectangle of the region to its left: there are not more of them than rectangles. -/
theorem inner_count {l : List R4} (h : regF l = 0) (hpos : 0 < l.length) {a : List R4} (hn : a.Nodup) (ha : ∀ r, r ∈ a → r ∈ outL l ∧ (aroundR l).x0 - 1 < r.x0) : a.length ≤ l.length := by
  classical
  have cO := cn_out h hpos
  have cl := cn_reg h
  have hw := cO.rowed
  have left : ∀ r, r ∈ a → ∃ s, s ∈ l ∧ s.has (r.x0 - 1) r.y0 ∧ s.x1 = r.x0 := by
    intro r hr
    obtain ⟨ho, hx⟩ := ha r hr
    have hg := cO.1 r ho
    have hin := (out_inR h hpos _ _).1 (good_sq cO.1 ho)
    by_cases hl : inR l (r.x0 - 1) r.y0
    · obtain ⟨s, hs, hh⟩ := hl
      refine ⟨s, hs, hh, ?_⟩
      have k : ¬ s.has r.x0 r.y0 := fun k => hin.2 ⟨s, hs, k⟩
      simp only [R4.has] at hh k
      omega
    · have ho2 : inR (outL l) (r.x0 - 1) r.y0 := (out_inR h hpos _ _).2 ⟨by omega, hl⟩
      obtain ⟨s, hs, hh⟩ := ho2
      simp only [R4.has] at hh
      rcases hw s hs r ho r.y0 hh.2.2.1 hh.2.2.2 (Int.le_refl _) hg.2 with e | e | e
      · subst e; omega
      · omega
      · omega
  have sel : ∀ r : R4, ∃ s : R4, r ∈ a → s ∈ l ∧ s.has (r.x0 - 1) r.y0 ∧ s.x1 = r.x0 := by
    intro r
    by_cases hr : r ∈ a
    · obtain ⟨s, h1⟩ := left r hr
      exact ⟨s, fun _ => h1⟩
    · exact ⟨⟨0, 0, 0, 0⟩, fun h => absurd h hr⟩
  have hb := region_banded h
  -- two of them beside one rectangle, the one not above the other
  have key : ∀ r r' s : R4, r ∈ outL l → r' ∈ outL l → s ∈ l → s.has (r.x0 - 1) r.y0 → s.has (r'.x0 - 1) r'.y0 → ¬ r.y0 < r'.y0 := by
    intro r r' s hr hr' hs k1 k2 hlt
    refine cO.edge hr' fun x => ?_
    simp only [R4.has] at k1 k2
    rw [out_inR h hpos, out_inR h hpos]
    have hbx := around_sq (l := l) (x := r.x0 - 1) (y := r.y0) ⟨s, hs, by simp only [R4.has]; omega⟩
    have hbx' := around_sq (l := l) (x := r'.x0 - 1) (y := r'.y0) ⟨s, hs, by simp only [R4.has]; omega⟩
    have hrow : inR l x (r'.y0 - 1) ↔ inR l x r'.y0 := by
      constructor
      · rintro ⟨t, ht, hh⟩
        have := hb t ht s hs
        have := hb s hs t ht
        refine ⟨t, ht, ?_⟩
        simp only [R4.has] at hh ⊢
        omega
      · rintro ⟨t, ht, hh⟩
        have := hb t ht s hs
        have := hb s hs t ht
        refine ⟨t, ht, ?_⟩
        simp only [R4.has] at hh ⊢
        omega
    rw [hrow]
    constructor
    · rintro ⟨q1, q2⟩; exact ⟨by omega, q2⟩
    · rintro ⟨q1, q2⟩; exact ⟨by omega, q2⟩
  refine inj_len (fun r => Classical.choose (sel r)) a l hn (fun r hr => (Classical.choose_spec (sel r) hr).1) (fun r hr r' hr' e => ?_)
  obtain ⟨a1, a2, a3⟩ := Classical.choose_spec (sel r) hr
  obtain ⟨b1, b2, b3⟩ := Classical.choose_spec (sel r') hr'
  rw [← e] at b1 b2 b3
  have o1 := (ha r hr).1
  have o2 := (ha r' hr').1
  have n1 := key r r' _ o1 o2 a1 a2 b2
  have n2 := key r' r _ o2 o1 a1 b2 a2
  have g1 := cO.1 r o1
  have g2 := cO.1 r' o2
  refine hw.one o1 o2 (x := r.x0) (y := r.y0) ?_ ?_
  · simp only [R4.has]; omega
  · simp only [R4.has]; omega
/-- A hole is a right region, and has no square of the region. -/
theorem hole_reg {l P : List R4} (h : regF l = 0) (hpos : 0 < l.length) (hP : P ∈ hlsL l) : regF P = 0 := by
  obtain ⟨h1, h2⟩ := (mem_hls h hpos).1 hP
  have cO := cn_out h hpos
  obtain ⟨i, hi, hf, rfl⟩ := mem_pcs.1 h1
  have hin : ∀ r, r ∈ own_ (outL l) i → r ∈ outL l ∧ (aroundR l).x0 - 1 < r.x0 := fun r hr => by
    refine ⟨own_sub r hr, ?_⟩
    have := h2 _ _ ((cn_own cO i _ _).2 (good_sq (own_good cO.1 i) hr))
    simp only [inBox] at this
    omega
  have hc : (canonL (own_ (outL l) i)).length ≤ (own_ (outL l) i).length := canon_count fun r hr s hs => (out_banded h hpos).1 r (own_sub r hr) s (own_sub s hs)
  have hn : (own_ (outL l) i).Nodup := cO.nodup.sublist (own_list _ i)
  have hk := inner_count h hpos hn hin
  obtain ⟨hg, h2000⟩ := good_of_rects (regF_zero.1 h).1
  refine reg_canon (own_good cO.1 i) (by omega) fun x y hx => ?_
  have := h2 x y ((cn_own cO i _ _).2 hx)
  obtain ⟨ain, -, -⟩ := frame_ok h hpos
  simp only [InB, inBox] at *
  omega
theorem hole_apart {l P : List R4} (h : regF l = 0) (hpos : 0 < l.length) (hP : P ∈ hlsL l) {x y : Int} (hx : inR P x y) : ¬ inR l x y :=
  ((out_inR h hpos x y).1 (pc_sub (cn_out h hpos) ((mem_hls h hpos).1 hP).1 hx)).2
theorem hls_out {l : List R4} (h : regF l = 0) (hpos : 0 < l.length) {x y : Int} (hx : inR (hlsL l).flatten x y) : inBox (aroundR l) x y ∧ ¬ inR l x y := by
  obtain ⟨r, hr, hh⟩ := hx
  obtain ⟨P, hP, hr⟩ := List.mem_flatten.1 hr
  exact ⟨((mem_hls h hpos).1 hP).2 x y ⟨r, hr, hh⟩, hole_apart h hpos hP ⟨r, hr, hh⟩⟩
end Go.Proofs.YtjcbngpgmgeanaaGreat
/- Plain mathematics of holes, second part: what a region is with all its holes filled. -/
namespace Go.Proofs.YtjcbngpgmgeanaaGreat
open Go.RowKit
open Reg (R4 Span Band inR canonL cntR sweepL CanF inB inS told)
set_option linter.unusedSimpArgs false
set_option linter.unusedVariables false

def hlsE (l : List R4) : List (List R4) := if l = [] then [] else hlsL l
def fillL (l : List R4) : List R4 := l ++ (hlsL l).flatten
theorem inR_append {a b : List R4} {x y : Int} : inR (a ++ b) x y ↔ inR a x y ∨ inR b x y := by
  constructor
  · rintro ⟨r, hr, h⟩
    rcases List.mem_append.1 hr with k | k
    · exact .inl ⟨r, k, h⟩
    · exact .inr ⟨r, k, h⟩
  · rintro (⟨r, hr, h⟩ | ⟨r, hr, h⟩)
    · exact ⟨r, List.mem_append_left _ hr, h⟩
    · exact ⟨r, List.mem_append_right _ hr, h⟩
theorem fill_rects {l : List R4} (h : regF l = 0) (hpos : 0 < l.length) : ∀ r, r ∈ fillL l → In6 r.x0 ∧ In6 r.y0 ∧ In6 r.x1 ∧ In6 r.y1 ∧ r.x0 < r.x1 ∧ r.y0 < r.y1 := by
  intro r hr
  rcases List.mem_append.1 hr with k | k
  · exact (rectsF_zero.1 (regF_zero.1 h).1).2 r k
  · obtain ⟨P, hP, hr⟩ := List.mem_flatten.1 k
    exact (rectsF_zero.1 (regF_zero.1 (hole_reg h hpos hP)).1).2 r hr
theorem fill_F {l : List R4} (h : regF l = 0) (hpos : 0 < l.length) : rgF (fillL l) = 0 ∨ rgF (fillL l) = 2 := by
  by_cases hl : (fillL l).length ≤ 2000
  · have h0 : rectsF (fillL l) = 0 := rectsF_zero.2 ⟨hl, fill_rects h hpos⟩
    unfold rgF resF
    rw [if_pos h0]
    split
    · exact .inl rfl
    · exact .inr rfl
  · have h0 : rectsF (fillL l) = 2 := by unfold rectsF; rw [if_pos (by omega)]
    unfold rgF
    rw [h0, if_neg (by decide)]
    exact .inr rfl
theorem flat_cnt {x y : Int} : ∀ {L : List (List R4)}, (∀ P, P ∈ L → regF P = 0) → L.Pairwise (fun P Q => inR P x y → ¬ inR Q x y) → cntR L.flatten x y ≤ 1
  | [], _, _ => by simp [Reg.cntR_nil]
  | P :: L, h1, h2 => by
    classical
    obtain ⟨k1, k2⟩ := List.pairwise_cons.1 h2
    have ih := flat_cnt (fun Q hQ => h1 Q (List.mem_cons_of_mem _ hQ)) k2
    rw [List.flatten_cons, cntR_append, cnt_region (h1 P (by simp))]
    by_cases hp : inR P x y
    · have : cntR L.flatten x y = 0 := cntR_zero_iff.2 fun ⟨r, hr, hh⟩ => by
        obtain ⟨Q, hQ, hr⟩ := List.mem_flatten.1 hr
        exact k1 Q hQ hp ⟨r, hr, hh⟩
      rw [if_pos hp]; omega
    · rw [if_neg hp]; omega
theorem fill_cnt {l : List R4} (h : regF l = 0) (hpos : 0 < l.length) (x y : Int) : cntR (fillL l) x y ≤ 1 := by
  classical
  have cO := cn_out h hpos
  have hd : (hlsL l).Pairwise (fun P Q => inR P x y → ¬ inR Q x y) := by
    have hn : (hlsL l).Nodup := List.Pairwise.filter _ (pc_nodup cO)
    refine List.Pairwise.imp_of_mem (fun {P Q} hP hQ hne hx hy => ?_) hn
    exact hne (pc_same cO ((mem_hls h hpos).1 hP).1 ((mem_hls h hpos).1 hQ).1 hx hy)
  have hf := flat_cnt (fun P hP => hole_reg h hpos hP) hd
  rw [fillL, cntR_append, cnt_region h]
  by_cases hp : inR l x y
  · have : cntR (hlsL l).flatten x y = 0 := cntR_zero_iff.2 fun k => (hls_out h hpos k).2 hp
    rw [if_pos hp]; omega
  · rw [if_neg hp]; omega
theorem area_app (a b : List R4) : areaL (a ++ b) = areaL a + areaL b := by simp [areaL]
theorem area_flat (L : List (List R4)) : areaL L.flatten = (L.map areaL).sum := by
  induction L with
  | nil => rfl
  | cons P L ih => rw [List.flatten_cons, area_app, ih, List.map_cons, List.sum_cons]
theorem fill_ok {l : List R4} (h : regF l = 0) (hpos : 0 < l.length) (hF : rgF (fillL l) = 0) :
    regF (rgL (fillL l)) = 0 ∧ 0 < (rgL (fillL l)).length ∧ hlsL (rgL (fillL l)) = [] ∧ areaL (rgL (fillL l)) = areaL l + ((hlsL l).map areaL).sum := by
  classical
  obtain ⟨h0, h1⟩ := rgF_zero.1 hF
  obtain ⟨hg, -⟩ := good_of_rects h0
  rw [rgL_of hF]
  have hx : ∀ x y, inR (canonL (fillL l)) x y ↔ inR l x y ∨ inR (hlsL l).flatten x y := fun x y => by rw [canon_inR hg, fillL, inR_append]
  have hr : regF (canonL (fillL l)) = 0 := reg_canon hg h1 fun x y k => inR_range (rectsF_zero.1 h0).2 x y k
  have hp : 0 < (canonL (fillL l)).length := by
    obtain ⟨r, hr⟩ := List.exists_mem_of_length_pos hpos
    obtain ⟨s, hs, _⟩ := (hx _ _).2 (.inl (good_sq (cR_good h) hr))
    exact List.length_pos_of_mem hs
  refine ⟨hr, hp, ?_, ?_⟩
  · generalize hX : canonL (fillL l) = X at *
    have hin : ∀ x y, inR X x y → inBox (aroundR l) x y := fun x y k => by
      rcases (hx x y).1 k with k | k
      · exact around_sq k
      · exact (hls_out h hpos k).1
    have c1 : Cov (aroundR l) (aroundR X) := (cov_iff (cR_good hr) hp _).2 hin
    have c2 : Cov (aroundR X) (aroundR l) := (cov_iff (cR_good h) hpos _).2 fun x y k => around_sq ((hx x y).2 (.inl k))
    have hb : aroundR X = aroundR l := by
      generalize aroundR X = a at *
      generalize aroundR l = b at *
      obtain ⟨a0, a1, a2, a3⟩ := a
      obtain ⟨b0, b1, b2, b3⟩ := b
      simp only [Cov] at c1 c2
      simp only [R4.mk.injEq]
      omega
    have cO := cn_out h hpos
    have cX := cn_out hr hp
    refine List.eq_nil_iff_forall_not_mem.2 fun Q hQ => ?_
    obtain ⟨q1, q2⟩ := (mem_hls hr hp).1 hQ
    rw [hb] at q2
    obtain ⟨x, y, hq⟩ := pc_some cX q1
    have o1 := (out_inR hr hp x y).1 (pc_sub cX q1 hq)
    rw [hb] at o1
    have n1 : ¬ inR l x y := fun k => o1.2 ((hx x y).2 (.inl k))
    have n2 : ¬ inR (hlsL l).flatten x y := fun k => o1.2 ((hx x y).2 (.inr k))
    obtain ⟨P, hP, hpx⟩ := pc_ex cO ((out_inR h hpos x y).2 ⟨o1.1, n1⟩)
    have nP : P ∉ hlsL l := fun k => n2 (by
      obtain ⟨r, hr, hh⟩ := hpx
      exact ⟨r, List.mem_flatten.2 ⟨P, k, hr⟩, hh⟩)
    have ex : ∃ u v, inR P u v ∧ ¬ inBox (aroundR l) u v := by
      refine Classical.byContradiction fun hne => nP ((mem_hls h hpos).2 ⟨hP, fun u v k => Classical.byContradiction fun hb => hne ⟨u, v, k, hb⟩⟩)
    obtain ⟨u, v, hu, hv⟩ := ex
    have w1 := pc_way cO hP hpx (pc_conn cO hP hpx hu)
    have w2 : SqWay (outL X) x y u v := w1.to fun a b k => by
      have k2 := (out_inR h hpos a b).1 (pc_sub cO hP k)
      refine (out_inR hr hp a b).2 ⟨by rw [hb]; exact k2.1, fun k3 => ?_⟩
      rcases (hx a b).1 k3 with k4 | k4
      · exact k2.2 k4
      · obtain ⟨r, hr, hh⟩ := k4
        obtain ⟨R, hR, hr⟩ := List.mem_flatten.1 hr
        have e := pc_same cO hP ((mem_hls h hpos).1 hR).1 k ⟨r, hr, hh⟩
        exact nP (e ▸ hR)
    exact hv (q2 u v (pc_way cX q1 hq w2).last)
  · rw [area_region hr, ← area_flat, ← area_app, show l ++ (hlsL l).flatten = fillL l from rfl, area_sum (fill_rects h hpos)]
    refine boxS_congr fun x y => ?_
    rw [cnt_region hr]
    have a1 := Reg.cntR_nonneg (fillL l) x y
    have a2 := fill_cnt h hpos x y
    by_cases k : inR (canonL (fillL l)) x y
    · rw [if_pos k]
      have := Reg.cntR_pos.2 ((canon_inR hg x y).1 k)
      omega
    · rw [if_neg k]
      exact (cntR_zero_iff.2 fun q => k ((canon_inR hg x y).2 q)).symm
/-- A hole and the region have nothing in common. -/
theorem hole_both {l P : List R4} (h : regF l = 0) (hpos : 0 < l.length) (hP : P ∈ hlsL l) : stF andK P l = 0 ∧ stL andK P l = [] := by
  have hr := hole_reg h hpos hP
  have gs := Reg.sweepL_good (keep := andK) rfl (cR_good hr) (cR_good h)
  have e : sweepL andK P l = [] := by
    cases hs : sweepL andK P l with
    | nil => rfl
    | cons a t =>
      have ha : a ∈ sweepL andK P l := by rw [hs]; simp
      have := (Reg.sweepL_inR (keep := andK) rfl (cR_good hr) (cR_good h) _ _).1 (good_sq gs ha)
      obtain ⟨k1, k2⟩ := kept_and.1 this
      exact absurd k2 (hole_apart h hpos hP k1)
  have hb := bothF_zero.2 ⟨hr, h⟩
  unfold stF stL resF resL
  rw [if_pos hb, if_pos hb, e]
  simp
end Go.Proofs.YtjcbngpgmgeanaaGreat

/- How many rectangles a region has after its rows have been widened: not more. -/
import Derived.Test.YtmcbjaefnhfopaaGreatGrow
namespace Go.Proofs.YtmcbjaefnhfopaaGreat
open Reg (R4 Span Band inR canonL told rowL rowFrom stackL bandsFrom heightsL joinedL CanF)
set_option linter.unusedSimpArgs false
set_option linter.unusedVariables false

def alive (y : Int) (r : R4) : Bool := decide (r.y0 ≤ y) && decide (y < r.y1)
theorem rowFrom_alive (y : Int) (l : List R4) : ∀ acc : List Span, (rowFrom y acc l).length ≤ acc.length + l.countP (alive y) := by
  induction l with
  | nil => intro acc; simp [rowFrom]
  | cons r l ih =>
    intro acc
    rw [rowFrom, List.countP_cons]
    by_cases h : r.y0 ≤ y ∧ y < r.y1
    · rw [if_pos h]
      have h1 := ih (joinedL acc (r.x0, r.x1))
      have h2 := joinedL_len acc (r.x0, r.x1)
      have h3 : alive y r = true := by simp [alive, h.1, h.2]
      rw [h3, if_pos rfl]
      omega
    · rw [if_neg h]
      have h1 := ih acc
      omega
theorem row_alive (l : List R4) (y : Int) : (rowL l y).length ≤ l.countP (alive y) := by
  have := rowFrom_alive y l []
  simpa [rowL] using this
theorem told_stack (b : Band) : ∀ l : List Band, (told (stackL l b)).length ≤ (told l).length + b.sp.length
  | [] => by simp only [stackL]; split <;> simp [told, Reg.rectsOf]
  | [d] => by
    simp only [stackL]
    split
    · simp [told, Reg.rectsOf]
    · split
      · simp [told, Reg.rectsOf]
      · simp [told, Reg.rectsOf]
  | d :: e :: l => by
    have := told_stack b (e :: l)
    rw [stackL]
    simp only [told, List.flatMap_cons, List.length_append] at this ⊢
    omega
theorem told_bands (row : Int → List Span) : ∀ (ys : List Int) (acc : List Band), (told (bandsFrom row acc ys)).length ≤ (told acc).length + (ys.map fun a => (row a).length).sum
  | [], acc => by simp [bandsFrom]
  | [a], acc => by simp [bandsFrom]
  | a :: b :: ys, acc => by
    have h1 := told_bands row (b :: ys) (stackL acc ⟨a, b, row a⟩)
    have h2 := told_stack ⟨a, b, row a⟩ acc
    rw [bandsFrom, List.map_cons, List.sum_cons]
    simp only at h2
    omega
theorem sum_alive (ys : List Int) : ∀ l : List R4, (∀ r, r ∈ l → ys.countP (fun a => alive a r) ≤ 1) → (ys.map fun a => l.countP (alive a)).sum ≤ l.length := by
  intro l
  induction l with
  | nil =>
    intro _
    induction ys with
    | nil => simp
    | cons a ys ih => simpa using ih (fun r hr => by cases hr)
  | cons r l ih =>
    intro h
    have h1 := ih fun s hs => h s (List.mem_cons_of_mem _ hs)
    have h2 := h r (by simp)
    have key : ∀ zs : List Int, (zs.map fun a => (r :: l).countP (alive a)).sum = zs.countP (fun a => alive a r) + (zs.map fun a => l.countP (alive a)).sum := by
      intro zs
      induction zs with
      | nil => rfl
      | cons z zs ihz =>
        rw [List.map_cons, List.sum_cons, ihz, List.countP_cons, List.countP_cons, List.map_cons, List.sum_cons]
        omega
    rw [key, List.length_cons]
    omega
theorem count_one {p : Int → Bool} {v : Int} : ∀ ys : List Int, ys.Pairwise (· < ·) → (∀ a, a ∈ ys → p a = true → a = v) → ys.countP p ≤ 1
  | [], _, _ => by simp
  | a :: t, hp, h => by
    have hp' := List.pairwise_cons.1 hp
    rw [List.countP_cons]
    by_cases ha : p a = true
    · have e := h a (by simp) ha
      have hz : t.countP p = 0 := by
        rw [List.countP_eq_zero]
        intro b hb hpb
        have := h b (List.mem_cons_of_mem _ hb) hpb
        have := hp'.1 b hb
        omega
      rw [hz]
      split <;> omega
    · have := count_one t hp'.2 fun b hb => h b (List.mem_cons_of_mem _ hb)
      rw [if_neg ha]
      omega
/-- Rectangles lie in bands: none begins or ends within another one's height. -/
def Banded (l : List R4) : Prop := ∀ r, r ∈ l → ∀ s, s ∈ l → ¬ (r.y0 < s.y0 ∧ s.y0 < r.y1) ∧ ¬ (r.y0 < s.y1 ∧ s.y1 < r.y1)
theorem canon_count {l : List R4} (hb : Banded l) : (canonL l).length ≤ l.length := by
  obtain ⟨s1, s2⟩ := Reg.heightsFrom_ok l [] List.Pairwise.nil
  have h1 := told_bands (rowL l) (heightsL l) []
  have h2 : ((heightsL l).map fun a => (rowL l a).length).sum ≤ ((heightsL l).map fun a => l.countP (alive a)).sum := by
    generalize heightsL l = ys
    induction ys with
    | nil => simp
    | cons a ys ih =>
      have := row_alive l a
      rw [List.map_cons, List.map_cons, List.sum_cons, List.sum_cons]
      omega
  have h3 := sum_alive (heightsL l) l fun r hr => count_one (v := r.y0) _ s1 fun a ha hal => by
    have hh := (s2 a).1 ha
    simp [alive] at hal
    rcases hh with hh | ⟨s, hs, hh⟩
    · simp at hh
    · have := hb r hr s hs
      rcases hh with rfl | rfl <;> omega
  have e : canonL l = told (bandsFrom (rowL l) [] (heightsL l)) := rfl
  rw [e]
  simp only [told, List.flatMap_nil, List.length_nil] at h1 ⊢
  omega
theorem banded_wide {n : Int} {l : List R4} (h : Banded l) : Banded (l.map (wideX n)) := by
  intro r hr s hs
  obtain ⟨r', hr', rfl⟩ := List.mem_map.1 hr
  obtain ⟨s', hs', rfl⟩ := List.mem_map.1 hs
  exact h r' hr' s' hs'
theorem told_low {bs : List Band} : ∀ {lo : Int} {p : List Span}, CanF lo p bs → ∀ r, r ∈ told bs → lo ≤ r.y0 ∧ r.y0 < r.y1 := by
  induction bs with
  | nil => intro lo p _ r hr; cases hr
  | cons b l ih =>
    intro lo p h r hr
    obtain ⟨h1, _, h3, _, _, h6⟩ := h
    rw [told, List.flatMap_cons, List.mem_append] at hr
    rcases hr with hr | hr
    · obtain ⟨s, _, rfl⟩ := List.mem_map.1 hr
      exact ⟨h1, h3⟩
    · have := ih h6 r hr
      omega
theorem told_banded {bs : List Band} : ∀ {lo : Int} {p : List Span}, CanF lo p bs → Banded (told bs) := by
  induction bs with
  | nil => intro lo p _ r hr; cases hr
  | cons b l ih =>
    intro lo p h
    obtain ⟨_, _, h3, _, _, h6⟩ := h
    have hl := told_low h6
    have hi := ih h6
    have hb : ∀ r, r ∈ Reg.rectsOf b → r.y0 = b.lo ∧ r.y1 = b.hi := fun r hr => by
      obtain ⟨s, _, rfl⟩ := List.mem_map.1 hr
      exact ⟨rfl, rfl⟩
    have split_ : ∀ r, r ∈ told (b :: l) → (r.y0 = b.lo ∧ r.y1 = b.hi) ∨ r ∈ told l := fun r hr => by
      rw [told, List.flatMap_cons, List.mem_append] at hr
      exact hr.imp (hb r) id
    intro r hr s hs
    rcases split_ r hr with h1 | h1 <;> rcases split_ s hs with h2 | h2
    · omega
    · have := hl s h2; omega
    · have := hl r h1; omega
    · exact hi r h1 s h2
theorem region_banded {l : List R4} (h : regF l = 0) : Banded l := by
  obtain ⟨h1, h2⟩ := regF_zero.1 h
  obtain ⟨hg, -⟩ := good_of_rects h1
  obtain ⟨⟨z, c1⟩, -⟩ := Reg.bandsK_ok (keep := Reg.inFirstK) rfl hg (b := []) (fun r hr => by cases hr)
  rw [h2, ← Reg.sweep_first hg, Reg.sweepL]
  exact told_banded c1
/-- What is widened along X has not more rectangles. -/
theorem wide_count {n : Int} {l : List R4} (h : regF l = 0) : (canonL (l.map (wideX n))).length ≤ l.length := by
  have := canon_count (banded_wide (n := n) (region_banded h))
  simpa using this
end Go.Proofs.YtmcbjaefnhfopaaGreat

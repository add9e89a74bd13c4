/- Regions in canonical form: the plain mathematics of CheckRegion and Region. -/
import Derived.Test.YtmcbjaefnhfopaaGreatSweepL
namespace Go.Proofs.YtmcbjaefnhfopaaGreat
open Go.RowKit
open Reg (R4 Span Band inR inS inB told canonL rectsOf CanF SepF)
set_option linter.unusedSimpArgs false
set_option linter.unusedVariables false

theorem rectF_zero {r : R4} : rectF r = 0 ↔ In6 r.x0 ∧ In6 r.y0 ∧ In6 r.x1 ∧ In6 r.y1 ∧ r.x0 < r.x1 ∧ r.y0 < r.y1 := by
  unfold rectF rectOk okAt
  simp only [Bool.and_eq_true, decide_eq_true_eq]
  split
  · split
    · simp; omega
    · simp; omega
  · simp; omega
theorem firstBad_zero {l : List R4} : firstBad l = 0 ↔ ∀ r, r ∈ l → rectF r = 0 := by
  induction l with
  | nil => simp [firstBad]
  | cons a l ih =>
    simp only [firstBad, List.forall_mem_cons]
    split
    · rename_i h; simp [h, ih]
    · rename_i h; simp [h]
theorem rectsF_zero {l : List R4} : rectsF l = 0 ↔ l.length ≤ 2000 ∧ ∀ r, r ∈ l → In6 r.x0 ∧ In6 r.y0 ∧ In6 r.x1 ∧ In6 r.y1 ∧ r.x0 < r.x1 ∧ r.y0 < r.y1 := by
  unfold rectsF
  split
  · simp; omega
  · rw [firstBad_zero]
    simp only [rectF_zero]
    constructor
    · intro h; exact ⟨by omega, h⟩
    · intro h; exact h.2
/-- Squares in range make rectangles in range. -/
theorem in_range {l : List R4} (hg : Reg.Good l) (h : ∀ x y, inR l x y → -1000000 ≤ x ∧ x < 1000000 ∧ -1000000 ≤ y ∧ y < 1000000) : ∀ r, r ∈ l → In6 r.x0 ∧ In6 r.y0 ∧ In6 r.x1 ∧ In6 r.y1 ∧ r.x0 < r.x1 ∧ r.y0 < r.y1 := by
  intro r hr
  obtain ⟨h1, h2⟩ := hg r hr
  have a := h r.x0 r.y0 ⟨r, hr, by simp only [R4.has]; omega⟩
  have b := h (r.x1 - 1) (r.y1 - 1) ⟨r, hr, by simp only [R4.has]; omega⟩
  simp only [In6]
  omega
theorem inR_range {l : List R4} (h : ∀ r, r ∈ l → In6 r.x0 ∧ In6 r.y0 ∧ In6 r.x1 ∧ In6 r.y1 ∧ r.x0 < r.x1 ∧ r.y0 < r.y1) : ∀ x y, inR l x y → -1000000 ≤ x ∧ x < 1000000 ∧ -1000000 ≤ y ∧ y < 1000000 := by
  rintro x y ⟨r, hr, hx⟩
  have := h r hr
  simp only [R4.has, In6] at *
  omega
theorem lessYX_iff {p u : R4} : lessYX p u = true ↔ p.y0 < u.y0 ∨ (p.y0 = u.y0 ∧ p.x0 < u.x0) := by simp [lessYX]
theorem ordB_of {l : List R4} (h : l.Pairwise (fun p u => lessYX p u = true)) : ordB l = true := by
  have key : ∀ (t : List R4) (p : R4), (p :: t).Pairwise (fun p u => lessYX p u = true) → ordFrom p t = true := by
    intro t
    induction t with
    | nil => intro p _; rfl
    | cons u t ih =>
      intro p hp
      simp only [ordFrom, Bool.and_eq_true]
      rw [List.pairwise_cons] at hp
      exact ⟨hp.1 u (by simp), ih u hp.2⟩
  cases l with
  | nil => rfl
  | cons r t => exact key t r h
theorem sep_pair {l : List Span} : ∀ {z : Int}, SepF z l → (∀ s, s ∈ l → z < s.1) ∧ l.Pairwise (fun s t => s.1 < t.1) := by
  induction l with
  | nil => intro z _; exact ⟨fun s hs => by simp at hs, List.Pairwise.nil⟩
  | cons s l ih =>
    rintro z ⟨h1, h2, h3⟩
    obtain ⟨i1, i2⟩ := ih h3
    refine ⟨fun t ht => ?_, List.pairwise_cons.2 ⟨fun t ht => ?_, i2⟩⟩
    · rcases List.mem_cons.1 ht with rfl | ht
      · exact h1
      · have := i1 t ht; omega
    · have := i1 t ht; omega
theorem canF_pair {bs : List Band} : ∀ {lo : Int} {p : List Span}, CanF lo p bs → bs.Pairwise (fun b c => b.lo < c.lo) := by
  induction bs with
  | nil => intro lo p _; exact List.Pairwise.nil
  | cons b bs ih =>
    rintro lo p ⟨h1, h2, h3, h4, h5, h6⟩
    refine List.pairwise_cons.2 ⟨fun c hc => ?_, ih h6⟩
    have := (Reg.CanF.mem h6 c hc).2.2.2
    omega
theorem told_pair {bs : List Band} {lo : Int} {p : List Span} (h : CanF lo p bs) : (told bs).Pairwise (fun p u => lessYX p u = true) := by
  unfold told
  rw [List.pairwise_flatMap]
  refine ⟨fun b hb => ?_, ?_⟩
  · obtain ⟨_, _, ⟨z, hz⟩, _⟩ := Reg.CanF.mem h b hb
    unfold rectsOf
    rw [List.pairwise_map]
    refine List.Pairwise.imp (R := fun s t : Span => s.1 < t.1) (fun {s t} hst => ?_) (sep_pair hz).2
    exact lessYX_iff.2 (.inr ⟨rfl, hst⟩)
  · refine List.Pairwise.imp (R := fun b c : Band => b.lo < c.lo) (fun {b c} hbc x hx y hy => lessYX_iff.2 (.inl ?_)) (canF_pair h)
    simp only [rectsOf, List.mem_map] at hx hy
    obtain ⟨s, _, rfl⟩ := hx
    obtain ⟨t, _, rfl⟩ := hy
    exact hbc
theorem canon_ordB {l : List R4} (hg : Reg.Good l) : ordB (canonL l) = true := by
  obtain ⟨⟨z, h⟩, _⟩ := Reg.bandsC_ok hg
  exact ordB_of (told_pair h)
theorem progC_canon {l : List R4} (hg : Reg.Good l) : Reg.progC (canonL l).length [] (canonL l) = true :=
  (Reg.progC_iff (Reg.canonL_good hg)).2 (Reg.canonL_twice hg).symm
/-- A region is right just if its rectangles are, and it is its own canonical form. -/
theorem regF_zero {l : List R4} : regF l = 0 ↔ rectsF l = 0 ∧ l = canonL l := by
  unfold regF
  constructor
  · intro h
    by_cases h0 : rectsF l = 0
    · rw [if_pos h0] at h
      refine ⟨h0, ?_⟩
      by_cases h1 : ordB l = true
      · rw [if_pos h1] at h
        by_cases h2 : Reg.progC l.length [] l = true
        · exact (Reg.progC_iff (good_of_rects h0).1).1 h2
        · rw [if_neg h2] at h; cases h
      · rw [if_neg h1] at h; cases h
    · rw [if_neg h0] at h; exact absurd h h0
  · rintro ⟨h0, h1⟩
    obtain ⟨hg, _⟩ := good_of_rects h0
    have h2 := canon_ordB hg
    have h3 := progC_canon hg
    rw [← h1] at h2 h3
    rw [if_pos h0, if_pos h2, if_pos h3]
theorem canon_rects {l : List R4} (h : rectsF l = 0) (hl : (canonL l).length ≤ 2000) : rectsF (canonL l) = 0 := by
  obtain ⟨_, h2⟩ := rectsF_zero.1 h
  obtain ⟨hg, _⟩ := good_of_rects h
  refine rectsF_zero.2 ⟨hl, in_range (Reg.canonL_good hg) fun x y hx => inR_range h2 x y ?_⟩
  exact (Reg.canonL_inR hg x y).1 hx
/-- What a region is, where Region gives one. -/
theorem rgF_zero {l : List R4} : rgF l = 0 ↔ rectsF l = 0 ∧ (canonL l).length ≤ 2000 := by
  unfold rgF resF
  constructor
  · intro h
    by_cases h0 : rectsF l = 0
    · rw [if_pos h0] at h
      refine ⟨h0, ?_⟩
      by_cases h1 : (canonL l).length ≤ 2000
      · exact h1
      · rw [if_neg h1] at h; cases h
    · rw [if_neg h0] at h; exact absurd h h0
  · rintro ⟨h0, h1⟩
    rw [if_pos h0, if_pos h1]
theorem rgL_of {l : List R4} (h : rgF l = 0) : rgL l = canonL l := by
  obtain ⟨h0, h1⟩ := rgF_zero.1 h
  unfold rgL resL
  rw [if_pos h0, if_pos h1]
theorem rgL_bad {l : List R4} (h : ¬ rgF l = 0) : rgL l = [] := by
  unfold rgL resL
  by_cases h0 : rectsF l = 0
  · rw [if_pos h0]
    by_cases h1 : (canonL l).length ≤ 2000
    · exact absurd (rgF_zero.2 ⟨h0, h1⟩) h
    · rw [if_neg h1]
  · rw [if_neg h0]
theorem rg_reg {l : List R4} (h : rgF l = 0) : regF (rgL l) = 0 := by
  obtain ⟨h0, h1⟩ := rgF_zero.1 h
  rw [rgL_of h]
  exact regF_zero.2 ⟨canon_rects h0 h1, (Reg.canonL_twice (good_of_rects h0).1).symm⟩
/-- The region of a right region is this. -/
theorem rg_self {l : List R4} (h : regF l = 0) : rgL l = l ∧ rgF l = 0 := by
  obtain ⟨h0, h1⟩ := regF_zero.1 h
  have hl := (good_of_rects h0).2
  have hf : rgF l = 0 := rgF_zero.2 ⟨h0, by rw [← h1]; exact hl⟩
  exact ⟨by rw [rgL_of hf, ← h1], hf⟩
theorem rg_reverse {l : List R4} (h : rgF l = 0) : rgL l.reverse = rgL l ∧ rgF l.reverse = 0 := by
  obtain ⟨h0, h1⟩ := rgF_zero.1 h
  obtain ⟨hl, hr⟩ := rectsF_zero.1 h0
  have h0' : rectsF l.reverse = 0 := rectsF_zero.2 ⟨by simpa using hl, fun r hr' => hr r (by simpa using hr')⟩
  have hc : canonL l.reverse = canonL l := Reg.canon_unique (good_of_rects h0').1 (good_of_rects h0).1 fun x y => by simp [inR]
  have hf : rgF l.reverse = 0 := rgF_zero.2 ⟨h0', by rw [hc]; exact h1⟩
  exact ⟨by rw [rgL_of hf, rgL_of h, hc], hf⟩
end Go.Proofs.YtmcbjaefnhfopaaGreat

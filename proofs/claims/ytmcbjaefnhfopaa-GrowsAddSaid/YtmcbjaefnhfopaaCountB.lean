/- How many rectangles lie beside a region. -/
import Derived.Test.YtmcbjaefnhfopaaCount
import Derived.Test.YtmcbjaefnhfopaaMix
namespace Go.Proofs.Ytmcbjaefnhfopaa
open Reg (R4 Span Band inR told rowL bandsFrom heightsL)
set_option linter.unusedSimpArgs false
set_option linter.unusedVariables false

theorem comb_count (way : Int) (a b : List R4) : (combL way a b).length ≤ ((heightsL (a ++ b)).map fun y => 2 * a.countP (alive y) + 2 * b.countP (alive y)).sum := by
  have h1 := told_bands (rowM way a b) (heightsL (a ++ b)) []
  have h2 : ((heightsL (a ++ b)).map fun y => (rowM way a b y).length).sum ≤ ((heightsL (a ++ b)).map fun y => 2 * a.countP (alive y) + 2 * b.countP (alive y)).sum := by
    generalize heightsL (a ++ b) = ys
    induction ys with
    | nil => simp
    | cons y ys ih =>
      have g1 := mixedL_len way (rowL a y) (rowL b y)
      have g2 := row_alive a y
      have g3 := row_alive b y
      rw [List.map_cons, List.map_cons, List.sum_cons, List.sum_cons]
      unfold rowM at ih ⊢
      omega
  have e : combL way a b = told (bandsFrom (rowM way a b) [] (heightsL (a ++ b))) := rfl
  rw [e]
  simp only [told, List.flatMap_nil, List.length_nil] at h1 ⊢
  omega
theorem sum_two (ys : List Int) (f g : Int → Nat) : (ys.map fun y => 2 * f y + 2 * g y).sum = 2 * (ys.map f).sum + 2 * (ys.map g).sum := by
  induction ys with
  | nil => rfl
  | cons y ys ih => simp only [List.map_cons, List.sum_cons, ih]; omega
theorem sum_le_one (ys : List Int) (f : Int → Nat) (h : ∀ y, f y ≤ 1) : (ys.map f).sum ≤ ys.length := by
  induction ys with
  | nil => simp
  | cons y ys ih => have := h y; simp only [List.map_cons, List.sum_cons, List.length_cons]; omega
/-- Beside a region, in a frame: not too many. -/
theorem beside_count {f : R4} {l : List R4} (way : Int) (hb : Banded l) (hf : ∀ r, r ∈ l → f.y0 ≤ r.y0 ∧ r.y1 ≤ f.y1 ∧ r.y0 < r.y1) : (combL way [f] l).length ≤ 6 * l.length + 4 := by
  have h1 := comb_count way [f] l
  rw [sum_two] at h1
  have h2 := sum_le_one (heightsL ([f] ++ l)) (fun y => [f].countP (alive y)) fun y => by simp only [List.countP_cons, List.countP_nil]; split <;> omega
  have h3 := heightsL_len ([f] ++ l)
  obtain ⟨s1, s2⟩ := Reg.heightsFrom_ok ([f] ++ l) [] List.Pairwise.nil
  have h4 := sum_alive (heightsL ([f] ++ l)) l fun r hr => count_one (v := r.y0) _ s1 fun a ha hal => by
    have hh := (s2 a).1 ha
    have hfr := hf r hr
    simp [alive] at hal
    rcases hh with hh | ⟨s, hs, hh⟩
    · simp at hh
    · simp at hs
      rcases hs with rfl | hs
      · rcases hh with rfl | rfl <;> omega
      · have := hb r hr s hs
        rcases hh with rfl | rfl <;> omega
  simp only [List.length_append, List.length_singleton] at h3
  omega
end Go.Proofs.Ytmcbjaefnhfopaa

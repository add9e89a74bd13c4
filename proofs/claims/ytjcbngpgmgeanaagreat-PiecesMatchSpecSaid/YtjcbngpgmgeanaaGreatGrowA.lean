/- grown of package shape, whatever the world. -/
import Derived.Test.YtjcbngpgmgeanaaGreatGrown
namespace Go.Proofs.YtjcbngpgmgeanaaGreat
open Go.RowKit Go.Shelf
open Reg (R4 inR canonL)
set_option linter.unusedSimpArgs false
set_option linter.unusedVariables false

theorem coords_of {l : List R4} (hg : Reg.Good l) {lo hi : Int} (h : ∀ x y, inR l x y → lo ≤ x ∧ x < hi ∧ lo ≤ y ∧ y < hi) : ∀ r, r ∈ l → lo ≤ r.x0 ∧ r.x0 < hi ∧ lo < r.x1 ∧ r.x1 ≤ hi ∧ lo ≤ r.y0 ∧ r.y0 < hi ∧ lo < r.y1 ∧ r.y1 ≤ hi := by
  intro r hr
  have g := hg r hr
  have h1 := h r.x0 r.y0 ⟨r, hr, by simp only [R4.has]; omega⟩
  have h2 := h (r.x1 - 1) (r.y1 - 1) ⟨r, hr, by simp only [R4.has]; omega⟩
  omega
theorem cR_two {out : List R4} : ∀ {k : Nat} {r : R4}, out[k]? = some r → ∀ a b : Int, ((cR out).set (k * 4 + 1) (.int .i64 a)).set (k * 4 + 3) (.int .i64 b) = cR (out.set k ⟨r.x0, a, r.x1, b⟩) := by
  induction out with
  | nil => intro k r h; simp at h
  | cons s l ih =>
    intro k r h a b
    cases k with
    | zero =>
      simp at h
      subst h
      simp [cR]
    | succ k =>
      simp at h
      have := ih h a b
      simp only [List.set_cons_succ, cR, List.flatMap_cons] at this ⊢
      rw [show (k + 1) * 4 + 3 = k * 4 + 3 + 1 + 1 + 1 + 1 from by omega, show (k + 1) * 4 + 1 = k * 4 + 1 + 1 + 1 + 1 + 1 from by omega]
      simp only [List.cons_append, List.nil_append, List.set_cons_succ]
      rw [this]
/-- Half way through the second loop. -/
def halfY (n : Int) (P : List R4) (i : Nat) : List R4 := (P.take i).map (wideY n) ++ P.drop i
theorem halfY_len (n : Int) (P : List R4) (i : Nat) : (halfY n P i).length = P.length := by simp [halfY]; omega
theorem halfY_at {n : Int} {P : List R4} {i : Nat} (h : i < P.length) : (halfY n P i)[i]? = some P[i] := by
  unfold halfY
  rw [List.getElem?_append_right (by simp; omega)]
  simp [Nat.min_eq_left (Nat.le_of_lt h), h]
theorem halfY_step {n : Int} {P : List R4} {i : Nat} (h : i < P.length) : (halfY n P i).set i (wideY n P[i]) = halfY n P (i + 1) := by
  unfold halfY
  have hl : ((P.take i).map (wideY n)).length = i := by simp; omega
  rw [List.set_append_right _ _ (by omega), hl, Nat.sub_self, List.drop_eq_getElem_cons h, List.set_cons_zero, List.take_succ_eq_append_getElem h, List.map_append]
  simp
theorem halfY_zero (n : Int) (P : List R4) : halfY n P 0 = P := by simp [halfY]
theorem halfY_all (n : Int) (P : List R4) : halfY n P P.length = P.map (wideY n) := by simp [halfY]
theorem mapX_snoc (n : Int) (l : List R4) (k : Nat) (h : k < l.length) : (l.take (k + 1)).map (wideX n) = (l.take k).map (wideX n) ++ [⟨l[k].x0 - n, l[k].y0, l[k].x1 + n, l[k].y1⟩] := by
  rw [List.take_succ_eq_append_getElem h, List.map_append]
  rfl
theorem wf_small {a : Int} (h1 : -4000000 ≤ a) (h2 : a ≤ 4000000) : (Lit.int .i64 a).wf = true := by
  have e1 : IntKind.i64.min = -9223372036854775808 := by decide
  have e2 : IntKind.i64.max = 9223372036854775807 := by decide
  simp [Lit.wf, e1, e2]
  omega

end Go.Proofs.YtjcbngpgmgeanaaGreat

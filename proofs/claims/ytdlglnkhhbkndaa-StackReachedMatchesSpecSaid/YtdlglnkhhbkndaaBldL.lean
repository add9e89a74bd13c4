/- What holds of the sub-boards in the order of pressing, as plain lists. -/
import Derived.Test.YtdlglnkhhbkndaaPrsP
namespace Go.Proofs.Ytdlglnkhhbkndaa
open Go.RowKit Go.Maps
set_option linter.unusedSimpArgs false
set_option linter.unusedVariables false
set_option maxRecDepth 100000

/-- How often each span has been drilled. -/
def drT (n : Nat) (P : List Nat) : List Int := (List.range n).map fun i => (P.count i : Nat)
theorem drT_len (n : Nat) (P : List Nat) : (drT n P).length = n := by simp [drT]
theorem drT_nil (n : Nat) : drT n [] = List.replicate n 0 := by
  unfold drT
  rw [show (fun i : Nat => ((List.count i ([] : List Nat) : Nat) : Int)) = fun _ => (0 : Int) from by funext i; rfl, List.map_const', List.length_range]
theorem drT_get {n : Nat} {P : List Nat} {j : Nat} (h : j < n) : (drT n P)[j]? = some ((P.count j : Nat) : Int) := by
  unfold drT
  rw [List.getElem?_map, List.getElem?_range h]
  rfl
theorem drT_step {n : Nat} {P : List Nat} {j : Nat} (h : j < n) : (drT n P).set j (((P.count j : Nat) : Int) + 1) = drT n (P ++ [j]) := by
  apply List.ext_getElem?
  intro i
  rw [List.getElem?_set]
  by_cases hi : j = i
  · subst hi
    rw [if_pos rfl, if_pos (by rw [drT_len]; exact h), drT_get h, List.count_append, List.count_singleton]
    simp
  · rw [if_neg hi]
    by_cases hn : i < n
    · rw [drT_get hn, drT_get hn, List.count_append, List.count_singleton]
      have : (j == i) = false := by simpa using hi
      rw [this]
      rfl
    · rw [List.getElem?_eq_none (by rw [drT_len]; omega), List.getElem?_eq_none (by rw [drT_len]; omega)]
section
variable {R : List Row} {l : List Thr} (ho : OrdL R l) (hb : Bd (cus R).length l l.length (boardsF R l))
include ho hb
theorem ord_once {j : Nat} (hj : j < l.length) : ((pressL R l).flatMap (·.hs)).count j = 1 := by
  have h1 := hb.cnt j
  rw [if_pos ⟨hj, hj⟩] at h1
  rw [← h1]
  exact (ho.1.flatMap_right _).count_eq j
theorem ord_hole : ∀ y ∈ pressL R l, ∀ i ∈ y.hs, i < l.length ∧ l[i]? = some ⟨y.a, y.b⟩ := fun y hy => hb.hs y (ho.1.subset hy)
theorem ord_r : ∀ y ∈ pressL R l, 1 ≤ y.a ∧ y.a < y.b ∧ y.b ≤ (cus R).length := fun y hy => hb.r y (ho.1.subset hy)
theorem ord_apart : (pressL R l).Pairwise apAB := (ho.1.pairwise_iff (fun {x y} h e => h ⟨e.1.symm, e.2.symm⟩)).2 hb.d
theorem ord_out {x y : AB} (hx : x ∈ pressL R l) (hy : y ∈ pressL R l) (hr : rAB x y) (ha : apAB x y) : ¬ (x.a ≤ y.a ∧ y.b ≤ x.b) := by
  intro h
  have rx := ord_r ho hb x hx
  have ry := ord_r ho hb y hy
  have cx := hb.core x (ho.1.subset hx)
  have cy := hb.core y (ho.1.subset hy)
  have tx : turnA x = if x.core then 0 else x.b - x.a := rfl
  have ty : turnA y = if y.core then 0 else y.b - y.a := rfl
  apply ha
  unfold rAB at hr
  cases hcx : x.core
  · cases hcy : y.core
    · rw [hcx] at tx
      rw [hcy] at ty
      simp at tx ty
      omega
    · rw [hcx] at tx
      rw [hcy] at ty
      simp at tx ty
      omega
  · have := cx hcx
    omega
theorem ord_behind {j k : Nat} {x y : AB} (hj : (pressL R l)[j]? = some x) (hk : (pressL R l)[k]? = some y) (h : j < k) : ¬ (x.a ≤ y.a ∧ y.b ≤ x.b) := by
  obtain ⟨j1, rfl⟩ := List.getElem?_eq_some_iff.1 hj
  obtain ⟨k1, rfl⟩ := List.getElem?_eq_some_iff.1 hk
  exact ord_out ho hb (List.getElem_mem _) (List.getElem_mem _) (List.pairwise_iff_getElem.1 ho.2 j k j1 k1 h) (List.pairwise_iff_getElem.1 (ord_apart ho hb) j k j1 k1 h)
theorem ord_last : ∃ z, (pressL R l)[(pressL R l).length - 1]? = some z ∧ 0 < (pressL R l).length ∧ z.a = 1 ∧ z.b = (cus R).length := by
  obtain ⟨y, hy, e1, e2⟩ := boards_whole R l
  have hy2 := ho.1.symm.subset hy
  obtain ⟨i, hi, ei⟩ := List.getElem_of_mem hy2
  have hlt : (pressL R l).length - 1 < (pressL R l).length := by omega
  refine ⟨_, List.getElem?_eq_getElem hlt, by omega, ?_⟩
  by_cases he : i = (pressL R l).length - 1
  · subst he
    rw [ei]
    exact ⟨e1, e2⟩
  · have hr := List.pairwise_iff_getElem.1 ho.2 i _ hi hlt (by omega)
    rw [ei] at hr
    have hz : (pressL R l)[(pressL R l).length - 1] ∈ pressL R l := List.getElem_mem _
    generalize (pressL R l)[(pressL R l).length - 1] = z at *
    have rz := ord_r ho hb z hz
    have ry := ord_r ho hb y hy2
    have cy := hb.core y hy
    have cz := hb.core z (ho.1.subset hz)
    have ty : turnA y = if y.core then 0 else y.b - y.a := rfl
    have tz : turnA z = if z.core then 0 else z.b - z.a := rfl
    unfold rAB at hr
    cases hcy : y.core
    · cases hcz : z.core
      · rw [hcy] at ty
        rw [hcz] at tz
        simp at ty tz
        omega
      · rw [hcy] at ty
        rw [hcz] at tz
        simp at ty tz
        omega
    · have := cy hcy
      omega
end
end Go.Proofs.Ytdlglnkhhbkndaa

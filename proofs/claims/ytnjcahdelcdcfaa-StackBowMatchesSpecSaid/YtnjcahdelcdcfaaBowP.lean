/- How stacks bow, and mirrored stacks, as plain mathematics. -/
import Derived.Test.YtnjcahdelcdcfaaStkP
namespace Go.Proofs.Ytnjcahdelcdcfaa
open Go.RowKit
set_option linter.unusedSimpArgs false
set_option linter.unusedVariables false

def bowGo (all : Int) : Int → List Row → Int
  | _, [] => 0
  | t, r :: R => r.2.thick * r.2.grow * (2 * t + r.2.thick - all) + bowGo all (t + r.2.thick) R
def bowR (R : List Row) : Int := bowGo (thick R) 0 R
def bowF (l : List Mat) (s : List Lay) : Int := if stackF l s = 0 then bowR (rowsOf l s) else 0
def mirF (l : List Mat) (s : List Lay) : List Lay := if stackF l s = 0 then s.reverse else []
theorem bowGo_append (all : Int) : ∀ (R S : List Row) (t : Int), bowGo all t (R ++ S) = bowGo all t R + bowGo all (t + thick R) S
  | [], S, t => by simp [bowGo, thick]
  | r :: R, S, t => by
    have := bowGo_append all R S (t + r.2.thick)
    simp only [List.cons_append, bowGo, thick]
    rw [this, show t + r.2.thick + thick R = t + (r.2.thick + thick R) by omega]
    omega
theorem thick_reverse : ∀ R : List Row, thick R.reverse = thick R
  | [] => rfl
  | r :: R => by
    rw [List.reverse_cons, thick_append, thick_reverse R]
    simp only [thick]
    omega
theorem bowGo_reverse (all : Int) : ∀ (R : List Row) (t : Int), bowGo all (all - t - thick R) R.reverse = -bowGo all t R
  | [], t => by simp [bowGo]
  | r :: R, t => by
    have ih := bowGo_reverse all R (t + r.2.thick)
    rw [List.reverse_cons, bowGo_append, thick_reverse]
    simp only [bowGo, thick]
    rw [show all - t - (r.2.thick + thick R) = all - (t + r.2.thick) - thick R by omega, ih,
      show 2 * (all - (t + r.2.thick) - thick R + thick R) + r.2.thick - all = -(2 * t + r.2.thick - all) by omega, Int.mul_neg]
    omega
theorem bowR_reverse (R : List Row) : bowR R.reverse = -bowR R := by
  have := bowGo_reverse (thick R) R 0
  unfold bowR
  rw [thick_reverse]
  rwa [show thick R - 0 - thick R = 0 by omega] at this
theorem thick_mats : ∀ R S : List Row, R.map (·.2) = S.map (·.2) → thick R = thick S
  | [], [], _ => rfl
  | [], _ :: _, h => by simp at h
  | _ :: _, [], h => by simp at h
  | r :: R, s :: S, h => by
    simp only [List.map_cons, List.cons.injEq] at h
    simp only [thick, h.1, thick_mats R S h.2]
theorem bowGo_mats (all : Int) : ∀ (R S : List Row) (t : Int), R.map (·.2) = S.map (·.2) → bowGo all t R = bowGo all t S
  | [], [], _, _ => rfl
  | [], _ :: _, _, h => by simp at h
  | _ :: _, [], _, h => by simp at h
  | r :: R, s :: S, t, h => by
    simp only [List.map_cons, List.cons.injEq] at h
    simp only [bowGo, h.1, bowGo_mats all R S _ h.2]
theorem bowR_own {R : List Row} (h : R.map (·.2) = R.reverse.map (·.2)) : bowR R = 0 := by
  have h1 := bowR_reverse R
  have h2 : bowR R = bowR R.reverse := by
    unfold bowR
    rw [thick_mats R R.reverse h]
    exact bowGo_mats _ _ _ _ h
  omega
/-! ## Mirrored stacks are right -/
theorem meetB_symm (a b : Int) : meetB a b = meetB b a := by
  unfold meetB
  by_cases h : a = 1 ∨ b = 1
  · rw [if_pos h, if_pos (h.symm)]
    simp only [ne_eq, eq_comm]
  · rw [if_neg h, if_neg (fun k => h k.symm), Bool.and_comm]
theorem GoodR.rev {R : List Row} (h : GoodR R) : GoodR R.reverse := by
  refine ⟨fun r hr => h.w r (List.mem_reverse.1 hr), fun r hr => h.e r (List.mem_reverse.1 hr), ?_, fun i q r hi hi' => ?_⟩
  · rw [List.pairwise_reverse]
    exact h.d.imp fun hab ha hb e => hab hb ha e.symm
  · have hlt := (List.getElem?_eq_some_iff.1 hi').1
    rw [List.length_reverse] at hlt
    rw [List.getElem?_reverse (by omega)] at hi hi'
    rw [meetB_symm]
    refine h.m (R.length - 1 - (i + 1)) r q hi' ?_
    rwa [show R.length - 1 - (i + 1) + 1 = R.length - 1 - i by omega]
theorem rowF_good {R : List Row} {r : Row} (h : GoodR (R ++ [r])) : rowF R r = 0 := by
  have hr : r ∈ R ++ [r] := by simp
  obtain ⟨_, _, h3⟩ := List.pairwise_append.1 h.d
  unfold rowF
  rw [if_neg, if_neg, if_pos]
  · cases hl : R.getLast? with
    | none => rfl
    | some q =>
      simp only [Option.all_some]
      have hpos : 0 < R.length := by
        cases R with
        | nil => simp at hl
        | cons a l => simp
      rw [List.getLast?_eq_getElem?] at hl
      refine h.m (R.length - 1) q r ?_ ?_
      · rw [List.getElem?_append_left (by omega)]
        exact hl
      · rw [show R.length - 1 + 1 = R.length by omega, List.getElem?_append_right (Nat.le_refl _)]
        simp
  · intro hc
    simp only [Bool.and_eq_true, List.any_eq_true, decide_eq_true_eq] at hc
    obtain ⟨hc, q, hq, hcq, he⟩ := hc
    exact h3 q hq r (by simp) hcq hc he
  · intro hc
    cases hcu : isCu r
    · have := h.e r hr hcu
      rw [hcu, this] at hc
      simp at hc
    · have := h.w r hr hcu
      rw [hcu, this] at hc
      simp at hc
theorem GoodR.left {R S : List Row} (h : GoodR (R ++ S)) : GoodR R := by
  refine ⟨fun r hr => h.w r (by simp [hr]), fun r hr => h.e r (by simp [hr]), (List.pairwise_append.1 h.d).1, fun i q r hi hi' => ?_⟩
  have h1 := (List.getElem?_eq_some_iff.1 hi).1
  have h2 := (List.getElem?_eq_some_iff.1 hi').1
  exact h.m i q r (by rw [List.getElem?_append_left h1]; exact hi) (by rw [List.getElem?_append_left h2]; exact hi')
theorem good_go {m : List Mat} : ∀ (s : List Lay) (R : List Row), (∀ y ∈ s, (matOf m y.mat).isSome = true) → GoodR (R ++ s.map (rowOf m)) → rowsGo m R s = (0, R ++ s.map (rowOf m))
  | [], R, _, _ => by simp [rowsGo]
  | y :: s, R, hf, hg => by
    obtain ⟨x, hx⟩ := Option.isSome_iff_exists.1 (hf y (.head _))
    have hr : rowOf m y = (y.name, x) := by simp [rowOf, hx]
    have e : R ++ (y :: s).map (rowOf m) = (R ++ [(y.name, x)]) ++ s.map (rowOf m) := by simp [hr]
    rw [e] at hg ⊢
    rw [rowsGo_go hx (rowF_good hg.left)]
    exact good_go s _ (fun z hz => hf z (.tail _ hz)) hg
theorem cus_len (R : List Row) : (cus R).length = (R.filter isCu).length := by
  rw [show (cus R).length = (nms R).length from cus_nms R 0]
  simp [nms]
theorem formB_reverse (R : List Row) : formB R.reverse = formB R := by
  unfold formB
  rw [cus_len, cus_len, List.filter_reverse, List.length_reverse, List.head?_reverse, List.getLast?_reverse, Bool.and_assoc, Bool.and_assoc, Bool.and_comm (Option.any isCu R.getLast?)]
theorem stackF_reverse {m : List Mat} {s : List Lay} (h : stackF m s = 0) : stackF m s.reverse = 0 ∧ rowsOf m s.reverse = (rowsOf m s).reverse := by
  obtain ⟨h1, h2, h3, h4⟩ := stackF_go h
  have hf := rows_found h
  have hg := (rows_good h).rev
  rw [rows_eq h, ← List.map_reverse] at hg
  have hgo := good_go (m := m) s.reverse [] (fun y hy => hf y (List.mem_reverse.1 hy)) (by rw [List.nil_append]; exact hg)
  rw [List.nil_append] at hgo
  have hrev : rowsOf m s.reverse = (rowsOf m s).reverse := by
    rw [rowsOf, hgo, rows_eq h, List.map_reverse]
  refine ⟨?_, hrev⟩
  unfold stackF
  rw [if_pos h1, if_neg (by rw [List.length_reverse]; omega), hgo, if_pos rfl, List.map_reverse, formB_reverse]
  rw [rows_eq h] at h4
  rw [h4]
  rfl
theorem bowF_mirror {m : List Mat} {s : List Lay} (h : stackF m s = 0) : bowF m s.reverse = -bowF m s := by
  obtain ⟨h1, h2⟩ := stackF_reverse h
  unfold bowF
  rw [if_pos h, if_pos h1, h2, bowR_reverse]
/-- Whether a stack is its own mirrored one. -/
def ownS (s : List Lay) : Prop := ∀ i, i < s.length → (s[i]?.map Lay.mat) = (s[s.length - 1 - i]?.map Lay.mat)
theorem bowF_own {m : List Mat} {s : List Lay} (h : stackF m s = 0) (ho : ownS s) : bowF m s = 0 := by
  unfold bowF
  rw [if_pos h]
  refine bowR_own ?_
  rw [rows_eq h, ← List.map_reverse, List.map_map, List.map_map]
  have e : s.map Lay.mat = s.reverse.map Lay.mat := by
    apply List.ext_getElem?
    intro i
    by_cases hi : i < s.length
    · rw [List.getElem?_map, List.getElem?_map, List.getElem?_reverse hi]
      exact ho i hi
    · rw [List.getElem?_eq_none (by simp; omega), List.getElem?_eq_none (by simp; omega)]
  have e2 : ∀ l : List Lay, l.map ((fun r : Row => r.2) ∘ rowOf m) = (l.map Lay.mat).map (fun n => (matOf m n).getD noMat) := fun l => by
    rw [List.map_map]
    rfl
  rw [e2, e2, e]
/-! ## Bounds -/
theorem mul_small {a b : Int} (h1 : 0 ≤ a) (h2 : a ≤ 2000) (h3 : 0 ≤ b) (h4 : b ≤ 1000) : 0 ≤ a * b ∧ a * b ≤ 2000000 := by
  refine ⟨Int.mul_nonneg h1 h3, ?_⟩
  have := Int.mul_le_mul h2 h4 h3 (by omega)
  omega
theorem mul_big {p d : Int} (h1 : 0 ≤ p) (h2 : p ≤ 2000000) (h3 : -10000000 ≤ d) (h4 : d ≤ 10000000) : -20000000000000 ≤ p * d ∧ p * d ≤ 20000000000000 := by
  constructor
  · have e1 : p * -10000000 ≤ p * d := Int.mul_le_mul_of_nonneg_left h3 h1
    omega
  · have e1 : p * d ≤ p * 10000000 := Int.mul_le_mul_of_nonneg_left h4 h1
    omega
end Go.Proofs.Ytnjcahdelcdcfaa

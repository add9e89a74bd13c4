/- What coppers reach, as plain lists. -/
import Derived.Test.YtnjcahdelcdcfaaRch
namespace Go.Proofs.Ytnjcahdelcdcfaa
open Go.RowKit Go.Maps
set_option linter.unusedSimpArgs false
set_option linter.unusedVariables false
set_option maxRecDepth 100000

theorem stack_names {l : List Mat} {s : List Lay} (h : stackF l s = 0) : (nms (rowsOf l s)).length ≤ 1000 := by
  have h1 := cus_few (rowsOf l s) 0
  have h2 : (rowsOf l s).length ≤ 60 := by
    rw [rows_eq h, List.length_map]
    exact (stackF_go h).2.1
  rw [nms_len]
  unfold cus
  omega
theorem dn_spec (t : List Thr) : ∀ k, (∀ j, dnJ t k ≤ j → j < k → jB t j = true) ∧ (dnJ t k = 0 ∨ jB t (dnJ t k - 1) = false)
  | 0 => ⟨fun j _ h => by omega, .inl rfl⟩
  | k + 1 => by
    obtain ⟨h1, h2⟩ := dn_spec t k
    rw [dnJ]
    cases hb : jB t k
    · simp only [Bool.false_eq_true, if_false]
      exact ⟨fun j h3 h4 => by omega, .inr (by rw [Nat.add_sub_cancel]; exact hb)⟩
    · simp only [if_true]
      refine ⟨fun j h3 h4 => ?_, h2⟩
      by_cases e : j = k
      · rw [e]; exact hb
      · exact h1 j h3 (by omega)
theorem dn_one (t : List Thr) (d : Nat) : ∀ k, d ≤ k → (∀ j, d ≤ j → j < k → jB t j = true) → (d = 0 ∨ jB t (d - 1) = false) → dnJ t k = d
  | 0, h, _, _ => by rw [dnJ]; omega
  | k + 1, h, h1, h2 => by
    rw [dnJ]
    by_cases e : d = k + 1
    · rcases h2 with h2 | h2
      · omega
      · rw [e, Nat.add_sub_cancel] at h2
        rw [h2, if_neg (by decide), e]
    · rw [if_pos (h1 k (by omega) (by omega))]
      exact dn_one t d k (by omega) (fun j h3 h4 => h1 j h3 (by omega)) h2
theorem up_spec (t : List Thr) : ∀ f k, (∀ j, k ≤ j → j < upJ t f k → jB t j = true) ∧ (upJ t f k = k + f ∨ jB t (upJ t f k) = false)
  | 0, k => ⟨fun j h1 h2 => by rw [upJ] at h2; omega, .inl rfl⟩
  | f + 1, k => by
    obtain ⟨h1, h2⟩ := up_spec t f (k + 1)
    rw [upJ]
    cases hb : jB t k
    · simp only [Bool.false_eq_true, if_false]
      exact ⟨fun j h3 h4 => by omega, .inr hb⟩
    · simp only [if_true]
      refine ⟨fun j h3 h4 => ?_, ?_⟩
      · by_cases e : j = k
        · rw [e]; exact hb
        · exact h1 j (by omega) h4
      · rcases h2 with h2 | h2
        · exact .inl (by omega)
        · exact .inr h2
theorem up_one (t : List Thr) (u : Nat) : ∀ f k, k ≤ u → u ≤ k + f → (∀ j, k ≤ j → j < u → jB t j = true) → (u = k + f ∨ jB t u = false) → upJ t f k = u
  | 0, k, h1, h2, _, _ => by rw [upJ]; omega
  | f + 1, k, h1, h2, h3, h4 => by
    rw [upJ]
    by_cases e : u = k
    · rcases h4 with h4 | h4
      · omega
      · rw [← e, h4, if_neg (by decide)]
    · rw [if_pos (h3 k (Nat.le_refl _) (by omega))]
      exact up_one t u f (k + 1) (by omega) (by omega) (fun j h5 h6 => h3 j (by omega) h6) (h4.imp (fun e => by omega) id)
/-- What lies among what is joined with a copper is joined with the same. -/
theorem reach_same {R : List Row} {t : List Thr} {i k : Nat} (hi : i < (nms R).length) (h1 : dnJ t i ≤ k) (h2 : k ≤ upJ t ((nms R).length - 1 - i) i) : reachL R t k = reachL R t i := by
  obtain ⟨d1, d2⟩ := dn_spec t i
  obtain ⟨u1, u2⟩ := up_spec t ((nms R).length - 1 - i) i
  have u3 := upJ_ge t ((nms R).length - 1 - i) i
  have d3 := dnJ_le t i
  have e1 : dnJ t k = dnJ t i := dn_one t _ k h1 (fun j h3 h4 => by
    by_cases e : j < i
    · exact d1 j h3 e
    · exact u1 j (by omega) (by omega)) d2
  have e2 : upJ t ((nms R).length - 1 - k) k = upJ t ((nms R).length - 1 - i) i := up_one t _ _ k h2 (by omega) (fun j h3 h4 => by
    by_cases e : j < i
    · exact d1 j (by omega) e
    · exact u1 j (by omega) h4) (by
    rcases u2 with u2 | u2
    · exact .inl (by omega)
    · exact .inr u2)
  unfold reachL
  rw [e1, e2]
theorem reach_len {R : List Row} {t : List Thr} {i : Nat} (hi : i < (nms R).length) : (reachL R t i).length = upJ t ((nms R).length - 1 - i) i + 1 - dnJ t i := by
  have u3 := upJ_ge t ((nms R).length - 1 - i) i
  unfold reachL
  rw [List.length_take, List.length_drop]
  omega
theorem reach_get {R : List Row} {t : List Thr} {i q : Nat} (hi : i < (nms R).length) (hq : q < (reachL R t i).length) : (reachL R t i)[q]? = (nms R)[dnJ t i + q]? ∧ dnJ t i + q ≤ upJ t ((nms R).length - 1 - i) i ∧ dnJ t i + q < (nms R).length := by
  rw [reach_len hi] at hq
  have u3 := upJ_ge t ((nms R).length - 1 - i) i
  refine ⟨?_, by omega, by omega⟩
  unfold reachL
  rw [List.getElem?_take_of_lt hq, List.getElem?_drop]
theorem num_some {R : List Row} {a : ByteArray} {i : Nat} (h : numI R a = some i) : (nms R)[i]? = some a ∧ i < (nms R).length := by
  unfold numI at h
  obtain ⟨h1, h2, -⟩ := List.findIdx?_eq_some_iff_getElem.1 h
  refine ⟨?_, h1⟩
  rw [List.getElem?_eq_getElem h1]
  have := of_decide_eq_true h2
  rw [this]
theorem num_of {R : List Row} (hd : (nms R).Pairwise (· ≠ ·)) {a : ByteArray} {i : Nat} (h : (nms R)[i]? = some a) : numI R a = some i := by
  obtain ⟨hi, rfl⟩ := List.getElem?_eq_some_iff.1 h
  unfold numI
  refine List.findIdx?_eq_some_iff_getElem.2 ⟨hi, by simp, fun j hj => ?_⟩
  have := List.pairwise_iff_getElem.1 hd j i (by omega) hi hj
  simpa using this
/-- What is reached from what is reached. -/
theorem reach_back {R : List Row} {t : List Thr} (hd : (nms R).Pairwise (· ≠ ·)) {i q : Nat} {b : ByteArray} (hi : i < (nms R).length) (hb : (reachL R t i)[q]? = some b) : ∃ k, numI R b = some k ∧ reachL R t k = reachL R t i := by
  obtain ⟨g1, g2, g3⟩ := reach_get hi (List.getElem?_eq_some_iff.1 hb).1
  rw [hb] at g1
  exact ⟨dnJ t i + q, num_of hd g1.symm, reach_same hi (Nat.le_add_right _ _) g2⟩
theorem reach_self {R : List Row} {t : List Thr} {a : ByteArray} {i : Nat} (h : numI R a = some i) : a ∈ reachL R t i := by
  obtain ⟨h1, hi⟩ := num_some h
  have u3 := upJ_ge t ((nms R).length - 1 - i) i
  have d3 := dnJ_le t i
  have hq : i - dnJ t i < (reachL R t i).length := by rw [reach_len hi]; omega
  obtain ⟨g1, -, -⟩ := reach_get (t := t) hi hq
  rw [show dnJ t i + (i - dnJ t i) = i by omega, h1] at g1
  exact List.mem_of_getElem? g1
end Go.Proofs.Ytnjcahdelcdcfaa

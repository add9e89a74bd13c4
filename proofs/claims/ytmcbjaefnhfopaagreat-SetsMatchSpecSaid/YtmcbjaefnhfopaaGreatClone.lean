/- slices.Clone and slices.Reverse of rectangles, whatever the world. -/
import Derived.Test.YtmcbjaefnhfopaaGreatCanon
import Derived.BigRegion
namespace Go.Proofs.YtmcbjaefnhfopaaGreat
open Go.RowKit
open Reg (R4)
set_option linter.unusedSimpArgs false
set_option linter.unusedVariables false

theorem rd_cells {w : World} {A : Option Addr} {l : List R4} {ad : Addr} (h : Rd w A l) (hA : A = some ad) : ∀ j u, (cR l)[j]? = some u → w.cell? (ad.add j) = some u := by
  intro t u hu
  have ht : t < l.length * 4 := by rw [← cR_len]; exact (List.getElem?_eq_some_iff.1 hu).1
  obtain ⟨b, off, e, hlt, hc⟩ := h (by omega)
  rw [hA] at e
  cases e
  have e : (⟨b, off, none⟩ : Addr).add t = ⟨b, off + t, none⟩ := by unfold Addr.add; split <;> simp_all
  rw [e]
  have hq : t / 4 < l.length := by omega
  have hi : l[t / 4]? = some l[t / 4] := List.getElem?_eq_getElem hq
  obtain ⟨a0, a1, a2, a3⟩ := hc _ _ hi
  obtain ⟨c0, c1, c2, c3⟩ := cR_at hi
  have hm : t % 4 < 4 := Nat.mod_lt _ (by decide)
  have hd : t = t / 4 * 4 + t % 4 := by omega
  generalize t / 4 = q at *
  generalize t % 4 = m at *
  subst hd
  rw [← hu]
  match m, hm with
  | 0, _ => exact a0.trans c0.symm
  | 1, _ => exact a1.trans c1.symm
  | 2, _ => exact a2.trans c2.symm
  | 3, _ => exact a3.trans c3.symm
theorem cR_one (l : List R4) : ∀ u ∈ cR l, u.oneCell' = true := by
  intro u hu
  simp only [cR, List.mem_flatMap] at hu
  obtain ⟨e, _, hu⟩ := hu
  simp at hu
  rcases hu with rfl | rfl | rfl | rfl <;> rfl

/-! ## The reversal -/
/-- i elements from either end are exchanged. -/
def RevAt (l m : List R4) (i : Nat) : Prop := m.length = l.length ∧ ∀ t, t < l.length → m[t]? = if t < i ∨ l.length - i ≤ t then l[l.length - 1 - t]? else l[t]?
theorem RevAt.start (l : List R4) : RevAt l l 0 := ⟨rfl, fun t ht => by rw [if_neg (by omega)]⟩
theorem RevAt.step {l m : List R4} {i j : Nat} {r s : R4} (h : RevAt l m i) (hj : j + i + 1 = l.length) (hij : i < j) (hr : m[i]? = some r) (hs : m[j]? = some s) : RevAt l ((m.set i s).set j r) (i + 1) := by
  obtain ⟨h1, h2⟩ := h
  have e1 := h2 i (by omega)
  have e2 := h2 j (by omega)
  rw [if_neg (by omega), hr] at e1
  rw [if_neg (by omega), hs] at e2
  refine ⟨by simpa using h1, fun t ht => ?_⟩
  simp only [List.getElem?_set, List.length_set]
  by_cases htj : j = t
  · subst htj
    rw [if_pos rfl, if_pos (by omega), if_pos (by omega), show l.length - 1 - j = i from by omega]
    exact e1
  · rw [if_neg htj]
    by_cases hti : i = t
    · subst hti
      rw [if_pos rfl, if_pos (by omega), if_pos (by omega), show l.length - 1 - i = j from by omega]
      exact e2
    · rw [if_neg hti, h2 t ht]
      by_cases hin : t < i ∨ l.length - i ≤ t
      · rw [if_pos hin, if_pos (by omega)]
      · rw [if_neg hin, if_neg (by omega)]
theorem RevAt.done {l m : List R4} {i : Nat} (h : RevAt l m i) (hi : l.length ≤ 2 * i + 1) : m = l.reverse := by
  obtain ⟨h1, h2⟩ := h
  apply List.ext_getElem?
  intro t
  by_cases ht : t < l.length
  · rw [h2 t ht, List.getElem?_reverse ht]
    split
    · rfl
    · rw [show l.length - 1 - t = t from by omega]
  · rw [List.getElem?_eq_none (by omega), List.getElem?_eq_none (by simp; omega)]
theorem cR_put : ∀ (m : List R4) (i : Nat) (s : R4), i < m.length → ((((cR m).set (i * 4) (.int .i64 s.x0)).set (i * 4 + 1) (.int .i64 s.y0)).set (i * 4 + 2) (.int .i64 s.x1)).set (i * 4 + 3) (.int .i64 s.y1) = cR (m.set i s)
  | [], _, _, h => by simp at h
  | a :: m, 0, s, _ => rfl
  | a :: m, i + 1, s, h => by
    have := cR_put m i s (by simpa using h)
    simp only [List.set_cons_succ]
    have e : ∀ x : R4, cR (a :: m) = [Value.int .i64 a.x0, .int .i64 a.y0, .int .i64 a.x1, .int .i64 a.y1] ++ cR m := fun _ => rfl
    have e2 : cR (a :: m.set i s) = [Value.int .i64 a.x0, .int .i64 a.y0, .int .i64 a.x1, .int .i64 a.y1] ++ cR (m.set i s) := rfl
    rw [e2, ← this, e s]
    have k : ∀ (xs : List Value) (j : Nat) (v : Value), ([Value.int .i64 a.x0, .int .i64 a.y0, .int .i64 a.x1, .int .i64 a.y1] ++ xs).set (4 + j) v = [Value.int .i64 a.x0, .int .i64 a.y0, .int .i64 a.x1, .int .i64 a.y1] ++ xs.set j v := fun xs j v => by
      rw [List.set_append_right _ _ (by simp)]
      simp
    rw [show (i + 1) * 4 = 4 + i * 4 from by omega, k, show 4 + i * 4 + 1 = 4 + (i * 4 + 1) from by omega, k, show 4 + i * 4 + 2 = 4 + (i * 4 + 2) from by omega, k, show 4 + i * 4 + 3 = 4 + (i * 4 + 3) from by omega, k]
theorem own_put4 {w : World} {base g cap : Nat} {m : List R4} (h : w.ownsRow base 28 4 (.slice (some ⟨g, 0, none⟩) m.length cap) m.length (cR m)) {i : Nat} (hi : i < m.length) (s : R4) :
    ((((w.setCell ⟨g, i * 4, none⟩ (.int .i64 s.x0)).setCell ⟨g, i * 4 + 1, none⟩ (.int .i64 s.y0)).setCell ⟨g, i * 4 + 2, none⟩ (.int .i64 s.x1)).setCell ⟨g, i * 4 + 3, none⟩ (.int .i64 s.y1)).ownsRow base 28 4 (.slice (some ⟨g, 0, none⟩) (m.set i s).length cap) (m.set i s).length (cR (m.set i s)) := by
  have h1 := own_setC (own_setC (own_setC (own_setC h (j := i * 4) (by omega) (.int .i64 s.x0)) (j := i * 4 + 1) (by omega) (.int .i64 s.y0)) (j := i * 4 + 2) (by omega) (.int .i64 s.x1)) (j := i * 4 + 3) (by omega) (.int .i64 s.y1)
  rw [cR_put m i s hi] at h1
  rw [List.length_set]
  exact h1

end Go.Proofs.YtmcbjaefnhfopaaGreat

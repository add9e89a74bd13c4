/- Slices of structs of two cells: plain lemmas on their cells, exchanged ends. -/
import Derived.Test.YtdlglnkhhbkndaaOwn
import Derived.Test.YtdlglnkhhbkndaaOpn
namespace Go.Proofs.Ytdlglnkhhbkndaa
open Go.RowKit
set_option linter.unusedSimpArgs false
set_option linter.unusedVariables false

theorem own_setC {w : World} {base : Nat} {T : TypeId} {size n cap g : Nat} {xs : List Value} (h : w.ownsRow base T size (.slice (some ⟨g, 0, none⟩) n cap) n xs) {j : Nat} (v : Value) :
    (w.setCell ⟨g, j, none⟩ v).ownsRow base T size (.slice (some ⟨g, 0, none⟩) n cap) n (xs.set j v) := by
  rcases own_open h with ⟨h0, _⟩ | ⟨g', cap', cur, hv, h1, h2, h3, h4, h5, h6⟩
  · cases h0
  · cases hv
    refine own_mk h1 (blk_set h2 j v) h3 h4 (by simpa using h5) ?_
    rw [← h6, Array.toList_setIfInBounds, List.take_set]
theorem own_cellC {w : World} {base : Nat} {T : TypeId} {size n cap g : Nat} {xs : List Value} (h : w.ownsRow base T size (.slice (some ⟨g, 0, none⟩) n cap) n xs) {j : Nat} {v : Value} (hv : xs[j]? = some v) : w.cell? ⟨g, j, none⟩ = some v ∧ w.frozen? ⟨g, j, none⟩ = false := by
  rcases own_open h with ⟨h0, _⟩ | ⟨g', cap', cur, e, h1, h2, h3, h4, h5, h6⟩
  · cases h0
  · cases e
    refine ⟨?_, blk_free h2 _⟩
    rw [blk_cell h2, ← hv, ← h6]
    have hlt : j < n * size := by
      have := (List.getElem?_eq_some_iff.1 hv).1
      rw [h.1] at this
      exact this
    rw [List.getElem?_take_of_lt hlt, Array.getElem?_toList]
theorem own_drewC {w : World} {base : Nat} {T : TypeId} {size n : Nat} {v : Value} {xs : List Value} (h : w.ownsRow base T size v n xs) : w.drew.ownsRow base T size v n xs := h
theorem own_drewN {w : World} {base : Nat} {T : TypeId} {size n : Nat} {v : Value} {xs : List Value} (h : w.ownsRow base T size v n xs) (k : Nat) : (w.drewN k).ownsRow base T size v n xs := h
section
variable {α : Type} {c1 c2 : α → Value}
/-- The cells of structs of two. -/
def fm (c1 c2 : α → Value) (l : List α) : List Value := l.flatMap fun x => [c1 x, c2 x]
theorem fm_len : ∀ l : List α, (fm c1 c2 l).length = l.length * 2
  | [] => rfl
  | x :: l => by
    have := fm_len l
    simp only [fm, List.flatMap_cons, List.length_append, List.length_cons, List.length_nil] at *
    omega
theorem fm_at : ∀ {l : List α} {i : Nat} {x : α}, l[i]? = some x → (fm c1 c2 l)[i * 2]? = some (c1 x) ∧ (fm c1 c2 l)[i * 2 + 1]? = some (c2 x)
  | [], _, _, h => by simp at h
  | y :: l, 0, x, h => by
    simp at h
    subst h
    simp [fm]
  | y :: l, i + 1, x, h => by
    have := fm_at (l := l) (i := i) (x := x) (by simpa using h)
    rw [show (i + 1) * 2 = i * 2 + 2 by omega, show i * 2 + 2 + 1 = i * 2 + 1 + 2 by omega]
    simpa [fm, List.flatMap_cons] using this
theorem fm_append (a b : List α) : fm c1 c2 (a ++ b) = fm c1 c2 a ++ fm c1 c2 b := by simp [fm]
theorem fm_put : ∀ (m : List α) (i : Nat) (s : α), i < m.length → ((fm c1 c2 m).set (i * 2) (c1 s)).set (i * 2 + 1) (c2 s) = fm c1 c2 (m.set i s)
  | [], _, _, h => by simp at h
  | a :: m, 0, s, _ => rfl
  | a :: m, i + 1, s, h => by
    have := fm_put m i s (by simpa using h)
    have e1 : fm c1 c2 (a :: m) = c1 a :: c2 a :: fm c1 c2 m := rfl
    have e2 : fm c1 c2 ((a :: m).set (i + 1) s) = c1 a :: c2 a :: fm c1 c2 (m.set i s) := rfl
    rw [e1, e2, ← this, show (i + 1) * 2 = i * 2 + 1 + 1 by omega]
    simp only [List.set_cons_succ]
theorem rd_cells2 {w : World} {A : Option Addr} {l : List α} {ad : Addr} (h : RdG 2 (fun x => [c1 x, c2 x]) w A l) (hA : A = some ad) : ∀ j u, (fm c1 c2 l)[j]? = some u → w.cell? (ad.add j) = some u := by
  intro t u hu
  have ht : t < l.length * 2 := by rw [← fm_len (c1 := c1) (c2 := c2) l]; exact (List.getElem?_eq_some_iff.1 hu).1
  obtain ⟨b, off, e, hlt, hc⟩ := h (by omega)
  rw [hA] at e
  cases e
  have e : (⟨b, off, none⟩ : Addr).add t = ⟨b, off + t, none⟩ := by unfold Addr.add; split <;> simp_all
  rw [e]
  have hq : t / 2 < l.length := by omega
  have hi : l[t / 2]? = some l[t / 2] := List.getElem?_eq_getElem hq
  have a0 := hc _ _ hi 0 _ rfl
  have a1 := hc _ _ hi 1 _ rfl
  obtain ⟨d0, d1⟩ := fm_at (c1 := c1) (c2 := c2) hi
  have hm : t % 2 < 2 := Nat.mod_lt _ (by decide)
  have hd : t = t / 2 * 2 + t % 2 := by omega
  generalize t / 2 = q at *
  generalize t % 2 = m at *
  subst hd
  rw [← hu]
  match m, hm with
  | 0, _ => exact a0.trans d0.symm
  | 1, _ => exact a1.trans d1.symm
theorem fm_one (h1 : ∀ x, (c1 x).oneCell' = true) (h2 : ∀ x, (c2 x).oneCell' = true) (l : List α) : ∀ u ∈ fm c1 c2 l, u.oneCell' = true := by
  intro u hu
  simp only [fm, List.mem_flatMap] at hu
  obtain ⟨e, _, hu⟩ := hu
  simp at hu
  rcases hu with rfl | rfl
  · exact h1 e
  · exact h2 e
theorem rd_of_own {w : World} {base n : Nat} {T : TypeId} {A : Option Addr} {cap : Nat} {l : List α} (h : w.ownsRow base T 2 (.slice A l.length cap) l.length (fm c1 c2 l)) : RdG 2 (fun x => [c1 x, c2 x]) w A l := by
  intro hpos
  obtain ⟨A', c', e, _, _, hc⟩ := own_cells h
  cases e
  obtain ⟨g, rfl, _, hlt, hcell⟩ := hc hpos
  refine ⟨g, 0, rfl, hlt, fun i x hi j v hj => ?_⟩
  obtain ⟨d0, d1⟩ := fm_at (c1 := c1) (c2 := c2) hi
  match j, hj with
  | 0, hj => simp at hj; subst hj; simpa using hcell _ _ d0
  | 1, hj => simp at hj; subst hj; simpa using hcell _ _ d1
  | j + 2, hj => simp at hj
theorem own_put2 {w : World} {base g cap : Nat} {T : TypeId} {m : List α} (h : w.ownsRow base T 2 (.slice (some ⟨g, 0, none⟩) m.length cap) m.length (fm c1 c2 m)) {i : Nat} (hi : i < m.length) (s : α) :
    ((w.setCell ⟨g, i * 2, none⟩ (c1 s)).setCell ⟨g, i * 2 + 1, none⟩ (c2 s)).ownsRow base T 2 (.slice (some ⟨g, 0, none⟩) (m.set i s).length cap) (m.set i s).length (fm c1 c2 (m.set i s)) := by
  have h1 := own_setC (own_setC h (j := i * 2) (c1 s)) (j := i * 2 + 1) (c2 s)
  rw [fm_put m i s hi] at h1
  rw [List.length_set]
  exact h1
/-- i elements from either end are exchanged. -/
def RevAt (l m : List α) (i : Nat) : Prop := m.length = l.length ∧ ∀ t, t < l.length → m[t]? = if t < i ∨ l.length - i ≤ t then l[l.length - 1 - t]? else l[t]?
theorem RevAt.start (l : List α) : RevAt l l 0 := ⟨rfl, fun t ht => by rw [if_neg (by omega)]⟩
theorem RevAt.step {l m : List α} {i j : Nat} {r s : α} (h : RevAt l m i) (hj : j + i + 1 = l.length) (hij : i < j) (hr : m[i]? = some r) (hs : m[j]? = some s) : RevAt l ((m.set i s).set j r) (i + 1) := by
  obtain ⟨h1, h2⟩ := h
  have e1 := h2 i (by omega)
  have e2 := h2 j (by omega)
  rw [if_neg (by omega), hr] at e1
  rw [if_neg (by omega), hs] at e2
  refine ⟨by simpa using h1, fun t ht => ?_⟩
  simp only [List.getElem?_set, List.length_set]
  by_cases htj : j = t
  · subst htj
    rw [if_pos rfl, if_pos (by omega), if_pos (by omega), show l.length - 1 - j = i from by omega]
    exact e1
  · rw [if_neg htj]
    by_cases hti : i = t
    · subst hti
      rw [if_pos rfl, if_pos (by omega), if_pos (by omega), show l.length - 1 - i = j from by omega]
      exact e2
    · rw [if_neg hti, h2 t ht]
      by_cases hin : t < i ∨ l.length - i ≤ t
      · rw [if_pos hin, if_pos (by omega)]
      · rw [if_neg hin, if_neg (by omega)]
theorem RevAt.done {l m : List α} {i : Nat} (h : RevAt l m i) (hi : l.length ≤ 2 * i + 1) : m = l.reverse := by
  obtain ⟨h1, h2⟩ := h
  apply List.ext_getElem?
  intro t
  by_cases ht : t < l.length
  · rw [h2 t ht, List.getElem?_reverse ht]
    split
    · rfl
    · rw [show l.length - 1 - t = t from by omega]
  · rw [List.getElem?_eq_none (by omega), List.getElem?_eq_none (by simp; omega)]
end
end Go.Proofs.Ytdlglnkhhbkndaa

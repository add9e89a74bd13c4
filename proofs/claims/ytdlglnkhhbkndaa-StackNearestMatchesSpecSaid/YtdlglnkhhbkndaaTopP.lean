/- What one layer of glue more makes of the fewest sheets, step by step, as plain lists. -/
import Derived.Test.YtdlglnkhhbkndaaNearP
namespace Go.Proofs.Ytdlglnkhhbkndaa
set_option linter.unusedSimpArgs false
set_option linter.unusedVariables false

/-- All pairs ahead of (a, b) have been looked at. -/
def doneP (a b n y : Nat) : Prop := n < a ∨ (n = a ∧ y < b)
structure TopGo (F : List Int) (g m a b : Nat) (F' : List Int) (C : List Nat) : Prop where
  len : F'.length = F.length + (m - 1) * g
  clen : C.length = F'.length
  lo : ∀ (x : Nat) (v : Int), F'[x]? = some v → 0 ≤ v ∧ v ≤ neverN
  cm : ∀ (x n : Nat), C[x]? = some n → n < m
  pick : ∀ (x : Nat) (v : Int), F'[x]? = some v → v < neverN → ∃ (n y : Nat) (k : Int), C[x]? = some n ∧ n < m ∧ x = y + n * g ∧ F[y]? = some k ∧ k + (n : Int) = v
  best : ∀ (y n : Nat) (k : Int), doneP a b n y → F[y]? = some k → n < m → k + (n : Int) < neverN → ∃ v, F'[y + n * g]? = some v ∧ v ≤ k + (n : Int)
  least : ∀ (x n : Nat) (v : Int), C[x]? = some n → F'[x]? = some v → v < neverN → ∀ (n' y : Nat) (k : Int), n' < n → x = y + n' * g → F[y]? = some k → v < k + (n' : Int)
theorem rep_get {α : Type} {L : Nat} {z : α} {x : Nat} {v : α} (h : (List.replicate L z)[x]? = some v) : v = z := by
  rw [List.getElem?_replicate] at h
  split at h
  · exact (Option.some.inj h).symm
  · cases h
theorem top_start (F : List Int) (g m : Nat) (hm : 0 < m) : TopGo F g m 0 0 (List.replicate (F.length + (m - 1) * g) neverN) (List.replicate (F.length + (m - 1) * g) 0) where
  len := by simp
  clen := by simp
  lo x v h := by rw [rep_get h]; decide
  cm x n h := by rw [rep_get h]; exact hm
  pick x v h hv := by rw [rep_get h] at hv; exact absurd hv (Int.lt_irrefl _)
  best y n k h := by unfold doneP at h; omega
  least x n v hc h hv := by rw [rep_get h] at hv; exact absurd hv (Int.lt_irrefl _)
theorem top_row {F : List Int} {g m a : Nat} {F' : List Int} {C : List Nat} (h : TopGo F g m a F.length F' C) : TopGo F g m (a + 1) 0 F' C where
  len := h.len
  clen := h.clen
  lo := h.lo
  cm := h.cm
  pick := h.pick
  least := h.least
  best y n k hd hy hn hv := by
    refine h.best y n k ?_ hy hn hv
    have := (List.getElem?_eq_some_iff.1 hy).1
    unfold doneP at *
    omega
theorem top_end {F : List Int} {g m : Nat} {F' : List Int} {C : List Nat} (h : TopGo F g m m 0 F' C) : TopOk F g m F' C where
  len := h.len
  clen := h.clen
  lo := h.lo
  pick := h.pick
  least := h.least
  best y n k hy hn hv := h.best y n k (.inl hn) hy hn hv
theorem top_keep {F : List Int} {g m a b : Nat} {F' : List Int} {C : List Nat} (h : TopGo F g m a b F' C) {k v : Int} (hk : F[b]? = some k) (hv : F'[b + a * g]? = some v) (hle : ¬ k + (a : Int) < v) : TopGo F g m a (b + 1) F' C where
  len := h.len
  clen := h.clen
  lo := h.lo
  cm := h.cm
  pick := h.pick
  least := h.least
  best y n k' hd hy hn hlt := by
    by_cases e : n = a ∧ y = b
    · obtain ⟨rfl, rfl⟩ := e
      rw [hk] at hy
      cases hy
      exact ⟨v, hv, by omega⟩
    · refine h.best y n k' ?_ hy hn hlt
      unfold doneP at *
      omega
theorem top_put {F : List Int} {g m a b : Nat} {F' : List Int} {C : List Nat} (h : TopGo F g m a b F' C) (hF : ∀ (x : Nat) (v : Int), F[x]? = some v → 0 ≤ v ∧ v ≤ neverN) (ha : a < m) {k v : Int} (hk : F[b]? = some k) (hv : F'[b + a * g]? = some v) (hlt : k + (a : Int) < v) :
    TopGo F g m a (b + 1) (F'.set (b + a * g) (k + (a : Int))) (C.set (b + a * g) a) := by
  have hvl := h.lo _ _ hv
  have hk0 := hF _ _ hk
  have hx := (List.getElem?_eq_some_iff.1 hv).1
  have hxc : b + a * g < C.length := by rw [h.clen]; exact hx
  refine ⟨by rw [List.length_set]; exact h.len, by rw [List.length_set, List.length_set]; exact h.clen, fun x u hu => ?_, fun x n hn => ?_, fun x u hu hul => ?_, fun y n k' hd hy hn hl => ?_, fun x n u hc hu hul n' y k' hn' hx' hy' => ?_⟩
  · rw [List.getElem?_set] at hu
    by_cases e : b + a * g = x
    · rw [if_pos e, if_pos hx] at hu
      cases hu
      omega
    · rw [if_neg e] at hu
      exact h.lo x u hu
  · rw [List.getElem?_set] at hn
    by_cases e : b + a * g = x
    · rw [if_pos e, if_pos hxc] at hn
      cases hn
      exact ha
    · rw [if_neg e] at hn
      exact h.cm x n hn
  · rw [List.getElem?_set] at hu
    rw [List.getElem?_set]
    by_cases e : b + a * g = x
    · rw [if_pos e, if_pos hx] at hu
      cases hu
      rw [if_pos e, if_pos hxc]
      exact ⟨a, b, k, rfl, ha, e.symm, hk, rfl⟩
    · rw [if_neg e] at hu ⊢
      exact h.pick x u hu hul
  · rw [List.getElem?_set]
    by_cases e : n = a ∧ y = b
    · obtain ⟨rfl, rfl⟩ := e
      rw [hk] at hy
      cases hy
      rw [if_pos rfl, if_pos hx]
      exact ⟨_, rfl, Int.le_refl _⟩
    · obtain ⟨u, h1, h2⟩ := h.best y n k' (by unfold doneP at *; omega) hy hn hl
      by_cases e2 : b + a * g = y + n * g
      · rw [if_pos e2, if_pos hx]
        rw [← e2, hv] at h1
        cases h1
        exact ⟨_, rfl, by omega⟩
      · rw [if_neg e2]
        exact ⟨u, h1, h2⟩
  · rw [List.getElem?_set] at hu hc
    by_cases e : b + a * g = x
    · rw [if_pos e, if_pos hx] at hu
      rw [if_pos e, if_pos hxc] at hc
      cases hu
      cases hc
      by_cases hk' : k' + (n' : Int) < neverN
      · obtain ⟨u', h1, h2⟩ := h.best y n' k' (.inl hn') hy' (by omega) hk'
        rw [← hx', ← e, hv] at h1
        cases h1
        omega
      · omega
    · rw [if_neg e] at hu hc
      exact h.least x n u hc hu hul n' y k' hn' hx' hy'
end Go.Proofs.Ytdlglnkhhbkndaa

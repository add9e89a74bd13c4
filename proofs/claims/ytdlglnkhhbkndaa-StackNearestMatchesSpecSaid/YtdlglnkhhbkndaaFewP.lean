/- The reference's fewest sheets of layers of glue beside the package's, as plain lists. -/
import Derived.Test.YtdlglnkhhbkndaaTopP
namespace Go.Proofs.Ytdlglnkhhbkndaa
set_option linter.unusedSimpArgs false
set_option linter.unusedVariables false

/-- A row of the reference: moved by the thickness `S` of one sheet of each of the `q` layers, and so many more; -1 is never. -/
structure RowOk (F : List Int) (S q : Nat) (W : List Int) : Prop where
  len : W.length = F.length + S
  low : ∀ (y : Nat) (v : Int), W[y]? = some v → y < S → v = -1
  val : ∀ (y : Nat) (v u : Int), W[y + S]? = some v → F[y]? = some u → v = if u < neverN then u + (q : Int) else -1
/-- All pairs of a sum and a number of sheets ahead of (a, b) have been looked at. -/
def doneS (a b s k : Nat) : Prop := s < a ∨ (s = a ∧ k < b)
structure WGo (Wp : List Int) (g m a b : Nat) (W : List Int) : Prop where
  len : W.length = Wp.length + m * g
  lo : ∀ (y : Nat) (v : Int), W[y]? = some v → -1 ≤ v
  pick : ∀ (y : Nat) (v : Int), W[y]? = some v → 0 ≤ v → ∃ (s k : Nat) (n : Int), 1 ≤ k ∧ k ≤ m ∧ y = s + k * g ∧ Wp[s]? = some n ∧ 0 ≤ n ∧ v = n + (k : Int)
  best : ∀ (s k : Nat) (n : Int), doneS a b s k → 1 ≤ k → k ≤ m → Wp[s]? = some n → 0 ≤ n → ∃ v, W[s + k * g]? = some v ∧ 0 ≤ v ∧ v ≤ n + (k : Int)
theorem w_start (Wp : List Int) (g m : Nat) : WGo Wp g m 0 1 (List.replicate (Wp.length + m * g) (-1)) where
  len := by simp
  lo y v h := by rw [rep_get h]; omega
  pick y v h h0 := by rw [rep_get h] at h0; omega
  best s k n hd h1 := by unfold doneS at hd; omega
theorem w_row {Wp : List Int} {g m a : Nat} {W : List Int} (h : WGo Wp g m a (m + 1) W) : WGo Wp g m (a + 1) 1 W where
  len := h.len
  lo := h.lo
  pick := h.pick
  best s k n hd h1 hm hs hn := by
    refine h.best s k n ?_ h1 hm hs hn
    unfold doneS at *
    omega
theorem w_skip {Wp : List Int} {g m a : Nat} {W : List Int} (h : WGo Wp g m a 1 W) {n : Int} (hn : Wp[a]? = some n) (h0 : ¬ 0 ≤ n) : WGo Wp g m (a + 1) 1 W where
  len := h.len
  lo := h.lo
  pick := h.pick
  best s k n' hd h1 hm hs hn' := by
    by_cases e : s = a
    · subst e
      rw [hn] at hs
      cases hs
      exact absurd hn' h0
    · refine h.best s k n' ?_ h1 hm hs hn'
      unfold doneS at *
      omega
theorem w_keep {Wp : List Int} {g m a b : Nat} {W : List Int} (h : WGo Wp g m a b W) {n v : Int} (hn : Wp[a]? = some n) (hv : W[a + b * g]? = some v) (h0 : ¬ v < 0) (h1 : ¬ n + (b : Int) < v) : WGo Wp g m a (b + 1) W where
  len := h.len
  lo := h.lo
  pick := h.pick
  best s k n' hd hk1 hm hs hn' := by
    by_cases e : s = a ∧ k = b
    · obtain ⟨rfl, rfl⟩ := e
      rw [hn] at hs
      cases hs
      exact ⟨v, hv, by omega, by omega⟩
    · refine h.best s k n' ?_ hk1 hm hs hn'
      unfold doneS at *
      omega
theorem w_put {Wp : List Int} {g m a b : Nat} {W : List Int} (h : WGo Wp g m a b W) {n v : Int} (hn : Wp[a]? = some n) (hn0 : 0 ≤ n) (hb1 : 1 ≤ b) (hbm : b ≤ m) (hv : W[a + b * g]? = some v) (hlt : v < 0 ∨ n + (b : Int) < v) : WGo Wp g m a (b + 1) (W.set (a + b * g) (n + (b : Int))) := by
  have hx := (List.getElem?_eq_some_iff.1 hv).1
  refine ⟨by rw [List.length_set]; exact h.len, fun y u hu => ?_, fun y u hu hu0 => ?_, fun s k n' hd hk1 hm hs hn' => ?_⟩
  · rw [List.getElem?_set] at hu
    by_cases e : a + b * g = y
    · rw [if_pos e, if_pos hx] at hu
      cases hu
      omega
    · rw [if_neg e] at hu
      exact h.lo y u hu
  · rw [List.getElem?_set] at hu
    by_cases e : a + b * g = y
    · rw [if_pos e, if_pos hx] at hu
      cases hu
      exact ⟨a, b, n, hb1, hbm, e.symm, hn, hn0, rfl⟩
    · rw [if_neg e] at hu
      exact h.pick y u hu hu0
  · rw [List.getElem?_set]
    by_cases e : s = a ∧ k = b
    · obtain ⟨rfl, rfl⟩ := e
      rw [hn] at hs
      cases hs
      rw [if_pos rfl, if_pos hx]
      exact ⟨_, rfl, by omega, Int.le_refl _⟩
    · obtain ⟨u, h1, h2, h3⟩ := h.best s k n' (by unfold doneS at *; omega) hk1 hm hs hn'
      by_cases e2 : a + b * g = s + k * g
      · rw [if_pos e2, if_pos hx]
        rw [← e2, hv] at h1
        cases h1
        exact ⟨_, rfl, by omega, by omega⟩
      · rw [if_neg e2]
        exact ⟨u, h1, h2, h3⟩
theorem row_nil : RowOk [0] 0 0 [0] where
  len := rfl
  low y v h hy := by omega
  val y v u h1 h2 := by
    match y, h1, h2 with
    | 0, h1, h2 =>
      simp at h1 h2
      subst h1 h2
      decide
    | y + 1, h1, h2 => simp at h2
/-- A row of the reference out of the one below it, beside the package's. -/
theorem row_cons {m : Nat} {gs : List Nat} {F : List Int} {Cs : List (List Nat)} (hch : Chain m gs F Cs) (hs : ((gs.length + 1 : Nat) : Int) * m < neverN) {S : Nat} {Wp : List Int} (hr : RowOk F S gs.length Wp) {g : Nat} {F' : List Int} {C : List Nat} (ht : TopOk F g m F' C) (hm : 0 < m) {W : List Int} (hw : WGo Wp g m Wp.length 1 W) : RowOk F' (S + g) (gs.length + 1) W := by
  have hfew := chain_few hch
  have hlo := chain_lo hch
  have e9 : ((gs.length + 1 : Nat) : Int) * m = (gs.length : Int) * m + m := by rw [Int.natCast_add, Int.add_mul]; omega
  rw [e9] at hs
  -- what a sum of the row below is
  have below : ∀ (s : Nat) (n : Int), Wp[s]? = some n → 0 ≤ n → ∃ (x : Nat) (u : Int), s = x + S ∧ F[x]? = some u ∧ u < neverN ∧ n = u + (gs.length : Int) := by
    intro s n hs hn
    have hsl := (List.getElem?_eq_some_iff.1 hs).1
    by_cases h1 : s < S
    · have := hr.low s n hs h1
      omega
    · obtain ⟨x, rfl⟩ : ∃ x, s = x + S := ⟨s - S, by omega⟩
      have hxl : x < F.length := by have := hr.len; omega
      have hu : F[x]? = some F[x] := List.getElem?_eq_getElem hxl
      have := hr.val x n _ hs hu
      split at this
      · rename_i hl
        exact ⟨x, F[x], rfl, hu, hl, this⟩
      · omega
  have hml : m * g = (m - 1) * g + g := by
    obtain ⟨m1, rfl⟩ : ∃ m1, m = m1 + 1 := ⟨m - 1, by omega⟩
    rw [Nat.add_sub_cancel, Nat.add_mul, Nat.one_mul]
  refine ⟨by rw [hw.len, hr.len, ht.len, hml]; omega, fun y v hv hy => ?_, fun y v u hv hu => ?_⟩
  · by_cases h0 : 0 ≤ v
    · obtain ⟨s, k, n, hk1, hkm, rfl, hsn, hn0, rfl⟩ := hw.pick y v hv h0
      obtain ⟨x, u, rfl, _, _, _⟩ := below s n hsn hn0
      have h9 : g ≤ k * g := Nat.le_mul_of_pos_left g (by omega)
      omega
    · have := hw.lo y v hv
      omega
  · have huv := ht.lo y u hu
    -- a pair that reaches it bounds the package's
    have up : 0 ≤ v → u < neverN ∧ u + ((gs.length + 1 : Nat) : Int) ≤ v := by
      intro h0
      obtain ⟨s, k, n, hk1, hkm, e, hsn, hn0, hvn⟩ := hw.pick _ v hv h0
      obtain ⟨x, u0, rfl, hx, hl, hnu⟩ := below s n hsn hn0
      obtain ⟨k1, rfl⟩ : ∃ k1, k = k1 + 1 := ⟨k - 1, by omega⟩
      have h9 : (k1 + 1) * g = k1 * g + g := by rw [Nat.add_mul, Nat.one_mul]
      have hf := hfew x u0 hx hl
      obtain ⟨u', h1, h2⟩ := ht.best x k1 u0 hx (by omega) (by omega)
      have e2 : x + k1 * g = y := by omega
      rw [e2, hu] at h1
      cases h1
      omega
    by_cases hl : u < neverN
    · rw [if_pos hl]
      obtain ⟨n, y', k, h1, h2, h3, h4, h5⟩ := ht.pick y u hu hl
      have hk := hlo y' k h4
      have hwl : y' + S < Wp.length := by have := (List.getElem?_eq_some_iff.1 h4).1; have := hr.len; omega
      have hwp : Wp[y' + S]? = some Wp[y' + S] := List.getElem?_eq_getElem hwl
      have hval := hr.val y' _ k hwp h4
      rw [if_pos (by omega)] at hval
      obtain ⟨v', h6, h7, h8⟩ := hw.best (y' + S) (n + 1) _ (.inl hwl) (by omega) (by omega) hwp (by rw [hval]; omega)
      have h9 : (n + 1) * g = n * g + g := by rw [Nat.add_mul, Nat.one_mul]
      have e2 : y' + S + (n + 1) * g = y + (S + g) := by omega
      rw [e2, hv] at h6
      cases h6
      rw [hval] at h8
      have := up h7
      omega
    · rw [if_neg hl]
      by_cases h0 : 0 ≤ v
      · exact absurd (up h0).1 hl
      · have := hw.lo _ v hv
        omega
end Go.Proofs.Ytdlglnkhhbkndaa

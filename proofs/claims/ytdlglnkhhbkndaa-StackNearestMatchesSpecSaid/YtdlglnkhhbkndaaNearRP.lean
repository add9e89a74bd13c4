/- Which sum and which number of sheets the reference finds, as plain lists. -/
import Derived.Test.YtdlglnkhhbkndaaFewP
import Derived.Test.YtdlglnkhhbkndaaWsh
import Derived.Test.YtdlglnkhhbkndaaNear
namespace Go.Proofs.Ytdlglnkhhbkndaa
set_option linter.unusedSimpArgs false
set_option linter.unusedVariables false

theorem least_sheet {F F' Wp W : List Int} {C : List Nat} {S q g m : Nat} (hr : RowOk F S q Wp) (hr' : RowOk F' (S + g) (q + 1) W) (ht : TopOk F g m F' C) (hlo : ∀ (x : Nat) (v : Int), F[x]? = some v → 0 ≤ v ∧ v ≤ neverN) {x : Nat} {v : Int} (hx : F'[x]? = some v) (hv : v < neverN) :
    ∃ (n y : Nat) (u : Int), C[x]? = some n ∧ n < m ∧ x = y + n * g ∧ F[y]? = some u ∧ u < neverN ∧ u + (n : Int) = v ∧ W[x + (S + g)]? = some (v + ((q + 1 : Nat) : Int)) ∧ Wp[y + S]? = some (u + (q : Int)) ∧
      ∀ (j : Nat), j < n → ∀ (z : Nat) (p : Int), z + j * g = x + S → Wp[z]? = some p → ¬ (0 ≤ p ∧ p + ((j + 1 : Nat) : Int) = v + ((q + 1 : Nat) : Int)) := by
  obtain ⟨n, y, u, h1, h2, h3, h4, h5⟩ := ht.pick x v hx hv
  have hu := hlo y u h4
  have hul : u < neverN := by omega
  have hxl := (List.getElem?_eq_some_iff.1 hx).1
  have hyl := (List.getElem?_eq_some_iff.1 h4).1
  have hL1 : x + (S + g) < W.length := by rw [hr'.len]; omega
  have hL2 : y + S < Wp.length := by rw [hr.len]; omega
  have e1 : W[x + (S + g)]? = some W[x + (S + g)] := List.getElem?_eq_getElem hL1
  have e2 : Wp[y + S]? = some Wp[y + S] := List.getElem?_eq_getElem hL2
  have v1 := hr'.val x _ v e1 hx
  have v2 := hr.val y _ u e2 h4
  rw [if_pos hv] at v1
  rw [if_pos hul] at v2
  refine ⟨n, y, u, h1, h2, h3, h4, hul, h5, by rw [e1, v1], by rw [e2, v2], fun j hj z p hz hp hc => ?_⟩
  obtain ⟨hp0, hpe⟩ := hc
  by_cases hzs : z < S
  · have := hr.low z p hp hzs
    omega
  · obtain ⟨y', rfl⟩ : ∃ y', z = y' + S := ⟨z - S, by omega⟩
    have hzl := (List.getElem?_eq_some_iff.1 hp).1
    have hyl' : y' < F.length := by have := hr.len; omega
    have hy' : F[y']? = some F[y'] := List.getElem?_eq_getElem hyl'
    have v3 := hr.val y' p _ hp hy'
    split at v3
    · have := ht.least x n v h1 hx hv j y' _ hj (by omega) hy'
      omega
    · omega
/-- The best of the sums so far, of the reference: -1 is none. -/
def BestR (r t : Int) (W : List Int) (k : Nat) (best : Int) : Prop := (best = -1 ∧ ∀ (y : Nat) (v : Int), y < k → W[y]? = some v → v < 0) ∨
  ∃ b : Nat, best = (b : Int) ∧ b < k ∧ (∃ v, W[b]? = some v ∧ 0 ≤ v) ∧ (∀ (y : Nat) (v : Int), y < k → W[y]? = some v → 0 ≤ v → farN (r + (b : Nat)) t ≤ farN (r + (y : Nat)) t) ∧ ∀ (y : Nat) (v : Int), y < b → W[y]? = some v → 0 ≤ v → farN (r + (b : Nat)) t < farN (r + (y : Nat)) t
theorem bestR_zero (r t : Int) (W : List Int) : BestR r t W 0 (-1) := .inl ⟨rfl, fun y v hy => absurd hy (Nat.not_lt_zero y)⟩
theorem bestR_lo {r t : Int} {W : List Int} {k : Nat} {best : Int} (h : BestR r t W k best) : -1 ≤ best ∧ best ≤ (k : Int) := by
  rcases h with ⟨rfl, _⟩ | ⟨b, rfl, hb, _⟩ <;> omega
theorem bestR_skip {r t : Int} {W : List Int} {k : Nat} {best v : Int} (h : BestR r t W k best) (hk : W[k]? = some v) (hv : v < 0) : BestR r t W (k + 1) best := by
  have key : ∀ (y : Nat) (u : Int), y < k + 1 → W[y]? = some u → 0 ≤ u → y < k := by
    intro y u hy hu h0
    by_cases e : y = k
    · subst e
      rw [hk] at hu
      cases hu
      omega
    · omega
  rcases h with ⟨rfl, h1⟩ | ⟨b, rfl, hb, h1, h2, h3⟩
  · refine .inl ⟨rfl, fun y u hy hu => ?_⟩
    by_cases h0 : 0 ≤ u
    · exact h1 y u (key y u hy hu h0) hu
    · omega
  · exact .inr ⟨b, rfl, by omega, h1, fun y u hy hu h0 => h2 y u (key y u hy hu h0) hu h0, h3⟩
theorem bestR_first {r t : Int} {W : List Int} {k : Nat} {best v : Int} (h : BestR r t W k best) (hk : W[k]? = some v) (hv : 0 ≤ v) (hb : best < 0) : BestR r t W (k + 1) (k : Nat) := by
  rcases h with ⟨rfl, h1⟩ | ⟨b, rfl, _⟩
  · refine .inr ⟨k, rfl, Nat.lt_succ_self _, ⟨v, hk, hv⟩, fun y u hy hu h0 => ?_, fun y u hy hu h0 => ?_⟩
    · by_cases e : y = k
      · subst e; exact Int.le_refl _
      · have := h1 y u (by omega) hu
        omega
    · have := h1 y u hy hu
      omega
  · omega
theorem bestR_take {r t : Int} {W : List Int} {k : Nat} {best v : Int} (h : BestR r t W k best) (hk : W[k]? = some v) (hv : 0 ≤ v) (hb : ¬ best < 0) (hl : farN (r + (k : Nat)) t < farN (r + best) t) : BestR r t W (k + 1) (k : Nat) := by
  rcases h with ⟨rfl, h1⟩ | ⟨b, rfl, hbk, h1, h2, h3⟩
  · omega
  · refine .inr ⟨k, rfl, Nat.lt_succ_self _, ⟨v, hk, hv⟩, fun y u hy hu h0 => ?_, fun y u hy hu h0 => ?_⟩
    · by_cases e : y = k
      · subst e; exact Int.le_refl _
      · have := h2 y u (by omega) hu h0
        omega
    · have := h2 y u hy hu h0
      omega
theorem bestR_keep {r t : Int} {W : List Int} {k : Nat} {best v : Int} (h : BestR r t W k best) (hk : W[k]? = some v) (hb : ¬ best < 0) (hl : ¬ farN (r + (k : Nat)) t < farN (r + best) t) : BestR r t W (k + 1) best := by
  rcases h with ⟨rfl, h1⟩ | ⟨b, rfl, hbk, h1, h2, h3⟩
  · omega
  · refine .inr ⟨b, rfl, by omega, h1, fun y u hy hu h0 => ?_, h3⟩
    by_cases e : y = k
    · subst e; omega
    · exact h2 y u (by omega) hu h0
theorem far_awy (r t : Int) (S x : Nat) : farN (r + ((x + S : Nat) : Int)) t = awyN (r + (S : Nat)) t (x : Nat) := by
  unfold farN awyN
  omega
theorem bestR_end {r t : Int} {F W : List Int} {S q b : Nat} {best : Int} (h : BestR r t W W.length best) (hr : RowOk F S q W) (hlo : ∀ (x : Nat) (v : Int), F[x]? = some v → 0 ≤ v ∧ v ≤ neverN) (hb : BestAt (r + (S : Nat)) t F F.length b) : best = ((b + S : Nat) : Int) := by
  obtain ⟨⟨v, hv, hvn⟩, hle, hlt⟩ := hb
  have hbl := (List.getElem?_eq_some_iff.1 hv).1
  have hv0 := hlo b v hv
  have hL1 : b + S < W.length := by rw [hr.len]; omega
  have e1 : W[b + S]? = some W[b + S] := List.getElem?_eq_getElem hL1
  have w1 := hr.val b _ v e1 hv
  rw [if_pos hvn] at w1
  have w0 : 0 ≤ W[b + S] := by omega
  rcases h with ⟨rfl, h1⟩ | ⟨b', rfl, hbk, ⟨u, hu, hu0⟩, h2, h3⟩
  · have := h1 (b + S) _ (by rw [hr.len]; omega) e1
    omega
  · by_cases hs : b' < S
    · have := hr.low b' u hu hs
      omega
    · obtain ⟨c, rfl⟩ : ∃ c, b' = c + S := ⟨b' - S, by omega⟩
      have hcl : c < F.length := by have := hr.len; omega
      have hc : F[c]? = some F[c] := List.getElem?_eq_getElem hcl
      have w2 := hr.val c u _ hu hc
      split at w2
      · rename_i hcn
        have a1 := h2 (b + S) _ (by rw [hr.len]; omega) e1 w0
        rw [far_awy, far_awy] at a1
        have a2 := hle c _ hcl hc hcn
        by_cases hcb : c < b
        · have := hlt c _ hcb hc hcn
          omega
        · by_cases hbc : b < c
          · have := h3 (b + S) _ (by omega) e1 w0
            rw [far_awy, far_awy] at this
            omega
          · rw [show c = b by omega]
      · omega
end Go.Proofs.Ytdlglnkhhbkndaa

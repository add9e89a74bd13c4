/- One layer after the other: which number of sheets the reference finds for it, as plain lists. -/
import Derived.Test.YtdlglnkhhbkndaaNearRP
import Derived.Test.YtdlglnkhhbkndaaFewR
import Derived.Test.YtdlglnkhhbkndaaNums
namespace Go.Proofs.Ytdlglnkhhbkndaa
set_option linter.unusedSimpArgs false
set_option linter.unusedVariables false

/-- What is left at layer i: so much more than one sheet of each, x. -/
def Sfx (m : Nat) (gs : List Nat) (Cs : List (List Nat)) (Ws : List (List Int)) (i x : Nat) : Prop :=
  ∃ (F : List Int) (v : Int), Chain m (gs.drop i) F (Cs.drop i) ∧ WCh m (gs.drop i) (Ws.drop i) ∧ F[x]? = some v ∧ v < neverN
theorem drop_two {α : Type} {l : List α} {i : Nat} {a : α} {t : List α} (h : l.drop i = a :: t) : l[i]? = some a ∧ l.drop (i + 1) = t := by
  refine ⟨by rw [← Nat.add_zero i, ← List.getElem?_drop, h]; rfl, ?_⟩
  rw [← List.drop_drop, h]
  rfl
theorem sheet_step {m : Nat} {gs : List Nat} {Cs : List (List Nat)} {Ws : List (List Int)} {i x : Nat} (hm : 0 < m) (hs : ((gs.length : Nat) : Int) * m < neverN) (h : Sfx m gs Cs Ws i x) {g : Nat} (hi : gs[i]? = some g) :
    ∃ (W Wp : List Int) (n y z : Nat) (a b : Int), Ws[i]? = some W ∧ Ws[i + 1]? = some Wp ∧ n < m ∧ x = y + n * g ∧ (gs.drop i).sum = g + (gs.drop (i + 1)).sum ∧ W[x + (gs.drop i).sum]? = some a ∧ Wp[y + (gs.drop (i + 1)).sum]? = some b ∧ 0 ≤ b ∧ b + ((n + 1 : Nat) : Int) = a ∧
      (∀ (j : Nat), j < n → ∀ (z : Nat) (p : Int), z + j * g = x + (gs.drop (i + 1)).sum → Wp[z]? = some p → ¬ (0 ≤ p ∧ p + ((j + 1 : Nat) : Int) = a)) ∧
      numsF (gs.drop i) (Cs.drop i) x = n :: numsF (gs.drop (i + 1)) (Cs.drop (i + 1)) y ∧ Sfx m gs Cs Ws (i + 1) y ∧ (∀ (z : Nat) (p : Int), Wp[z]? = some p → p < neverN) := by
  obtain ⟨F, v, hc, hw, hx, hv⟩ := h
  have hil := (List.getElem?_eq_some_iff.1 hi).1
  have hdr : gs.drop i = g :: gs.drop (i + 1) := by
    rw [List.drop_eq_getElem_cons hil]
    rw [List.getElem?_eq_getElem hil] at hi
    cases hi
    rfl
  have hsl : (((gs.drop i).length : Nat) : Int) * m < neverN := by
    refine Int.lt_of_le_of_lt (Int.mul_le_mul_of_nonneg_right ?_ (by omega)) hs
    rw [List.length_drop]
    omega
  rw [hdr] at hc hw hsl ⊢
  have hsl' := hsl
  rw [List.length_cons, Int.natCast_add, Int.add_mul] at hsl'
  generalize hgs' : gs.drop (i + 1) = gs' at *
  generalize hcd : Cs.drop i = Cd at *
  generalize hwd : Ws.drop i = Wd at *
  cases hw with
  | @cons gsx Wp Ws' gx W hw1 hg =>
    obtain ⟨w1, w2⟩ := drop_two hwd
    obtain ⟨w3, w4⟩ := drop_two w2
    have r1 := wch_row hm (WCh.cons hw1 hg) _ _ rfl _ _ hc hsl
    cases hc with
    | @cons gsx F2 Cs' gx F' C hc1 ht =>
      obtain ⟨c1, c2⟩ := drop_two hcd
      have r2 := wch_row hm hw1 _ _ rfl _ _ hc1 (by omega)
      rw [List.sum_cons, Nat.add_comm, List.length_cons] at r1
      obtain ⟨n, y, u, h1, h2, h3, h4, h5, h6, h7, h8, h9⟩ := least_sheet r2 r1 ht (chain_lo hc1) hx hv
      have hu := (chain_lo hc1) y u h4
      refine ⟨W, Wp, n, y, 0, _, _, w1, w3, h2, h3, List.sum_cons, by rw [List.sum_cons, Nat.add_comm g]; exact h7, h8, by omega, by omega, fun j hj z p hz hp => h9 j hj z p hz hp, ?_, ⟨F2, u, by rw [hgs', c2]; exact hc1, by rw [hgs', w2]; exact hw1, h4, h5⟩, fun z p hp => ?_⟩
      · rw [numsF, h1]
        simp only [Option.getD_some]
        rw [h3, Nat.add_sub_cancel, c2]
      · have h10 := (wch_hi hw1 _ _ rfl z p hp).2
        rw [Int.natCast_mul] at h10
        omega
theorem sfx_start {m : Nat} {gs : List Nat} {F : List Int} {Cs : List (List Nat)} {Ws : List (List Int)} (hc : Chain m gs F Cs) (hw : WCh m gs Ws) {x : Nat} {v : Int} (hx : F[x]? = some v) (hv : v < neverN) : Sfx m gs Cs Ws 0 x :=
  ⟨F, v, by rw [List.drop_zero, List.drop_zero]; exact hc, by rw [List.drop_zero, List.drop_zero]; exact hw, hx, hv⟩
theorem nums_nil (gs : List Nat) (Cs : List (List Nat)) (x : Nat) : numsF (gs.drop gs.length) (Cs.drop gs.length) x = [] := by
  rw [List.drop_length, numsF]
  intro _ _ _ _ e
  cases e
end Go.Proofs.Ytdlglnkhhbkndaa

/- Grow of package shape, whatever the world. -/
import Derived.Test.YtjcbngpgmgeanaaGreatGrowB
namespace Go.Proofs.YtjcbngpgmgeanaaGreat
open Go.RowKit Go.Shelf
open Reg (R4 inR canonL inFirstK sweepL)
set_option linter.unusedSimpArgs false
set_option linter.unusedVariables false

def Cov (m r : R4) : Prop := m.x0 ≤ r.x0 ∧ m.y0 ≤ r.y0 ∧ r.x1 ≤ m.x1 ∧ r.y1 ≤ m.y1
def InB (lo hi : Int) (m : R4) : Prop := lo ≤ m.x0 ∧ m.x0 ≤ hi ∧ lo ≤ m.y0 ∧ m.y0 ≤ hi ∧ lo ≤ m.x1 ∧ m.x1 ≤ hi ∧ lo ≤ m.y1 ∧ m.y1 ≤ hi
theorem join_cov (a b : R4) : Cov (joinR a b) a ∧ Cov (joinR a b) b := by
  simp only [Cov, joinR, minI, maxI]
  refine ⟨⟨?_, ?_, ?_, ?_⟩, ?_, ?_, ?_, ?_⟩ <;> split <;> omega
theorem join_in {lo hi : Int} {a b : R4} (ha : InB lo hi a) (hb : InB lo hi b) : InB lo hi (joinR a b) := by
  simp only [InB, joinR, minI, maxI] at ha hb ⊢
  refine ⟨?_, ?_, ?_, ?_, ?_, ?_, ?_, ?_⟩ <;> split <;> omega
theorem aroundF_ok {lo hi : Int} (t : List R4) : ∀ a : R4, InB lo hi a → (∀ r, r ∈ t → InB lo hi r) → InB lo hi (aroundF a t) ∧ Cov (aroundF a t) a ∧ ∀ r, r ∈ t → Cov (aroundF a t) r := by
  induction t with
  | nil => intro a h _; exact ⟨h, ⟨Int.le_refl _, Int.le_refl _, Int.le_refl _, Int.le_refl _⟩, fun r hr => by cases hr⟩
  | cons s t ih =>
    intro a h1 h2
    obtain ⟨i1, i2, i3⟩ := ih (joinR a s) (join_in h1 (h2 s (by simp))) fun r hr => h2 r (List.mem_cons_of_mem _ hr)
    obtain ⟨j1, j2⟩ := join_cov a s
    have tr : ∀ r, Cov (joinR a s) r → Cov (aroundF (joinR a s) t) r := fun r hr => by simp only [Cov] at *; omega
    refine ⟨i1, tr _ j1, fun r hr => ?_⟩
    rcases List.mem_cons.1 hr with rfl | hr
    · exact tr _ j2
    · exact i3 r hr
theorem around_ok {lo hi : Int} {l : List R4} (hpos : 0 < l.length) (h : ∀ r, r ∈ l → InB lo hi r) : InB lo hi (aroundR l) ∧ ∀ r, r ∈ l → Cov (aroundR l) r := by
  cases l with
  | nil => simp at hpos
  | cons a t =>
    obtain ⟨h1, _, h3⟩ := aroundF_ok (a :: t) a (h a (by simp)) h
    exact ⟨h1, h3⟩
/-- What Grow says. -/
def gwF (l : List R4) (n : Int) : Int := if chG l n = 0 then (if l = [] then 0 else if rectF (wideA n (aroundR l)) = 0 then resF (canonL (grownL n l)) else 1) else chG l n
def gwL (l : List R4) (n : Int) : List R4 := if chG l n = 0 then (if l = [] then [] else if rectF (wideA n (aroundR l)) = 0 then resL (canonL (grownL n l)) else []) else []

end Go.Proofs.YtjcbngpgmgeanaaGreat

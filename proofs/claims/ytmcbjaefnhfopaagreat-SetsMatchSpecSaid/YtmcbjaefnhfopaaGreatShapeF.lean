/- pointInRange, squareAt, common, overlap and Has of package shape say what their plain counterparts say, whatever the world. -/
import Derived.Test.YtmcbjaefnhfopaaGreatShapeE
namespace Go.Proofs.YtmcbjaefnhfopaaGreat
open Go.RowKit
open Reg (R4)
set_option linter.unusedSimpArgs false
set_option linter.unusedVariables false

def maxI (a b : Int) : Int := if a < b then b else a
def minI (a b : Int) : Int := if b < a then b else a
theorem maxI_eq (a b : Int) : maxI a b = max a b := by unfold maxI; split <;> omega
theorem minI_eq (a b : Int) : minI a b = min a b := by unfold minI; split <;> omega
def commonR (a b : R4) : R4 := ⟨maxI a.x0 b.x0, maxI a.y0 b.y0, minI a.x1 b.x1, minI a.y1 b.y1⟩

def overR (a b : R4) : Bool := decide ((commonR a b).x0 < (commonR a b).x1) && decide ((commonR a b).y0 < (commonR a b).y1)
/-- Whether a square lies in one of some rectangles. -/
def hasB (l : List R4) (x y : Int) : Bool := l.any fun r => overR r ⟨x, y, x + 1, y + 1⟩
theorem hasB_iff {l : List R4} {x y : Int} : hasB l x y = true ↔ Reg.inR l x y := by
  unfold hasB Reg.inR Reg.R4.has overR commonR
  rw [List.any_eq_true]
  simp only [Bool.and_eq_true, decide_eq_true_eq, maxI_eq, minI_eq]
  constructor
  · rintro ⟨r, hr, h1, h2⟩
    exact ⟨r, hr, by omega, by omega, by omega, by omega⟩
  · rintro ⟨r, hr, h1, h2, h3, h4⟩
    exact ⟨r, hr, by omega, by omega⟩

/-- What Has says: the answer, and the error. -/
def hasF (l : List R4) (x y : Int) : Bool × Int := if regF l = 0 then (if okAt x && okAt y then (hasB l x y, 0) else (false, 1)) else (false, regF l)

end Go.Proofs.YtmcbjaefnhfopaaGreat

/- pointInRange, squareAt, common, overlap and Has of package shape say what their plain counterparts say, whatever the world. -/
import Derived.Test.YtjcbngpgmgeanaaGreatShapeE
namespace Go.Proofs.YtjcbngpgmgeanaaGreat
open Go.RowKit
open Reg (R4)
set_option linter.unusedSimpArgs false
set_option linter.unusedVariables false

theorem pointInRange_any (x y : Int) (w : World) : Calls Tryz.prog 118 #[.agg #[.int .i64 x, .int .i64 y]] w fun e w' => e = .returned (.bool (okAt x && okAt y)) ∧ Below w.heap.size w w' := by
  cases h1 : okAt x
  all_goals
    go_enter Tryz.func118, Tryz.ntmps118
    go_wp2_with (go_at_call 121; refine (inRange_any _ _).mono ?_; rintro e w' ⟨rfl, rfl⟩)
    go_ret
    exact ⟨rfl, (Below.refl _ _).alloc (Nat.le_refl _) _⟩

def maxI (a b : Int) : Int := if a < b then b else a
def minI (a b : Int) : Int := if b < a then b else a
theorem maxI_eq (a b : Int) : maxI a b = max a b := by unfold maxI; split <;> omega
theorem minI_eq (a b : Int) : minI a b = min a b := by unfold minI; split <;> omega
def commonR (a b : R4) : R4 := ⟨maxI a.x0 b.x0, maxI a.y0 b.y0, minI a.x1 b.x1, minI a.y1 b.y1⟩

theorem common_any (a b : R4) (w : World) : Calls Tryz.prog 25 #[.agg #[.int .i64 a.x0, .int .i64 a.y0, .int .i64 a.x1, .int .i64 a.y1], .agg #[.int .i64 b.x0, .int .i64 b.y0, .int .i64 b.x1, .int .i64 b.y1]] w fun e w' => e = .returned (rv (commonR a b)) ∧ Below w.heap.size w w' := by
  have hmx : ∀ x y : Int, (if x < y then y else x) = maxI x y := fun _ _ => rfl
  have hmn : ∀ x y : Int, (if y < x then y else x) = minI x y := fun _ _ => rfl
  have hmx' : ∀ x y : Int, (if x < y then Value.int .i64 y else Value.int .i64 x) = Value.int .i64 (maxI x y) := fun _ _ => by unfold maxI; split <;> rfl
  have hmn' : ∀ x y : Int, (if y < x then Value.int .i64 y else Value.int .i64 x) = Value.int .i64 (minI x y) := fun _ _ => by unfold minI; split <;> rfl
  go_enter Tryz.func25, Tryz.ntmps25
  go_wp2_with fail
  exact bodyPost_ret (v := rv (commonR a b)) (by simp [results, Tryz.results25, go_sem, commonR, maxI, minI]) rfl ⟨rfl, by (repeat' (first | (with_reducible exact Below.refl _ _) | (with_reducible assumption) | (with_reducible refine Below.alloc ?_ ?_ _) | (with_reducible refine Below.drew ?_) | (with_reducible refine below_drewN ?_ _) | (with_reducible refine Below.setCell ?_ ?_ _) | (with_reducible exact Nat.le_refl _) | omega | (simp only [World.size_alloc, World.size_setCell, World.size_drew]; omega) | (simp; omega) | (simp; done)))⟩

def overR (a b : R4) : Bool := decide ((commonR a b).x0 < (commonR a b).x1) && decide ((commonR a b).y0 < (commonR a b).y1)
/-- Whether a square lies in one of some rectangles. -/
def hasB (l : List R4) (x y : Int) : Bool := l.any fun r => overR r ⟨x, y, x + 1, y + 1⟩
theorem hasB_iff {l : List R4} {x y : Int} : hasB l x y = true ↔ Reg.inR l x y := by
  unfold hasB Reg.inR Reg.R4.has overR commonR
  rw [List.any_eq_true]
  simp only [Bool.and_eq_true, decide_eq_true_eq, maxI_eq, minI_eq]
  constructor
  · rintro ⟨r, hr, h1, h2⟩
    exact ⟨r, hr, by omega, by omega, by omega, by omega⟩
  · rintro ⟨r, hr, h1, h2, h3, h4⟩
    exact ⟨r, hr, by omega, by omega⟩

/-- What Has says: the answer, and the error. -/
def hasF (l : List R4) (x y : Int) : Bool × Int := if regF l = 0 then (if okAt x && okAt y then (hasB l x y, 0) else (false, 1)) else (false, regF l)

end Go.Proofs.YtjcbngpgmgeanaaGreat

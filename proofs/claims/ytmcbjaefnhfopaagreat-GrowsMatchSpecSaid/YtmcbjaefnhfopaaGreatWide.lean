/- widened of package shape, whatever the world. -/
import Derived.Test.YtmcbjaefnhfopaaGreatShapeF
namespace Go.Proofs.YtmcbjaefnhfopaaGreat
open Go.RowKit
open Reg (R4)
set_option linter.unusedSimpArgs false
set_option linter.unusedVariables false

def wideA (n : Int) (r : R4) : R4 := ⟨r.x0 - n, r.y0 - n, r.x1 + n, r.y1 + n⟩
set_option maxRecDepth 100000 in
set_option maxHeartbeats 1000000 in
theorem widened_any (r : R4) (n : Int) (w : World) (h : -2000000 ≤ r.x0 ∧ r.x0 ≤ 2000000 ∧ -2000000 ≤ r.y0 ∧ r.y0 ≤ 2000000 ∧ -2000000 ≤ r.x1 ∧ r.x1 ≤ 2000000 ∧ -2000000 ≤ r.y1 ∧ r.y1 ≤ 2000000) (h0 : 0 ≤ n) (h1 : n ≤ 100000) :
    Calls Tryz.prog 32 #[rv r, .int .i64 n] w fun e w' => e = .returned (rv (wideA n r)) ∧ Below w.heap.size w w' := by
  obtain ⟨x0, y0, x1, y1⟩ := r
  simp only at h
  obtain ⟨q0, q1, q2, q3, q4, q5, q6, q7⟩ := h
  simp only [rv, wideA]
  go_enter Tryz.func32, Tryz.ntmps32
  go_wp2_with fail
  exact bodyPost_ret (v := rv ⟨x0 - n, y0 - n, x1 + n, y1 + n⟩) (by simp [results, Tryz.results32, go_sem]) rfl ⟨rfl, by (repeat' (first | (with_reducible exact Below.refl _ _) | (with_reducible assumption) | (with_reducible refine Below.alloc ?_ ?_ _) | (with_reducible refine Below.drew ?_) | (with_reducible refine below_drewN ?_ _) | (with_reducible refine Below.setCell ?_ ?_ _) | (with_reducible exact Nat.le_refl _) | omega | (simp only [World.size_alloc, World.size_setCell, World.size_drew]; omega) | (simp; omega) | (simp; done)))⟩
end Go.Proofs.YtmcbjaefnhfopaaGreat

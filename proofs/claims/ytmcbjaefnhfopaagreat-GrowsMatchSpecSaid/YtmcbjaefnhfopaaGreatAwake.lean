/- awake returns true in whatever world, and turns nothing that was there. -/
import Derived.Test.YtmcbjaefnhfopaaGreatShapeG
namespace Go.Proofs.YtmcbjaefnhfopaaGreat
open Go.RowKit
open Reg (R4)
set_option linter.unusedSimpArgs false
set_option linter.unusedVariables false

theorem one_reg : regF [⟨0, 0, 2, 3⟩] = 0 := by decide
theorem one_area : areaF [⟨0, 0, 2, 3⟩] = 6 := by decide
theorem awake_any (w : World) : Calls Tryz.prog 14 #[] w fun e w' => e = .returned (.bool true) ∧ Below w.heap.size w w' := by
  have C1 := Lib.hid (fun W h => show Calls Tryz.prog 12 #[.slice (some ⟨w.heap.size, 0, none⟩) 1 1] W fun e w' => e = .returned (.tuple #[.int .i64 6, .int .i64 0]) ∧ Below W.heap.size W w' from by
    have := area_any (some ⟨w.heap.size, 0, none⟩) [⟨0, 0, 2, 3⟩] 1 W (by simp) (by omega) h
    rw [one_area, one_reg] at this
    exact this)
  go_enter Tryz.func14, Tryz.ntmps14
  go_wp2_with fail
  refine (C1.out _ ?_).mono ?_
  · intro _
    refine ⟨_, _, rfl, by (first | (with_reducible exact Nat.le_refl _) | (with_reducible assumption) | omega | (simp only [World.size_alloc, World.size_setCell, World.size_drew]; omega) | (simp; omega) | (simp; done)), fun i r hi => ?_⟩
    match i, hi with
    | 0, hi =>
      simp at hi; subst hi
      refine ⟨?_, ?_, ?_, ?_⟩ <;> simp [go_sem]
    | i + 1, hi => simp at hi
  rintro e w1 ⟨rfl, hb⟩
  have B1 := up (B := w.heap.size) (w := w) (by (repeat' (first | (with_reducible exact Below.refl _ _) | (with_reducible assumption) | (with_reducible refine Below.alloc ?_ ?_ _) | (with_reducible refine Below.drew ?_) | (with_reducible refine below_drewN ?_ _) | (with_reducible refine Below.setCell ?_ ?_ _) | (with_reducible exact Nat.le_refl _) | omega | (simp only [World.size_alloc, World.size_setCell, World.size_drew]; omega) | (simp; omega) | (simp; done)))) hb (by (first | (with_reducible exact Nat.le_refl _) | (with_reducible assumption) | omega | (simp only [World.size_alloc, World.size_setCell, World.size_drew]; omega) | (simp; omega) | (simp; done)))
  clear hb
  go_wp2_with fail
  go_ret
  exact ⟨rfl, B1⟩
end Go.Proofs.YtmcbjaefnhfopaaGreat

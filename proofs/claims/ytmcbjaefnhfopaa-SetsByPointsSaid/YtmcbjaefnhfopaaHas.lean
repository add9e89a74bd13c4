/- The law's own has: whether a square is in a region that is right. -/
import Derived.Test.YtmcbjaefnhfopaaSets
namespace Go.Proofs.Ytmcbjaefnhfopaa
open Go.ChangeShapes Go.WideShapes Go.ChangeAt Go.RowKit
open Reg (R4 inR Kept)
set_option linter.unusedSimpArgs false
set_option linter.unusedVariables false

def hasV (l : List R4) (x y : Int) : Bool := (((hasF l x y).2 == 0) && (hasF l x y).1)
theorem hasV_of {l : List R4} (h : regF l = 0) (x y : Int) : hasV l x y = (okAt x && okAt y && hasB l x y) := by
  unfold hasV hasF
  rw [if_pos h]
  cases okAt x && okAt y <;> simp
set_option maxRecDepth 100000 in
set_option maxHeartbeats 1000000 in
theorem lhas_any (A : Option Addr) (l : List R4) (c : Nat) (x y : Int) (w : World) (hl : l.length ≤ c) (hc : c ≤ maxLen) (hl2 : l.length ≤ 140737488355328) (h : Rd w A l) :
    Calls Try.prog 24 #[.slice A l.length c, .agg #[.int .i64 x, .int .i64 y]] w fun e w' => e = .returned (.bool (hasV l x y)) ∧ Below w.heap.size w w' := by
  have H0 := Lib.hid h
  have C1 := Lib.hid (fun W h => has_anyM A l c x y W hl hc hl2 h)
  clear h
  unfold hasV
  generalize (hasF l x y).1 = a at *
  generalize (hasF l x y).2 = f at *
  cases hf : (f == 0)
  all_goals
    go_enter Try.func24, Try.ntmps24
    go_wp2_with fail
    refine (C1.out _ (H0.out.below (by (repeat' (first | (with_reducible exact Below.refl _ _) | (with_reducible assumption) | (with_reducible refine Below.alloc ?_ ?_ _) | (with_reducible refine Below.drew ?_) | (with_reducible refine below_drewN ?_ _) | (with_reducible refine Below.setCell ?_ ?_ _) | (with_reducible exact Nat.le_refl _) | omega | (simp only [World.size_alloc, World.size_setCell, World.size_drew]; omega) | (simp; omega) | (simp; done)))))).mono ?_
    rintro e w1 ⟨rfl, hb⟩
    have B1 := up (B := w.heap.size) (w := w) (by (repeat' (first | (with_reducible exact Below.refl _ _) | (with_reducible assumption) | (with_reducible refine Below.alloc ?_ ?_ _) | (with_reducible refine Below.drew ?_) | (with_reducible refine below_drewN ?_ _) | (with_reducible refine Below.setCell ?_ ?_ _) | (with_reducible exact Nat.le_refl _) | omega | (simp only [World.size_alloc, World.size_setCell, World.size_drew]; omega) | (simp; omega) | (simp; done)))) hb (by (first | (with_reducible exact Nat.le_refl _) | (with_reducible assumption) | omega | (simp only [World.size_alloc, World.size_setCell, World.size_drew]; omega) | (simp; omega) | (simp; done)))
    clear hb
    go_wp2_with fail
    go_ret
    exact ⟨by simp, B1⟩
end Go.Proofs.Ytmcbjaefnhfopaa

/- Spans within one another, and which one is pressed earlier, in the reference, whatever the world. -/
import Derived.Test.YtdlglnkhhbkndaaEndC
namespace Go.Proofs.Ytdlglnkhhbkndaa
open Go.RowKit Go.Maps Go.Sort
set_option linter.unusedSimpArgs false
set_option linter.unusedVariables false
set_option maxRecDepth 100000

def inT (x y : Thr) : Bool := decide (y.a ≤ x.a) && decide (x.b ≤ y.b)
def longT (x : Thr) : Int := x.b - x.a
def earT (x y : Thr) : Bool := if longT x = longT y then decide (x.a < y.a) else decide (longT x < longT y)
def okT (x : Thr) : Prop := (0 ≤ x.a ∧ x.a ≤ 1000000) ∧ (0 ≤ x.b ∧ x.b ≤ 1000000)
set_option maxHeartbeats 2000000 in
theorem inside_any (x y : Thr) (w : World) : Calls Try.prog 77 #[.agg #[.int .i64 x.a, .int .i64 x.b], .agg #[.int .i64 y.a, .int .i64 y.b]] w fun e w' => e = .returned (.bool (inT x y)) ∧ ∃ q os', w' = grow (w.drewN q) os' := by
  by_cases h1 : y.a ≤ x.a
  · have HE := Lib.hid (show inT x y = decide (x.b ≤ y.b) by unfold inT; rw [decide_eq_true h1, Bool.true_and])
    go_enter Try.func77, Try.ntmps77
    go_wp2_with fail
    go_ret
    exact ⟨by rw [HE.out]; rfl, gw_trans ⟨0, _, grow_one w _⟩ ⟨0, _, grow_one _ _⟩⟩
  · have HE := Lib.hid (show inT x y = false by unfold inT; rw [decide_eq_false h1, Bool.false_and])
    have h1' : decide (y.a ≤ x.a) = false := decide_eq_false h1
    clear h1
    go_enter Try.func77, Try.ntmps77
    go_wp2_with fail
    go_ret
    exact ⟨by rw [HE.out]; rfl, gw_trans ⟨0, _, grow_one w _⟩ ⟨0, _, grow_one _ _⟩⟩
set_option maxHeartbeats 2000000 in
theorem earlier_any (x y : Thr) (hx : okT x) (hy : okT y) (w : World) : Calls Try.prog 96 #[.agg #[.int .i64 x.a, .int .i64 x.b], .agg #[.int .i64 y.a, .int .i64 y.b]] w fun e w' => e = .returned (.bool (earT x y)) ∧ ∃ q os', w' = grow (w.drewN q) os' := by
  obtain ⟨⟨a1, a2⟩, a3, a4⟩ := hx
  obtain ⟨⟨b1, b2⟩, b3, b4⟩ := hy
  have y1 : IntKind.i64.wrap (x.b - x.a) = x.b - x.a := IntWalk.i64_in _ (by omega)
  have y2 : IntKind.i64.wrap (y.b - y.a) = y.b - y.a := IntWalk.i64_in _ (by omega)
  by_cases h1 : x.b - x.a = y.b - y.a
  · have HE := Lib.hid (show earT x y = decide (x.a < y.a) by unfold earT longT; rw [if_pos h1])
    have h2 : (x.b - x.a == y.b - y.a) = true := by simpa using h1
    have h3 : (x.b - x.a != y.b - y.a) = false := by simp [h1]
    clear h1
    go_enter Try.func96, Try.ntmps96
    go_wp2_with fail
    go_ret
    exact ⟨by rw [HE.out]; rfl, gw_trans ⟨0, _, grow_one w _⟩ ⟨0, _, grow_one _ _⟩⟩
  · have HE := Lib.hid (show earT x y = decide (x.b - x.a < y.b - y.a) by unfold earT longT; rw [if_neg h1])
    have h2 : (x.b - x.a == y.b - y.a) = false := by simpa using h1
    have h3 : (x.b - x.a != y.b - y.a) = true := by simpa using h1
    clear h1
    go_enter Try.func96, Try.ntmps96
    go_wp2_with fail
    go_ret
    exact ⟨by rw [HE.out]; rfl, gw_trans ⟨0, _, grow_one w _⟩ ⟨0, _, grow_one _ _⟩⟩
end Go.Proofs.Ytdlglnkhhbkndaa

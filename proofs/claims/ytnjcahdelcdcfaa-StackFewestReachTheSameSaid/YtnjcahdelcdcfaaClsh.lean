/- Sub-boards within one another, and those that clash, whatever the world. -/
import Derived.Test.YtnjcahdelcdcfaaPrC
namespace Go.Proofs.Ytnjcahdelcdcfaa
open Go.RowKit Go.Maps Go.Sort
set_option linter.unusedSimpArgs false
set_option linter.unusedVariables false
set_option maxRecDepth 100000

def inQ (x y : Bq) : Bool := decide (y.a ≤ x.a) && decide (x.b ≤ y.b)
def clashQ (x y : Bq) : Bool := decide (x.a ≤ y.b) && decide (y.a ≤ x.b) && !inQ x y && !inQ y x
theorem gw_drew (w : World) (n : Nat) : ∃ q os, w.drewN n = grow (w.drewN q) os := ⟨n, #[], (grow_empty _).symm⟩
set_option maxHeartbeats 2000000 in
theorem within_any (x y : Bq) (w : World) : Calls Try.prog 117 #[.agg #[.int .i64 x.a, .int .i64 x.b, .bool x.c, x.h], .agg #[.int .i64 y.a, .int .i64 y.b, .bool y.c, y.h]] w fun e w' => e = .returned (.bool (inQ x y)) ∧ ∃ q os', w' = grow (w.drewN q) os' := by
  by_cases h1 : y.a ≤ x.a
  · have HE := Lib.hid (show inQ x y = decide (x.b ≤ y.b) by unfold inQ; rw [decide_eq_true h1, Bool.true_and])
    go_enter Try.func117, Try.ntmps117
    go_wp2_with fail
    go_ret
    exact ⟨by rw [HE.out]; rfl, gw_trans ⟨0, _, grow_one w _⟩ ⟨0, _, grow_one _ _⟩⟩
  · have HE := Lib.hid (show inQ x y = false by unfold inQ; rw [decide_eq_false h1, Bool.false_and])
    have h1' : decide (y.a ≤ x.a) = false := decide_eq_false h1
    clear h1
    go_enter Try.func117, Try.ntmps117
    go_wp2_with fail
    go_ret
    exact ⟨by rw [HE.out]; rfl, gw_trans ⟨0, _, grow_one w _⟩ ⟨0, _, grow_one _ _⟩⟩
set_option maxHeartbeats 4000000 in
theorem clash_any (x y : Bq) (w : World) : Calls Try.prog 106 #[.agg #[.int .i64 x.a, .int .i64 x.b, .bool x.c, x.h], .agg #[.int .i64 y.a, .int .i64 y.b, .bool y.c, y.h]] w fun e w' => e = .returned (.bool (clashQ x y)) ∧ ∃ q os', w' = grow (w.drewN q) os' := by
  have CX := Lib.hid (within_any x y)
  have CY := Lib.hid (within_any y x)
  rcases (show decide (x.a ≤ y.b) = false ∨ decide (x.a ≤ y.b) = true ∧ (decide (y.a ≤ x.b) = false ∨ decide (y.a ≤ x.b) = true ∧ (inQ x y = true ∨ inQ x y = false ∧ (inQ y x = true ∨ inQ y x = false))) by cases decide (x.a ≤ y.b) <;> cases decide (y.a ≤ x.b) <;> cases inQ x y <;> cases inQ y x <;> simp) with d1 | ⟨d1, d2 | ⟨d2, d3 | ⟨d3, d4 | d4⟩⟩⟩
  · have HE := Lib.hid (show clashQ x y = false by unfold clashQ; simp only [d1]; simp)
    go_enter Try.func106, Try.ntmps106
    go_wp2_with fail
    have f0 : ∀ n os, (grow (((w.alloc (.cells #[.int .i64 x.a, .int .i64 x.b, .bool x.c, x.h] 62)).alloc (.cells #[.int .i64 y.a, .int .i64 y.b, .bool y.c, y.h] 62)).drewN n) os).cell? ⟨w.heap.size, 0, none⟩ = some (.int .i64 x.a) := cell_grown (by simp; try omega) (by simp [go_sem])
    have f1 : ∀ n os, (grow (((w.alloc (.cells #[.int .i64 x.a, .int .i64 x.b, .bool x.c, x.h] 62)).alloc (.cells #[.int .i64 y.a, .int .i64 y.b, .bool y.c, y.h] 62)).drewN n) os).cell? ⟨w.heap.size, 1, none⟩ = some (.int .i64 x.b) := cell_grown (by simp; try omega) (by simp [go_sem])
    have f2 : ∀ n os, (grow (((w.alloc (.cells #[.int .i64 x.a, .int .i64 x.b, .bool x.c, x.h] 62)).alloc (.cells #[.int .i64 y.a, .int .i64 y.b, .bool y.c, y.h] 62)).drewN n) os).cell? ⟨w.heap.size, 2, none⟩ = some (.bool x.c) := cell_grown (by simp; try omega) (by simp [go_sem])
    have f3 : ∀ n os, (grow (((w.alloc (.cells #[.int .i64 x.a, .int .i64 x.b, .bool x.c, x.h] 62)).alloc (.cells #[.int .i64 y.a, .int .i64 y.b, .bool y.c, y.h] 62)).drewN n) os).cell? ⟨w.heap.size, 3, none⟩ = some (x.h) := cell_grown (by simp; try omega) (by simp [go_sem])
    have f4 : ∀ n os, (grow (((w.alloc (.cells #[.int .i64 x.a, .int .i64 x.b, .bool x.c, x.h] 62)).alloc (.cells #[.int .i64 y.a, .int .i64 y.b, .bool y.c, y.h] 62)).drewN n) os).cell? ⟨w.heap.size + 1, 0, none⟩ = some (.int .i64 y.a) := cell_grown (by simp; try omega) (by simp [go_sem])
    have f5 : ∀ n os, (grow (((w.alloc (.cells #[.int .i64 x.a, .int .i64 x.b, .bool x.c, x.h] 62)).alloc (.cells #[.int .i64 y.a, .int .i64 y.b, .bool y.c, y.h] 62)).drewN n) os).cell? ⟨w.heap.size + 1, 1, none⟩ = some (.int .i64 y.b) := cell_grown (by simp; try omega) (by simp [go_sem])
    have f6 : ∀ n os, (grow (((w.alloc (.cells #[.int .i64 x.a, .int .i64 x.b, .bool x.c, x.h] 62)).alloc (.cells #[.int .i64 y.a, .int .i64 y.b, .bool y.c, y.h] 62)).drewN n) os).cell? ⟨w.heap.size + 1, 2, none⟩ = some (.bool y.c) := cell_grown (by simp; try omega) (by simp [go_sem])
    have f7 : ∀ n os, (grow (((w.alloc (.cells #[.int .i64 x.a, .int .i64 x.b, .bool x.c, x.h] 62)).alloc (.cells #[.int .i64 y.a, .int .i64 y.b, .bool y.c, y.h] 62)).drewN n) os).cell? ⟨w.heap.size + 1, 3, none⟩ = some (y.h) := cell_grown (by simp; try omega) (by simp [go_sem])
    obtain ⟨W, hW⟩ : ∃ W, W = ((w.alloc (.cells #[.int .i64 x.a, .int .i64 x.b, .bool x.c, x.h] 62)).alloc (.cells #[.int .i64 y.a, .int .i64 y.b, .bool y.c, y.h] 62)) := ⟨_, rfl⟩
    rw [← hW] at f0 f1 f2 f3 f4 f5 f6 f7 ⊢
    have k1 : ∃ q os, W = grow (w.drewN q) os := by rw [hW]; exact gw_trans ⟨0, _, grow_one w _⟩ ⟨0, _, grow_one _ _⟩
    have HK := Lib.hid k1
    clear k1 hW
    go_ret
    exact ⟨by rw [HE.out]; rfl, HK.out⟩
  · have HE := Lib.hid (show clashQ x y = false by unfold clashQ; simp only [d1, d2]; simp)
    go_enter Try.func106, Try.ntmps106
    go_wp2_with fail
    have f0 : ∀ n os, (grow (((w.alloc (.cells #[.int .i64 x.a, .int .i64 x.b, .bool x.c, x.h] 62)).alloc (.cells #[.int .i64 y.a, .int .i64 y.b, .bool y.c, y.h] 62)).drewN n) os).cell? ⟨w.heap.size, 0, none⟩ = some (.int .i64 x.a) := cell_grown (by simp; try omega) (by simp [go_sem])
    have f1 : ∀ n os, (grow (((w.alloc (.cells #[.int .i64 x.a, .int .i64 x.b, .bool x.c, x.h] 62)).alloc (.cells #[.int .i64 y.a, .int .i64 y.b, .bool y.c, y.h] 62)).drewN n) os).cell? ⟨w.heap.size, 1, none⟩ = some (.int .i64 x.b) := cell_grown (by simp; try omega) (by simp [go_sem])
    have f2 : ∀ n os, (grow (((w.alloc (.cells #[.int .i64 x.a, .int .i64 x.b, .bool x.c, x.h] 62)).alloc (.cells #[.int .i64 y.a, .int .i64 y.b, .bool y.c, y.h] 62)).drewN n) os).cell? ⟨w.heap.size, 2, none⟩ = some (.bool x.c) := cell_grown (by simp; try omega) (by simp [go_sem])
    have f3 : ∀ n os, (grow (((w.alloc (.cells #[.int .i64 x.a, .int .i64 x.b, .bool x.c, x.h] 62)).alloc (.cells #[.int .i64 y.a, .int .i64 y.b, .bool y.c, y.h] 62)).drewN n) os).cell? ⟨w.heap.size, 3, none⟩ = some (x.h) := cell_grown (by simp; try omega) (by simp [go_sem])
    have f4 : ∀ n os, (grow (((w.alloc (.cells #[.int .i64 x.a, .int .i64 x.b, .bool x.c, x.h] 62)).alloc (.cells #[.int .i64 y.a, .int .i64 y.b, .bool y.c, y.h] 62)).drewN n) os).cell? ⟨w.heap.size + 1, 0, none⟩ = some (.int .i64 y.a) := cell_grown (by simp; try omega) (by simp [go_sem])
    have f5 : ∀ n os, (grow (((w.alloc (.cells #[.int .i64 x.a, .int .i64 x.b, .bool x.c, x.h] 62)).alloc (.cells #[.int .i64 y.a, .int .i64 y.b, .bool y.c, y.h] 62)).drewN n) os).cell? ⟨w.heap.size + 1, 1, none⟩ = some (.int .i64 y.b) := cell_grown (by simp; try omega) (by simp [go_sem])
    have f6 : ∀ n os, (grow (((w.alloc (.cells #[.int .i64 x.a, .int .i64 x.b, .bool x.c, x.h] 62)).alloc (.cells #[.int .i64 y.a, .int .i64 y.b, .bool y.c, y.h] 62)).drewN n) os).cell? ⟨w.heap.size + 1, 2, none⟩ = some (.bool y.c) := cell_grown (by simp; try omega) (by simp [go_sem])
    have f7 : ∀ n os, (grow (((w.alloc (.cells #[.int .i64 x.a, .int .i64 x.b, .bool x.c, x.h] 62)).alloc (.cells #[.int .i64 y.a, .int .i64 y.b, .bool y.c, y.h] 62)).drewN n) os).cell? ⟨w.heap.size + 1, 3, none⟩ = some (y.h) := cell_grown (by simp; try omega) (by simp [go_sem])
    obtain ⟨W, hW⟩ : ∃ W, W = ((w.alloc (.cells #[.int .i64 x.a, .int .i64 x.b, .bool x.c, x.h] 62)).alloc (.cells #[.int .i64 y.a, .int .i64 y.b, .bool y.c, y.h] 62)) := ⟨_, rfl⟩
    rw [← hW] at f0 f1 f2 f3 f4 f5 f6 f7 ⊢
    have k1 : ∃ q os, W = grow (w.drewN q) os := by rw [hW]; exact gw_trans ⟨0, _, grow_one w _⟩ ⟨0, _, grow_one _ _⟩
    have HK := Lib.hid k1
    clear k1 hW
    go_ret
    exact ⟨by rw [HE.out]; rfl, HK.out⟩
  · have HE := Lib.hid (show clashQ x y = false by unfold clashQ; simp only [d1, d2, d3]; simp)
    rw [d3] at CX
    go_enter Try.func106, Try.ntmps106
    go_wp2_with fail
    have f0 : ∀ n os, (grow (((w.alloc (.cells #[.int .i64 x.a, .int .i64 x.b, .bool x.c, x.h] 62)).alloc (.cells #[.int .i64 y.a, .int .i64 y.b, .bool y.c, y.h] 62)).drewN n) os).cell? ⟨w.heap.size, 0, none⟩ = some (.int .i64 x.a) := cell_grown (by simp; try omega) (by simp [go_sem])
    have f1 : ∀ n os, (grow (((w.alloc (.cells #[.int .i64 x.a, .int .i64 x.b, .bool x.c, x.h] 62)).alloc (.cells #[.int .i64 y.a, .int .i64 y.b, .bool y.c, y.h] 62)).drewN n) os).cell? ⟨w.heap.size, 1, none⟩ = some (.int .i64 x.b) := cell_grown (by simp; try omega) (by simp [go_sem])
    have f2 : ∀ n os, (grow (((w.alloc (.cells #[.int .i64 x.a, .int .i64 x.b, .bool x.c, x.h] 62)).alloc (.cells #[.int .i64 y.a, .int .i64 y.b, .bool y.c, y.h] 62)).drewN n) os).cell? ⟨w.heap.size, 2, none⟩ = some (.bool x.c) := cell_grown (by simp; try omega) (by simp [go_sem])
    have f3 : ∀ n os, (grow (((w.alloc (.cells #[.int .i64 x.a, .int .i64 x.b, .bool x.c, x.h] 62)).alloc (.cells #[.int .i64 y.a, .int .i64 y.b, .bool y.c, y.h] 62)).drewN n) os).cell? ⟨w.heap.size, 3, none⟩ = some (x.h) := cell_grown (by simp; try omega) (by simp [go_sem])
    have f4 : ∀ n os, (grow (((w.alloc (.cells #[.int .i64 x.a, .int .i64 x.b, .bool x.c, x.h] 62)).alloc (.cells #[.int .i64 y.a, .int .i64 y.b, .bool y.c, y.h] 62)).drewN n) os).cell? ⟨w.heap.size + 1, 0, none⟩ = some (.int .i64 y.a) := cell_grown (by simp; try omega) (by simp [go_sem])
    have f5 : ∀ n os, (grow (((w.alloc (.cells #[.int .i64 x.a, .int .i64 x.b, .bool x.c, x.h] 62)).alloc (.cells #[.int .i64 y.a, .int .i64 y.b, .bool y.c, y.h] 62)).drewN n) os).cell? ⟨w.heap.size + 1, 1, none⟩ = some (.int .i64 y.b) := cell_grown (by simp; try omega) (by simp [go_sem])
    have f6 : ∀ n os, (grow (((w.alloc (.cells #[.int .i64 x.a, .int .i64 x.b, .bool x.c, x.h] 62)).alloc (.cells #[.int .i64 y.a, .int .i64 y.b, .bool y.c, y.h] 62)).drewN n) os).cell? ⟨w.heap.size + 1, 2, none⟩ = some (.bool y.c) := cell_grown (by simp; try omega) (by simp [go_sem])
    have f7 : ∀ n os, (grow (((w.alloc (.cells #[.int .i64 x.a, .int .i64 x.b, .bool x.c, x.h] 62)).alloc (.cells #[.int .i64 y.a, .int .i64 y.b, .bool y.c, y.h] 62)).drewN n) os).cell? ⟨w.heap.size + 1, 3, none⟩ = some (y.h) := cell_grown (by simp; try omega) (by simp [go_sem])
    obtain ⟨W, hW⟩ : ∃ W, W = ((w.alloc (.cells #[.int .i64 x.a, .int .i64 x.b, .bool x.c, x.h] 62)).alloc (.cells #[.int .i64 y.a, .int .i64 y.b, .bool y.c, y.h] 62)) := ⟨_, rfl⟩
    rw [← hW] at f0 f1 f2 f3 f4 f5 f6 f7 ⊢
    have k1 : ∃ q os, W = grow (w.drewN q) os := by rw [hW]; exact gw_trans ⟨0, _, grow_one w _⟩ ⟨0, _, grow_one _ _⟩
    have HK := Lib.hid k1
    clear k1 hW
    refine (CX.out _).mono ?_
    rintro e w1 ⟨rfl, q, os', rfl⟩
    go_wp2_with fail
    go_ret
    exact ⟨by rw [HE.out]; rfl, gw_trans HK.out ⟨_, _, rfl⟩⟩
  · have HE := Lib.hid (show clashQ x y = false by unfold clashQ; simp only [d1, d2, d3, d4]; simp)
    rw [d3] at CX
    rw [d4] at CY
    go_enter Try.func106, Try.ntmps106
    go_wp2_with fail
    have f0 : ∀ n os, (grow (((w.alloc (.cells #[.int .i64 x.a, .int .i64 x.b, .bool x.c, x.h] 62)).alloc (.cells #[.int .i64 y.a, .int .i64 y.b, .bool y.c, y.h] 62)).drewN n) os).cell? ⟨w.heap.size, 0, none⟩ = some (.int .i64 x.a) := cell_grown (by simp; try omega) (by simp [go_sem])
    have f1 : ∀ n os, (grow (((w.alloc (.cells #[.int .i64 x.a, .int .i64 x.b, .bool x.c, x.h] 62)).alloc (.cells #[.int .i64 y.a, .int .i64 y.b, .bool y.c, y.h] 62)).drewN n) os).cell? ⟨w.heap.size, 1, none⟩ = some (.int .i64 x.b) := cell_grown (by simp; try omega) (by simp [go_sem])
    have f2 : ∀ n os, (grow (((w.alloc (.cells #[.int .i64 x.a, .int .i64 x.b, .bool x.c, x.h] 62)).alloc (.cells #[.int .i64 y.a, .int .i64 y.b, .bool y.c, y.h] 62)).drewN n) os).cell? ⟨w.heap.size, 2, none⟩ = some (.bool x.c) := cell_grown (by simp; try omega) (by simp [go_sem])
    have f3 : ∀ n os, (grow (((w.alloc (.cells #[.int .i64 x.a, .int .i64 x.b, .bool x.c, x.h] 62)).alloc (.cells #[.int .i64 y.a, .int .i64 y.b, .bool y.c, y.h] 62)).drewN n) os).cell? ⟨w.heap.size, 3, none⟩ = some (x.h) := cell_grown (by simp; try omega) (by simp [go_sem])
    have f4 : ∀ n os, (grow (((w.alloc (.cells #[.int .i64 x.a, .int .i64 x.b, .bool x.c, x.h] 62)).alloc (.cells #[.int .i64 y.a, .int .i64 y.b, .bool y.c, y.h] 62)).drewN n) os).cell? ⟨w.heap.size + 1, 0, none⟩ = some (.int .i64 y.a) := cell_grown (by simp; try omega) (by simp [go_sem])
    have f5 : ∀ n os, (grow (((w.alloc (.cells #[.int .i64 x.a, .int .i64 x.b, .bool x.c, x.h] 62)).alloc (.cells #[.int .i64 y.a, .int .i64 y.b, .bool y.c, y.h] 62)).drewN n) os).cell? ⟨w.heap.size + 1, 1, none⟩ = some (.int .i64 y.b) := cell_grown (by simp; try omega) (by simp [go_sem])
    have f6 : ∀ n os, (grow (((w.alloc (.cells #[.int .i64 x.a, .int .i64 x.b, .bool x.c, x.h] 62)).alloc (.cells #[.int .i64 y.a, .int .i64 y.b, .bool y.c, y.h] 62)).drewN n) os).cell? ⟨w.heap.size + 1, 2, none⟩ = some (.bool y.c) := cell_grown (by simp; try omega) (by simp [go_sem])
    have f7 : ∀ n os, (grow (((w.alloc (.cells #[.int .i64 x.a, .int .i64 x.b, .bool x.c, x.h] 62)).alloc (.cells #[.int .i64 y.a, .int .i64 y.b, .bool y.c, y.h] 62)).drewN n) os).cell? ⟨w.heap.size + 1, 3, none⟩ = some (y.h) := cell_grown (by simp; try omega) (by simp [go_sem])
    obtain ⟨W, hW⟩ : ∃ W, W = ((w.alloc (.cells #[.int .i64 x.a, .int .i64 x.b, .bool x.c, x.h] 62)).alloc (.cells #[.int .i64 y.a, .int .i64 y.b, .bool y.c, y.h] 62)) := ⟨_, rfl⟩
    rw [← hW] at f0 f1 f2 f3 f4 f5 f6 f7 ⊢
    have k1 : ∃ q os, W = grow (w.drewN q) os := by rw [hW]; exact gw_trans ⟨0, _, grow_one w _⟩ ⟨0, _, grow_one _ _⟩
    have HK := Lib.hid k1
    clear k1 hW
    refine (CX.out _).mono ?_
    rintro e w1 ⟨rfl, q, os', rfl⟩
    go_wp2_with fail
    refine (CY.out _).mono ?_
    rintro e w2 ⟨rfl, q2, os2, rfl⟩
    go_wp2_with fail
    go_ret
    exact ⟨by rw [HE.out]; rfl, gw_trans (gw_trans HK.out ⟨_, _, rfl⟩) ⟨_, _, rfl⟩⟩
  · have HE := Lib.hid (show clashQ x y = true by unfold clashQ; simp only [d1, d2, d3, d4]; simp)
    rw [d3] at CX
    rw [d4] at CY
    go_enter Try.func106, Try.ntmps106
    go_wp2_with fail
    have f0 : ∀ n os, (grow (((w.alloc (.cells #[.int .i64 x.a, .int .i64 x.b, .bool x.c, x.h] 62)).alloc (.cells #[.int .i64 y.a, .int .i64 y.b, .bool y.c, y.h] 62)).drewN n) os).cell? ⟨w.heap.size, 0, none⟩ = some (.int .i64 x.a) := cell_grown (by simp; try omega) (by simp [go_sem])
    have f1 : ∀ n os, (grow (((w.alloc (.cells #[.int .i64 x.a, .int .i64 x.b, .bool x.c, x.h] 62)).alloc (.cells #[.int .i64 y.a, .int .i64 y.b, .bool y.c, y.h] 62)).drewN n) os).cell? ⟨w.heap.size, 1, none⟩ = some (.int .i64 x.b) := cell_grown (by simp; try omega) (by simp [go_sem])
    have f2 : ∀ n os, (grow (((w.alloc (.cells #[.int .i64 x.a, .int .i64 x.b, .bool x.c, x.h] 62)).alloc (.cells #[.int .i64 y.a, .int .i64 y.b, .bool y.c, y.h] 62)).drewN n) os).cell? ⟨w.heap.size, 2, none⟩ = some (.bool x.c) := cell_grown (by simp; try omega) (by simp [go_sem])
    have f3 : ∀ n os, (grow (((w.alloc (.cells #[.int .i64 x.a, .int .i64 x.b, .bool x.c, x.h] 62)).alloc (.cells #[.int .i64 y.a, .int .i64 y.b, .bool y.c, y.h] 62)).drewN n) os).cell? ⟨w.heap.size, 3, none⟩ = some (x.h) := cell_grown (by simp; try omega) (by simp [go_sem])
    have f4 : ∀ n os, (grow (((w.alloc (.cells #[.int .i64 x.a, .int .i64 x.b, .bool x.c, x.h] 62)).alloc (.cells #[.int .i64 y.a, .int .i64 y.b, .bool y.c, y.h] 62)).drewN n) os).cell? ⟨w.heap.size + 1, 0, none⟩ = some (.int .i64 y.a) := cell_grown (by simp; try omega) (by simp [go_sem])
    have f5 : ∀ n os, (grow (((w.alloc (.cells #[.int .i64 x.a, .int .i64 x.b, .bool x.c, x.h] 62)).alloc (.cells #[.int .i64 y.a, .int .i64 y.b, .bool y.c, y.h] 62)).drewN n) os).cell? ⟨w.heap.size + 1, 1, none⟩ = some (.int .i64 y.b) := cell_grown (by simp; try omega) (by simp [go_sem])
    have f6 : ∀ n os, (grow (((w.alloc (.cells #[.int .i64 x.a, .int .i64 x.b, .bool x.c, x.h] 62)).alloc (.cells #[.int .i64 y.a, .int .i64 y.b, .bool y.c, y.h] 62)).drewN n) os).cell? ⟨w.heap.size + 1, 2, none⟩ = some (.bool y.c) := cell_grown (by simp; try omega) (by simp [go_sem])
    have f7 : ∀ n os, (grow (((w.alloc (.cells #[.int .i64 x.a, .int .i64 x.b, .bool x.c, x.h] 62)).alloc (.cells #[.int .i64 y.a, .int .i64 y.b, .bool y.c, y.h] 62)).drewN n) os).cell? ⟨w.heap.size + 1, 3, none⟩ = some (y.h) := cell_grown (by simp; try omega) (by simp [go_sem])
    obtain ⟨W, hW⟩ : ∃ W, W = ((w.alloc (.cells #[.int .i64 x.a, .int .i64 x.b, .bool x.c, x.h] 62)).alloc (.cells #[.int .i64 y.a, .int .i64 y.b, .bool y.c, y.h] 62)) := ⟨_, rfl⟩
    rw [← hW] at f0 f1 f2 f3 f4 f5 f6 f7 ⊢
    have k1 : ∃ q os, W = grow (w.drewN q) os := by rw [hW]; exact gw_trans ⟨0, _, grow_one w _⟩ ⟨0, _, grow_one _ _⟩
    have HK := Lib.hid k1
    clear k1 hW
    refine (CX.out _).mono ?_
    rintro e w1 ⟨rfl, q, os', rfl⟩
    go_wp2_with fail
    refine (CY.out _).mono ?_
    rintro e w2 ⟨rfl, q2, os2, rfl⟩
    go_wp2_with fail
    go_ret
    exact ⟨by rw [HE.out]; rfl, gw_trans (gw_trans HK.out ⟨_, _, rfl⟩) ⟨_, _, rfl⟩⟩
end Go.Proofs.Ytnjcahdelcdcfaa

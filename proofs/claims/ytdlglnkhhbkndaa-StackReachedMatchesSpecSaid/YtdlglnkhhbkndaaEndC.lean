/- Several texts in one: Clsh, Holds, IdxH, ConH, Loose, ChkBd. -/
import Derived.Test.YtdlglnkhhbkndaaPrC
import Derived.Test.YtdlglnkhhbkndaaOpn
/- Sub-boards within one another, and those that clash, whatever the world. -/
namespace Go.Proofs.Ytdlglnkhhbkndaa
open Go.RowKit Go.Maps Go.Sort
set_option linter.unusedSimpArgs false
set_option linter.unusedVariables false
set_option maxRecDepth 100000

def inQ (x y : Bq) : Bool := decide (y.a ≤ x.a) && decide (x.b ≤ y.b)
def clashQ (x y : Bq) : Bool := decide (x.a ≤ y.b) && decide (y.a ≤ x.b) && !inQ x y && !inQ y x
theorem gw_drew (w : World) (n : Nat) : ∃ q os, w.drewN n = grow (w.drewN q) os := ⟨n, #[], (grow_empty _).symm⟩
set_option maxHeartbeats 2000000 in
theorem within_any (x y : Bq) (w : World) : Calls Try.prog 117 #[.agg #[.int .i64 x.a, .int .i64 x.b, .bool x.c, x.h], .agg #[.int .i64 y.a, .int .i64 y.b, .bool y.c, y.h]] w fun e w' => e = .returned (.bool (inQ x y)) ∧ ∃ q os', w' = grow (w.drewN q) os' := by
  by_cases h1 : y.a ≤ x.a
  · have HE := Lib.hid (show inQ x y = decide (x.b ≤ y.b) by unfold inQ; rw [decide_eq_true h1, Bool.true_and])
    go_enter Try.func117, Try.ntmps117
    go_wp2_with fail
    go_ret
    exact ⟨by rw [HE.out]; rfl, gw_trans ⟨0, _, grow_one w _⟩ ⟨0, _, grow_one _ _⟩⟩
  · have HE := Lib.hid (show inQ x y = false by unfold inQ; rw [decide_eq_false h1, Bool.false_and])
    have h1' : decide (y.a ≤ x.a) = false := decide_eq_false h1
    clear h1
    go_enter Try.func117, Try.ntmps117
    go_wp2_with fail
    go_ret
    exact ⟨by rw [HE.out]; rfl, gw_trans ⟨0, _, grow_one w _⟩ ⟨0, _, grow_one _ _⟩⟩
set_option maxHeartbeats 4000000 in
theorem clash_any (x y : Bq) (w : World) : Calls Try.prog 106 #[.agg #[.int .i64 x.a, .int .i64 x.b, .bool x.c, x.h], .agg #[.int .i64 y.a, .int .i64 y.b, .bool y.c, y.h]] w fun e w' => e = .returned (.bool (clashQ x y)) ∧ ∃ q os', w' = grow (w.drewN q) os' := by
  have CX := Lib.hid (within_any x y)
  have CY := Lib.hid (within_any y x)
  rcases (show decide (x.a ≤ y.b) = false ∨ decide (x.a ≤ y.b) = true ∧ (decide (y.a ≤ x.b) = false ∨ decide (y.a ≤ x.b) = true ∧ (inQ x y = true ∨ inQ x y = false ∧ (inQ y x = true ∨ inQ y x = false))) by cases decide (x.a ≤ y.b) <;> cases decide (y.a ≤ x.b) <;> cases inQ x y <;> cases inQ y x <;> simp) with d1 | ⟨d1, d2 | ⟨d2, d3 | ⟨d3, d4 | d4⟩⟩⟩
  · have HE := Lib.hid (show clashQ x y = false by unfold clashQ; simp only [d1]; simp)
    go_enter Try.func106, Try.ntmps106
    go_wp2_with fail
    have f0 : ∀ n os, (grow (((w.alloc (.cells #[.int .i64 x.a, .int .i64 x.b, .bool x.c, x.h] 62)).alloc (.cells #[.int .i64 y.a, .int .i64 y.b, .bool y.c, y.h] 62)).drewN n) os).cell? ⟨w.heap.size, 0, none⟩ = some (.int .i64 x.a) := cell_grown (by simp; try omega) (by simp [go_sem])
    have f1 : ∀ n os, (grow (((w.alloc (.cells #[.int .i64 x.a, .int .i64 x.b, .bool x.c, x.h] 62)).alloc (.cells #[.int .i64 y.a, .int .i64 y.b, .bool y.c, y.h] 62)).drewN n) os).cell? ⟨w.heap.size, 1, none⟩ = some (.int .i64 x.b) := cell_grown (by simp; try omega) (by simp [go_sem])
    have f2 : ∀ n os, (grow (((w.alloc (.cells #[.int .i64 x.a, .int .i64 x.b, .bool x.c, x.h] 62)).alloc (.cells #[.int .i64 y.a, .int .i64 y.b, .bool y.c, y.h] 62)).drewN n) os).cell? ⟨w.heap.size, 2, none⟩ = some (.bool x.c) := cell_grown (by simp; try omega) (by simp [go_sem])
    have f3 : ∀ n os, (grow (((w.alloc (.cells #[.int .i64 x.a, .int .i64 x.b, .bool x.c, x.h] 62)).alloc (.cells #[.int .i64 y.a, .int .i64 y.b, .bool y.c, y.h] 62)).drewN n) os).cell? ⟨w.heap.size, 3, none⟩ = some (x.h) := cell_grown (by simp; try omega) (by simp [go_sem])
    have f4 : ∀ n os, (grow (((w.alloc (.cells #[.int .i64 x.a, .int .i64 x.b, .bool x.c, x.h] 62)).alloc (.cells #[.int .i64 y.a, .int .i64 y.b, .bool y.c, y.h] 62)).drewN n) os).cell? ⟨w.heap.size + 1, 0, none⟩ = some (.int .i64 y.a) := cell_grown (by simp; try omega) (by simp [go_sem])
    have f5 : ∀ n os, (grow (((w.alloc (.cells #[.int .i64 x.a, .int .i64 x.b, .bool x.c, x.h] 62)).alloc (.cells #[.int .i64 y.a, .int .i64 y.b, .bool y.c, y.h] 62)).drewN n) os).cell? ⟨w.heap.size + 1, 1, none⟩ = some (.int .i64 y.b) := cell_grown (by simp; try omega) (by simp [go_sem])
    have f6 : ∀ n os, (grow (((w.alloc (.cells #[.int .i64 x.a, .int .i64 x.b, .bool x.c, x.h] 62)).alloc (.cells #[.int .i64 y.a, .int .i64 y.b, .bool y.c, y.h] 62)).drewN n) os).cell? ⟨w.heap.size + 1, 2, none⟩ = some (.bool y.c) := cell_grown (by simp; try omega) (by simp [go_sem])
    have f7 : ∀ n os, (grow (((w.alloc (.cells #[.int .i64 x.a, .int .i64 x.b, .bool x.c, x.h] 62)).alloc (.cells #[.int .i64 y.a, .int .i64 y.b, .bool y.c, y.h] 62)).drewN n) os).cell? ⟨w.heap.size + 1, 3, none⟩ = some (y.h) := cell_grown (by simp; try omega) (by simp [go_sem])
    obtain ⟨W, hW⟩ : ∃ W, W = ((w.alloc (.cells #[.int .i64 x.a, .int .i64 x.b, .bool x.c, x.h] 62)).alloc (.cells #[.int .i64 y.a, .int .i64 y.b, .bool y.c, y.h] 62)) := ⟨_, rfl⟩
    rw [← hW] at f0 f1 f2 f3 f4 f5 f6 f7 ⊢
    have k1 : ∃ q os, W = grow (w.drewN q) os := by rw [hW]; exact gw_trans ⟨0, _, grow_one w _⟩ ⟨0, _, grow_one _ _⟩
    have HK := Lib.hid k1
    clear k1 hW
    go_ret
    exact ⟨by rw [HE.out]; rfl, HK.out⟩
  · have HE := Lib.hid (show clashQ x y = false by unfold clashQ; simp only [d1, d2]; simp)
    go_enter Try.func106, Try.ntmps106
    go_wp2_with fail
    have f0 : ∀ n os, (grow (((w.alloc (.cells #[.int .i64 x.a, .int .i64 x.b, .bool x.c, x.h] 62)).alloc (.cells #[.int .i64 y.a, .int .i64 y.b, .bool y.c, y.h] 62)).drewN n) os).cell? ⟨w.heap.size, 0, none⟩ = some (.int .i64 x.a) := cell_grown (by simp; try omega) (by simp [go_sem])
    have f1 : ∀ n os, (grow (((w.alloc (.cells #[.int .i64 x.a, .int .i64 x.b, .bool x.c, x.h] 62)).alloc (.cells #[.int .i64 y.a, .int .i64 y.b, .bool y.c, y.h] 62)).drewN n) os).cell? ⟨w.heap.size, 1, none⟩ = some (.int .i64 x.b) := cell_grown (by simp; try omega) (by simp [go_sem])
    have f2 : ∀ n os, (grow (((w.alloc (.cells #[.int .i64 x.a, .int .i64 x.b, .bool x.c, x.h] 62)).alloc (.cells #[.int .i64 y.a, .int .i64 y.b, .bool y.c, y.h] 62)).drewN n) os).cell? ⟨w.heap.size, 2, none⟩ = some (.bool x.c) := cell_grown (by simp; try omega) (by simp [go_sem])
    have f3 : ∀ n os, (grow (((w.alloc (.cells #[.int .i64 x.a, .int .i64 x.b, .bool x.c, x.h] 62)).alloc (.cells #[.int .i64 y.a, .int .i64 y.b, .bool y.c, y.h] 62)).drewN n) os).cell? ⟨w.heap.size, 3, none⟩ = some (x.h) := cell_grown (by simp; try omega) (by simp [go_sem])
    have f4 : ∀ n os, (grow (((w.alloc (.cells #[.int .i64 x.a, .int .i64 x.b, .bool x.c, x.h] 62)).alloc (.cells #[.int .i64 y.a, .int .i64 y.b, .bool y.c, y.h] 62)).drewN n) os).cell? ⟨w.heap.size + 1, 0, none⟩ = some (.int .i64 y.a) := cell_grown (by simp; try omega) (by simp [go_sem])
    have f5 : ∀ n os, (grow (((w.alloc (.cells #[.int .i64 x.a, .int .i64 x.b, .bool x.c, x.h] 62)).alloc (.cells #[.int .i64 y.a, .int .i64 y.b, .bool y.c, y.h] 62)).drewN n) os).cell? ⟨w.heap.size + 1, 1, none⟩ = some (.int .i64 y.b) := cell_grown (by simp; try omega) (by simp [go_sem])
    have f6 : ∀ n os, (grow (((w.alloc (.cells #[.int .i64 x.a, .int .i64 x.b, .bool x.c, x.h] 62)).alloc (.cells #[.int .i64 y.a, .int .i64 y.b, .bool y.c, y.h] 62)).drewN n) os).cell? ⟨w.heap.size + 1, 2, none⟩ = some (.bool y.c) := cell_grown (by simp; try omega) (by simp [go_sem])
    have f7 : ∀ n os, (grow (((w.alloc (.cells #[.int .i64 x.a, .int .i64 x.b, .bool x.c, x.h] 62)).alloc (.cells #[.int .i64 y.a, .int .i64 y.b, .bool y.c, y.h] 62)).drewN n) os).cell? ⟨w.heap.size + 1, 3, none⟩ = some (y.h) := cell_grown (by simp; try omega) (by simp [go_sem])
    obtain ⟨W, hW⟩ : ∃ W, W = ((w.alloc (.cells #[.int .i64 x.a, .int .i64 x.b, .bool x.c, x.h] 62)).alloc (.cells #[.int .i64 y.a, .int .i64 y.b, .bool y.c, y.h] 62)) := ⟨_, rfl⟩
    rw [← hW] at f0 f1 f2 f3 f4 f5 f6 f7 ⊢
    have k1 : ∃ q os, W = grow (w.drewN q) os := by rw [hW]; exact gw_trans ⟨0, _, grow_one w _⟩ ⟨0, _, grow_one _ _⟩
    have HK := Lib.hid k1
    clear k1 hW
    go_ret
    exact ⟨by rw [HE.out]; rfl, HK.out⟩
  · have HE := Lib.hid (show clashQ x y = false by unfold clashQ; simp only [d1, d2, d3]; simp)
    rw [d3] at CX
    go_enter Try.func106, Try.ntmps106
    go_wp2_with fail
    have f0 : ∀ n os, (grow (((w.alloc (.cells #[.int .i64 x.a, .int .i64 x.b, .bool x.c, x.h] 62)).alloc (.cells #[.int .i64 y.a, .int .i64 y.b, .bool y.c, y.h] 62)).drewN n) os).cell? ⟨w.heap.size, 0, none⟩ = some (.int .i64 x.a) := cell_grown (by simp; try omega) (by simp [go_sem])
    have f1 : ∀ n os, (grow (((w.alloc (.cells #[.int .i64 x.a, .int .i64 x.b, .bool x.c, x.h] 62)).alloc (.cells #[.int .i64 y.a, .int .i64 y.b, .bool y.c, y.h] 62)).drewN n) os).cell? ⟨w.heap.size, 1, none⟩ = some (.int .i64 x.b) := cell_grown (by simp; try omega) (by simp [go_sem])
    have f2 : ∀ n os, (grow (((w.alloc (.cells #[.int .i64 x.a, .int .i64 x.b, .bool x.c, x.h] 62)).alloc (.cells #[.int .i64 y.a, .int .i64 y.b, .bool y.c, y.h] 62)).drewN n) os).cell? ⟨w.heap.size, 2, none⟩ = some (.bool x.c) := cell_grown (by simp; try omega) (by simp [go_sem])
    have f3 : ∀ n os, (grow (((w.alloc (.cells #[.int .i64 x.a, .int .i64 x.b, .bool x.c, x.h] 62)).alloc (.cells #[.int .i64 y.a, .int .i64 y.b, .bool y.c, y.h] 62)).drewN n) os).cell? ⟨w.heap.size, 3, none⟩ = some (x.h) := cell_grown (by simp; try omega) (by simp [go_sem])
    have f4 : ∀ n os, (grow (((w.alloc (.cells #[.int .i64 x.a, .int .i64 x.b, .bool x.c, x.h] 62)).alloc (.cells #[.int .i64 y.a, .int .i64 y.b, .bool y.c, y.h] 62)).drewN n) os).cell? ⟨w.heap.size + 1, 0, none⟩ = some (.int .i64 y.a) := cell_grown (by simp; try omega) (by simp [go_sem])
    have f5 : ∀ n os, (grow (((w.alloc (.cells #[.int .i64 x.a, .int .i64 x.b, .bool x.c, x.h] 62)).alloc (.cells #[.int .i64 y.a, .int .i64 y.b, .bool y.c, y.h] 62)).drewN n) os).cell? ⟨w.heap.size + 1, 1, none⟩ = some (.int .i64 y.b) := cell_grown (by simp; try omega) (by simp [go_sem])
    have f6 : ∀ n os, (grow (((w.alloc (.cells #[.int .i64 x.a, .int .i64 x.b, .bool x.c, x.h] 62)).alloc (.cells #[.int .i64 y.a, .int .i64 y.b, .bool y.c, y.h] 62)).drewN n) os).cell? ⟨w.heap.size + 1, 2, none⟩ = some (.bool y.c) := cell_grown (by simp; try omega) (by simp [go_sem])
    have f7 : ∀ n os, (grow (((w.alloc (.cells #[.int .i64 x.a, .int .i64 x.b, .bool x.c, x.h] 62)).alloc (.cells #[.int .i64 y.a, .int .i64 y.b, .bool y.c, y.h] 62)).drewN n) os).cell? ⟨w.heap.size + 1, 3, none⟩ = some (y.h) := cell_grown (by simp; try omega) (by simp [go_sem])
    obtain ⟨W, hW⟩ : ∃ W, W = ((w.alloc (.cells #[.int .i64 x.a, .int .i64 x.b, .bool x.c, x.h] 62)).alloc (.cells #[.int .i64 y.a, .int .i64 y.b, .bool y.c, y.h] 62)) := ⟨_, rfl⟩
    rw [← hW] at f0 f1 f2 f3 f4 f5 f6 f7 ⊢
    have k1 : ∃ q os, W = grow (w.drewN q) os := by rw [hW]; exact gw_trans ⟨0, _, grow_one w _⟩ ⟨0, _, grow_one _ _⟩
    have HK := Lib.hid k1
    clear k1 hW
    refine (CX.out _).mono ?_
    rintro e w1 ⟨rfl, q, os', rfl⟩
    go_wp2_with fail
    go_ret
    exact ⟨by rw [HE.out]; rfl, gw_trans HK.out ⟨_, _, rfl⟩⟩
  · have HE := Lib.hid (show clashQ x y = false by unfold clashQ; simp only [d1, d2, d3, d4]; simp)
    rw [d3] at CX
    rw [d4] at CY
    go_enter Try.func106, Try.ntmps106
    go_wp2_with fail
    have f0 : ∀ n os, (grow (((w.alloc (.cells #[.int .i64 x.a, .int .i64 x.b, .bool x.c, x.h] 62)).alloc (.cells #[.int .i64 y.a, .int .i64 y.b, .bool y.c, y.h] 62)).drewN n) os).cell? ⟨w.heap.size, 0, none⟩ = some (.int .i64 x.a) := cell_grown (by simp; try omega) (by simp [go_sem])
    have f1 : ∀ n os, (grow (((w.alloc (.cells #[.int .i64 x.a, .int .i64 x.b, .bool x.c, x.h] 62)).alloc (.cells #[.int .i64 y.a, .int .i64 y.b, .bool y.c, y.h] 62)).drewN n) os).cell? ⟨w.heap.size, 1, none⟩ = some (.int .i64 x.b) := cell_grown (by simp; try omega) (by simp [go_sem])
    have f2 : ∀ n os, (grow (((w.alloc (.cells #[.int .i64 x.a, .int .i64 x.b, .bool x.c, x.h] 62)).alloc (.cells #[.int .i64 y.a, .int .i64 y.b, .bool y.c, y.h] 62)).drewN n) os).cell? ⟨w.heap.size, 2, none⟩ = some (.bool x.c) := cell_grown (by simp; try omega) (by simp [go_sem])
    have f3 : ∀ n os, (grow (((w.alloc (.cells #[.int .i64 x.a, .int .i64 x.b, .bool x.c, x.h] 62)).alloc (.cells #[.int .i64 y.a, .int .i64 y.b, .bool y.c, y.h] 62)).drewN n) os).cell? ⟨w.heap.size, 3, none⟩ = some (x.h) := cell_grown (by simp; try omega) (by simp [go_sem])
    have f4 : ∀ n os, (grow (((w.alloc (.cells #[.int .i64 x.a, .int .i64 x.b, .bool x.c, x.h] 62)).alloc (.cells #[.int .i64 y.a, .int .i64 y.b, .bool y.c, y.h] 62)).drewN n) os).cell? ⟨w.heap.size + 1, 0, none⟩ = some (.int .i64 y.a) := cell_grown (by simp; try omega) (by simp [go_sem])
    have f5 : ∀ n os, (grow (((w.alloc (.cells #[.int .i64 x.a, .int .i64 x.b, .bool x.c, x.h] 62)).alloc (.cells #[.int .i64 y.a, .int .i64 y.b, .bool y.c, y.h] 62)).drewN n) os).cell? ⟨w.heap.size + 1, 1, none⟩ = some (.int .i64 y.b) := cell_grown (by simp; try omega) (by simp [go_sem])
    have f6 : ∀ n os, (grow (((w.alloc (.cells #[.int .i64 x.a, .int .i64 x.b, .bool x.c, x.h] 62)).alloc (.cells #[.int .i64 y.a, .int .i64 y.b, .bool y.c, y.h] 62)).drewN n) os).cell? ⟨w.heap.size + 1, 2, none⟩ = some (.bool y.c) := cell_grown (by simp; try omega) (by simp [go_sem])
    have f7 : ∀ n os, (grow (((w.alloc (.cells #[.int .i64 x.a, .int .i64 x.b, .bool x.c, x.h] 62)).alloc (.cells #[.int .i64 y.a, .int .i64 y.b, .bool y.c, y.h] 62)).drewN n) os).cell? ⟨w.heap.size + 1, 3, none⟩ = some (y.h) := cell_grown (by simp; try omega) (by simp [go_sem])
    obtain ⟨W, hW⟩ : ∃ W, W = ((w.alloc (.cells #[.int .i64 x.a, .int .i64 x.b, .bool x.c, x.h] 62)).alloc (.cells #[.int .i64 y.a, .int .i64 y.b, .bool y.c, y.h] 62)) := ⟨_, rfl⟩
    rw [← hW] at f0 f1 f2 f3 f4 f5 f6 f7 ⊢
    have k1 : ∃ q os, W = grow (w.drewN q) os := by rw [hW]; exact gw_trans ⟨0, _, grow_one w _⟩ ⟨0, _, grow_one _ _⟩
    have HK := Lib.hid k1
    clear k1 hW
    refine (CX.out _).mono ?_
    rintro e w1 ⟨rfl, q, os', rfl⟩
    go_wp2_with fail
    refine (CY.out _).mono ?_
    rintro e w2 ⟨rfl, q2, os2, rfl⟩
    go_wp2_with fail
    go_ret
    exact ⟨by rw [HE.out]; rfl, gw_trans (gw_trans HK.out ⟨_, _, rfl⟩) ⟨_, _, rfl⟩⟩
  · have HE := Lib.hid (show clashQ x y = true by unfold clashQ; simp only [d1, d2, d3, d4]; simp)
    rw [d3] at CX
    rw [d4] at CY
    go_enter Try.func106, Try.ntmps106
    go_wp2_with fail
    have f0 : ∀ n os, (grow (((w.alloc (.cells #[.int .i64 x.a, .int .i64 x.b, .bool x.c, x.h] 62)).alloc (.cells #[.int .i64 y.a, .int .i64 y.b, .bool y.c, y.h] 62)).drewN n) os).cell? ⟨w.heap.size, 0, none⟩ = some (.int .i64 x.a) := cell_grown (by simp; try omega) (by simp [go_sem])
    have f1 : ∀ n os, (grow (((w.alloc (.cells #[.int .i64 x.a, .int .i64 x.b, .bool x.c, x.h] 62)).alloc (.cells #[.int .i64 y.a, .int .i64 y.b, .bool y.c, y.h] 62)).drewN n) os).cell? ⟨w.heap.size, 1, none⟩ = some (.int .i64 x.b) := cell_grown (by simp; try omega) (by simp [go_sem])
    have f2 : ∀ n os, (grow (((w.alloc (.cells #[.int .i64 x.a, .int .i64 x.b, .bool x.c, x.h] 62)).alloc (.cells #[.int .i64 y.a, .int .i64 y.b, .bool y.c, y.h] 62)).drewN n) os).cell? ⟨w.heap.size, 2, none⟩ = some (.bool x.c) := cell_grown (by simp; try omega) (by simp [go_sem])
    have f3 : ∀ n os, (grow (((w.alloc (.cells #[.int .i64 x.a, .int .i64 x.b, .bool x.c, x.h] 62)).alloc (.cells #[.int .i64 y.a, .int .i64 y.b, .bool y.c, y.h] 62)).drewN n) os).cell? ⟨w.heap.size, 3, none⟩ = some (x.h) := cell_grown (by simp; try omega) (by simp [go_sem])
    have f4 : ∀ n os, (grow (((w.alloc (.cells #[.int .i64 x.a, .int .i64 x.b, .bool x.c, x.h] 62)).alloc (.cells #[.int .i64 y.a, .int .i64 y.b, .bool y.c, y.h] 62)).drewN n) os).cell? ⟨w.heap.size + 1, 0, none⟩ = some (.int .i64 y.a) := cell_grown (by simp; try omega) (by simp [go_sem])
    have f5 : ∀ n os, (grow (((w.alloc (.cells #[.int .i64 x.a, .int .i64 x.b, .bool x.c, x.h] 62)).alloc (.cells #[.int .i64 y.a, .int .i64 y.b, .bool y.c, y.h] 62)).drewN n) os).cell? ⟨w.heap.size + 1, 1, none⟩ = some (.int .i64 y.b) := cell_grown (by simp; try omega) (by simp [go_sem])
    have f6 : ∀ n os, (grow (((w.alloc (.cells #[.int .i64 x.a, .int .i64 x.b, .bool x.c, x.h] 62)).alloc (.cells #[.int .i64 y.a, .int .i64 y.b, .bool y.c, y.h] 62)).drewN n) os).cell? ⟨w.heap.size + 1, 2, none⟩ = some (.bool y.c) := cell_grown (by simp; try omega) (by simp [go_sem])
    have f7 : ∀ n os, (grow (((w.alloc (.cells #[.int .i64 x.a, .int .i64 x.b, .bool x.c, x.h] 62)).alloc (.cells #[.int .i64 y.a, .int .i64 y.b, .bool y.c, y.h] 62)).drewN n) os).cell? ⟨w.heap.size + 1, 3, none⟩ = some (y.h) := cell_grown (by simp; try omega) (by simp [go_sem])
    obtain ⟨W, hW⟩ : ∃ W, W = ((w.alloc (.cells #[.int .i64 x.a, .int .i64 x.b, .bool x.c, x.h] 62)).alloc (.cells #[.int .i64 y.a, .int .i64 y.b, .bool y.c, y.h] 62)) := ⟨_, rfl⟩
    rw [← hW] at f0 f1 f2 f3 f4 f5 f6 f7 ⊢
    have k1 : ∃ q os, W = grow (w.drewN q) os := by rw [hW]; exact gw_trans ⟨0, _, grow_one w _⟩ ⟨0, _, grow_one _ _⟩
    have HK := Lib.hid k1
    clear k1 hW
    refine (CX.out _).mono ?_
    rintro e w1 ⟨rfl, q, os', rfl⟩
    go_wp2_with fail
    refine (CY.out _).mono ?_
    rintro e w2 ⟨rfl, q2, os2, rfl⟩
    go_wp2_with fail
    go_ret
    exact ⟨by rw [HE.out]; rfl, gw_trans (gw_trans HK.out ⟨_, _, rfl⟩) ⟨_, _, rfl⟩⟩
end Go.Proofs.Ytdlglnkhhbkndaa
/- A copper of a sub-board lies in another one within it (the closure of hasLoose), whatever the world. -/
namespace Go.Proofs.Ytdlglnkhhbkndaa
open Go.RowKit Go.Maps Go.Sort
set_option linter.unusedSimpArgs false
set_option linter.unusedVariables false
set_option maxRecDepth 100000

def holdQ (x y : Bq) (k : Int) : Bool := decide (x.b - x.a < y.b - y.a) && inQ x y && decide (x.a ≤ k) && decide (k ≤ x.b)
theorem keep_ex {w w1 : World} {b i : Nat} {v : Value} (hw : ∃ q os, w1 = grow (w.drewN q) os) (h : w.cell? ⟨b, i, none⟩ = some v) : w1.cell? ⟨b, i, none⟩ = some v := by
  obtain ⟨q, os, rfl⟩ := hw
  exact keep_grow h q os
theorem alloc_new_cell (w : World) (cs : Array Value) (t : TypeId) (i : Nat) {v : Value} (h : cs[i]? = some v) : (w.alloc (.cells cs t)).cell? ⟨w.heap.size, i, none⟩ = some v := by
  have := h
  simp [go_sem, h]
set_option maxHeartbeats 4000000 in
theorem holds_any (x y : Bq) (hx : okQ x) (hy : okQ y) (pb pc : Nat) (k : Int) (w : World) (h0 : w.cell? ⟨pb, 0, none⟩ = some (.int .i64 y.a)) (h1 : w.cell? ⟨pb, 1, none⟩ = some (.int .i64 y.b)) (h2 : w.cell? ⟨pb, 2, none⟩ = some (.bool y.c)) (h3 : w.cell? ⟨pb, 3, none⟩ = some y.h) (h4 : w.cell? ⟨pc, 0, none⟩ = some (.int .i64 k)) :
    Calls Try.prog 118 #[.agg #[.int .i64 x.a, .int .i64 x.b, .bool x.c, x.h], .pointer (some ⟨pb, 0, none⟩), .pointer (some ⟨pc, 0, none⟩)] w fun e w' => e = .returned (.bool (holdQ x y k)) ∧ ∃ q os', w' = grow (w.drewN q) os' := by
  have CX := Lib.hid (long_any x hx)
  have CY := Lib.hid (long_any y hy)
  have CW := Lib.hid (within_any x y)
  clear hx hy
  rcases (show decide (x.b - x.a < y.b - y.a) = false ∨ decide (x.b - x.a < y.b - y.a) = true ∧ (inQ x y = false ∨ inQ x y = true ∧ (decide (x.a ≤ k) = false ∨ decide (x.a ≤ k) = true ∧ (decide (k ≤ x.b) = false ∨ decide (k ≤ x.b) = true))) by cases decide (x.b - x.a < y.b - y.a) <;> cases inQ x y <;> cases decide (x.a ≤ k) <;> cases decide (k ≤ x.b) <;> simp) with d1 | ⟨d1, d2 | ⟨d2, d3 | ⟨d3, d4 | d4⟩⟩⟩
  · have HE := Lib.hid (show holdQ x y k = false by unfold holdQ; simp only [d1]; try simp)
    go_enter Try.func118, Try.ntmps118
    go_wp2_with fail
    have f0 : (w.alloc (.cells #[.int .i64 x.a, .int .i64 x.b, .bool x.c, x.h] 62)).cell? ⟨w.heap.size, 0, none⟩ = some (.int .i64 x.a) := alloc_new_cell _ _ _ _ (by rfl)
    have f1 : (w.alloc (.cells #[.int .i64 x.a, .int .i64 x.b, .bool x.c, x.h] 62)).cell? ⟨w.heap.size, 1, none⟩ = some (.int .i64 x.b) := alloc_new_cell _ _ _ _ (by rfl)
    have f2 : (w.alloc (.cells #[.int .i64 x.a, .int .i64 x.b, .bool x.c, x.h] 62)).cell? ⟨w.heap.size, 2, none⟩ = some (.bool x.c) := alloc_new_cell _ _ _ _ (by rfl)
    have f3 : (w.alloc (.cells #[.int .i64 x.a, .int .i64 x.b, .bool x.c, x.h] 62)).cell? ⟨w.heap.size, 3, none⟩ = some (x.h) := alloc_new_cell _ _ _ _ (by rfl)
    have g0 : (w.alloc (.cells #[.int .i64 x.a, .int .i64 x.b, .bool x.c, x.h] 62)).cell? ⟨pb, 0, none⟩ = some (.int .i64 y.a) := keep_cell h0 _
    have g1 : (w.alloc (.cells #[.int .i64 x.a, .int .i64 x.b, .bool x.c, x.h] 62)).cell? ⟨pb, 1, none⟩ = some (.int .i64 y.b) := keep_cell h1 _
    have g2 : (w.alloc (.cells #[.int .i64 x.a, .int .i64 x.b, .bool x.c, x.h] 62)).cell? ⟨pb, 2, none⟩ = some (.bool y.c) := keep_cell h2 _
    have g3 : (w.alloc (.cells #[.int .i64 x.a, .int .i64 x.b, .bool x.c, x.h] 62)).cell? ⟨pb, 3, none⟩ = some (y.h) := keep_cell h3 _
    have g4 : (w.alloc (.cells #[.int .i64 x.a, .int .i64 x.b, .bool x.c, x.h] 62)).cell? ⟨pc, 0, none⟩ = some (.int .i64 k) := keep_cell h4 _
    obtain ⟨W, hW⟩ : ∃ W, W = (w.alloc (.cells #[.int .i64 x.a, .int .i64 x.b, .bool x.c, x.h] 62)) := ⟨_, rfl⟩
    rw [← hW] at f0 f1 f2 f3 g0 g1 g2 g3 g4 ⊢
    have k1 : ∃ q os, W = grow (w.drewN q) os := by rw [hW]; exact ⟨0, _, grow_one w _⟩
    have HK := Lib.hid k1
    clear k1 hW
    have f0 := fun n os => keep_grow f0 n os
    have f1 := fun n os => keep_grow f1 n os
    have f2 := fun n os => keep_grow f2 n os
    have f3 := fun n os => keep_grow f3 n os
    have g0 := fun n os => keep_grow g0 n os
    have g1 := fun n os => keep_grow g1 n os
    have g2 := fun n os => keep_grow g2 n os
    have g3 := fun n os => keep_grow g3 n os
    have g4 := fun n os => keep_grow g4 n os
    have hmix : Try.prog.follows .mixedOrders = true := by kernel_rfl
    go_quiet_grown (first | (go_at_call_of 119 (Value.agg #[.int .i64 x.a, .int .i64 x.b, .bool x.c, x.h]); refine Calls.grown_of (CX.out _)) | (go_at_call_of 119 (Value.agg #[.int .i64 y.a, .int .i64 y.b, .bool y.c, y.h]); refine Calls.grown_of (CY.out _)) | (go_at_call 117; refine Calls.grown_of (CW.out _)))
    go_wp2_with fail
    go_ret
    exact ⟨by rw [HE.out]; rfl, gw_trans HK.out ⟨_, _, rfl⟩⟩
  · have HE := Lib.hid (show holdQ x y k = false by unfold holdQ; simp only [d1, d2]; try simp)
    rw [d2] at CW
    go_enter Try.func118, Try.ntmps118
    go_wp2_with fail
    have f0 : (w.alloc (.cells #[.int .i64 x.a, .int .i64 x.b, .bool x.c, x.h] 62)).cell? ⟨w.heap.size, 0, none⟩ = some (.int .i64 x.a) := alloc_new_cell _ _ _ _ (by rfl)
    have f1 : (w.alloc (.cells #[.int .i64 x.a, .int .i64 x.b, .bool x.c, x.h] 62)).cell? ⟨w.heap.size, 1, none⟩ = some (.int .i64 x.b) := alloc_new_cell _ _ _ _ (by rfl)
    have f2 : (w.alloc (.cells #[.int .i64 x.a, .int .i64 x.b, .bool x.c, x.h] 62)).cell? ⟨w.heap.size, 2, none⟩ = some (.bool x.c) := alloc_new_cell _ _ _ _ (by rfl)
    have f3 : (w.alloc (.cells #[.int .i64 x.a, .int .i64 x.b, .bool x.c, x.h] 62)).cell? ⟨w.heap.size, 3, none⟩ = some (x.h) := alloc_new_cell _ _ _ _ (by rfl)
    have g0 : (w.alloc (.cells #[.int .i64 x.a, .int .i64 x.b, .bool x.c, x.h] 62)).cell? ⟨pb, 0, none⟩ = some (.int .i64 y.a) := keep_cell h0 _
    have g1 : (w.alloc (.cells #[.int .i64 x.a, .int .i64 x.b, .bool x.c, x.h] 62)).cell? ⟨pb, 1, none⟩ = some (.int .i64 y.b) := keep_cell h1 _
    have g2 : (w.alloc (.cells #[.int .i64 x.a, .int .i64 x.b, .bool x.c, x.h] 62)).cell? ⟨pb, 2, none⟩ = some (.bool y.c) := keep_cell h2 _
    have g3 : (w.alloc (.cells #[.int .i64 x.a, .int .i64 x.b, .bool x.c, x.h] 62)).cell? ⟨pb, 3, none⟩ = some (y.h) := keep_cell h3 _
    have g4 : (w.alloc (.cells #[.int .i64 x.a, .int .i64 x.b, .bool x.c, x.h] 62)).cell? ⟨pc, 0, none⟩ = some (.int .i64 k) := keep_cell h4 _
    obtain ⟨W, hW⟩ : ∃ W, W = (w.alloc (.cells #[.int .i64 x.a, .int .i64 x.b, .bool x.c, x.h] 62)) := ⟨_, rfl⟩
    rw [← hW] at f0 f1 f2 f3 g0 g1 g2 g3 g4 ⊢
    have k1 : ∃ q os, W = grow (w.drewN q) os := by rw [hW]; exact ⟨0, _, grow_one w _⟩
    have HK := Lib.hid k1
    clear k1 hW
    have f0 := fun n os => keep_grow f0 n os
    have f1 := fun n os => keep_grow f1 n os
    have f2 := fun n os => keep_grow f2 n os
    have f3 := fun n os => keep_grow f3 n os
    have g0 := fun n os => keep_grow g0 n os
    have g1 := fun n os => keep_grow g1 n os
    have g2 := fun n os => keep_grow g2 n os
    have g3 := fun n os => keep_grow g3 n os
    have g4 := fun n os => keep_grow g4 n os
    have hmix : Try.prog.follows .mixedOrders = true := by kernel_rfl
    go_quiet_grown (first | (go_at_call_of 119 (Value.agg #[.int .i64 x.a, .int .i64 x.b, .bool x.c, x.h]); refine Calls.grown_of (CX.out _)) | (go_at_call_of 119 (Value.agg #[.int .i64 y.a, .int .i64 y.b, .bool y.c, y.h]); refine Calls.grown_of (CY.out _)) | (go_at_call 117; refine Calls.grown_of (CW.out _)))
    go_wp2_with fail
    go_ret
    exact ⟨by rw [HE.out]; rfl, gw_trans HK.out ⟨_, _, rfl⟩⟩
  · have HE := Lib.hid (show holdQ x y k = false by unfold holdQ; simp only [d1, d2, d3]; try simp)
    rw [d2] at CW
    go_enter Try.func118, Try.ntmps118
    go_wp2_with fail
    have f0 : (w.alloc (.cells #[.int .i64 x.a, .int .i64 x.b, .bool x.c, x.h] 62)).cell? ⟨w.heap.size, 0, none⟩ = some (.int .i64 x.a) := alloc_new_cell _ _ _ _ (by rfl)
    have f1 : (w.alloc (.cells #[.int .i64 x.a, .int .i64 x.b, .bool x.c, x.h] 62)).cell? ⟨w.heap.size, 1, none⟩ = some (.int .i64 x.b) := alloc_new_cell _ _ _ _ (by rfl)
    have f2 : (w.alloc (.cells #[.int .i64 x.a, .int .i64 x.b, .bool x.c, x.h] 62)).cell? ⟨w.heap.size, 2, none⟩ = some (.bool x.c) := alloc_new_cell _ _ _ _ (by rfl)
    have f3 : (w.alloc (.cells #[.int .i64 x.a, .int .i64 x.b, .bool x.c, x.h] 62)).cell? ⟨w.heap.size, 3, none⟩ = some (x.h) := alloc_new_cell _ _ _ _ (by rfl)
    have g0 : (w.alloc (.cells #[.int .i64 x.a, .int .i64 x.b, .bool x.c, x.h] 62)).cell? ⟨pb, 0, none⟩ = some (.int .i64 y.a) := keep_cell h0 _
    have g1 : (w.alloc (.cells #[.int .i64 x.a, .int .i64 x.b, .bool x.c, x.h] 62)).cell? ⟨pb, 1, none⟩ = some (.int .i64 y.b) := keep_cell h1 _
    have g2 : (w.alloc (.cells #[.int .i64 x.a, .int .i64 x.b, .bool x.c, x.h] 62)).cell? ⟨pb, 2, none⟩ = some (.bool y.c) := keep_cell h2 _
    have g3 : (w.alloc (.cells #[.int .i64 x.a, .int .i64 x.b, .bool x.c, x.h] 62)).cell? ⟨pb, 3, none⟩ = some (y.h) := keep_cell h3 _
    have g4 : (w.alloc (.cells #[.int .i64 x.a, .int .i64 x.b, .bool x.c, x.h] 62)).cell? ⟨pc, 0, none⟩ = some (.int .i64 k) := keep_cell h4 _
    obtain ⟨W, hW⟩ : ∃ W, W = (w.alloc (.cells #[.int .i64 x.a, .int .i64 x.b, .bool x.c, x.h] 62)) := ⟨_, rfl⟩
    rw [← hW] at f0 f1 f2 f3 g0 g1 g2 g3 g4 ⊢
    have k1 : ∃ q os, W = grow (w.drewN q) os := by rw [hW]; exact ⟨0, _, grow_one w _⟩
    have HK := Lib.hid k1
    clear k1 hW
    have f0 := fun n os => keep_grow f0 n os
    have f1 := fun n os => keep_grow f1 n os
    have f2 := fun n os => keep_grow f2 n os
    have f3 := fun n os => keep_grow f3 n os
    have g0 := fun n os => keep_grow g0 n os
    have g1 := fun n os => keep_grow g1 n os
    have g2 := fun n os => keep_grow g2 n os
    have g3 := fun n os => keep_grow g3 n os
    have g4 := fun n os => keep_grow g4 n os
    have hmix : Try.prog.follows .mixedOrders = true := by kernel_rfl
    go_quiet_grown (first | (go_at_call_of 119 (Value.agg #[.int .i64 x.a, .int .i64 x.b, .bool x.c, x.h]); refine Calls.grown_of (CX.out _)) | (go_at_call_of 119 (Value.agg #[.int .i64 y.a, .int .i64 y.b, .bool y.c, y.h]); refine Calls.grown_of (CY.out _)) | (go_at_call 117; refine Calls.grown_of (CW.out _)))
    go_wp2_with fail
    go_ret
    exact ⟨by rw [HE.out]; rfl, gw_trans HK.out ⟨_, _, rfl⟩⟩
  · have HE := Lib.hid (show holdQ x y k = false by unfold holdQ; simp only [d1, d2, d3, d4]; try simp)
    rw [d2] at CW
    go_enter Try.func118, Try.ntmps118
    go_wp2_with fail
    have f0 : (w.alloc (.cells #[.int .i64 x.a, .int .i64 x.b, .bool x.c, x.h] 62)).cell? ⟨w.heap.size, 0, none⟩ = some (.int .i64 x.a) := alloc_new_cell _ _ _ _ (by rfl)
    have f1 : (w.alloc (.cells #[.int .i64 x.a, .int .i64 x.b, .bool x.c, x.h] 62)).cell? ⟨w.heap.size, 1, none⟩ = some (.int .i64 x.b) := alloc_new_cell _ _ _ _ (by rfl)
    have f2 : (w.alloc (.cells #[.int .i64 x.a, .int .i64 x.b, .bool x.c, x.h] 62)).cell? ⟨w.heap.size, 2, none⟩ = some (.bool x.c) := alloc_new_cell _ _ _ _ (by rfl)
    have f3 : (w.alloc (.cells #[.int .i64 x.a, .int .i64 x.b, .bool x.c, x.h] 62)).cell? ⟨w.heap.size, 3, none⟩ = some (x.h) := alloc_new_cell _ _ _ _ (by rfl)
    have g0 : (w.alloc (.cells #[.int .i64 x.a, .int .i64 x.b, .bool x.c, x.h] 62)).cell? ⟨pb, 0, none⟩ = some (.int .i64 y.a) := keep_cell h0 _
    have g1 : (w.alloc (.cells #[.int .i64 x.a, .int .i64 x.b, .bool x.c, x.h] 62)).cell? ⟨pb, 1, none⟩ = some (.int .i64 y.b) := keep_cell h1 _
    have g2 : (w.alloc (.cells #[.int .i64 x.a, .int .i64 x.b, .bool x.c, x.h] 62)).cell? ⟨pb, 2, none⟩ = some (.bool y.c) := keep_cell h2 _
    have g3 : (w.alloc (.cells #[.int .i64 x.a, .int .i64 x.b, .bool x.c, x.h] 62)).cell? ⟨pb, 3, none⟩ = some (y.h) := keep_cell h3 _
    have g4 : (w.alloc (.cells #[.int .i64 x.a, .int .i64 x.b, .bool x.c, x.h] 62)).cell? ⟨pc, 0, none⟩ = some (.int .i64 k) := keep_cell h4 _
    obtain ⟨W, hW⟩ : ∃ W, W = (w.alloc (.cells #[.int .i64 x.a, .int .i64 x.b, .bool x.c, x.h] 62)) := ⟨_, rfl⟩
    rw [← hW] at f0 f1 f2 f3 g0 g1 g2 g3 g4 ⊢
    have k1 : ∃ q os, W = grow (w.drewN q) os := by rw [hW]; exact ⟨0, _, grow_one w _⟩
    have HK := Lib.hid k1
    clear k1 hW
    have f0 := fun n os => keep_grow f0 n os
    have f1 := fun n os => keep_grow f1 n os
    have f2 := fun n os => keep_grow f2 n os
    have f3 := fun n os => keep_grow f3 n os
    have g0 := fun n os => keep_grow g0 n os
    have g1 := fun n os => keep_grow g1 n os
    have g2 := fun n os => keep_grow g2 n os
    have g3 := fun n os => keep_grow g3 n os
    have g4 := fun n os => keep_grow g4 n os
    have hmix : Try.prog.follows .mixedOrders = true := by kernel_rfl
    go_quiet_grown (first | (go_at_call_of 119 (Value.agg #[.int .i64 x.a, .int .i64 x.b, .bool x.c, x.h]); refine Calls.grown_of (CX.out _)) | (go_at_call_of 119 (Value.agg #[.int .i64 y.a, .int .i64 y.b, .bool y.c, y.h]); refine Calls.grown_of (CY.out _)) | (go_at_call 117; refine Calls.grown_of (CW.out _)))
    go_wp2_with fail
    go_ret
    exact ⟨by rw [HE.out]; rfl, gw_trans HK.out ⟨_, _, rfl⟩⟩
  · have HE := Lib.hid (show holdQ x y k = true by unfold holdQ; simp only [d1, d2, d3, d4]; try simp)
    rw [d2] at CW
    go_enter Try.func118, Try.ntmps118
    go_wp2_with fail
    have f0 : (w.alloc (.cells #[.int .i64 x.a, .int .i64 x.b, .bool x.c, x.h] 62)).cell? ⟨w.heap.size, 0, none⟩ = some (.int .i64 x.a) := alloc_new_cell _ _ _ _ (by rfl)
    have f1 : (w.alloc (.cells #[.int .i64 x.a, .int .i64 x.b, .bool x.c, x.h] 62)).cell? ⟨w.heap.size, 1, none⟩ = some (.int .i64 x.b) := alloc_new_cell _ _ _ _ (by rfl)
    have f2 : (w.alloc (.cells #[.int .i64 x.a, .int .i64 x.b, .bool x.c, x.h] 62)).cell? ⟨w.heap.size, 2, none⟩ = some (.bool x.c) := alloc_new_cell _ _ _ _ (by rfl)
    have f3 : (w.alloc (.cells #[.int .i64 x.a, .int .i64 x.b, .bool x.c, x.h] 62)).cell? ⟨w.heap.size, 3, none⟩ = some (x.h) := alloc_new_cell _ _ _ _ (by rfl)
    have g0 : (w.alloc (.cells #[.int .i64 x.a, .int .i64 x.b, .bool x.c, x.h] 62)).cell? ⟨pb, 0, none⟩ = some (.int .i64 y.a) := keep_cell h0 _
    have g1 : (w.alloc (.cells #[.int .i64 x.a, .int .i64 x.b, .bool x.c, x.h] 62)).cell? ⟨pb, 1, none⟩ = some (.int .i64 y.b) := keep_cell h1 _
    have g2 : (w.alloc (.cells #[.int .i64 x.a, .int .i64 x.b, .bool x.c, x.h] 62)).cell? ⟨pb, 2, none⟩ = some (.bool y.c) := keep_cell h2 _
    have g3 : (w.alloc (.cells #[.int .i64 x.a, .int .i64 x.b, .bool x.c, x.h] 62)).cell? ⟨pb, 3, none⟩ = some (y.h) := keep_cell h3 _
    have g4 : (w.alloc (.cells #[.int .i64 x.a, .int .i64 x.b, .bool x.c, x.h] 62)).cell? ⟨pc, 0, none⟩ = some (.int .i64 k) := keep_cell h4 _
    obtain ⟨W, hW⟩ : ∃ W, W = (w.alloc (.cells #[.int .i64 x.a, .int .i64 x.b, .bool x.c, x.h] 62)) := ⟨_, rfl⟩
    rw [← hW] at f0 f1 f2 f3 g0 g1 g2 g3 g4 ⊢
    have k1 : ∃ q os, W = grow (w.drewN q) os := by rw [hW]; exact ⟨0, _, grow_one w _⟩
    have HK := Lib.hid k1
    clear k1 hW
    have f0 := fun n os => keep_grow f0 n os
    have f1 := fun n os => keep_grow f1 n os
    have f2 := fun n os => keep_grow f2 n os
    have f3 := fun n os => keep_grow f3 n os
    have g0 := fun n os => keep_grow g0 n os
    have g1 := fun n os => keep_grow g1 n os
    have g2 := fun n os => keep_grow g2 n os
    have g3 := fun n os => keep_grow g3 n os
    have g4 := fun n os => keep_grow g4 n os
    have hmix : Try.prog.follows .mixedOrders = true := by kernel_rfl
    go_quiet_grown (first | (go_at_call_of 119 (Value.agg #[.int .i64 x.a, .int .i64 x.b, .bool x.c, x.h]); refine Calls.grown_of (CX.out _)) | (go_at_call_of 119 (Value.agg #[.int .i64 y.a, .int .i64 y.b, .bool y.c, y.h]); refine Calls.grown_of (CY.out _)) | (go_at_call 117; refine Calls.grown_of (CW.out _)))
    go_wp2_with fail
    go_ret
    exact ⟨by rw [HE.out]; rfl, gw_trans HK.out ⟨_, _, rfl⟩⟩
end Go.Proofs.Ytdlglnkhhbkndaa
/- Whether a copper lies in one of the sub-boards of a list (slices.ContainsFunc by the closure of hasLoose), whatever the world. -/
namespace Go.Proofs.Ytdlglnkhhbkndaa
open Go.RowKit Go.Maps Go.Sort
set_option linter.unusedSimpArgs false
set_option linter.unusedVariables false
set_option maxRecDepth 100000

set_option maxHeartbeats 4000000 in
theorem indexHolds_any (A : Option Addr) (l : List Bq) (c : Nat) (y : Bq) (pb pc : Nat) (k : Int) (w : World) (hl : l.length ≤ 140737488355328) (H : RdG 4 Bq.cs w A l) (hok : ∀ x ∈ l, okQ x) (hy : okQ y) (h0 : w.cell? ⟨pb, 0, none⟩ = some (.int .i64 y.a)) (h1 : w.cell? ⟨pb, 1, none⟩ = some (.int .i64 y.b)) (h2 : w.cell? ⟨pb, 2, none⟩ = some (.bool y.c)) (h3 : w.cell? ⟨pb, 3, none⟩ = some y.h) (h4 : w.cell? ⟨pc, 0, none⟩ = some (.int .i64 k)) :
    Calls Try.prog 135 #[.slice A l.length c, .func (.func 118) #[] #[.pointer (some ⟨pb, 0, none⟩), .pointer (some ⟨pc, 0, none⟩)]] w fun e w' => ∃ r : Int, e = .returned (.int .i64 r) ∧ decide (0 ≤ r) = l.any (fun x => holdQ x y k) ∧ ∃ q os', w' = grow (w.drewN q) os' := by
  have HH := Lib.hid H
  have HY := Lib.hid hy
  have HOK := Lib.hid hok
  have HC := Lib.hid (show _ ∧ _ ∧ _ ∧ _ ∧ _ from ⟨h0, h1, h2, h3, h4⟩)
  clear H hy hok h0 h1 h2 h3 h4
  go_enter Try.func135, Try.ntmps135
  go_wp2_with fail
  go_loopw [8] (fun i wr => ∃ j : Nat, j ≤ l.length ∧ i = .int .i64 j ∧ l.any (fun x => holdQ x y k) = (l.drop j).any (fun x => holdQ x y k) ∧ ∃ q os, wr = grow (w.drewN q) os) (fun i _ => l.length - (intOf i).toNat)
  case atStart => exact ⟨0, Nat.zero_le _, rfl, rfl, 0, #[], (grow_empty _).symm⟩
  case round =>
    obtain ⟨j, hj, rfl, ha, hw⟩ := hrel
    have HA := Lib.hid ha
    have HW := Lib.hid hw
    clear ha hw
    have hkz : (0 : Int) ≤ (j : Int) := by omega
    by_cases hlt : j < l.length
    · obtain ⟨b, off, rfl, hblt, hcs⟩ := HH.out (by omega)
      have hi : l[j]? = some l[j] := List.getElem?_eq_getElem hlt
      have c0 := keep_ex HW.out (by simpa using hcs j _ hi 0 _ rfl)
      have c1 := keep_ex HW.out (hcs j _ hi 1 _ rfl)
      have c2 := keep_ex HW.out (hcs j _ hi 2 _ rfl)
      have c3 := keep_ex HW.out (hcs j _ hi 3 _ rfl)
      have hxo := HOK.out _ (List.getElem_mem hlt)
      have HD := Lib.hid (show (l.drop j).any (fun x => holdQ x y k) = (holdQ l[j] y k || (l.drop (j + 1)).any (fun x => holdQ x y k)) by rw [List.drop_eq_getElem_cons hlt, List.any_cons])
      clear hcs hi
      generalize l[j] = x at *
      have CB := Lib.hid (holds_any x y hxo HY.out pb pc k wr (keep_ex HW.out HC.out.1) (keep_ex HW.out HC.out.2.1) (keep_ex HW.out HC.out.2.2.1) (keep_ex HW.out HC.out.2.2.2.1) (keep_ex HW.out HC.out.2.2.2.2))
      clear hxo
      cases hh : holdQ x y k
      · rw [hh] at CB HD
        go_wp2_with (first | (go_at_call 118; refine CB.out.mono ?_; rintro e w1 ⟨rfl, hw1⟩))
        go_roundw
        case rel => exact ⟨j + 1, by omega, by go_num, by rw [HA.out, HD.out, Bool.false_or], gw_trans HW.out hw1⟩
        case measure => simp [intOf]; omega
      · rw [hh] at CB HD
        go_wp2_with (first | (go_at_call 118; refine CB.out.mono ?_; rintro e w1 ⟨rfl, hw1⟩))
        go_ret
        exact ⟨j, rfl, by rw [HA.out, HD.out, Bool.true_or]; simp, gw_trans HW.out hw1⟩
    · obtain rfl : j = l.length := by omega
      go_wp2_with fail
      go_ret
      exact ⟨-1, rfl, by rw [HA.out, List.drop_length]; rfl, HW.out⟩
end Go.Proofs.Ytdlglnkhhbkndaa
/- Whether a copper lies in one of the sub-boards of a list (slices.ContainsFunc by the closure of hasLoose), whatever the world. -/
namespace Go.Proofs.Ytdlglnkhhbkndaa
open Go.RowKit Go.Maps Go.Sort
set_option linter.unusedSimpArgs false
set_option linter.unusedVariables false
set_option maxRecDepth 100000

set_option maxHeartbeats 1000000 in
theorem containsHolds_any (A : Option Addr) (l : List Bq) (c : Nat) (y : Bq) (pb pc : Nat) (k : Int) (w : World) (hl : l.length ≤ 140737488355328) (H : RdG 4 Bq.cs w A l) (hok : ∀ x ∈ l, okQ x) (hy : okQ y) (h0 : w.cell? ⟨pb, 0, none⟩ = some (.int .i64 y.a)) (h1 : w.cell? ⟨pb, 1, none⟩ = some (.int .i64 y.b)) (h2 : w.cell? ⟨pb, 2, none⟩ = some (.bool y.c)) (h3 : w.cell? ⟨pb, 3, none⟩ = some y.h) (h4 : w.cell? ⟨pc, 0, none⟩ = some (.int .i64 k)) :
    Calls Try.prog 120 #[.slice A l.length c, .func (.func 118) #[] #[.pointer (some ⟨pb, 0, none⟩), .pointer (some ⟨pc, 0, none⟩)]] w fun e w' => e = .returned (.bool (l.any (fun x => holdQ x y k))) ∧ ∃ q os', w' = grow (w.drewN q) os' := by
  have CI := Lib.hid (indexHolds_any A l c y pb pc k w hl H hok hy h0 h1 h2 h3 h4)
  clear H hok hy h0 h1 h2 h3 h4
  generalize l.any (fun x => holdQ x y k) = G at *
  go_enter Try.func120, Try.ntmps120
  go_wp2_with (first | (go_at_call 135; refine CI.out.mono ?_; rintro e w1 ⟨r, rfl, hr, hw1⟩; have HR := Lib.hid hr; clear hr))
  go_ret
  exact ⟨by rw [← HR.out]; rfl, hw1⟩
end Go.Proofs.Ytdlglnkhhbkndaa
/- A sub-board with a loose copper (hasLoose), whatever the world. -/
namespace Go.Proofs.Ytdlglnkhhbkndaa
open Go.RowKit Go.Maps Go.Sort
set_option linter.unusedSimpArgs false
set_option linter.unusedVariables false
set_option maxRecDepth 100000

def looseGo (x : Bq) (l : List Bq) : Nat → Int → Bool
  | 0, _ => false
  | n + 1, k => if l.any (fun z => holdQ z x k) then looseGo x l n (k + 1) else true
def looseQ (x : Bq) (l : List Bq) : Bool := looseGo x l (x.b - (x.a + 1)).toNat (x.a + 1)
theorem gw_below {w w1 : World} {B : Nat} (hB : B ≤ w.heap.size) (h : ∃ q os, w1 = grow (w.drewN q) os) : Below B w w1 := by
  obtain ⟨q, os, rfl⟩ := h
  exact ⟨rfl, rfl, rfl, by simp, fun j hj => heap_grow_old _ _ (by simpa using (by omega : j < w.heap.size))⟩
set_option maxHeartbeats 4000000 in
theorem hasLoose_any (x : Bq) (hx : okQ x) (A : Option Addr) (l : List Bq) (c : Nat) (w : World) (hl : l.length ≤ 140737488355328) (H : RdG 4 Bq.cs w A l) (hok : ∀ z ∈ l, okQ z) :
    Calls Try.prog 107 #[.agg #[.int .i64 x.a, .int .i64 x.b, .bool x.c, x.h], .slice A l.length c] w fun e w' => e = .returned (.bool (looseQ x l)) ∧ Below w.heap.size w w' := by
  have HH := Lib.hid H
  have HX := Lib.hid hx
  have HOK := Lib.hid hok
  obtain ⟨b1, b2, b3, b4, b5⟩ := hx
  have y1 : IntKind.i64.wrap (x.a + 1) = x.a + 1 := IntWalk.i64_in _ (by omega)
  clear H hok
  go_enter Try.func107, Try.ntmps107
  go_wp2_with fail
  go_loopw [5] (fun pv wr => ∃ (n : Nat) (k : Int) (pc : Nat), pv = .pointer (some ⟨pc, 0, none⟩) ∧ wr.heap[pc]? = some (.cells #[.int .i64 k] 3 (0, 0)) ∧ w.heap.size < pc ∧ n = (x.b - k).toNat ∧ x.a + 1 ≤ k ∧ k ≤ 1000001 ∧ looseQ x l = looseGo x l n k ∧ wr.heap[w.heap.size]? = some (.cells #[.int .i64 x.a, .int .i64 x.b, .bool x.c, x.h] 62 (0, 0)) ∧ Below w.heap.size w wr)
    (fun pv wr => match pv with | .pointer (some ⟨pc, _, _⟩) => (match wr.heap[pc]? with | some (.cells cs _ _) => (x.b - intOf (cs.getD 0 undef)).toNat | _ => 0) | _ => 0)
  case atStart =>
    refine ⟨_, x.a + 1, w.heap.size + 1, rfl, ?_, by omega, rfl, by omega, by omega, rfl, ?_, by (repeat' (first | (with_reducible exact Below.refl _ _) | (with_reducible assumption) | (with_reducible refine Below.alloc ?_ ?_ _) | (with_reducible refine Below.drew ?_) | (with_reducible refine below_drewN ?_ _) | (with_reducible refine Below.setCell ?_ ?_ _) | (with_reducible exact Nat.le_refl _) | omega | (simp only [World.size_alloc, World.size_setCell, World.size_drew]; omega) | (simp; omega) | (simp; done)))⟩
    · have := (MapKept.heap_alloc (w.alloc (.cells #[.int .i64 x.a, .int .i64 x.b, .bool x.c, x.h] 62)) (.cells #[.int .i64 (x.a + 1)] 3)).1
      simpa using this
    · exact ((MapKept.heap_alloc _ _).2 w.heap.size (by simp)).trans (MapKept.heap_alloc w _).1
  case round =>
    obtain ⟨n, k, pc, rfl, hpc, hlt, hn, hk1, hk2, hf, hbx, hw⟩ := hrel
    have HF := Lib.hid hf
    have HPC := Lib.hid hpc
    have HBX := Lib.hid hbx
    have HWr := Lib.hid hw
    have cp := blk_cell hpc 0
    have s0 := blk_cell hbx 0
    have s1 := blk_cell hbx 1
    have s2 := blk_cell hbx 2
    have s3 := blk_cell hbx 3
    have zw := hw.size
    have CB := Lib.hid (containsHolds_any A l c x w.heap.size pc k wr hl (HH.out.below hw) HOK.out HX.out s0 s1 s2 s3 cp)
    have y2 : IntKind.i64.wrap (k + 1) = k + 1 := IntWalk.i64_in _ (by omega)
    clear hf hpc hbx hw
    by_cases hkb : k < x.b
    · obtain ⟨n', rfl⟩ : ∃ n', n = n' + 1 := ⟨n - 1, by omega⟩
      cases ha : l.any (fun z => holdQ z x k)
      · have HN := Lib.hid (show looseQ x l = true by rw [HF.out, looseGo, ha]; rfl)
        rw [ha] at CB
        go_wp2_with (first | (go_at_call 120; refine CB.out.mono ?_; rintro e w1 ⟨rfl, hw1⟩; have HW1 := Lib.hid hw1; clear hw1))
        go_ret
        exact ⟨by rw [HN.out]; rfl, HWr.out.trans (gw_below zw HW1.out)⟩
      · have HN := Lib.hid (show looseQ x l = looseGo x l n' (k + 1) by rw [HF.out, looseGo, ha]; rfl)
        rw [ha] at CB
        go_wp2_with (first | (go_at_call 120; refine CB.out.mono ?_; rintro e w1 ⟨rfl, hw1⟩; have cp1 := keep_ex hw1 cp; have HW1 := Lib.hid hw1; clear hw1))
        go_roundw
        case rel =>
          have hg := gw_below (Nat.le_refl _) HW1.out
          have hgs := hg.size
          have hbl := blk_lt HBX.out
          refine ⟨n', k + 1, w1.heap.size, rfl, (MapKept.heap_alloc w1 _).1, by omega, by omega, by omega, by omega, HN.out, ?_, (HWr.out.trans (gw_below zw HW1.out)).alloc (by omega) _⟩
          exact ((MapKept.heap_alloc w1 _).2 w.heap.size (by omega)).trans ((hg.block _ hbl).trans HBX.out)
        case measure =>
          have e1 := (MapKept.heap_alloc w1 (.cells #[.int .i64 (k + 1)] 3)).1
          have e2 := HPC.out
          simp only [e1, e2]
          simp [intOf]
          omega
    · have hn0 : n = 0 := by omega
      have HN := Lib.hid (show looseQ x l = false by rw [HF.out, hn0]; rfl)
      go_wp2_with fail
      go_ret
      exact ⟨by rw [HN.out]; rfl, HWr.out⟩
end Go.Proofs.Ytdlglnkhhbkndaa
/- Whether all sub-boards can be made (checkBoards), whatever the world. -/
namespace Go.Proofs.Ytdlglnkhhbkndaa
open Go.RowKit Go.Maps Go.Sort
set_option linter.unusedSimpArgs false
set_option linter.unusedVariables false
set_option maxRecDepth 100000

def pairF : List Bq → List Bq → Bool
  | _, [] => false
  | P, x :: l => P.any (fun z => clashQ x z) || pairF (P ++ [x]) l
def madeF (l : List Bq) : Int := if pairF [] l then 12 else if l.any (fun x => looseQ x l) then 11 else 0
set_option maxHeartbeats 4000000 in
theorem checkBoards_any (A : Option Addr) (l : List Bq) (c : Nat) (w : World) (hl : l.length ≤ 140737488355328) (hc : l.length ≤ c) (hc2 : c ≤ 9223372036854775807) (H : RdG 4 Bq.cs w A l) (hok : ∀ z ∈ l, okQ z) (hsl : ∀ z ∈ l, ∃ A n c, z.h = .slice A n c) :
    Calls Try.prog 95 #[.slice A l.length c] w fun e w' => e = .returned (.int .i64 (madeF l)) ∧ Below w.heap.size w w' := by
  have HH := Lib.hid H
  have HOK := Lib.hid hok
  have HSL := Lib.hid hsl
  clear H hok hsl
  go_enter Try.func95, Try.ntmps95
  go_wp2_with fail
  go_loopw [11] (fun i wr => ∃ k : Nat, k ≤ l.length ∧ i = .int .i64 k ∧ pairF [] l = pairF (l.take k) (l.drop k) ∧ Below w.heap.size w wr) (fun i _ => l.length - (intOf i).toNat)
  case atStart => exact ⟨0, Nat.zero_le _, rfl, rfl, Below.refl _ _⟩
  case round =>
    obtain ⟨k, hk, rfl, hf, hw⟩ := hrel
    have HF := Lib.hid hf
    have HWr := Lib.hid hw
    have zw := hw.size
    clear hf
    have hkz : (0 : Int) ≤ (k : Int) := by omega
    by_cases hlt : k < l.length
    · have HHr := Lib.hid (HH.out.below hw)
      obtain ⟨b, off, rfl, hblt, hcs⟩ := HHr.out (by omega)
      have hi : l[k]? = some l[k] := List.getElem?_eq_getElem hlt
      have c0 := by simpa using hcs k _ hi 0 _ rfl
      have c1 := hcs k _ hi 1 _ rfl
      have c2 := hcs k _ hi 2 _ rfl
      have c3 := hcs k _ hi 3 _ rfl
      have hd : l.drop k = l[k] :: l.drop (k + 1) := List.drop_eq_getElem_cons hlt
      have ht : l.take (k + 1) = l.take k ++ [l[k]] := by rw [List.take_add_one, hi]; rfl
      have HP := Lib.hid (show pairF [] l = ((l.take k).any (fun z => clashQ l[k] z) || pairF (l.take (k + 1)) (l.drop (k + 1))) by rw [HF.out, hd, pairF, ht])
      have hkc : k ≤ c := by omega
      have HCS := Lib.hid hcs
      obtain ⟨A9, n9, c9, e9⟩ := HSL.out _ (List.getElem_mem hlt)
      clear hd ht hi hw hcs
      generalize l[k] = x at *
      rw [e9] at c3
      have HE9 := Lib.hid e9
      clear e9
      go_wp2_with fail
      obtain ⟨w8, rfl⟩ : ∃ w8, w8 = wr := ⟨wr, rfl⟩
      go_loopw [20] (fun i wx => ∃ j : Nat, j ≤ k ∧ i = .int .i64 j ∧ (l.take k).any (fun z => clashQ x z) = ((l.take k).drop j).any (fun z => clashQ x z) ∧ Below (w8.heap.size + 1) (w8.alloc (.cells #[.int .i64 x.a, .int .i64 x.b, .bool x.c, .slice A9 n9 c9] 62)) wx) (fun i _ => k - (intOf i).toNat)
      case atStart => exact ⟨0, Nat.zero_le _, rfl, rfl, Below.refl _ _⟩
      case round =>
        obtain ⟨j, hj, rfl, ha, hw⟩ := hrel
        have HA := Lib.hid ha
        have HW := Lib.hid hw
        have zx : w8.heap.size + 1 ≤ wr.heap.size := by simpa using hw.size
        clear ha
        have hjz : (0 : Int) ≤ (j : Int) := by omega
        have b0 : wr.cell? ⟨w8.heap.size, 0, none⟩ = some (.int .i64 x.a) := (hw.cell (p := ⟨w8.heap.size, 0, none⟩) (Nat.lt_succ_self _)).trans (alloc_new_cell w8 _ _ 0 rfl)
        have b1 : wr.cell? ⟨w8.heap.size, 1, none⟩ = some (.int .i64 x.b) := (hw.cell (p := ⟨w8.heap.size, 1, none⟩) (Nat.lt_succ_self _)).trans (alloc_new_cell w8 _ _ 1 rfl)
        have b2 : wr.cell? ⟨w8.heap.size, 2, none⟩ = some (.bool x.c) := (hw.cell (p := ⟨w8.heap.size, 2, none⟩) (Nat.lt_succ_self _)).trans (alloc_new_cell w8 _ _ 2 rfl)
        have b3 : wr.cell? ⟨w8.heap.size, 3, none⟩ = some (.slice A9 n9 c9) := (hw.cell (p := ⟨w8.heap.size, 3, none⟩) (Nat.lt_succ_self _)).trans (alloc_new_cell w8 _ _ 3 rfl)
        have v0 := fun o => keep_cell b0 o
        have v1 := fun o => keep_cell b1 o
        have v2 := fun o => keep_cell b2 o
        have v3 := fun o => keep_cell b3 o
        have HBW := Lib.hid ((HWr.out.alloc HWr.out.size (.cells #[.int .i64 x.a, .int .i64 x.b, .bool x.c, .slice A9 n9 c9] 62)).trans (HW.out.mono (Nat.le_succ_of_le HWr.out.size)))
        by_cases hjk : j < k
        · have hjl : j < l.length := by omega
          have hi : l[j]? = some l[j] := List.getElem?_eq_getElem hjl
          have up := fun (o : Nat) (v : Value) (h : w8.cell? ⟨b, o, none⟩ = some v) => (hw.cell (p := ⟨b, o, none⟩) (by show b < w8.heap.size + 1; omega)).trans ((World.cell?_alloc_lt _ _ _ hblt).trans h)
          have d0 := up _ _ (by simpa using HCS.out j _ hi 0 _ rfl)
          have d1 := up _ _ (HCS.out j _ hi 1 _ rfl)
          have d2 := up _ _ (HCS.out j _ hi 2 _ rfl)
          have d3 := up _ _ (HCS.out j _ hi 3 _ rfl)
          obtain ⟨A7, n7, c7, e7⟩ := HSL.out _ (List.getElem_mem hjl)
          have HD := Lib.hid (show ((l.take k).drop j).any (fun z => clashQ x z) = (clashQ x l[j] || ((l.take k).drop (j + 1)).any (fun z => clashQ x z)) by
            rw [List.drop_eq_getElem_cons (by rw [List.length_take]; omega), List.any_cons, List.getElem_take])
          clear up hi hw
          generalize l[j] = z at *
          have CC := Lib.hid (clash_any x z)
          rw [e7] at d3 CC
          rw [HE9.out] at CC
          clear e7
          cases hq : clashQ x z
          · rw [hq] at CC HD
            go_wp2_with (first | (go_at_call 106; refine (CC.out _).mono ?_; rintro e w1 ⟨rfl, hw1⟩; have HW1 := Lib.hid hw1; clear hw1))
            go_roundw
            case rel => exact ⟨j + 1, by omega, by go_num, by rw [HA.out, HD.out, Bool.false_or], (HW.out.alloc zx _).trans (gw_below (by simp; omega) HW1.out)⟩
            case measure => simp [intOf]; omega
          · rw [hq] at CC HD
            have HG := Lib.hid (show madeF l = 12 by unfold madeF; rw [HP.out, HA.out, HD.out]; rfl)
            go_wp2_with (first | (go_at_call 106; refine (CC.out _).mono ?_; rintro e w1 ⟨rfl, hw1⟩; have HW1 := Lib.hid hw1; clear hw1))
            go_ret
            exact ⟨by rw [HG.out]; rfl, (HBW.out.alloc (by omega) _).trans (gw_below (by simp; omega) HW1.out)⟩
        · obtain rfl : j = k := by omega
          have HN := Lib.hid (show pairF [] l = pairF (l.take (j + 1)) (l.drop (j + 1)) by
            rw [HP.out, HA.out, List.drop_eq_nil_of_le (by rw [List.length_take]; omega)]
            rfl)
          clear hw
          go_wp2_with fail
          go_roundw
          case rel => exact ⟨j + 1, by omega, by go_num, HN.out, HBW.out⟩
          case measure => simp [intOf]; omega
    · obtain rfl : k = l.length := by omega
      have HN := Lib.hid (show pairF [] l = false by rw [HF.out, List.drop_length]; rfl)
      clear hlt hk hkz hw
      go_wp2_with fail
      go_loopw [31] (fun i wr => ∃ j : Nat, j ≤ l.length ∧ i = .int .i64 j ∧ l.any (fun x => looseQ x l) = (l.drop j).any (fun x => looseQ x l) ∧ Below w.heap.size w wr) (fun i _ => l.length - (intOf i).toNat)
      case atStart => exact ⟨0, Nat.zero_le _, rfl, rfl, HWr.out⟩
      case round =>
        obtain ⟨j, hj, rfl, ha, hw⟩ := hrel
        have HA := Lib.hid ha
        have HW2 := Lib.hid hw
        have zw2 := hw.size
        clear ha
        have hjz : (0 : Int) ≤ (j : Int) := by omega
        by_cases hlt : j < l.length
        · have HHr := Lib.hid (HH.out.below hw)
          obtain ⟨b, off, rfl, hblt, hcs⟩ := HHr.out (by omega)
          have hi : l[j]? = some l[j] := List.getElem?_eq_getElem hlt
          have c0 := by simpa using hcs j _ hi 0 _ rfl
          have c1 := hcs j _ hi 1 _ rfl
          have c2 := hcs j _ hi 2 _ rfl
          have c3 := hcs j _ hi 3 _ rfl
          have HD := Lib.hid (show (l.drop j).any (fun x => looseQ x l) = (looseQ l[j] l || (l.drop (j + 1)).any (fun x => looseQ x l)) by rw [List.drop_eq_getElem_cons hlt, List.any_cons])
          have hxo := HOK.out _ (List.getElem_mem hlt)
          obtain ⟨A9, n9, c9, e9⟩ := HSL.out _ (List.getElem_mem hlt)
          clear hcs hi hw
          generalize l[j] = x at *
          have CL := Lib.hid (fun (W : World) (hb : Below wr.heap.size wr W) => hasLoose_any x hxo (some ⟨b, off, none⟩) l c W hl (HHr.out.below hb) HOK.out)
          clear hxo
          rw [e9] at c3 CL
          clear e9
          cases hq : looseQ x l
          · rw [hq] at CL HD
            go_wp2_with (first | (go_at_call 107; refine (CL.out _ (by (repeat' (first | (with_reducible exact Below.refl _ _) | (with_reducible assumption) | (with_reducible refine Below.alloc ?_ ?_ _) | (with_reducible refine Below.drew ?_) | (with_reducible refine below_drewN ?_ _) | (with_reducible refine Below.setCell ?_ ?_ _) | (with_reducible exact Nat.le_refl _) | omega | (simp only [World.size_alloc, World.size_setCell, World.size_drew]; omega) | (simp; omega) | (simp; done))))).mono ?_; rintro e w1 ⟨rfl, hb1⟩; have HB1 := Lib.hid hb1; clear hb1))
            go_roundw
            case rel => exact ⟨j + 1, by omega, by go_num, by rw [HA.out, HD.out, Bool.false_or], (HW2.out.alloc zw2 _).trans (HB1.out.mono (by simp; omega))⟩
            case measure => simp [intOf]; omega
          · rw [hq] at CL HD
            have HG := Lib.hid (show madeF l = 11 by unfold madeF; rw [HN.out, HA.out, HD.out]; rfl)
            go_wp2_with (first | (go_at_call 107; refine (CL.out _ (by (repeat' (first | (with_reducible exact Below.refl _ _) | (with_reducible assumption) | (with_reducible refine Below.alloc ?_ ?_ _) | (with_reducible refine Below.drew ?_) | (with_reducible refine below_drewN ?_ _) | (with_reducible refine Below.setCell ?_ ?_ _) | (with_reducible exact Nat.le_refl _) | omega | (simp only [World.size_alloc, World.size_setCell, World.size_drew]; omega) | (simp; omega) | (simp; done))))).mono ?_; rintro e w1 ⟨rfl, hb1⟩; have HB1 := Lib.hid hb1; clear hb1))
            go_ret
            exact ⟨by rw [HG.out]; rfl, (HW2.out.alloc zw2 _).trans (HB1.out.mono (by simp; omega))⟩
        · obtain rfl : j = l.length := by omega
          have HG := Lib.hid (show madeF l = 0 by unfold madeF; rw [HN.out, HA.out, List.drop_length]; rfl)
          go_wp2_with fail
          go_ret
          exact ⟨by rw [HG.out]; rfl, hw⟩
end Go.Proofs.Ytdlglnkhhbkndaa

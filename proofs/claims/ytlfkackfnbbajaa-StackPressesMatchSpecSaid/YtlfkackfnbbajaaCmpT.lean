/- How spans are ordered (compareSpans), whatever the world. -/
import Derived.Test.YtlfkackfnbbajaaPrC
namespace Go.Proofs.Ytlfkackfnbbajaa
open Go.RowKit Go.Maps Go.Sort
set_option linter.unusedSimpArgs false
set_option linter.unusedVariables false
set_option maxRecDepth 100000

def cmpT (x y : Thr) : Int := orI (cmpI x.a y.a) (cmpI x.b y.b)
/-- A span stands behind another one. -/
def afterT (x y : Thr) : Bool := decide (y.a < x.a) || (decide (y.a = x.a) && decide (y.b < x.b))
theorem cmpT_after (x y : Thr) : decide (cmpT x y ≤ 0) = !afterT x y := by
  unfold cmpT orI cmpI afterT
  rcases Int.lt_trichotomy x.a y.a with h | h | h
  · have h1 : ¬ y.a < x.a := by omega
    have h2 : ¬ y.a = x.a := by omega
    simp [h, h1, h2]
  · rcases Int.lt_trichotomy x.b y.b with h2 | h2 | h2
    · have h3 : ¬ y.b < x.b := by omega
      simp [h, h2, h3]
    · simp [h, h2]
    · have h3 : ¬ x.b < y.b := by omega
      simp [h, h2, h3]
  · have h1 : ¬ x.a < y.a := by omega
    simp [h, h1]
set_option maxHeartbeats 2000000 in
theorem compareSpans_any (x y : Thr) (w : World) : Calls Try.prog 102 #[.agg #[.int .i64 x.a, .int .i64 x.b], .agg #[.int .i64 y.a, .int .i64 y.b]] w fun e w' => e = .returned (.int .i64 (cmpT x y)) ∧ ∃ q os', w' = grow (w.drewN q) os' := by
  unfold cmpT
  go_enter Try.func102, Try.ntmps102
  go_wp2_with fail
  go_region_held3 (fun w' => w'.cell? ⟨w.heap.size, 0, none⟩ = some (.int .i64 x.a) ∧ w'.cell? ⟨w.heap.size, 1, none⟩ = some (.int .i64 x.b) ∧ w'.cell? ⟨w.heap.size + 1, 0, none⟩ = some (.int .i64 y.a) ∧ w'.cell? ⟨w.heap.size + 1, 1, none⟩ = some (.int .i64 y.b)) (go_keep)
    (first | (go_at_call 113; refine (compare_any _ _ _).mono ?_; rintro e w1 ⟨rfl, rfl⟩) | (go_at_call 112; refine (or_two _ (cmpI x.a y.a) (cmpI x.b y.b) _ ?hc0 ?hc1).mono ?_; (case hc0 => simp [go_sem]); (case hc1 => simp [go_sem]); rintro e w1 ⟨rfl, rfl⟩))
  go_wp2_with fail
  go_ret
  exact ⟨rfl, gw_trans (gw_trans (gw_trans ⟨0, _, grow_one w _⟩ ⟨0, _, grow_one _ _⟩) ⟨0, _, grow_one _ _⟩) ⟨1, #[], (grow_empty _).symm⟩⟩
end Go.Proofs.Ytlfkackfnbbajaa

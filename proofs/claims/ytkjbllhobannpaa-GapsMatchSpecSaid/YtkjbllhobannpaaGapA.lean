/- Distances of rectangles, of the program and of the reference. -/
import Derived.Test.YtkjbllhobannpaaShapeG
import Derived.Test.YtkjbllhobannpaaRefI
import Derived.Test.YtkjbllhobannpaaGapP
namespace Go.Proofs.Ytkjbllhobannpaa
open Go.RowKit
open Reg (R4)
set_option linter.unusedSimpArgs false
set_option linter.unusedVariables false

/-- In range, and with squares. -/
def Rt (r : R4) : Prop := In6 r.x0 ∧ In6 r.y0 ∧ In6 r.x1 ∧ In6 r.y1 ∧ r.x0 < r.x1 ∧ r.y0 < r.y1

set_option maxRecDepth 100000 in
set_option maxHeartbeats 1000000 in
theorem far_any (a0 a1 b0 b1 : Int) (w : World) (h0 : In6 a0) (h1 : In6 a1) (h2 : In6 b0) (h3 : In6 b1) :
    Calls Try.prog 89 #[.int .i64 a0, .int .i64 a1, .int .i64 b0, .int .i64 b1] w fun e w' => e = .returned (.int .i64 (farI a0 a1 b0 b1)) ∧ w = w' := by
  obtain ⟨p0, p1⟩ := h0
  obtain ⟨p2, p3⟩ := h1
  obtain ⟨p4, p5⟩ := h2
  obtain ⟨p6, p7⟩ := h3
  obtain ⟨V, hV⟩ : ∃ V, V = farI a0 a1 b0 b1 := ⟨_, rfl⟩
  rw [← hV]
  have HV := Lib.hid hV
  clear hV
  have hV4 : (a1 - 1 < b0 ∧ b0 - (a1 - 1) < a0 - (b1 - 1) ∧ V = a0 - (b1 - 1)) ∨ (a1 - 1 < b0 ∧ ¬ b0 - (a1 - 1) < a0 - (b1 - 1) ∧ V = b0 - (a1 - 1)) ∨ (¬ a1 - 1 < b0 ∧ b1 - 1 < a0 ∧ V = a0 - (b1 - 1)) ∨ (¬ a1 - 1 < b0 ∧ ¬ b1 - 1 < a0 ∧ V = 0) := by
    rw [HV.out]
    simp only [farI]
    omega
  clear HV
  rcases hV4 with ⟨c1, c2, rfl⟩ | ⟨c1, c2, rfl⟩ | ⟨c1, c2, rfl⟩ | ⟨c1, c2, rfl⟩
  all_goals
    go_enter Try.func89, Try.ntmps89
    go_wp2_with fail
    go_ret
    exact ⟨rfl, rfl⟩

set_option maxRecDepth 100000 in
set_option maxHeartbeats 1000000 in
theorem rectDistance_any (a b : R4) (w : World) (ha : Rt a) (hb : Rt b) :
    Calls Try.prog 58 #[rv a, rv b] w fun e w' => e = .returned (.int .i64 (farR a b)) ∧ Below w.heap.size w w' := by
  have hc : farR a b = max 0 (max ((commonR a b).x0 - (commonR a b).x1 + 1) ((commonR a b).y0 - (commonR a b).y1 + 1)) := by
    simp only [Rt, In6] at ha hb
    simp only [farR, farI, commonR, maxI, minI]
    repeat' split
    all_goals omega
  have hr : -1000000 ≤ (commonR a b).x0 ∧ (commonR a b).x0 ≤ 1000000 ∧ -1000000 ≤ (commonR a b).y0 ∧ (commonR a b).y0 ≤ 1000000 ∧ -1000000 ≤ (commonR a b).x1 ∧ (commonR a b).x1 ≤ 1000000 ∧ -1000000 ≤ (commonR a b).y1 ∧ (commonR a b).y1 ≤ 1000000 := by
    simp only [Rt, In6] at ha hb
    simp only [commonR, maxI, minI]
    refine ⟨?_, ?_, ?_, ?_, ?_, ?_, ?_, ?_⟩ <;> split <;> omega
  have C1 := Lib.hid (fun W => common_any a b W)
  rw [hc]
  clear hc ha hb
  obtain ⟨V, hV⟩ : ∃ V, V = max 0 (max ((commonR a b).x0 - (commonR a b).x1 + 1) ((commonR a b).y0 - (commonR a b).y1 + 1)) := ⟨_, rfl⟩
  rw [← hV]
  have HV := Lib.hid hV
  clear hV
  generalize commonR a b = c at *
  obtain ⟨x0, y0, x1, y1⟩ := c
  simp only [rv] at *
  obtain ⟨p0, p1, p2, p3, p4, p5, p6, p7⟩ := hr
  have hV4 : (0 < x0 - x1 + 1 ∧ x0 - x1 + 1 < y0 - y1 + 1 ∧ V = y0 - y1 + 1) ∨ (0 < x0 - x1 + 1 ∧ ¬ x0 - x1 + 1 < y0 - y1 + 1 ∧ V = x0 - x1 + 1) ∨ (¬ 0 < x0 - x1 + 1 ∧ 0 < y0 - y1 + 1 ∧ V = y0 - y1 + 1) ∨ (¬ 0 < x0 - x1 + 1 ∧ ¬ 0 < y0 - y1 + 1 ∧ V = 0) := by
    rw [HV.out]
    skip
    omega
  clear HV
  rcases hV4 with ⟨c1, c2, rfl⟩ | ⟨c1, c2, rfl⟩ | ⟨c1, c2, rfl⟩ | ⟨c1, c2, rfl⟩
  all_goals
    go_enter Try.func58, Try.ntmps58
    go_wp2_with fail
    refine (C1.out _).mono ?_
    rintro e w1 ⟨rfl, hb⟩
    have z1 := hb.size
    (try simp only [World.size_alloc, World.size_setCell, World.size_drew] at z1)
    have B1 := up (B := w.heap.size) (w := w) (by (repeat' (first | (with_reducible exact Below.refl _ _) | (with_reducible assumption) | (with_reducible refine Below.alloc ?_ ?_ _) | (with_reducible refine Below.drew ?_) | (with_reducible refine below_drewN ?_ _) | (with_reducible refine Below.setCell ?_ ?_ _) | (with_reducible exact Nat.le_refl _) | omega | (simp only [World.size_alloc, World.size_setCell, World.size_drew]; omega) | (simp; omega) | (simp; done)))) hb (by (first | (with_reducible exact Nat.le_refl _) | (with_reducible assumption) | omega | (simp only [World.size_alloc, World.size_setCell, World.size_drew]; omega) | (simp; omega) | (simp; done)))
    have zz : w.heap.size ≤ w1.heap.size := by omega
    clear hb
    go_wp2_with fail
    go_ret
    exact ⟨rfl, by (repeat' (first | (with_reducible exact Below.refl _ _) | (with_reducible assumption) | (with_reducible refine Below.alloc ?_ ?_ _) | (with_reducible refine Below.drew ?_) | (with_reducible refine below_drewN ?_ _) | (with_reducible refine Below.setCell ?_ ?_ _) | (with_reducible exact Nat.le_refl _) | omega | (simp only [World.size_alloc, World.size_setCell, World.size_drew]; omega) | (simp; omega) | (simp; done)))⟩

set_option maxRecDepth 100000 in
set_option maxHeartbeats 2000000 in
theorem farRects_any (a b : R4) (w : World) (ha : Rt a) (hb : Rt b) :
    Calls Try.prog 64 #[rv a, rv b] w fun e w' => e = .returned (.int .i64 (farR a b)) ∧ Below w.heap.size w w' := by
  obtain ⟨a0, a1, a2, a3, -⟩ := ha
  obtain ⟨b0, b1, b2, b3, -⟩ := hb
  have CX := Lib.hid (fun W => far_any a.x0 a.x1 b.x0 b.x1 W a0 a2 b0 b2)
  have CY := Lib.hid (fun W => far_any a.y0 a.y1 b.y0 b.y1 W a1 a3 b1 b3)
  unfold farR
  clear a0 a1 a2 a3 b0 b1 b2 b3
  generalize farI a.x0 a.x1 b.x0 b.x1 = X at *
  generalize farI a.y0 a.y1 b.y0 b.y1 = Y at *
  obtain ⟨ax0, ay0, ax1, ay1⟩ := a
  obtain ⟨bx0, by0, bx1, by1⟩ := b
  simp only [rv] at *
  have hc : (X < Y ∧ max X Y = Y) ∨ (¬ X < Y ∧ max X Y = X) := by omega
  rcases hc with ⟨c1, c2⟩ | ⟨c1, c2⟩
  all_goals
    rw [c2]
    clear c2
    go_enter Try.func64, Try.ntmps64
    go_wp2_with fail
    go_region_held3 (fun w' => w'.cell? ⟨w.heap.size, 0, none⟩ = some (.int .i64 ax0) ∧ w'.cell? ⟨w.heap.size, 1, none⟩ = some (.int .i64 ay0) ∧ w'.cell? ⟨w.heap.size, 2, none⟩ = some (.int .i64 ax1) ∧ w'.cell? ⟨w.heap.size, 3, none⟩ = some (.int .i64 ay1) ∧ w'.cell? ⟨w.heap.size + 1, 0, none⟩ = some (.int .i64 bx0) ∧ w'.cell? ⟨w.heap.size + 1, 1, none⟩ = some (.int .i64 by0) ∧ w'.cell? ⟨w.heap.size + 1, 2, none⟩ = some (.int .i64 bx1) ∧ w'.cell? ⟨w.heap.size + 1, 3, none⟩ = some (.int .i64 by1)) (go_keep)
      (first | (go_at_call_of 89 (Value.int .i64 ax0); refine (CX.out _).mono ?_; rintro e w1 ⟨rfl, rfl⟩) | (go_at_call_of 89 (Value.int .i64 ay0); refine (CY.out _).mono ?_; rintro e w1 ⟨rfl, rfl⟩))
    all_goals
      go_wp2_with fail
      go_ret
      exact ⟨rfl, by (repeat' (first | (with_reducible exact Below.refl _ _) | (with_reducible assumption) | (with_reducible refine Below.alloc ?_ ?_ _) | (with_reducible refine Below.drew ?_) | (with_reducible refine below_drewN ?_ _) | (with_reducible refine Below.setCell ?_ ?_ _) | (with_reducible exact Nat.le_refl _) | omega | (simp only [World.size_alloc, World.size_setCell, World.size_drew]; omega) | (simp; omega) | (simp; done)))⟩

theorem rt_of {r : R4} (h : Rg r) : Rt r := by
  unfold Rg at h
  simp only [Rt, In6]
  omega
end Go.Proofs.Ytkjbllhobannpaa

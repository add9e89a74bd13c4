/- TurnsMatchSpec returns true in whatever world, and turns nothing that was there. -/
import Derived.Test.YtemnhkfedjhpiaaTurnE
import Derived.Test.YtemnhkfedjhpiaaTurnF
import Derived.Test.YtemnhkfedjhpiaaAwake
namespace Go.Proofs.Ytemnhkfedjhpiaa
open Go.RowKit
set_option linter.unusedSimpArgs false
set_option linter.unusedVariables false
theorem then_all (f : Bool) (q ax ay : Int) (g : Bool) (p bx bz : Int) (w : World) : Calls Try.prog 20 #[.agg #[.bool f, .int .i64 q, .int .i64 ax, .int .i64 ay], .agg #[.bool g, .int .i64 p, .int .i64 bx, .int .i64 bz]] w fun e w' => e = .returned (thV f q ax ay g p bx bz) ∧ Below w.heap.size w w' := by
  rcases turnF_or q ax ay with h0 | h0
  · rcases turnF_or p bx bz with h1 | h1
    · obtain ⟨n, rfl⟩ := Int.eq_ofNat_of_zero_le (turnF_in h0).1
      obtain ⟨m, rfl⟩ := Int.eq_ofNat_of_zero_le (turnF_in h1).1
      cases h2 : okAt (tpx g m bx ax ay) && okAt (tpy g m bz ax ay)
      · rw [thV_bad (by simp only [thOk, h0, h1, Int.toNat_natCast, h2]; rfl)]
        exact then_any_bad3 f n ax ay g m bx bz w h0 h1 h2
      · rw [thV_ok (by simp only [thOk, h0, h1, Int.toNat_natCast, h2]; rfl)]
        cases g
        · exact then_any_false f n ax ay m bx bz w h0 h1 h2
        · exact then_any_true f n ax ay m bx bz w h0 h1 h2
    · rw [thV_bad (by simp only [thOk, h1]; simp)]
      exact then_any_bad2 f q ax ay g p bx bz w h0 h1
  · rw [thV_bad (by simp only [thOk, h0]; simp)]
    exact then_any_bad1 f q ax ay g p bx bz w h0
theorem rthen_all (f : Bool) (q ax ay : Int) (g : Bool) (p bx bz : Int) (w : World) : Calls Try.prog 21 #[.agg #[.bool f, .int .i64 q, .int .i64 ax, .int .i64 ay], .agg #[.bool g, .int .i64 p, .int .i64 bx, .int .i64 bz]] w fun e w' => e = .returned (thV f q ax ay g p bx bz) ∧ Below w.heap.size w w' := by
  rcases turnF_or q ax ay with h0 | h0
  · rcases turnF_or p bx bz with h1 | h1
    · obtain ⟨n, rfl⟩ := Int.eq_ofNat_of_zero_le (turnF_in h0).1
      obtain ⟨m, rfl⟩ := Int.eq_ofNat_of_zero_le (turnF_in h1).1
      cases h2 : okAt (tpx g m bx ax ay) && okAt (tpy g m bz ax ay)
      · rw [thV_bad (by simp only [thOk, h0, h1, Int.toNat_natCast, h2]; rfl)]
        cases f <;> cases g
        · exact rthen_bad3_false_false n ax ay m bx bz w h0 h1 h2
        · exact rthen_bad3_false_true n ax ay m bx bz w h0 h1 h2
        · exact rthen_bad3_true_false n ax ay m bx bz w h0 h1 h2
        · exact rthen_bad3_true_true n ax ay m bx bz w h0 h1 h2
      · rw [thV_ok (by simp only [thOk, h0, h1, Int.toNat_natCast, h2]; rfl)]
        cases f <;> cases g
        · exact rthen_ok_false_false n ax ay m bx bz w h0 h1 h2
        · exact rthen_ok_false_true n ax ay m bx bz w h0 h1 h2
        · exact rthen_ok_true_false n ax ay m bx bz w h0 h1 h2
        · exact rthen_ok_true_true n ax ay m bx bz w h0 h1 h2
    · rw [thV_bad (by simp only [thOk, h1]; simp)]
      exact rthen_any_bad2 f q ax ay g p bx bz w h0 h1
  · rw [thV_bad (by simp only [thOk, h0]; simp)]
    exact rthen_any_bad1 f q ax ay g p bx bz w h0
theorem thV_form (f : Bool) (q ax ay : Int) (g : Bool) (p bx bz : Int) : ∃ (a : Bool) (b c d e : Int), thV f q ax ay g p bx bz = .tuple #[.agg #[.bool a, .int .i64 b, .int .i64 c, .int .i64 d], .int .i64 e] := by
  unfold thV; split
  · exact ⟨_, _, _, _, _, rfl⟩
  · exact ⟨_, _, _, _, _, rfl⟩
theorem bkV_form (f : Bool) (q ax ay : Int) : ∃ (a : Bool) (b c d e : Int), bkV f q ax ay = .tuple #[.agg #[.bool a, .int .i64 b, .int .i64 c, .int .i64 d], .int .i64 e] := by
  unfold bkV; split
  · exact ⟨_, _, _, _, _, rfl⟩
  · exact ⟨_, _, _, _, _, rfl⟩

set_option maxHeartbeats 2000000 in
theorem turnsMatch_walk (f : Bool) (q ax ay : Int) (g : Bool) (p bx bz x y : Int) (w : World) :
    Calls Try.prog 5 #[.agg #[.bool f, .int .i64 q, .int .i64 ax, .int .i64 ay], .agg #[.bool g, .int .i64 p, .int .i64 bx, .int .i64 bz], .agg #[.int .i64 x, .int .i64 y]] w fun e w' => e = .returned (.bool true) ∧ Below w.heap.size w w' := by
  have c16 := fun w => turned_any f q ax ay x y w
  have c17 := fun w => rturned_any f q ax ay x y w
  have c18 := fun w => checkTurn_any f q ax ay w
  have c19 := fun w => rcheckTurn_any f q ax ay w
  have c20 := fun w => then_all f q ax ay g p bx bz w
  have c21 := fun w => rthen_all f q ax ay g p bx bz w
  have c22 := fun w => back_any f q ax ay w
  have c23 := fun w => rback_any f q ax ay w
  obtain ⟨a, b, c, d, e, h1⟩ := thV_form f q ax ay g p bx bz
  obtain ⟨a2, b2, c2, d2, e2, h2⟩ := bkV_form f q ax ay
  rw [h1] at c20 c21
  rw [h2] at c22 c23
  unfold tdV at c16 c17
  clear h1 h2
  generalize tdX f q ax ay x y = X at *
  generalize tdY f q ax ay x y = Y at *
  generalize tdC f q ax ay x y = C at *
  generalize turnF q ax ay = F at *
  have C16 := Lib.hid c16
  have C17 := Lib.hid c17
  have C18 := Lib.hid c18
  have C19 := Lib.hid c19
  have C20 := Lib.hid c20
  have C21 := Lib.hid c21
  have C22 := Lib.hid c22
  have C23 := Lib.hid c23
  clear c16 c17 c18 c19 c20 c21 c22 c23
  go_enter Try.func5, Try.ntmps5
  go_wp2_with fail
  refine (C16.out _).mono ?_
  rintro e w1 ⟨rfl, hb⟩
  obtain ⟨k0w1, g0w1⟩ := kp hb (b := w.heap.size) (cs := #[.bool f, .int .i64 q, .int .i64 ax, .int .i64 ay]) (by (first | (with_reducible exact Nat.le_refl _) | (with_reducible assumption) | omega | (simp only [World.size_alloc, World.size_setCell, World.size_drew]; omega) | (simp; omega) | (simp; done))) (fun i => by simp [go_sem]) (fun i => by simp [go_sem])
  obtain ⟨k1w1, g1w1⟩ := kp hb (b := w.heap.size + 1) (cs := #[.bool g, .int .i64 p, .int .i64 bx, .int .i64 bz]) (by (first | (with_reducible exact Nat.le_refl _) | (with_reducible assumption) | omega | (simp only [World.size_alloc, World.size_setCell, World.size_drew]; omega) | (simp; omega) | (simp; done))) (fun i => by simp [go_sem]) (fun i => by simp [go_sem])
  obtain ⟨k2w1, g2w1⟩ := kp hb (b := w.heap.size + 1 + 1) (cs := #[.int .i64 x, .int .i64 y]) (by (first | (with_reducible exact Nat.le_refl _) | (with_reducible assumption) | omega | (simp only [World.size_alloc, World.size_setCell, World.size_drew]; omega) | (simp; omega) | (simp; done))) (fun i => by simp [go_sem]) (fun i => by simp [go_sem])
  have zw1 := hb.size
  have Bw1 := up (B := w.heap.size) (w := w) (by (repeat' (first | (with_reducible exact Below.refl _ _) | (with_reducible assumption) | (with_reducible refine Below.alloc ?_ ?_ _) | (with_reducible refine Below.drew ?_) | (with_reducible refine below_drewN ?_ _) | (with_reducible refine Below.setCell ?_ ?_ _) | (with_reducible exact Nat.le_refl _) | omega | (simp only [World.size_alloc, World.size_setCell, World.size_drew]; omega) | (simp; omega) | (simp; done)))) hb (by (first | (with_reducible exact Nat.le_refl _) | (with_reducible assumption) | omega | (simp only [World.size_alloc, World.size_setCell, World.size_drew]; omega) | (simp; omega) | (simp; done)))
  try simp only [World.size_alloc, World.size_setCell, World.size_drew] at zw1
  have l0w1 : w.heap.size < w1.heap.size := by (first | (with_reducible exact Nat.le_refl _) | (with_reducible assumption) | omega | (simp only [World.size_alloc, World.size_setCell, World.size_drew]; omega) | (simp; omega) | (simp; done))
  have l1w1 : w.heap.size + 1 < w1.heap.size := by (first | (with_reducible exact Nat.le_refl _) | (with_reducible assumption) | omega | (simp only [World.size_alloc, World.size_setCell, World.size_drew]; omega) | (simp; omega) | (simp; done))
  have l2w1 : w.heap.size + 1 + 1 < w1.heap.size := by (first | (with_reducible exact Nat.le_refl _) | (with_reducible assumption) | omega | (simp only [World.size_alloc, World.size_setCell, World.size_drew]; omega) | (simp; omega) | (simp; done))
  clear hb
  go_wp2_with fail
  refine (C17.out _).mono ?_
  rintro e w2 ⟨rfl, hb⟩
  obtain ⟨k0w2, g0w2⟩ := kp hb (b := w.heap.size) (cs := #[.bool f, .int .i64 q, .int .i64 ax, .int .i64 ay]) (by (first | (with_reducible exact Nat.le_refl _) | (with_reducible assumption) | omega | (simp only [World.size_alloc, World.size_setCell, World.size_drew]; omega) | (simp; omega) | (simp; done))) (fun i => by simp [go_sem, k0w1, g0w1, l0w1, k1w1, g1w1, l1w1, k2w1, g2w1, l2w1]) (fun i => by simp [go_sem, k0w1, g0w1, l0w1, k1w1, g1w1, l1w1, k2w1, g2w1, l2w1])
  obtain ⟨k1w2, g1w2⟩ := kp hb (b := w.heap.size + 1) (cs := #[.bool g, .int .i64 p, .int .i64 bx, .int .i64 bz]) (by (first | (with_reducible exact Nat.le_refl _) | (with_reducible assumption) | omega | (simp only [World.size_alloc, World.size_setCell, World.size_drew]; omega) | (simp; omega) | (simp; done))) (fun i => by simp [go_sem, k0w1, g0w1, l0w1, k1w1, g1w1, l1w1, k2w1, g2w1, l2w1]) (fun i => by simp [go_sem, k0w1, g0w1, l0w1, k1w1, g1w1, l1w1, k2w1, g2w1, l2w1])
  obtain ⟨k2w2, g2w2⟩ := kp hb (b := w.heap.size + 1 + 1) (cs := #[.int .i64 x, .int .i64 y]) (by (first | (with_reducible exact Nat.le_refl _) | (with_reducible assumption) | omega | (simp only [World.size_alloc, World.size_setCell, World.size_drew]; omega) | (simp; omega) | (simp; done))) (fun i => by simp [go_sem, k0w1, g0w1, l0w1, k1w1, g1w1, l1w1, k2w1, g2w1, l2w1]) (fun i => by simp [go_sem, k0w1, g0w1, l0w1, k1w1, g1w1, l1w1, k2w1, g2w1, l2w1])
  obtain ⟨k3w2, g3w2⟩ := kp hb (b := w1.heap.size) (cs := #[.int .i64 X, .int .i64 Y]) (by (first | (with_reducible exact Nat.le_refl _) | (with_reducible assumption) | omega | (simp only [World.size_alloc, World.size_setCell, World.size_drew]; omega) | (simp; omega) | (simp; done))) (fun i => by simp [go_sem, k0w1, g0w1, l0w1, k1w1, g1w1, l1w1, k2w1, g2w1, l2w1]) (fun i => by simp [go_sem, k0w1, g0w1, l0w1, k1w1, g1w1, l1w1, k2w1, g2w1, l2w1])
  have zw2 := hb.size
  have Bw2 := up (B := w.heap.size) (w := w) (by (repeat' (first | (with_reducible exact Below.refl _ _) | (with_reducible assumption) | (with_reducible refine Below.alloc ?_ ?_ _) | (with_reducible refine Below.drew ?_) | (with_reducible refine below_drewN ?_ _) | (with_reducible refine Below.setCell ?_ ?_ _) | (with_reducible exact Nat.le_refl _) | omega | (simp only [World.size_alloc, World.size_setCell, World.size_drew]; omega) | (simp; omega) | (simp; done)))) hb (by (first | (with_reducible exact Nat.le_refl _) | (with_reducible assumption) | omega | (simp only [World.size_alloc, World.size_setCell, World.size_drew]; omega) | (simp; omega) | (simp; done)))
  try simp only [World.size_alloc, World.size_setCell, World.size_drew] at zw2
  have l0w2 : w.heap.size < w2.heap.size := by (first | (with_reducible exact Nat.le_refl _) | (with_reducible assumption) | omega | (simp only [World.size_alloc, World.size_setCell, World.size_drew]; omega) | (simp; omega) | (simp; done))
  have l1w2 : w.heap.size + 1 < w2.heap.size := by (first | (with_reducible exact Nat.le_refl _) | (with_reducible assumption) | omega | (simp only [World.size_alloc, World.size_setCell, World.size_drew]; omega) | (simp; omega) | (simp; done))
  have l2w2 : w.heap.size + 1 + 1 < w2.heap.size := by (first | (with_reducible exact Nat.le_refl _) | (with_reducible assumption) | omega | (simp only [World.size_alloc, World.size_setCell, World.size_drew]; omega) | (simp; omega) | (simp; done))
  have l3w2 : w1.heap.size < w2.heap.size := by (first | (with_reducible exact Nat.le_refl _) | (with_reducible assumption) | omega | (simp only [World.size_alloc, World.size_setCell, World.size_drew]; omega) | (simp; omega) | (simp; done))
  have n30 : ¬ w1.heap.size = w.heap.size := by omega
  have m30 : ¬ w.heap.size = w1.heap.size := by omega
  have n31 : ¬ w1.heap.size = w.heap.size + 1 := by omega
  have m31 : ¬ w.heap.size + 1 = w1.heap.size := by omega
  have n32 : ¬ w1.heap.size = w.heap.size + 1 + 1 := by omega
  have m32 : ¬ w.heap.size + 1 + 1 = w1.heap.size := by omega
  clear hb
  go_wp2_with fail
  go_outline
  go_region_held3 (fun w' => w'.cell? ⟨w.heap.size, 0, none⟩ = some (.bool f) ∧ w'.cell? ⟨w.heap.size, 1, none⟩ = some (.int .i64 q) ∧ w'.cell? ⟨w.heap.size, 2, none⟩ = some (.int .i64 ax) ∧ w'.cell? ⟨w.heap.size, 3, none⟩ = some (.int .i64 ay) ∧ w'.cell? ⟨w1.heap.size, 0, none⟩ = some (.int .i64 X) ∧ w'.cell? ⟨w1.heap.size, 1, none⟩ = some (.int .i64 Y) ∧ w'.cell? ⟨w2.heap.size, 0, none⟩ = some (.int .i64 X) ∧ w'.cell? ⟨w2.heap.size, 1, none⟩ = some (.int .i64 Y)) (go_keep)
    (first | (go_at_call 18; refine (C18.out _).mono ?_; rintro e wh ⟨rfl, hb⟩; obtain ⟨k0, g0⟩ := kp hb (b := w.heap.size) (cs := #[.bool f, .int .i64 q, .int .i64 ax, .int .i64 ay]) (by (first | (with_reducible exact Nat.le_refl _) | (with_reducible assumption) | omega | (simp only [World.size_alloc, World.size_setCell, World.size_drew]; omega) | (simp; omega) | (simp; done))) (fun i => by first | exact k0 i | (simp [go_sem, k0w2, g0w2, l0w2, k1w2, g1w2, l1w2, k2w2, g2w2, l2w2, k3w2, g3w2, l3w2]; done)) (fun i => by first | exact g0 i | (simp [go_sem, k0w2, g0w2, l0w2, k1w2, g1w2, l1w2, k2w2, g2w2, l2w2, k3w2, g3w2, l3w2]; done)); obtain ⟨k1, g1⟩ := kp hb (b := w.heap.size + 1) (cs := #[.bool g, .int .i64 p, .int .i64 bx, .int .i64 bz]) (by (first | (with_reducible exact Nat.le_refl _) | (with_reducible assumption) | omega | (simp only [World.size_alloc, World.size_setCell, World.size_drew]; omega) | (simp; omega) | (simp; done))) (fun i => by first | exact k1 i | (simp [go_sem, k0w2, g0w2, l0w2, k1w2, g1w2, l1w2, k2w2, g2w2, l2w2, k3w2, g3w2, l3w2]; done)) (fun i => by first | exact g1 i | (simp [go_sem, k0w2, g0w2, l0w2, k1w2, g1w2, l1w2, k2w2, g2w2, l2w2, k3w2, g3w2, l3w2]; done)); obtain ⟨k2, g2⟩ := kp hb (b := w.heap.size + 1 + 1) (cs := #[.int .i64 x, .int .i64 y]) (by (first | (with_reducible exact Nat.le_refl _) | (with_reducible assumption) | omega | (simp only [World.size_alloc, World.size_setCell, World.size_drew]; omega) | (simp; omega) | (simp; done))) (fun i => by first | exact k2 i | (simp [go_sem, k0w2, g0w2, l0w2, k1w2, g1w2, l1w2, k2w2, g2w2, l2w2, k3w2, g3w2, l3w2]; done)) (fun i => by first | exact g2 i | (simp [go_sem, k0w2, g0w2, l0w2, k1w2, g1w2, l1w2, k2w2, g2w2, l2w2, k3w2, g3w2, l3w2]; done)); obtain ⟨k3, g3⟩ := kp hb (b := w1.heap.size) (cs := #[.int .i64 X, .int .i64 Y]) (by (first | (with_reducible exact Nat.le_refl _) | (with_reducible assumption) | omega | (simp only [World.size_alloc, World.size_setCell, World.size_drew]; omega) | (simp; omega) | (simp; done))) (fun i => by first | exact k3 i | (simp [go_sem, k0w2, g0w2, l0w2, k1w2, g1w2, l1w2, k2w2, g2w2, l2w2, k3w2, g3w2, l3w2]; done)) (fun i => by first | exact g3 i | (simp [go_sem, k0w2, g0w2, l0w2, k1w2, g1w2, l1w2, k2w2, g2w2, l2w2, k3w2, g3w2, l3w2]; done)); obtain ⟨k4, g4⟩ := kp hb (b := w2.heap.size) (cs := #[.int .i64 X, .int .i64 Y]) (by (first | (with_reducible exact Nat.le_refl _) | (with_reducible assumption) | omega | (simp only [World.size_alloc, World.size_setCell, World.size_drew]; omega) | (simp; omega) | (simp; done))) (fun i => by first | exact k4 i | (simp [go_sem, k0w2, g0w2, l0w2, k1w2, g1w2, l1w2, k2w2, g2w2, l2w2, k3w2, g3w2, l3w2]; done)) (fun i => by first | exact g4 i | (simp [go_sem, k0w2, g0w2, l0w2, k1w2, g1w2, l1w2, k2w2, g2w2, l2w2, k3w2, g3w2, l3w2]; done)); have Bwh := up (B := w.heap.size) (w := w) (by (repeat' (first | (with_reducible exact Below.refl _ _) | (with_reducible assumption) | (with_reducible refine Below.alloc ?_ ?_ _) | (with_reducible refine Below.drew ?_) | (with_reducible refine below_drewN ?_ _) | (with_reducible refine Below.setCell ?_ ?_ _) | (with_reducible exact Nat.le_refl _) | omega | (simp only [World.size_alloc, World.size_setCell, World.size_drew]; omega) | (simp; omega) | (simp; done)))) hb (by (first | (with_reducible exact Nat.le_refl _) | (with_reducible assumption) | omega | (simp only [World.size_alloc, World.size_setCell, World.size_drew]; omega) | (simp; omega) | (simp; done))); have zh := hb.size; (try simp only [World.size_alloc, World.size_setCell, World.size_drew] at zh); clear hb) | (go_at_call 19; refine (C19.out _).mono ?_; rintro e wh ⟨rfl, hb⟩; obtain ⟨k0, g0⟩ := kp hb (b := w.heap.size) (cs := #[.bool f, .int .i64 q, .int .i64 ax, .int .i64 ay]) (by (first | (with_reducible exact Nat.le_refl _) | (with_reducible assumption) | omega | (simp only [World.size_alloc, World.size_setCell, World.size_drew]; omega) | (simp; omega) | (simp; done))) (fun i => by first | exact k0 i | (simp [go_sem, k0w2, g0w2, l0w2, k1w2, g1w2, l1w2, k2w2, g2w2, l2w2, k3w2, g3w2, l3w2]; done)) (fun i => by first | exact g0 i | (simp [go_sem, k0w2, g0w2, l0w2, k1w2, g1w2, l1w2, k2w2, g2w2, l2w2, k3w2, g3w2, l3w2]; done)); obtain ⟨k1, g1⟩ := kp hb (b := w.heap.size + 1) (cs := #[.bool g, .int .i64 p, .int .i64 bx, .int .i64 bz]) (by (first | (with_reducible exact Nat.le_refl _) | (with_reducible assumption) | omega | (simp only [World.size_alloc, World.size_setCell, World.size_drew]; omega) | (simp; omega) | (simp; done))) (fun i => by first | exact k1 i | (simp [go_sem, k0w2, g0w2, l0w2, k1w2, g1w2, l1w2, k2w2, g2w2, l2w2, k3w2, g3w2, l3w2]; done)) (fun i => by first | exact g1 i | (simp [go_sem, k0w2, g0w2, l0w2, k1w2, g1w2, l1w2, k2w2, g2w2, l2w2, k3w2, g3w2, l3w2]; done)); obtain ⟨k2, g2⟩ := kp hb (b := w.heap.size + 1 + 1) (cs := #[.int .i64 x, .int .i64 y]) (by (first | (with_reducible exact Nat.le_refl _) | (with_reducible assumption) | omega | (simp only [World.size_alloc, World.size_setCell, World.size_drew]; omega) | (simp; omega) | (simp; done))) (fun i => by first | exact k2 i | (simp [go_sem, k0w2, g0w2, l0w2, k1w2, g1w2, l1w2, k2w2, g2w2, l2w2, k3w2, g3w2, l3w2]; done)) (fun i => by first | exact g2 i | (simp [go_sem, k0w2, g0w2, l0w2, k1w2, g1w2, l1w2, k2w2, g2w2, l2w2, k3w2, g3w2, l3w2]; done)); obtain ⟨k3, g3⟩ := kp hb (b := w1.heap.size) (cs := #[.int .i64 X, .int .i64 Y]) (by (first | (with_reducible exact Nat.le_refl _) | (with_reducible assumption) | omega | (simp only [World.size_alloc, World.size_setCell, World.size_drew]; omega) | (simp; omega) | (simp; done))) (fun i => by first | exact k3 i | (simp [go_sem, k0w2, g0w2, l0w2, k1w2, g1w2, l1w2, k2w2, g2w2, l2w2, k3w2, g3w2, l3w2]; done)) (fun i => by first | exact g3 i | (simp [go_sem, k0w2, g0w2, l0w2, k1w2, g1w2, l1w2, k2w2, g2w2, l2w2, k3w2, g3w2, l3w2]; done)); obtain ⟨k4, g4⟩ := kp hb (b := w2.heap.size) (cs := #[.int .i64 X, .int .i64 Y]) (by (first | (with_reducible exact Nat.le_refl _) | (with_reducible assumption) | omega | (simp only [World.size_alloc, World.size_setCell, World.size_drew]; omega) | (simp; omega) | (simp; done))) (fun i => by first | exact k4 i | (simp [go_sem, k0w2, g0w2, l0w2, k1w2, g1w2, l1w2, k2w2, g2w2, l2w2, k3w2, g3w2, l3w2]; done)) (fun i => by first | exact g4 i | (simp [go_sem, k0w2, g0w2, l0w2, k1w2, g1w2, l1w2, k2w2, g2w2, l2w2, k3w2, g3w2, l3w2]; done)); have Bwh := up (B := w.heap.size) (w := w) (by (repeat' (first | (with_reducible exact Below.refl _ _) | (with_reducible assumption) | (with_reducible refine Below.alloc ?_ ?_ _) | (with_reducible refine Below.drew ?_) | (with_reducible refine below_drewN ?_ _) | (with_reducible refine Below.setCell ?_ ?_ _) | (with_reducible exact Nat.le_refl _) | omega | (simp only [World.size_alloc, World.size_setCell, World.size_drew]; omega) | (simp; omega) | (simp; done)))) hb (by (first | (with_reducible exact Nat.le_refl _) | (with_reducible assumption) | omega | (simp only [World.size_alloc, World.size_setCell, World.size_drew]; omega) | (simp; omega) | (simp; done))); have zh := hb.size; (try simp only [World.size_alloc, World.size_setCell, World.size_drew] at zh); clear hb))
  have l0h : w.heap.size < wh.heap.size := by omega
  have l1h : w.heap.size + 1 < wh.heap.size := by omega
  have l2h : w.heap.size + 1 + 1 < wh.heap.size := by omega
  have l3h : w1.heap.size < wh.heap.size := by omega
  have l4h : w2.heap.size < wh.heap.size := by omega
  have n40 : ¬ w2.heap.size = w.heap.size := by omega
  have m40 : ¬ w.heap.size = w2.heap.size := by omega
  have n41 : ¬ w2.heap.size = w.heap.size + 1 := by omega
  have m41 : ¬ w.heap.size + 1 = w2.heap.size := by omega
  have n42 : ¬ w2.heap.size = w.heap.size + 1 + 1 := by omega
  have m42 : ¬ w.heap.size + 1 + 1 = w2.heap.size := by omega
  have n43 : ¬ w2.heap.size = w1.heap.size := by omega
  have m43 : ¬ w1.heap.size = w2.heap.size := by omega
  go_wp2_with fail
  refine (C20.out _).mono ?_
  rintro e w5 ⟨rfl, hb⟩
  obtain ⟨k0w5, g0w5⟩ := kp hb (b := w.heap.size) (cs := #[.bool f, .int .i64 q, .int .i64 ax, .int .i64 ay]) (by (first | (with_reducible exact Nat.le_refl _) | (with_reducible assumption) | omega | (simp only [World.size_alloc, World.size_setCell, World.size_drew]; omega) | (simp; omega) | (simp; done))) (fun i => by simp [go_sem, k0, g0, l0h, k1, g1, l1h, k2, g2, l2h, k3, g3, l3h, k4, g4, l4h]) (fun i => by simp [go_sem, k0, g0, l0h, k1, g1, l1h, k2, g2, l2h, k3, g3, l3h, k4, g4, l4h])
  obtain ⟨k1w5, g1w5⟩ := kp hb (b := w.heap.size + 1) (cs := #[.bool g, .int .i64 p, .int .i64 bx, .int .i64 bz]) (by (first | (with_reducible exact Nat.le_refl _) | (with_reducible assumption) | omega | (simp only [World.size_alloc, World.size_setCell, World.size_drew]; omega) | (simp; omega) | (simp; done))) (fun i => by simp [go_sem, k0, g0, l0h, k1, g1, l1h, k2, g2, l2h, k3, g3, l3h, k4, g4, l4h]) (fun i => by simp [go_sem, k0, g0, l0h, k1, g1, l1h, k2, g2, l2h, k3, g3, l3h, k4, g4, l4h])
  obtain ⟨k2w5, g2w5⟩ := kp hb (b := w.heap.size + 1 + 1) (cs := #[.int .i64 x, .int .i64 y]) (by (first | (with_reducible exact Nat.le_refl _) | (with_reducible assumption) | omega | (simp only [World.size_alloc, World.size_setCell, World.size_drew]; omega) | (simp; omega) | (simp; done))) (fun i => by simp [go_sem, k0, g0, l0h, k1, g1, l1h, k2, g2, l2h, k3, g3, l3h, k4, g4, l4h]) (fun i => by simp [go_sem, k0, g0, l0h, k1, g1, l1h, k2, g2, l2h, k3, g3, l3h, k4, g4, l4h])
  obtain ⟨k3w5, g3w5⟩ := kp hb (b := w1.heap.size) (cs := #[.int .i64 X, .int .i64 Y]) (by (first | (with_reducible exact Nat.le_refl _) | (with_reducible assumption) | omega | (simp only [World.size_alloc, World.size_setCell, World.size_drew]; omega) | (simp; omega) | (simp; done))) (fun i => by simp [go_sem, k0, g0, l0h, k1, g1, l1h, k2, g2, l2h, k3, g3, l3h, k4, g4, l4h]) (fun i => by simp [go_sem, k0, g0, l0h, k1, g1, l1h, k2, g2, l2h, k3, g3, l3h, k4, g4, l4h])
  obtain ⟨k4w5, g4w5⟩ := kp hb (b := w2.heap.size) (cs := #[.int .i64 X, .int .i64 Y]) (by (first | (with_reducible exact Nat.le_refl _) | (with_reducible assumption) | omega | (simp only [World.size_alloc, World.size_setCell, World.size_drew]; omega) | (simp; omega) | (simp; done))) (fun i => by simp [go_sem, k0, g0, l0h, k1, g1, l1h, k2, g2, l2h, k3, g3, l3h, k4, g4, l4h]) (fun i => by simp [go_sem, k0, g0, l0h, k1, g1, l1h, k2, g2, l2h, k3, g3, l3h, k4, g4, l4h])
  have zw5 := hb.size
  have Bw5 := up (B := w.heap.size) (w := w) (by (repeat' (first | (with_reducible exact Below.refl _ _) | (with_reducible assumption) | (with_reducible refine Below.alloc ?_ ?_ _) | (with_reducible refine Below.drew ?_) | (with_reducible refine below_drewN ?_ _) | (with_reducible refine Below.setCell ?_ ?_ _) | (with_reducible exact Nat.le_refl _) | omega | (simp only [World.size_alloc, World.size_setCell, World.size_drew]; omega) | (simp; omega) | (simp; done)))) hb (by (first | (with_reducible exact Nat.le_refl _) | (with_reducible assumption) | omega | (simp only [World.size_alloc, World.size_setCell, World.size_drew]; omega) | (simp; omega) | (simp; done)))
  try simp only [World.size_alloc, World.size_setCell, World.size_drew] at zw5
  have l0w5 : w.heap.size < w5.heap.size := by (first | (with_reducible exact Nat.le_refl _) | (with_reducible assumption) | omega | (simp only [World.size_alloc, World.size_setCell, World.size_drew]; omega) | (simp; omega) | (simp; done))
  have l1w5 : w.heap.size + 1 < w5.heap.size := by (first | (with_reducible exact Nat.le_refl _) | (with_reducible assumption) | omega | (simp only [World.size_alloc, World.size_setCell, World.size_drew]; omega) | (simp; omega) | (simp; done))
  have l2w5 : w.heap.size + 1 + 1 < w5.heap.size := by (first | (with_reducible exact Nat.le_refl _) | (with_reducible assumption) | omega | (simp only [World.size_alloc, World.size_setCell, World.size_drew]; omega) | (simp; omega) | (simp; done))
  have l3w5 : w1.heap.size < w5.heap.size := by (first | (with_reducible exact Nat.le_refl _) | (with_reducible assumption) | omega | (simp only [World.size_alloc, World.size_setCell, World.size_drew]; omega) | (simp; omega) | (simp; done))
  have l4w5 : w2.heap.size < w5.heap.size := by (first | (with_reducible exact Nat.le_refl _) | (with_reducible assumption) | omega | (simp only [World.size_alloc, World.size_setCell, World.size_drew]; omega) | (simp; omega) | (simp; done))
  clear hb
  go_wp2_with fail
  refine (C21.out _).mono ?_
  rintro e w6 ⟨rfl, hb⟩
  obtain ⟨k0w6, g0w6⟩ := kp hb (b := w.heap.size) (cs := #[.bool f, .int .i64 q, .int .i64 ax, .int .i64 ay]) (by (first | (with_reducible exact Nat.le_refl _) | (with_reducible assumption) | omega | (simp only [World.size_alloc, World.size_setCell, World.size_drew]; omega) | (simp; omega) | (simp; done))) (fun i => by simp [go_sem, k0w5, g0w5, l0w5, k1w5, g1w5, l1w5, k2w5, g2w5, l2w5, k3w5, g3w5, l3w5, k4w5, g4w5, l4w5]) (fun i => by simp [go_sem, k0w5, g0w5, l0w5, k1w5, g1w5, l1w5, k2w5, g2w5, l2w5, k3w5, g3w5, l3w5, k4w5, g4w5, l4w5])
  obtain ⟨k1w6, g1w6⟩ := kp hb (b := w.heap.size + 1) (cs := #[.bool g, .int .i64 p, .int .i64 bx, .int .i64 bz]) (by (first | (with_reducible exact Nat.le_refl _) | (with_reducible assumption) | omega | (simp only [World.size_alloc, World.size_setCell, World.size_drew]; omega) | (simp; omega) | (simp; done))) (fun i => by simp [go_sem, k0w5, g0w5, l0w5, k1w5, g1w5, l1w5, k2w5, g2w5, l2w5, k3w5, g3w5, l3w5, k4w5, g4w5, l4w5]) (fun i => by simp [go_sem, k0w5, g0w5, l0w5, k1w5, g1w5, l1w5, k2w5, g2w5, l2w5, k3w5, g3w5, l3w5, k4w5, g4w5, l4w5])
  obtain ⟨k2w6, g2w6⟩ := kp hb (b := w.heap.size + 1 + 1) (cs := #[.int .i64 x, .int .i64 y]) (by (first | (with_reducible exact Nat.le_refl _) | (with_reducible assumption) | omega | (simp only [World.size_alloc, World.size_setCell, World.size_drew]; omega) | (simp; omega) | (simp; done))) (fun i => by simp [go_sem, k0w5, g0w5, l0w5, k1w5, g1w5, l1w5, k2w5, g2w5, l2w5, k3w5, g3w5, l3w5, k4w5, g4w5, l4w5]) (fun i => by simp [go_sem, k0w5, g0w5, l0w5, k1w5, g1w5, l1w5, k2w5, g2w5, l2w5, k3w5, g3w5, l3w5, k4w5, g4w5, l4w5])
  obtain ⟨k3w6, g3w6⟩ := kp hb (b := w1.heap.size) (cs := #[.int .i64 X, .int .i64 Y]) (by (first | (with_reducible exact Nat.le_refl _) | (with_reducible assumption) | omega | (simp only [World.size_alloc, World.size_setCell, World.size_drew]; omega) | (simp; omega) | (simp; done))) (fun i => by simp [go_sem, k0w5, g0w5, l0w5, k1w5, g1w5, l1w5, k2w5, g2w5, l2w5, k3w5, g3w5, l3w5, k4w5, g4w5, l4w5]) (fun i => by simp [go_sem, k0w5, g0w5, l0w5, k1w5, g1w5, l1w5, k2w5, g2w5, l2w5, k3w5, g3w5, l3w5, k4w5, g4w5, l4w5])
  obtain ⟨k4w6, g4w6⟩ := kp hb (b := w2.heap.size) (cs := #[.int .i64 X, .int .i64 Y]) (by (first | (with_reducible exact Nat.le_refl _) | (with_reducible assumption) | omega | (simp only [World.size_alloc, World.size_setCell, World.size_drew]; omega) | (simp; omega) | (simp; done))) (fun i => by simp [go_sem, k0w5, g0w5, l0w5, k1w5, g1w5, l1w5, k2w5, g2w5, l2w5, k3w5, g3w5, l3w5, k4w5, g4w5, l4w5]) (fun i => by simp [go_sem, k0w5, g0w5, l0w5, k1w5, g1w5, l1w5, k2w5, g2w5, l2w5, k3w5, g3w5, l3w5, k4w5, g4w5, l4w5])
  obtain ⟨k5w6, g5w6⟩ := kp hb (b := w5.heap.size) (cs := #[.bool a, .int .i64 b, .int .i64 c, .int .i64 d]) (by (first | (with_reducible exact Nat.le_refl _) | (with_reducible assumption) | omega | (simp only [World.size_alloc, World.size_setCell, World.size_drew]; omega) | (simp; omega) | (simp; done))) (fun i => by simp [go_sem, k0w5, g0w5, l0w5, k1w5, g1w5, l1w5, k2w5, g2w5, l2w5, k3w5, g3w5, l3w5, k4w5, g4w5, l4w5]) (fun i => by simp [go_sem, k0w5, g0w5, l0w5, k1w5, g1w5, l1w5, k2w5, g2w5, l2w5, k3w5, g3w5, l3w5, k4w5, g4w5, l4w5])
  have zw6 := hb.size
  have Bw6 := up (B := w.heap.size) (w := w) (by (repeat' (first | (with_reducible exact Below.refl _ _) | (with_reducible assumption) | (with_reducible refine Below.alloc ?_ ?_ _) | (with_reducible refine Below.drew ?_) | (with_reducible refine below_drewN ?_ _) | (with_reducible refine Below.setCell ?_ ?_ _) | (with_reducible exact Nat.le_refl _) | omega | (simp only [World.size_alloc, World.size_setCell, World.size_drew]; omega) | (simp; omega) | (simp; done)))) hb (by (first | (with_reducible exact Nat.le_refl _) | (with_reducible assumption) | omega | (simp only [World.size_alloc, World.size_setCell, World.size_drew]; omega) | (simp; omega) | (simp; done)))
  try simp only [World.size_alloc, World.size_setCell, World.size_drew] at zw6
  have l0w6 : w.heap.size < w6.heap.size := by (first | (with_reducible exact Nat.le_refl _) | (with_reducible assumption) | omega | (simp only [World.size_alloc, World.size_setCell, World.size_drew]; omega) | (simp; omega) | (simp; done))
  have l1w6 : w.heap.size + 1 < w6.heap.size := by (first | (with_reducible exact Nat.le_refl _) | (with_reducible assumption) | omega | (simp only [World.size_alloc, World.size_setCell, World.size_drew]; omega) | (simp; omega) | (simp; done))
  have l2w6 : w.heap.size + 1 + 1 < w6.heap.size := by (first | (with_reducible exact Nat.le_refl _) | (with_reducible assumption) | omega | (simp only [World.size_alloc, World.size_setCell, World.size_drew]; omega) | (simp; omega) | (simp; done))
  have l3w6 : w1.heap.size < w6.heap.size := by (first | (with_reducible exact Nat.le_refl _) | (with_reducible assumption) | omega | (simp only [World.size_alloc, World.size_setCell, World.size_drew]; omega) | (simp; omega) | (simp; done))
  have l4w6 : w2.heap.size < w6.heap.size := by (first | (with_reducible exact Nat.le_refl _) | (with_reducible assumption) | omega | (simp only [World.size_alloc, World.size_setCell, World.size_drew]; omega) | (simp; omega) | (simp; done))
  have l5w6 : w5.heap.size < w6.heap.size := by (first | (with_reducible exact Nat.le_refl _) | (with_reducible assumption) | omega | (simp only [World.size_alloc, World.size_setCell, World.size_drew]; omega) | (simp; omega) | (simp; done))
  have n50 : ¬ w5.heap.size = w.heap.size := by omega
  have m50 : ¬ w.heap.size = w5.heap.size := by omega
  have n51 : ¬ w5.heap.size = w.heap.size + 1 := by omega
  have m51 : ¬ w.heap.size + 1 = w5.heap.size := by omega
  have n52 : ¬ w5.heap.size = w.heap.size + 1 + 1 := by omega
  have m52 : ¬ w.heap.size + 1 + 1 = w5.heap.size := by omega
  have n53 : ¬ w5.heap.size = w1.heap.size := by omega
  have m53 : ¬ w1.heap.size = w5.heap.size := by omega
  have n54 : ¬ w5.heap.size = w2.heap.size := by omega
  have m54 : ¬ w2.heap.size = w5.heap.size := by omega
  clear hb
  go_wp2_with fail
  refine (C22.out _).mono ?_
  rintro e w7 ⟨rfl, hb⟩
  obtain ⟨k0w7, g0w7⟩ := kp hb (b := w.heap.size) (cs := #[.bool f, .int .i64 q, .int .i64 ax, .int .i64 ay]) (by (first | (with_reducible exact Nat.le_refl _) | (with_reducible assumption) | omega | (simp only [World.size_alloc, World.size_setCell, World.size_drew]; omega) | (simp; omega) | (simp; done))) (fun i => by simp [go_sem, k0w6, g0w6, l0w6, k1w6, g1w6, l1w6, k2w6, g2w6, l2w6, k3w6, g3w6, l3w6, k4w6, g4w6, l4w6, k5w6, g5w6, l5w6]) (fun i => by simp [go_sem, k0w6, g0w6, l0w6, k1w6, g1w6, l1w6, k2w6, g2w6, l2w6, k3w6, g3w6, l3w6, k4w6, g4w6, l4w6, k5w6, g5w6, l5w6])
  obtain ⟨k1w7, g1w7⟩ := kp hb (b := w.heap.size + 1) (cs := #[.bool g, .int .i64 p, .int .i64 bx, .int .i64 bz]) (by (first | (with_reducible exact Nat.le_refl _) | (with_reducible assumption) | omega | (simp only [World.size_alloc, World.size_setCell, World.size_drew]; omega) | (simp; omega) | (simp; done))) (fun i => by simp [go_sem, k0w6, g0w6, l0w6, k1w6, g1w6, l1w6, k2w6, g2w6, l2w6, k3w6, g3w6, l3w6, k4w6, g4w6, l4w6, k5w6, g5w6, l5w6]) (fun i => by simp [go_sem, k0w6, g0w6, l0w6, k1w6, g1w6, l1w6, k2w6, g2w6, l2w6, k3w6, g3w6, l3w6, k4w6, g4w6, l4w6, k5w6, g5w6, l5w6])
  obtain ⟨k2w7, g2w7⟩ := kp hb (b := w.heap.size + 1 + 1) (cs := #[.int .i64 x, .int .i64 y]) (by (first | (with_reducible exact Nat.le_refl _) | (with_reducible assumption) | omega | (simp only [World.size_alloc, World.size_setCell, World.size_drew]; omega) | (simp; omega) | (simp; done))) (fun i => by simp [go_sem, k0w6, g0w6, l0w6, k1w6, g1w6, l1w6, k2w6, g2w6, l2w6, k3w6, g3w6, l3w6, k4w6, g4w6, l4w6, k5w6, g5w6, l5w6]) (fun i => by simp [go_sem, k0w6, g0w6, l0w6, k1w6, g1w6, l1w6, k2w6, g2w6, l2w6, k3w6, g3w6, l3w6, k4w6, g4w6, l4w6, k5w6, g5w6, l5w6])
  obtain ⟨k3w7, g3w7⟩ := kp hb (b := w1.heap.size) (cs := #[.int .i64 X, .int .i64 Y]) (by (first | (with_reducible exact Nat.le_refl _) | (with_reducible assumption) | omega | (simp only [World.size_alloc, World.size_setCell, World.size_drew]; omega) | (simp; omega) | (simp; done))) (fun i => by simp [go_sem, k0w6, g0w6, l0w6, k1w6, g1w6, l1w6, k2w6, g2w6, l2w6, k3w6, g3w6, l3w6, k4w6, g4w6, l4w6, k5w6, g5w6, l5w6]) (fun i => by simp [go_sem, k0w6, g0w6, l0w6, k1w6, g1w6, l1w6, k2w6, g2w6, l2w6, k3w6, g3w6, l3w6, k4w6, g4w6, l4w6, k5w6, g5w6, l5w6])
  obtain ⟨k4w7, g4w7⟩ := kp hb (b := w2.heap.size) (cs := #[.int .i64 X, .int .i64 Y]) (by (first | (with_reducible exact Nat.le_refl _) | (with_reducible assumption) | omega | (simp only [World.size_alloc, World.size_setCell, World.size_drew]; omega) | (simp; omega) | (simp; done))) (fun i => by simp [go_sem, k0w6, g0w6, l0w6, k1w6, g1w6, l1w6, k2w6, g2w6, l2w6, k3w6, g3w6, l3w6, k4w6, g4w6, l4w6, k5w6, g5w6, l5w6]) (fun i => by simp [go_sem, k0w6, g0w6, l0w6, k1w6, g1w6, l1w6, k2w6, g2w6, l2w6, k3w6, g3w6, l3w6, k4w6, g4w6, l4w6, k5w6, g5w6, l5w6])
  obtain ⟨k5w7, g5w7⟩ := kp hb (b := w5.heap.size) (cs := #[.bool a, .int .i64 b, .int .i64 c, .int .i64 d]) (by (first | (with_reducible exact Nat.le_refl _) | (with_reducible assumption) | omega | (simp only [World.size_alloc, World.size_setCell, World.size_drew]; omega) | (simp; omega) | (simp; done))) (fun i => by simp [go_sem, k0w6, g0w6, l0w6, k1w6, g1w6, l1w6, k2w6, g2w6, l2w6, k3w6, g3w6, l3w6, k4w6, g4w6, l4w6, k5w6, g5w6, l5w6]) (fun i => by simp [go_sem, k0w6, g0w6, l0w6, k1w6, g1w6, l1w6, k2w6, g2w6, l2w6, k3w6, g3w6, l3w6, k4w6, g4w6, l4w6, k5w6, g5w6, l5w6])
  obtain ⟨k6w7, g6w7⟩ := kp hb (b := w6.heap.size) (cs := #[.bool a, .int .i64 b, .int .i64 c, .int .i64 d]) (by (first | (with_reducible exact Nat.le_refl _) | (with_reducible assumption) | omega | (simp only [World.size_alloc, World.size_setCell, World.size_drew]; omega) | (simp; omega) | (simp; done))) (fun i => by simp [go_sem, k0w6, g0w6, l0w6, k1w6, g1w6, l1w6, k2w6, g2w6, l2w6, k3w6, g3w6, l3w6, k4w6, g4w6, l4w6, k5w6, g5w6, l5w6]) (fun i => by simp [go_sem, k0w6, g0w6, l0w6, k1w6, g1w6, l1w6, k2w6, g2w6, l2w6, k3w6, g3w6, l3w6, k4w6, g4w6, l4w6, k5w6, g5w6, l5w6])
  have zw7 := hb.size
  have Bw7 := up (B := w.heap.size) (w := w) (by (repeat' (first | (with_reducible exact Below.refl _ _) | (with_reducible assumption) | (with_reducible refine Below.alloc ?_ ?_ _) | (with_reducible refine Below.drew ?_) | (with_reducible refine below_drewN ?_ _) | (with_reducible refine Below.setCell ?_ ?_ _) | (with_reducible exact Nat.le_refl _) | omega | (simp only [World.size_alloc, World.size_setCell, World.size_drew]; omega) | (simp; omega) | (simp; done)))) hb (by (first | (with_reducible exact Nat.le_refl _) | (with_reducible assumption) | omega | (simp only [World.size_alloc, World.size_setCell, World.size_drew]; omega) | (simp; omega) | (simp; done)))
  try simp only [World.size_alloc, World.size_setCell, World.size_drew] at zw7
  have l0w7 : w.heap.size < w7.heap.size := by (first | (with_reducible exact Nat.le_refl _) | (with_reducible assumption) | omega | (simp only [World.size_alloc, World.size_setCell, World.size_drew]; omega) | (simp; omega) | (simp; done))
  have l1w7 : w.heap.size + 1 < w7.heap.size := by (first | (with_reducible exact Nat.le_refl _) | (with_reducible assumption) | omega | (simp only [World.size_alloc, World.size_setCell, World.size_drew]; omega) | (simp; omega) | (simp; done))
  have l2w7 : w.heap.size + 1 + 1 < w7.heap.size := by (first | (with_reducible exact Nat.le_refl _) | (with_reducible assumption) | omega | (simp only [World.size_alloc, World.size_setCell, World.size_drew]; omega) | (simp; omega) | (simp; done))
  have l3w7 : w1.heap.size < w7.heap.size := by (first | (with_reducible exact Nat.le_refl _) | (with_reducible assumption) | omega | (simp only [World.size_alloc, World.size_setCell, World.size_drew]; omega) | (simp; omega) | (simp; done))
  have l4w7 : w2.heap.size < w7.heap.size := by (first | (with_reducible exact Nat.le_refl _) | (with_reducible assumption) | omega | (simp only [World.size_alloc, World.size_setCell, World.size_drew]; omega) | (simp; omega) | (simp; done))
  have l5w7 : w5.heap.size < w7.heap.size := by (first | (with_reducible exact Nat.le_refl _) | (with_reducible assumption) | omega | (simp only [World.size_alloc, World.size_setCell, World.size_drew]; omega) | (simp; omega) | (simp; done))
  have l6w7 : w6.heap.size < w7.heap.size := by (first | (with_reducible exact Nat.le_refl _) | (with_reducible assumption) | omega | (simp only [World.size_alloc, World.size_setCell, World.size_drew]; omega) | (simp; omega) | (simp; done))
  have n60 : ¬ w6.heap.size = w.heap.size := by omega
  have m60 : ¬ w.heap.size = w6.heap.size := by omega
  have n61 : ¬ w6.heap.size = w.heap.size + 1 := by omega
  have m61 : ¬ w.heap.size + 1 = w6.heap.size := by omega
  have n62 : ¬ w6.heap.size = w.heap.size + 1 + 1 := by omega
  have m62 : ¬ w.heap.size + 1 + 1 = w6.heap.size := by omega
  have n63 : ¬ w6.heap.size = w1.heap.size := by omega
  have m63 : ¬ w1.heap.size = w6.heap.size := by omega
  have n64 : ¬ w6.heap.size = w2.heap.size := by omega
  have m64 : ¬ w2.heap.size = w6.heap.size := by omega
  have n65 : ¬ w6.heap.size = w5.heap.size := by omega
  have m65 : ¬ w5.heap.size = w6.heap.size := by omega
  clear hb
  go_wp2_with fail
  refine (C23.out _).mono ?_
  rintro e w8 ⟨rfl, hb⟩
  obtain ⟨k0w8, g0w8⟩ := kp hb (b := w.heap.size) (cs := #[.bool f, .int .i64 q, .int .i64 ax, .int .i64 ay]) (by (first | (with_reducible exact Nat.le_refl _) | (with_reducible assumption) | omega | (simp only [World.size_alloc, World.size_setCell, World.size_drew]; omega) | (simp; omega) | (simp; done))) (fun i => by simp [go_sem, k0w7, g0w7, l0w7, k1w7, g1w7, l1w7, k2w7, g2w7, l2w7, k3w7, g3w7, l3w7, k4w7, g4w7, l4w7, k5w7, g5w7, l5w7, k6w7, g6w7, l6w7]) (fun i => by simp [go_sem, k0w7, g0w7, l0w7, k1w7, g1w7, l1w7, k2w7, g2w7, l2w7, k3w7, g3w7, l3w7, k4w7, g4w7, l4w7, k5w7, g5w7, l5w7, k6w7, g6w7, l6w7])
  obtain ⟨k1w8, g1w8⟩ := kp hb (b := w.heap.size + 1) (cs := #[.bool g, .int .i64 p, .int .i64 bx, .int .i64 bz]) (by (first | (with_reducible exact Nat.le_refl _) | (with_reducible assumption) | omega | (simp only [World.size_alloc, World.size_setCell, World.size_drew]; omega) | (simp; omega) | (simp; done))) (fun i => by simp [go_sem, k0w7, g0w7, l0w7, k1w7, g1w7, l1w7, k2w7, g2w7, l2w7, k3w7, g3w7, l3w7, k4w7, g4w7, l4w7, k5w7, g5w7, l5w7, k6w7, g6w7, l6w7]) (fun i => by simp [go_sem, k0w7, g0w7, l0w7, k1w7, g1w7, l1w7, k2w7, g2w7, l2w7, k3w7, g3w7, l3w7, k4w7, g4w7, l4w7, k5w7, g5w7, l5w7, k6w7, g6w7, l6w7])
  obtain ⟨k2w8, g2w8⟩ := kp hb (b := w.heap.size + 1 + 1) (cs := #[.int .i64 x, .int .i64 y]) (by (first | (with_reducible exact Nat.le_refl _) | (with_reducible assumption) | omega | (simp only [World.size_alloc, World.size_setCell, World.size_drew]; omega) | (simp; omega) | (simp; done))) (fun i => by simp [go_sem, k0w7, g0w7, l0w7, k1w7, g1w7, l1w7, k2w7, g2w7, l2w7, k3w7, g3w7, l3w7, k4w7, g4w7, l4w7, k5w7, g5w7, l5w7, k6w7, g6w7, l6w7]) (fun i => by simp [go_sem, k0w7, g0w7, l0w7, k1w7, g1w7, l1w7, k2w7, g2w7, l2w7, k3w7, g3w7, l3w7, k4w7, g4w7, l4w7, k5w7, g5w7, l5w7, k6w7, g6w7, l6w7])
  obtain ⟨k3w8, g3w8⟩ := kp hb (b := w1.heap.size) (cs := #[.int .i64 X, .int .i64 Y]) (by (first | (with_reducible exact Nat.le_refl _) | (with_reducible assumption) | omega | (simp only [World.size_alloc, World.size_setCell, World.size_drew]; omega) | (simp; omega) | (simp; done))) (fun i => by simp [go_sem, k0w7, g0w7, l0w7, k1w7, g1w7, l1w7, k2w7, g2w7, l2w7, k3w7, g3w7, l3w7, k4w7, g4w7, l4w7, k5w7, g5w7, l5w7, k6w7, g6w7, l6w7]) (fun i => by simp [go_sem, k0w7, g0w7, l0w7, k1w7, g1w7, l1w7, k2w7, g2w7, l2w7, k3w7, g3w7, l3w7, k4w7, g4w7, l4w7, k5w7, g5w7, l5w7, k6w7, g6w7, l6w7])
  obtain ⟨k4w8, g4w8⟩ := kp hb (b := w2.heap.size) (cs := #[.int .i64 X, .int .i64 Y]) (by (first | (with_reducible exact Nat.le_refl _) | (with_reducible assumption) | omega | (simp only [World.size_alloc, World.size_setCell, World.size_drew]; omega) | (simp; omega) | (simp; done))) (fun i => by simp [go_sem, k0w7, g0w7, l0w7, k1w7, g1w7, l1w7, k2w7, g2w7, l2w7, k3w7, g3w7, l3w7, k4w7, g4w7, l4w7, k5w7, g5w7, l5w7, k6w7, g6w7, l6w7]) (fun i => by simp [go_sem, k0w7, g0w7, l0w7, k1w7, g1w7, l1w7, k2w7, g2w7, l2w7, k3w7, g3w7, l3w7, k4w7, g4w7, l4w7, k5w7, g5w7, l5w7, k6w7, g6w7, l6w7])
  obtain ⟨k5w8, g5w8⟩ := kp hb (b := w5.heap.size) (cs := #[.bool a, .int .i64 b, .int .i64 c, .int .i64 d]) (by (first | (with_reducible exact Nat.le_refl _) | (with_reducible assumption) | omega | (simp only [World.size_alloc, World.size_setCell, World.size_drew]; omega) | (simp; omega) | (simp; done))) (fun i => by simp [go_sem, k0w7, g0w7, l0w7, k1w7, g1w7, l1w7, k2w7, g2w7, l2w7, k3w7, g3w7, l3w7, k4w7, g4w7, l4w7, k5w7, g5w7, l5w7, k6w7, g6w7, l6w7]) (fun i => by simp [go_sem, k0w7, g0w7, l0w7, k1w7, g1w7, l1w7, k2w7, g2w7, l2w7, k3w7, g3w7, l3w7, k4w7, g4w7, l4w7, k5w7, g5w7, l5w7, k6w7, g6w7, l6w7])
  obtain ⟨k6w8, g6w8⟩ := kp hb (b := w6.heap.size) (cs := #[.bool a, .int .i64 b, .int .i64 c, .int .i64 d]) (by (first | (with_reducible exact Nat.le_refl _) | (with_reducible assumption) | omega | (simp only [World.size_alloc, World.size_setCell, World.size_drew]; omega) | (simp; omega) | (simp; done))) (fun i => by simp [go_sem, k0w7, g0w7, l0w7, k1w7, g1w7, l1w7, k2w7, g2w7, l2w7, k3w7, g3w7, l3w7, k4w7, g4w7, l4w7, k5w7, g5w7, l5w7, k6w7, g6w7, l6w7]) (fun i => by simp [go_sem, k0w7, g0w7, l0w7, k1w7, g1w7, l1w7, k2w7, g2w7, l2w7, k3w7, g3w7, l3w7, k4w7, g4w7, l4w7, k5w7, g5w7, l5w7, k6w7, g6w7, l6w7])
  obtain ⟨k7w8, g7w8⟩ := kp hb (b := w7.heap.size) (cs := #[.bool a2, .int .i64 b2, .int .i64 c2, .int .i64 d2]) (by (first | (with_reducible exact Nat.le_refl _) | (with_reducible assumption) | omega | (simp only [World.size_alloc, World.size_setCell, World.size_drew]; omega) | (simp; omega) | (simp; done))) (fun i => by simp [go_sem, k0w7, g0w7, l0w7, k1w7, g1w7, l1w7, k2w7, g2w7, l2w7, k3w7, g3w7, l3w7, k4w7, g4w7, l4w7, k5w7, g5w7, l5w7, k6w7, g6w7, l6w7]) (fun i => by simp [go_sem, k0w7, g0w7, l0w7, k1w7, g1w7, l1w7, k2w7, g2w7, l2w7, k3w7, g3w7, l3w7, k4w7, g4w7, l4w7, k5w7, g5w7, l5w7, k6w7, g6w7, l6w7])
  have zw8 := hb.size
  have Bw8 := up (B := w.heap.size) (w := w) (by (repeat' (first | (with_reducible exact Below.refl _ _) | (with_reducible assumption) | (with_reducible refine Below.alloc ?_ ?_ _) | (with_reducible refine Below.drew ?_) | (with_reducible refine below_drewN ?_ _) | (with_reducible refine Below.setCell ?_ ?_ _) | (with_reducible exact Nat.le_refl _) | omega | (simp only [World.size_alloc, World.size_setCell, World.size_drew]; omega) | (simp; omega) | (simp; done)))) hb (by (first | (with_reducible exact Nat.le_refl _) | (with_reducible assumption) | omega | (simp only [World.size_alloc, World.size_setCell, World.size_drew]; omega) | (simp; omega) | (simp; done)))
  try simp only [World.size_alloc, World.size_setCell, World.size_drew] at zw8
  have l0w8 : w.heap.size < w8.heap.size := by (first | (with_reducible exact Nat.le_refl _) | (with_reducible assumption) | omega | (simp only [World.size_alloc, World.size_setCell, World.size_drew]; omega) | (simp; omega) | (simp; done))
  have l1w8 : w.heap.size + 1 < w8.heap.size := by (first | (with_reducible exact Nat.le_refl _) | (with_reducible assumption) | omega | (simp only [World.size_alloc, World.size_setCell, World.size_drew]; omega) | (simp; omega) | (simp; done))
  have l2w8 : w.heap.size + 1 + 1 < w8.heap.size := by (first | (with_reducible exact Nat.le_refl _) | (with_reducible assumption) | omega | (simp only [World.size_alloc, World.size_setCell, World.size_drew]; omega) | (simp; omega) | (simp; done))
  have l3w8 : w1.heap.size < w8.heap.size := by (first | (with_reducible exact Nat.le_refl _) | (with_reducible assumption) | omega | (simp only [World.size_alloc, World.size_setCell, World.size_drew]; omega) | (simp; omega) | (simp; done))
  have l4w8 : w2.heap.size < w8.heap.size := by (first | (with_reducible exact Nat.le_refl _) | (with_reducible assumption) | omega | (simp only [World.size_alloc, World.size_setCell, World.size_drew]; omega) | (simp; omega) | (simp; done))
  have l5w8 : w5.heap.size < w8.heap.size := by (first | (with_reducible exact Nat.le_refl _) | (with_reducible assumption) | omega | (simp only [World.size_alloc, World.size_setCell, World.size_drew]; omega) | (simp; omega) | (simp; done))
  have l6w8 : w6.heap.size < w8.heap.size := by (first | (with_reducible exact Nat.le_refl _) | (with_reducible assumption) | omega | (simp only [World.size_alloc, World.size_setCell, World.size_drew]; omega) | (simp; omega) | (simp; done))
  have l7w8 : w7.heap.size < w8.heap.size := by (first | (with_reducible exact Nat.le_refl _) | (with_reducible assumption) | omega | (simp only [World.size_alloc, World.size_setCell, World.size_drew]; omega) | (simp; omega) | (simp; done))
  have n70 : ¬ w7.heap.size = w.heap.size := by omega
  have m70 : ¬ w.heap.size = w7.heap.size := by omega
  have n71 : ¬ w7.heap.size = w.heap.size + 1 := by omega
  have m71 : ¬ w.heap.size + 1 = w7.heap.size := by omega
  have n72 : ¬ w7.heap.size = w.heap.size + 1 + 1 := by omega
  have m72 : ¬ w.heap.size + 1 + 1 = w7.heap.size := by omega
  have n73 : ¬ w7.heap.size = w1.heap.size := by omega
  have m73 : ¬ w1.heap.size = w7.heap.size := by omega
  have n74 : ¬ w7.heap.size = w2.heap.size := by omega
  have m74 : ¬ w2.heap.size = w7.heap.size := by omega
  have n75 : ¬ w7.heap.size = w5.heap.size := by omega
  have m75 : ¬ w5.heap.size = w7.heap.size := by omega
  have n76 : ¬ w7.heap.size = w6.heap.size := by omega
  have m76 : ¬ w6.heap.size = w7.heap.size := by omega
  clear hb
  go_wp2_with fail
  refine (awake_any _).mono ?_
  rintro e w9 ⟨rfl, hb⟩
  have zw9 := hb.size
  have Bw9 := up (B := w.heap.size) (w := w) (by (repeat' (first | (with_reducible exact Below.refl _ _) | (with_reducible assumption) | (with_reducible refine Below.alloc ?_ ?_ _) | (with_reducible refine Below.drew ?_) | (with_reducible refine below_drewN ?_ _) | (with_reducible refine Below.setCell ?_ ?_ _) | (with_reducible exact Nat.le_refl _) | omega | (simp only [World.size_alloc, World.size_setCell, World.size_drew]; omega) | (simp; omega) | (simp; done)))) hb (by (first | (with_reducible exact Nat.le_refl _) | (with_reducible assumption) | omega | (simp only [World.size_alloc, World.size_setCell, World.size_drew]; omega) | (simp; omega) | (simp; done)))
  try simp only [World.size_alloc, World.size_setCell, World.size_drew] at zw9
  clear hb
  go_wp2_with fail
  go_ret
  exact ⟨rfl, by (repeat' (first | (with_reducible exact Below.refl _ _) | (with_reducible assumption) | (with_reducible refine Below.alloc ?_ ?_ _) | (with_reducible refine Below.drew ?_) | (with_reducible refine below_drewN ?_ _) | (with_reducible refine Below.setCell ?_ ?_ _) | (with_reducible exact Nat.le_refl _) | omega | (simp only [World.size_alloc, World.size_setCell, World.size_drew]; omega) | (simp; omega) | (simp; done)))⟩
end Go.Proofs.Ytemnhkfedjhpiaa

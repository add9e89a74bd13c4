/- Then, of the reference, returns what thV says. -/
import Derived.Test.YtemnhkfedjhpiaaTurnD
import Derived.Deep.RegionHeld3
namespace Go.Proofs.Ytemnhkfedjhpiaa
open Go.RowKit
set_option linter.unusedSimpArgs false
set_option linter.unusedVariables false

set_option maxHeartbeats 400000 in
theorem thenOf_false_false (n : Nat) (ax ay : Int) (m : Nat) (bx bz : Int) (w : World) (hn : n ≤ 3) (hm : m ≤ 3) (hax : In6 ax) (hay : In6 ay) (hbx : In6 bx) (hbz : In6 bz) :
    Calls Try.prog 53 #[.agg #[.bool false, .int .i64 n, .int .i64 ax, .int .i64 ay], .agg #[.bool false, .int .i64 m, .int .i64 bx, .int .i64 bz]] w fun e w' =>
      e = .returned (.agg #[.bool (false != false), .int .i64 (thQ false n m), .int .i64 (tpx false m bx ax ay), .int .i64 (tpy false m bz ax ay)]) ∧ Below w.heap.size w w' := by
  have c3 := fun w => turnPoint_any false m bx bz ax ay w hm hax hay hbx hbz
  have e : thQ false n m = ((m : Int) + n) % 4 := rfl
  rw [e]
  clear e hax hay hbx hbz
  generalize tpx false m bx ax ay = X at *
  generalize tpy false m bz ax ay = Y at *
  have C3 := Lib.hid c3
  clear c3
  have hn' : (n : Int) ≤ 3 := by omega
  have hm' : (m : Int) ≤ 3 := by omega
  go_enter Try.func53, Try.ntmps53
  go_wp2_with fail
  have n1 : ¬ w.heap.size + 1 + 1 = w.heap.size := by omega
  have n2 : ¬ w.heap.size = w.heap.size + 1 + 1 := by omega
  have s1 : IntKind.i64.wrap ((m : Int) + n) = (m : Int) + n := IntWalk.i64_in _ (by omega)
  have s2 : 0 ≤ (m : Int) + n := by omega
  have s3 : ((m : Int) + n).tmod 4 = ((m : Int) + n) % 4 := by rw [Int.tmod_eq_emod_of_nonneg s2]
  go_region_held3 (fun w' => w'.cell? ⟨w.heap.size, 0, none⟩ = some (.bool false) ∧ w'.cell? ⟨w.heap.size, 2, none⟩ = some (.int .i64 ax) ∧ w'.cell? ⟨w.heap.size, 3, none⟩ = some (.int .i64 ay) ∧
      w'.cell? ⟨w.heap.size + 1, 0, none⟩ = some (.bool false) ∧ w'.cell? ⟨w.heap.size + 1, 1, none⟩ = some (.int .i64 m) ∧ w'.cell? ⟨w.heap.size + 1, 2, none⟩ = some (.int .i64 bx) ∧ w'.cell? ⟨w.heap.size + 1, 3, none⟩ = some (.int .i64 bz)) (go_keep)
    (first | (go_at_call 52; refine (C3.out _).mono ?_; rintro e w1 ⟨rfl, hb⟩; obtain ⟨k0, g0⟩ := kp hb (b := w.heap.size) (cs := #[.bool false, .int .i64 n, .int .i64 ax, .int .i64 ay]) (by (first | (with_reducible exact Nat.le_refl _) | (with_reducible assumption) | omega | (simp only [World.size_alloc, World.size_setCell, World.size_drew]; omega) | (simp; omega) | (simp; done))) (fun i => by simp [go_sem]) (fun i => by simp [go_sem]); obtain ⟨k1, g1⟩ := kp hb (b := w.heap.size + 1) (cs := #[.bool false, .int .i64 m, .int .i64 bx, .int .i64 bz]) (by (first | (with_reducible exact Nat.le_refl _) | (with_reducible assumption) | omega | (simp only [World.size_alloc, World.size_setCell, World.size_drew]; omega) | (simp; omega) | (simp; done))) (fun i => by simp [go_sem]) (fun i => by simp [go_sem]); obtain ⟨k2, g2⟩ := kp hb (b := w.heap.size + 1 + 1) (cs := #[.bool false, .int .i64 0, .int .i64 0, .int .i64 0]) (by (first | (with_reducible exact Nat.le_refl _) | (with_reducible assumption) | omega | (simp only [World.size_alloc, World.size_setCell, World.size_drew]; omega) | (simp; omega) | (simp; done))) (fun i => by simp [go_sem]) (fun i => by simp [go_sem]); have Bw1 := up (B := w.heap.size) (w := w) (by (repeat' (first | (with_reducible exact Below.refl _ _) | (with_reducible assumption) | (with_reducible refine Below.alloc ?_ ?_ _) | (with_reducible refine Below.drew ?_) | (with_reducible refine Below.setCell ?_ ?_ _) | (with_reducible exact Nat.le_refl _) | omega | (simp only [World.size_alloc, World.size_setCell, World.size_drew]; omega) | (simp; omega) | (simp; done)))) hb (by (first | (with_reducible exact Nat.le_refl _) | (with_reducible assumption) | omega | (simp only [World.size_alloc, World.size_setCell, World.size_drew]; omega) | (simp; omega) | (simp; done))); clear hb))
  go_wp2_with fail
  refine bodyPost_ret (v := .agg #[.bool (false != false), .int .i64 (((m : Int) + n) % 4), .int .i64 X, .int .i64 Y]) (by simp [results, Try.results53, go_sem, k2, n1, n2]) rfl ⟨rfl, ?_⟩
  (repeat' (first | (with_reducible exact Below.refl _ _) | (with_reducible assumption) | (with_reducible refine Below.alloc ?_ ?_ _) | (with_reducible refine Below.drew ?_) | (with_reducible refine Below.setCell ?_ ?_ _) | (with_reducible exact Nat.le_refl _) | omega | (simp only [World.size_alloc, World.size_setCell, World.size_drew]; omega) | (simp; omega) | (simp; done)))

set_option maxHeartbeats 400000 in
theorem thenOf_true_false (n : Nat) (ax ay : Int) (m : Nat) (bx bz : Int) (w : World) (hn : n ≤ 3) (hm : m ≤ 3) (hax : In6 ax) (hay : In6 ay) (hbx : In6 bx) (hbz : In6 bz) :
    Calls Try.prog 53 #[.agg #[.bool true, .int .i64 n, .int .i64 ax, .int .i64 ay], .agg #[.bool false, .int .i64 m, .int .i64 bx, .int .i64 bz]] w fun e w' =>
      e = .returned (.agg #[.bool (true != false), .int .i64 (thQ false n m), .int .i64 (tpx false m bx ax ay), .int .i64 (tpy false m bz ax ay)]) ∧ Below w.heap.size w w' := by
  have c3 := fun w => turnPoint_any false m bx bz ax ay w hm hax hay hbx hbz
  have e : thQ false n m = ((m : Int) + n) % 4 := rfl
  rw [e]
  clear e hax hay hbx hbz
  generalize tpx false m bx ax ay = X at *
  generalize tpy false m bz ax ay = Y at *
  have C3 := Lib.hid c3
  clear c3
  have hn' : (n : Int) ≤ 3 := by omega
  have hm' : (m : Int) ≤ 3 := by omega
  go_enter Try.func53, Try.ntmps53
  go_wp2_with fail
  have n1 : ¬ w.heap.size + 1 + 1 = w.heap.size := by omega
  have n2 : ¬ w.heap.size = w.heap.size + 1 + 1 := by omega
  have s1 : IntKind.i64.wrap ((m : Int) + n) = (m : Int) + n := IntWalk.i64_in _ (by omega)
  have s2 : 0 ≤ (m : Int) + n := by omega
  have s3 : ((m : Int) + n).tmod 4 = ((m : Int) + n) % 4 := by rw [Int.tmod_eq_emod_of_nonneg s2]
  go_region_held3 (fun w' => w'.cell? ⟨w.heap.size, 0, none⟩ = some (.bool true) ∧ w'.cell? ⟨w.heap.size, 2, none⟩ = some (.int .i64 ax) ∧ w'.cell? ⟨w.heap.size, 3, none⟩ = some (.int .i64 ay) ∧
      w'.cell? ⟨w.heap.size + 1, 0, none⟩ = some (.bool false) ∧ w'.cell? ⟨w.heap.size + 1, 1, none⟩ = some (.int .i64 m) ∧ w'.cell? ⟨w.heap.size + 1, 2, none⟩ = some (.int .i64 bx) ∧ w'.cell? ⟨w.heap.size + 1, 3, none⟩ = some (.int .i64 bz)) (go_keep)
    (first | (go_at_call 52; refine (C3.out _).mono ?_; rintro e w1 ⟨rfl, hb⟩; obtain ⟨k0, g0⟩ := kp hb (b := w.heap.size) (cs := #[.bool true, .int .i64 n, .int .i64 ax, .int .i64 ay]) (by (first | (with_reducible exact Nat.le_refl _) | (with_reducible assumption) | omega | (simp only [World.size_alloc, World.size_setCell, World.size_drew]; omega) | (simp; omega) | (simp; done))) (fun i => by simp [go_sem]) (fun i => by simp [go_sem]); obtain ⟨k1, g1⟩ := kp hb (b := w.heap.size + 1) (cs := #[.bool false, .int .i64 m, .int .i64 bx, .int .i64 bz]) (by (first | (with_reducible exact Nat.le_refl _) | (with_reducible assumption) | omega | (simp only [World.size_alloc, World.size_setCell, World.size_drew]; omega) | (simp; omega) | (simp; done))) (fun i => by simp [go_sem]) (fun i => by simp [go_sem]); obtain ⟨k2, g2⟩ := kp hb (b := w.heap.size + 1 + 1) (cs := #[.bool false, .int .i64 0, .int .i64 0, .int .i64 0]) (by (first | (with_reducible exact Nat.le_refl _) | (with_reducible assumption) | omega | (simp only [World.size_alloc, World.size_setCell, World.size_drew]; omega) | (simp; omega) | (simp; done))) (fun i => by simp [go_sem]) (fun i => by simp [go_sem]); have Bw1 := up (B := w.heap.size) (w := w) (by (repeat' (first | (with_reducible exact Below.refl _ _) | (with_reducible assumption) | (with_reducible refine Below.alloc ?_ ?_ _) | (with_reducible refine Below.drew ?_) | (with_reducible refine Below.setCell ?_ ?_ _) | (with_reducible exact Nat.le_refl _) | omega | (simp only [World.size_alloc, World.size_setCell, World.size_drew]; omega) | (simp; omega) | (simp; done)))) hb (by (first | (with_reducible exact Nat.le_refl _) | (with_reducible assumption) | omega | (simp only [World.size_alloc, World.size_setCell, World.size_drew]; omega) | (simp; omega) | (simp; done))); clear hb))
  go_wp2_with fail
  refine bodyPost_ret (v := .agg #[.bool (true != false), .int .i64 (((m : Int) + n) % 4), .int .i64 X, .int .i64 Y]) (by simp [results, Try.results53, go_sem, k2, n1, n2]) rfl ⟨rfl, ?_⟩
  (repeat' (first | (with_reducible exact Below.refl _ _) | (with_reducible assumption) | (with_reducible refine Below.alloc ?_ ?_ _) | (with_reducible refine Below.drew ?_) | (with_reducible refine Below.setCell ?_ ?_ _) | (with_reducible exact Nat.le_refl _) | omega | (simp only [World.size_alloc, World.size_setCell, World.size_drew]; omega) | (simp; omega) | (simp; done)))

set_option maxHeartbeats 400000 in
theorem thenOf_false_true (n : Nat) (ax ay : Int) (m : Nat) (bx bz : Int) (w : World) (hn : n ≤ 3) (hm : m ≤ 3) (hax : In6 ax) (hay : In6 ay) (hbx : In6 bx) (hbz : In6 bz) :
    Calls Try.prog 53 #[.agg #[.bool false, .int .i64 n, .int .i64 ax, .int .i64 ay], .agg #[.bool true, .int .i64 m, .int .i64 bx, .int .i64 bz]] w fun e w' =>
      e = .returned (.agg #[.bool (false != true), .int .i64 (thQ true n m), .int .i64 (tpx true m bx ax ay), .int .i64 (tpy true m bz ax ay)]) ∧ Below w.heap.size w w' := by
  have c3 := fun w => turnPoint_any true m bx bz ax ay w hm hax hay hbx hbz
  have e : thQ true n m = ((m : Int) - n + 4) % 4 := rfl
  rw [e]
  clear e hax hay hbx hbz
  generalize tpx true m bx ax ay = X at *
  generalize tpy true m bz ax ay = Y at *
  have C3 := Lib.hid c3
  clear c3
  have hn' : (n : Int) ≤ 3 := by omega
  have hm' : (m : Int) ≤ 3 := by omega
  go_enter Try.func53, Try.ntmps53
  go_wp2_with fail
  have n1 : ¬ w.heap.size + 1 + 1 = w.heap.size := by omega
  have n2 : ¬ w.heap.size = w.heap.size + 1 + 1 := by omega
  have s1 : IntKind.i64.wrap ((m : Int) + (4 - (n : Int))) = (m : Int) + (4 - (n : Int)) := IntWalk.i64_in _ (by omega)
  have s2 : 0 ≤ (m : Int) + (4 - (n : Int)) := by omega
  have s3 : ((m : Int) + (4 - (n : Int))).tmod 4 = ((m : Int) - n + 4) % 4 := by rw [Int.tmod_eq_emod_of_nonneg s2]; congr 1; omega
  go_region_held3 (fun w' => w'.cell? ⟨w.heap.size, 0, none⟩ = some (.bool false) ∧ w'.cell? ⟨w.heap.size, 2, none⟩ = some (.int .i64 ax) ∧ w'.cell? ⟨w.heap.size, 3, none⟩ = some (.int .i64 ay) ∧
      w'.cell? ⟨w.heap.size + 1, 0, none⟩ = some (.bool true) ∧ w'.cell? ⟨w.heap.size + 1, 1, none⟩ = some (.int .i64 m) ∧ w'.cell? ⟨w.heap.size + 1, 2, none⟩ = some (.int .i64 bx) ∧ w'.cell? ⟨w.heap.size + 1, 3, none⟩ = some (.int .i64 bz)) (go_keep)
    (first | (go_at_call 52; refine (C3.out _).mono ?_; rintro e w1 ⟨rfl, hb⟩; obtain ⟨k0, g0⟩ := kp hb (b := w.heap.size) (cs := #[.bool false, .int .i64 n, .int .i64 ax, .int .i64 ay]) (by (first | (with_reducible exact Nat.le_refl _) | (with_reducible assumption) | omega | (simp only [World.size_alloc, World.size_setCell, World.size_drew]; omega) | (simp; omega) | (simp; done))) (fun i => by simp [go_sem]) (fun i => by simp [go_sem]); obtain ⟨k1, g1⟩ := kp hb (b := w.heap.size + 1) (cs := #[.bool true, .int .i64 m, .int .i64 bx, .int .i64 bz]) (by (first | (with_reducible exact Nat.le_refl _) | (with_reducible assumption) | omega | (simp only [World.size_alloc, World.size_setCell, World.size_drew]; omega) | (simp; omega) | (simp; done))) (fun i => by simp [go_sem]) (fun i => by simp [go_sem]); obtain ⟨k2, g2⟩ := kp hb (b := w.heap.size + 1 + 1) (cs := #[.bool false, .int .i64 0, .int .i64 0, .int .i64 0]) (by (first | (with_reducible exact Nat.le_refl _) | (with_reducible assumption) | omega | (simp only [World.size_alloc, World.size_setCell, World.size_drew]; omega) | (simp; omega) | (simp; done))) (fun i => by simp [go_sem]) (fun i => by simp [go_sem]); have Bw1 := up (B := w.heap.size) (w := w) (by (repeat' (first | (with_reducible exact Below.refl _ _) | (with_reducible assumption) | (with_reducible refine Below.alloc ?_ ?_ _) | (with_reducible refine Below.drew ?_) | (with_reducible refine Below.setCell ?_ ?_ _) | (with_reducible exact Nat.le_refl _) | omega | (simp only [World.size_alloc, World.size_setCell, World.size_drew]; omega) | (simp; omega) | (simp; done)))) hb (by (first | (with_reducible exact Nat.le_refl _) | (with_reducible assumption) | omega | (simp only [World.size_alloc, World.size_setCell, World.size_drew]; omega) | (simp; omega) | (simp; done))); clear hb))
  go_wp2_with fail
  refine bodyPost_ret (v := .agg #[.bool (false != true), .int .i64 (((m : Int) - n + 4) % 4), .int .i64 X, .int .i64 Y]) (by simp [results, Try.results53, go_sem, k2, n1, n2]) rfl ⟨rfl, ?_⟩
  (repeat' (first | (with_reducible exact Below.refl _ _) | (with_reducible assumption) | (with_reducible refine Below.alloc ?_ ?_ _) | (with_reducible refine Below.drew ?_) | (with_reducible refine Below.setCell ?_ ?_ _) | (with_reducible exact Nat.le_refl _) | omega | (simp only [World.size_alloc, World.size_setCell, World.size_drew]; omega) | (simp; omega) | (simp; done)))

set_option maxHeartbeats 400000 in
theorem thenOf_true_true (n : Nat) (ax ay : Int) (m : Nat) (bx bz : Int) (w : World) (hn : n ≤ 3) (hm : m ≤ 3) (hax : In6 ax) (hay : In6 ay) (hbx : In6 bx) (hbz : In6 bz) :
    Calls Try.prog 53 #[.agg #[.bool true, .int .i64 n, .int .i64 ax, .int .i64 ay], .agg #[.bool true, .int .i64 m, .int .i64 bx, .int .i64 bz]] w fun e w' =>
      e = .returned (.agg #[.bool (true != true), .int .i64 (thQ true n m), .int .i64 (tpx true m bx ax ay), .int .i64 (tpy true m bz ax ay)]) ∧ Below w.heap.size w w' := by
  have c3 := fun w => turnPoint_any true m bx bz ax ay w hm hax hay hbx hbz
  have e : thQ true n m = ((m : Int) - n + 4) % 4 := rfl
  rw [e]
  clear e hax hay hbx hbz
  generalize tpx true m bx ax ay = X at *
  generalize tpy true m bz ax ay = Y at *
  have C3 := Lib.hid c3
  clear c3
  have hn' : (n : Int) ≤ 3 := by omega
  have hm' : (m : Int) ≤ 3 := by omega
  go_enter Try.func53, Try.ntmps53
  go_wp2_with fail
  have n1 : ¬ w.heap.size + 1 + 1 = w.heap.size := by omega
  have n2 : ¬ w.heap.size = w.heap.size + 1 + 1 := by omega
  have s1 : IntKind.i64.wrap ((m : Int) + (4 - (n : Int))) = (m : Int) + (4 - (n : Int)) := IntWalk.i64_in _ (by omega)
  have s2 : 0 ≤ (m : Int) + (4 - (n : Int)) := by omega
  have s3 : ((m : Int) + (4 - (n : Int))).tmod 4 = ((m : Int) - n + 4) % 4 := by rw [Int.tmod_eq_emod_of_nonneg s2]; congr 1; omega
  go_region_held3 (fun w' => w'.cell? ⟨w.heap.size, 0, none⟩ = some (.bool true) ∧ w'.cell? ⟨w.heap.size, 2, none⟩ = some (.int .i64 ax) ∧ w'.cell? ⟨w.heap.size, 3, none⟩ = some (.int .i64 ay) ∧
      w'.cell? ⟨w.heap.size + 1, 0, none⟩ = some (.bool true) ∧ w'.cell? ⟨w.heap.size + 1, 1, none⟩ = some (.int .i64 m) ∧ w'.cell? ⟨w.heap.size + 1, 2, none⟩ = some (.int .i64 bx) ∧ w'.cell? ⟨w.heap.size + 1, 3, none⟩ = some (.int .i64 bz)) (go_keep)
    (first | (go_at_call 52; refine (C3.out _).mono ?_; rintro e w1 ⟨rfl, hb⟩; obtain ⟨k0, g0⟩ := kp hb (b := w.heap.size) (cs := #[.bool true, .int .i64 n, .int .i64 ax, .int .i64 ay]) (by (first | (with_reducible exact Nat.le_refl _) | (with_reducible assumption) | omega | (simp only [World.size_alloc, World.size_setCell, World.size_drew]; omega) | (simp; omega) | (simp; done))) (fun i => by simp [go_sem]) (fun i => by simp [go_sem]); obtain ⟨k1, g1⟩ := kp hb (b := w.heap.size + 1) (cs := #[.bool true, .int .i64 m, .int .i64 bx, .int .i64 bz]) (by (first | (with_reducible exact Nat.le_refl _) | (with_reducible assumption) | omega | (simp only [World.size_alloc, World.size_setCell, World.size_drew]; omega) | (simp; omega) | (simp; done))) (fun i => by simp [go_sem]) (fun i => by simp [go_sem]); obtain ⟨k2, g2⟩ := kp hb (b := w.heap.size + 1 + 1) (cs := #[.bool false, .int .i64 0, .int .i64 0, .int .i64 0]) (by (first | (with_reducible exact Nat.le_refl _) | (with_reducible assumption) | omega | (simp only [World.size_alloc, World.size_setCell, World.size_drew]; omega) | (simp; omega) | (simp; done))) (fun i => by simp [go_sem]) (fun i => by simp [go_sem]); have Bw1 := up (B := w.heap.size) (w := w) (by (repeat' (first | (with_reducible exact Below.refl _ _) | (with_reducible assumption) | (with_reducible refine Below.alloc ?_ ?_ _) | (with_reducible refine Below.drew ?_) | (with_reducible refine Below.setCell ?_ ?_ _) | (with_reducible exact Nat.le_refl _) | omega | (simp only [World.size_alloc, World.size_setCell, World.size_drew]; omega) | (simp; omega) | (simp; done)))) hb (by (first | (with_reducible exact Nat.le_refl _) | (with_reducible assumption) | omega | (simp only [World.size_alloc, World.size_setCell, World.size_drew]; omega) | (simp; omega) | (simp; done))); clear hb))
  go_wp2_with fail
  refine bodyPost_ret (v := .agg #[.bool (true != true), .int .i64 (((m : Int) - n + 4) % 4), .int .i64 X, .int .i64 Y]) (by simp [results, Try.results53, go_sem, k2, n1, n2]) rfl ⟨rfl, ?_⟩
  (repeat' (first | (with_reducible exact Below.refl _ _) | (with_reducible assumption) | (with_reducible refine Below.alloc ?_ ?_ _) | (with_reducible refine Below.drew ?_) | (with_reducible refine Below.setCell ?_ ?_ _) | (with_reducible exact Nat.le_refl _) | omega | (simp only [World.size_alloc, World.size_setCell, World.size_drew]; omega) | (simp; omega) | (simp; done)))
theorem rthen_any_bad1 (f : Bool) (q ax ay : Int) (g : Bool) (p bx bz : Int) (w : World) (h0 : turnF q ax ay = 1) : Calls Try.prog 21 #[.agg #[.bool f, .int .i64 q, .int .i64 ax, .int .i64 ay], .agg #[.bool g, .int .i64 p, .int .i64 bx, .int .i64 bz]] w fun e w' =>
    e = .returned (.tuple #[.agg #[.bool false, .int .i64 0, .int .i64 0, .int .i64 0], .int .i64 1]) ∧ Below w.heap.size w w' := by
  have c1 := fun w => rcheckTurn_bad f q ax ay w h0
  have C1 := Lib.hid c1
  clear c1 h0
  go_enter Try.func21, Try.ntmps21
  go_wp2_with fail
  refine (C1.out _).mono ?_
  rintro e w1 ⟨rfl, hb⟩
  obtain ⟨k0w1, g0w1⟩ := kp hb (b := w.heap.size) (cs := #[.bool f, .int .i64 q, .int .i64 ax, .int .i64 ay]) (by (first | (with_reducible exact Nat.le_refl _) | (with_reducible assumption) | omega | (simp only [World.size_alloc, World.size_setCell, World.size_drew]; omega) | (simp; omega) | (simp; done))) (fun i => by simp [go_sem]) (fun i => by simp [go_sem])
  obtain ⟨k1w1, g1w1⟩ := kp hb (b := w.heap.size + 1) (cs := #[.bool g, .int .i64 p, .int .i64 bx, .int .i64 bz]) (by (first | (with_reducible exact Nat.le_refl _) | (with_reducible assumption) | omega | (simp only [World.size_alloc, World.size_setCell, World.size_drew]; omega) | (simp; omega) | (simp; done))) (fun i => by simp [go_sem]) (fun i => by simp [go_sem])
  obtain ⟨k2w1, g2w1⟩ := kp hb (b := w.heap.size + 1 + 1) (cs := #[.bool false, .int .i64 0, .int .i64 0, .int .i64 0]) (by (first | (with_reducible exact Nat.le_refl _) | (with_reducible assumption) | omega | (simp only [World.size_alloc, World.size_setCell, World.size_drew]; omega) | (simp; omega) | (simp; done))) (fun i => by simp [go_sem]) (fun i => by simp [go_sem])
  have zw1 := hb.size
  have Bw1 := up (B := w.heap.size) (w := w) (by (repeat' (first | (with_reducible exact Below.refl _ _) | (with_reducible assumption) | (with_reducible refine Below.alloc ?_ ?_ _) | (with_reducible refine Below.drew ?_) | (with_reducible refine Below.setCell ?_ ?_ _) | (with_reducible exact Nat.le_refl _) | omega | (simp only [World.size_alloc, World.size_setCell, World.size_drew]; omega) | (simp; omega) | (simp; done)))) hb (by (first | (with_reducible exact Nat.le_refl _) | (with_reducible assumption) | omega | (simp only [World.size_alloc, World.size_setCell, World.size_drew]; omega) | (simp; omega) | (simp; done)))
  try simp only [World.size_alloc, World.size_setCell] at zw1
  have l0w1 : w.heap.size < w1.heap.size := by (first | (with_reducible exact Nat.le_refl _) | (with_reducible assumption) | omega | (simp only [World.size_alloc, World.size_setCell, World.size_drew]; omega) | (simp; omega) | (simp; done))
  have l1w1 : w.heap.size + 1 < w1.heap.size := by (first | (with_reducible exact Nat.le_refl _) | (with_reducible assumption) | omega | (simp only [World.size_alloc, World.size_setCell, World.size_drew]; omega) | (simp; omega) | (simp; done))
  have l2w1 : w.heap.size + 1 + 1 < w1.heap.size := by (first | (with_reducible exact Nat.le_refl _) | (with_reducible assumption) | omega | (simp only [World.size_alloc, World.size_setCell, World.size_drew]; omega) | (simp; omega) | (simp; done))
  clear hb
  go_wp2_with fail
  refine bodyPost_ret (v := .tuple #[.agg #[.bool false, .int .i64 0, .int .i64 0, .int .i64 0], .int .i64 1]) (by simp [results, Try.results21, go_sem, k2w1]) rfl ⟨rfl, ?_⟩
  (repeat' (first | (with_reducible exact Below.refl _ _) | (with_reducible assumption) | (with_reducible refine Below.alloc ?_ ?_ _) | (with_reducible refine Below.drew ?_) | (with_reducible refine Below.setCell ?_ ?_ _) | (with_reducible exact Nat.le_refl _) | omega | (simp only [World.size_alloc, World.size_setCell, World.size_drew]; omega) | (simp; omega) | (simp; done)))

theorem rthen_any_bad2 (f : Bool) (q ax ay : Int) (g : Bool) (p bx bz : Int) (w : World) (h0 : turnF q ax ay = 0) (h1 : turnF p bx bz = 1) : Calls Try.prog 21 #[.agg #[.bool f, .int .i64 q, .int .i64 ax, .int .i64 ay], .agg #[.bool g, .int .i64 p, .int .i64 bx, .int .i64 bz]] w fun e w' =>
    e = .returned (.tuple #[.agg #[.bool false, .int .i64 0, .int .i64 0, .int .i64 0], .int .i64 1]) ∧ Below w.heap.size w w' := by
  have c1 := fun w => rcheckTurn_ok f q ax ay w h0
  have c2 := fun w => rcheckTurn_bad g p bx bz w h1
  have C1 := Lib.hid c1
  have C2 := Lib.hid c2
  clear c1 h0 c2 h1
  go_enter Try.func21, Try.ntmps21
  go_wp2_with fail
  refine (C1.out _).mono ?_
  rintro e w1 ⟨rfl, hb⟩
  obtain ⟨k0w1, g0w1⟩ := kp hb (b := w.heap.size) (cs := #[.bool f, .int .i64 q, .int .i64 ax, .int .i64 ay]) (by (first | (with_reducible exact Nat.le_refl _) | (with_reducible assumption) | omega | (simp only [World.size_alloc, World.size_setCell, World.size_drew]; omega) | (simp; omega) | (simp; done))) (fun i => by simp [go_sem]) (fun i => by simp [go_sem])
  obtain ⟨k1w1, g1w1⟩ := kp hb (b := w.heap.size + 1) (cs := #[.bool g, .int .i64 p, .int .i64 bx, .int .i64 bz]) (by (first | (with_reducible exact Nat.le_refl _) | (with_reducible assumption) | omega | (simp only [World.size_alloc, World.size_setCell, World.size_drew]; omega) | (simp; omega) | (simp; done))) (fun i => by simp [go_sem]) (fun i => by simp [go_sem])
  obtain ⟨k2w1, g2w1⟩ := kp hb (b := w.heap.size + 1 + 1) (cs := #[.bool false, .int .i64 0, .int .i64 0, .int .i64 0]) (by (first | (with_reducible exact Nat.le_refl _) | (with_reducible assumption) | omega | (simp only [World.size_alloc, World.size_setCell, World.size_drew]; omega) | (simp; omega) | (simp; done))) (fun i => by simp [go_sem]) (fun i => by simp [go_sem])
  have zw1 := hb.size
  have Bw1 := up (B := w.heap.size) (w := w) (by (repeat' (first | (with_reducible exact Below.refl _ _) | (with_reducible assumption) | (with_reducible refine Below.alloc ?_ ?_ _) | (with_reducible refine Below.drew ?_) | (with_reducible refine Below.setCell ?_ ?_ _) | (with_reducible exact Nat.le_refl _) | omega | (simp only [World.size_alloc, World.size_setCell, World.size_drew]; omega) | (simp; omega) | (simp; done)))) hb (by (first | (with_reducible exact Nat.le_refl _) | (with_reducible assumption) | omega | (simp only [World.size_alloc, World.size_setCell, World.size_drew]; omega) | (simp; omega) | (simp; done)))
  try simp only [World.size_alloc, World.size_setCell] at zw1
  have l0w1 : w.heap.size < w1.heap.size := by (first | (with_reducible exact Nat.le_refl _) | (with_reducible assumption) | omega | (simp only [World.size_alloc, World.size_setCell, World.size_drew]; omega) | (simp; omega) | (simp; done))
  have l1w1 : w.heap.size + 1 < w1.heap.size := by (first | (with_reducible exact Nat.le_refl _) | (with_reducible assumption) | omega | (simp only [World.size_alloc, World.size_setCell, World.size_drew]; omega) | (simp; omega) | (simp; done))
  have l2w1 : w.heap.size + 1 + 1 < w1.heap.size := by (first | (with_reducible exact Nat.le_refl _) | (with_reducible assumption) | omega | (simp only [World.size_alloc, World.size_setCell, World.size_drew]; omega) | (simp; omega) | (simp; done))
  clear hb
  go_wp2_with fail
  refine (C2.out _).mono ?_
  rintro e w2 ⟨rfl, hb⟩
  obtain ⟨k0w2, g0w2⟩ := kp hb (b := w.heap.size) (cs := #[.bool f, .int .i64 q, .int .i64 ax, .int .i64 ay]) (by (first | (with_reducible exact Nat.le_refl _) | (with_reducible assumption) | omega | (simp only [World.size_alloc, World.size_setCell, World.size_drew]; omega) | (simp; omega) | (simp; done))) (fun i => by simp [go_sem, k0w1, g0w1, l0w1, k1w1, g1w1, l1w1, k2w1, g2w1, l2w1]) (fun i => by simp [go_sem, k0w1, g0w1, l0w1, k1w1, g1w1, l1w1, k2w1, g2w1, l2w1])
  obtain ⟨k1w2, g1w2⟩ := kp hb (b := w.heap.size + 1) (cs := #[.bool g, .int .i64 p, .int .i64 bx, .int .i64 bz]) (by (first | (with_reducible exact Nat.le_refl _) | (with_reducible assumption) | omega | (simp only [World.size_alloc, World.size_setCell, World.size_drew]; omega) | (simp; omega) | (simp; done))) (fun i => by simp [go_sem, k0w1, g0w1, l0w1, k1w1, g1w1, l1w1, k2w1, g2w1, l2w1]) (fun i => by simp [go_sem, k0w1, g0w1, l0w1, k1w1, g1w1, l1w1, k2w1, g2w1, l2w1])
  obtain ⟨k2w2, g2w2⟩ := kp hb (b := w.heap.size + 1 + 1) (cs := #[.bool false, .int .i64 0, .int .i64 0, .int .i64 0]) (by (first | (with_reducible exact Nat.le_refl _) | (with_reducible assumption) | omega | (simp only [World.size_alloc, World.size_setCell, World.size_drew]; omega) | (simp; omega) | (simp; done))) (fun i => by simp [go_sem, k0w1, g0w1, l0w1, k1w1, g1w1, l1w1, k2w1, g2w1, l2w1]) (fun i => by simp [go_sem, k0w1, g0w1, l0w1, k1w1, g1w1, l1w1, k2w1, g2w1, l2w1])
  have zw2 := hb.size
  have Bw2 := up (B := w.heap.size) (w := w) (by (repeat' (first | (with_reducible exact Below.refl _ _) | (with_reducible assumption) | (with_reducible refine Below.alloc ?_ ?_ _) | (with_reducible refine Below.drew ?_) | (with_reducible refine Below.setCell ?_ ?_ _) | (with_reducible exact Nat.le_refl _) | omega | (simp only [World.size_alloc, World.size_setCell, World.size_drew]; omega) | (simp; omega) | (simp; done)))) hb (by (first | (with_reducible exact Nat.le_refl _) | (with_reducible assumption) | omega | (simp only [World.size_alloc, World.size_setCell, World.size_drew]; omega) | (simp; omega) | (simp; done)))
  try simp only [World.size_alloc, World.size_setCell] at zw2
  have l0w2 : w.heap.size < w2.heap.size := by (first | (with_reducible exact Nat.le_refl _) | (with_reducible assumption) | omega | (simp only [World.size_alloc, World.size_setCell, World.size_drew]; omega) | (simp; omega) | (simp; done))
  have l1w2 : w.heap.size + 1 < w2.heap.size := by (first | (with_reducible exact Nat.le_refl _) | (with_reducible assumption) | omega | (simp only [World.size_alloc, World.size_setCell, World.size_drew]; omega) | (simp; omega) | (simp; done))
  have l2w2 : w.heap.size + 1 + 1 < w2.heap.size := by (first | (with_reducible exact Nat.le_refl _) | (with_reducible assumption) | omega | (simp only [World.size_alloc, World.size_setCell, World.size_drew]; omega) | (simp; omega) | (simp; done))
  clear hb
  go_wp2_with fail
  refine bodyPost_ret (v := .tuple #[.agg #[.bool false, .int .i64 0, .int .i64 0, .int .i64 0], .int .i64 1]) (by simp [results, Try.results21, go_sem, k2w2]) rfl ⟨rfl, ?_⟩
  (repeat' (first | (with_reducible exact Below.refl _ _) | (with_reducible assumption) | (with_reducible refine Below.alloc ?_ ?_ _) | (with_reducible refine Below.drew ?_) | (with_reducible refine Below.setCell ?_ ?_ _) | (with_reducible exact Nat.le_refl _) | omega | (simp only [World.size_alloc, World.size_setCell, World.size_drew]; omega) | (simp; omega) | (simp; done)))

set_option maxHeartbeats 400000 in
theorem rthen_bad3_false_false (n : Nat) (ax ay : Int) (m : Nat) (bx bz : Int) (w : World) (h0 : turnF n ax ay = 0) (h1 : turnF m bx bz = 0) (h2 : (okAt (tpx false m bx ax ay) && okAt (tpy false m bz ax ay)) = false) :
    Calls Try.prog 21 #[.agg #[.bool false, .int .i64 n, .int .i64 ax, .int .i64 ay], .agg #[.bool false, .int .i64 m, .int .i64 bx, .int .i64 bz]] w fun e w' => e = .returned (.tuple #[.agg #[.bool false, .int .i64 0, .int .i64 0, .int .i64 0], .int .i64 1]) ∧ Below w.heap.size w w' := by
  obtain ⟨hq0, hq3, hax, hay⟩ := turnF_in h0
  obtain ⟨hp0, hp3, hbx, hbz⟩ := turnF_in h1
  have c1 := fun w => rcheckTurn_ok false n ax ay w h0
  have c2 := fun w => rcheckTurn_ok false m bx bz w h1
  have c3 := fun w => thenOf_false_false n ax ay m bx bz w (by omega) (by omega) hax hay hbx hbz
  have c4 := fun w => isPoint_any (tpx false m bx ax ay) (tpy false m bz ax ay) w
  rw [h2] at c4
  clear h0 h1 h2 hax hay hbx hbz
  generalize tpx false m bx ax ay = X at *
  generalize tpy false m bz ax ay = Y at *
  generalize thQ false n m = Z at *
  have C1 := Lib.hid c1
  have C2 := Lib.hid c2
  have C3 := Lib.hid c3
  have C4 := Lib.hid c4
  clear c1 c2 c3 c4
  go_enter Try.func21, Try.ntmps21
  go_wp2_with fail
  refine (C1.out _).mono ?_
  rintro e w1 ⟨rfl, hb⟩
  obtain ⟨k0w1, g0w1⟩ := kp hb (b := w.heap.size) (cs := #[.bool false, .int .i64 n, .int .i64 ax, .int .i64 ay]) (by (first | (with_reducible exact Nat.le_refl _) | (with_reducible assumption) | omega | (simp only [World.size_alloc, World.size_setCell, World.size_drew]; omega) | (simp; omega) | (simp; done))) (fun i => by simp [go_sem]) (fun i => by simp [go_sem])
  obtain ⟨k1w1, g1w1⟩ := kp hb (b := w.heap.size + 1) (cs := #[.bool false, .int .i64 m, .int .i64 bx, .int .i64 bz]) (by (first | (with_reducible exact Nat.le_refl _) | (with_reducible assumption) | omega | (simp only [World.size_alloc, World.size_setCell, World.size_drew]; omega) | (simp; omega) | (simp; done))) (fun i => by simp [go_sem]) (fun i => by simp [go_sem])
  obtain ⟨k2w1, g2w1⟩ := kp hb (b := w.heap.size + 1 + 1) (cs := #[.bool false, .int .i64 0, .int .i64 0, .int .i64 0]) (by (first | (with_reducible exact Nat.le_refl _) | (with_reducible assumption) | omega | (simp only [World.size_alloc, World.size_setCell, World.size_drew]; omega) | (simp; omega) | (simp; done))) (fun i => by simp [go_sem]) (fun i => by simp [go_sem])
  have zw1 := hb.size
  have Bw1 := up (B := w.heap.size) (w := w) (by (repeat' (first | (with_reducible exact Below.refl _ _) | (with_reducible assumption) | (with_reducible refine Below.alloc ?_ ?_ _) | (with_reducible refine Below.drew ?_) | (with_reducible refine Below.setCell ?_ ?_ _) | (with_reducible exact Nat.le_refl _) | omega | (simp only [World.size_alloc, World.size_setCell, World.size_drew]; omega) | (simp; omega) | (simp; done)))) hb (by (first | (with_reducible exact Nat.le_refl _) | (with_reducible assumption) | omega | (simp only [World.size_alloc, World.size_setCell, World.size_drew]; omega) | (simp; omega) | (simp; done)))
  try simp only [World.size_alloc, World.size_setCell] at zw1
  have l0w1 : w.heap.size < w1.heap.size := by (first | (with_reducible exact Nat.le_refl _) | (with_reducible assumption) | omega | (simp only [World.size_alloc, World.size_setCell, World.size_drew]; omega) | (simp; omega) | (simp; done))
  have l1w1 : w.heap.size + 1 < w1.heap.size := by (first | (with_reducible exact Nat.le_refl _) | (with_reducible assumption) | omega | (simp only [World.size_alloc, World.size_setCell, World.size_drew]; omega) | (simp; omega) | (simp; done))
  have l2w1 : w.heap.size + 1 + 1 < w1.heap.size := by (first | (with_reducible exact Nat.le_refl _) | (with_reducible assumption) | omega | (simp only [World.size_alloc, World.size_setCell, World.size_drew]; omega) | (simp; omega) | (simp; done))
  clear hb
  go_wp2_with fail
  refine (C2.out _).mono ?_
  rintro e w2 ⟨rfl, hb⟩
  obtain ⟨k0w2, g0w2⟩ := kp hb (b := w.heap.size) (cs := #[.bool false, .int .i64 n, .int .i64 ax, .int .i64 ay]) (by (first | (with_reducible exact Nat.le_refl _) | (with_reducible assumption) | omega | (simp only [World.size_alloc, World.size_setCell, World.size_drew]; omega) | (simp; omega) | (simp; done))) (fun i => by simp [go_sem, k0w1, g0w1, l0w1, k1w1, g1w1, l1w1, k2w1, g2w1, l2w1]) (fun i => by simp [go_sem, k0w1, g0w1, l0w1, k1w1, g1w1, l1w1, k2w1, g2w1, l2w1])
  obtain ⟨k1w2, g1w2⟩ := kp hb (b := w.heap.size + 1) (cs := #[.bool false, .int .i64 m, .int .i64 bx, .int .i64 bz]) (by (first | (with_reducible exact Nat.le_refl _) | (with_reducible assumption) | omega | (simp only [World.size_alloc, World.size_setCell, World.size_drew]; omega) | (simp; omega) | (simp; done))) (fun i => by simp [go_sem, k0w1, g0w1, l0w1, k1w1, g1w1, l1w1, k2w1, g2w1, l2w1]) (fun i => by simp [go_sem, k0w1, g0w1, l0w1, k1w1, g1w1, l1w1, k2w1, g2w1, l2w1])
  obtain ⟨k2w2, g2w2⟩ := kp hb (b := w.heap.size + 1 + 1) (cs := #[.bool false, .int .i64 0, .int .i64 0, .int .i64 0]) (by (first | (with_reducible exact Nat.le_refl _) | (with_reducible assumption) | omega | (simp only [World.size_alloc, World.size_setCell, World.size_drew]; omega) | (simp; omega) | (simp; done))) (fun i => by simp [go_sem, k0w1, g0w1, l0w1, k1w1, g1w1, l1w1, k2w1, g2w1, l2w1]) (fun i => by simp [go_sem, k0w1, g0w1, l0w1, k1w1, g1w1, l1w1, k2w1, g2w1, l2w1])
  have zw2 := hb.size
  have Bw2 := up (B := w.heap.size) (w := w) (by (repeat' (first | (with_reducible exact Below.refl _ _) | (with_reducible assumption) | (with_reducible refine Below.alloc ?_ ?_ _) | (with_reducible refine Below.drew ?_) | (with_reducible refine Below.setCell ?_ ?_ _) | (with_reducible exact Nat.le_refl _) | omega | (simp only [World.size_alloc, World.size_setCell, World.size_drew]; omega) | (simp; omega) | (simp; done)))) hb (by (first | (with_reducible exact Nat.le_refl _) | (with_reducible assumption) | omega | (simp only [World.size_alloc, World.size_setCell, World.size_drew]; omega) | (simp; omega) | (simp; done)))
  try simp only [World.size_alloc, World.size_setCell] at zw2
  have l0w2 : w.heap.size < w2.heap.size := by (first | (with_reducible exact Nat.le_refl _) | (with_reducible assumption) | omega | (simp only [World.size_alloc, World.size_setCell, World.size_drew]; omega) | (simp; omega) | (simp; done))
  have l1w2 : w.heap.size + 1 < w2.heap.size := by (first | (with_reducible exact Nat.le_refl _) | (with_reducible assumption) | omega | (simp only [World.size_alloc, World.size_setCell, World.size_drew]; omega) | (simp; omega) | (simp; done))
  have l2w2 : w.heap.size + 1 + 1 < w2.heap.size := by (first | (with_reducible exact Nat.le_refl _) | (with_reducible assumption) | omega | (simp only [World.size_alloc, World.size_setCell, World.size_drew]; omega) | (simp; omega) | (simp; done))
  clear hb
  go_wp2_with fail
  refine (C3.out _).mono ?_
  rintro e w3 ⟨rfl, hb⟩
  obtain ⟨k0w3, g0w3⟩ := kp hb (b := w.heap.size) (cs := #[.bool false, .int .i64 n, .int .i64 ax, .int .i64 ay]) (by (first | (with_reducible exact Nat.le_refl _) | (with_reducible assumption) | omega | (simp only [World.size_alloc, World.size_setCell, World.size_drew]; omega) | (simp; omega) | (simp; done))) (fun i => by simp [go_sem, k0w2, g0w2, l0w2, k1w2, g1w2, l1w2, k2w2, g2w2, l2w2]) (fun i => by simp [go_sem, k0w2, g0w2, l0w2, k1w2, g1w2, l1w2, k2w2, g2w2, l2w2])
  obtain ⟨k1w3, g1w3⟩ := kp hb (b := w.heap.size + 1) (cs := #[.bool false, .int .i64 m, .int .i64 bx, .int .i64 bz]) (by (first | (with_reducible exact Nat.le_refl _) | (with_reducible assumption) | omega | (simp only [World.size_alloc, World.size_setCell, World.size_drew]; omega) | (simp; omega) | (simp; done))) (fun i => by simp [go_sem, k0w2, g0w2, l0w2, k1w2, g1w2, l1w2, k2w2, g2w2, l2w2]) (fun i => by simp [go_sem, k0w2, g0w2, l0w2, k1w2, g1w2, l1w2, k2w2, g2w2, l2w2])
  obtain ⟨k2w3, g2w3⟩ := kp hb (b := w.heap.size + 1 + 1) (cs := #[.bool false, .int .i64 0, .int .i64 0, .int .i64 0]) (by (first | (with_reducible exact Nat.le_refl _) | (with_reducible assumption) | omega | (simp only [World.size_alloc, World.size_setCell, World.size_drew]; omega) | (simp; omega) | (simp; done))) (fun i => by simp [go_sem, k0w2, g0w2, l0w2, k1w2, g1w2, l1w2, k2w2, g2w2, l2w2]) (fun i => by simp [go_sem, k0w2, g0w2, l0w2, k1w2, g1w2, l1w2, k2w2, g2w2, l2w2])
  have zw3 := hb.size
  have Bw3 := up (B := w.heap.size) (w := w) (by (repeat' (first | (with_reducible exact Below.refl _ _) | (with_reducible assumption) | (with_reducible refine Below.alloc ?_ ?_ _) | (with_reducible refine Below.drew ?_) | (with_reducible refine Below.setCell ?_ ?_ _) | (with_reducible exact Nat.le_refl _) | omega | (simp only [World.size_alloc, World.size_setCell, World.size_drew]; omega) | (simp; omega) | (simp; done)))) hb (by (first | (with_reducible exact Nat.le_refl _) | (with_reducible assumption) | omega | (simp only [World.size_alloc, World.size_setCell, World.size_drew]; omega) | (simp; omega) | (simp; done)))
  try simp only [World.size_alloc, World.size_setCell] at zw3
  have l0w3 : w.heap.size < w3.heap.size := by (first | (with_reducible exact Nat.le_refl _) | (with_reducible assumption) | omega | (simp only [World.size_alloc, World.size_setCell, World.size_drew]; omega) | (simp; omega) | (simp; done))
  have l1w3 : w.heap.size + 1 < w3.heap.size := by (first | (with_reducible exact Nat.le_refl _) | (with_reducible assumption) | omega | (simp only [World.size_alloc, World.size_setCell, World.size_drew]; omega) | (simp; omega) | (simp; done))
  have l2w3 : w.heap.size + 1 + 1 < w3.heap.size := by (first | (with_reducible exact Nat.le_refl _) | (with_reducible assumption) | omega | (simp only [World.size_alloc, World.size_setCell, World.size_drew]; omega) | (simp; omega) | (simp; done))
  clear hb
  go_wp2_with fail
  refine (C4.out _).mono ?_
  rintro e w4 ⟨rfl, hb⟩
  obtain ⟨k0w4, g0w4⟩ := kp hb (b := w.heap.size) (cs := #[.bool false, .int .i64 n, .int .i64 ax, .int .i64 ay]) (by (first | (with_reducible exact Nat.le_refl _) | (with_reducible assumption) | omega | (simp only [World.size_alloc, World.size_setCell, World.size_drew]; omega) | (simp; omega) | (simp; done))) (fun i => by simp [go_sem, k0w3, g0w3, l0w3, k1w3, g1w3, l1w3, k2w3, g2w3, l2w3]) (fun i => by simp [go_sem, k0w3, g0w3, l0w3, k1w3, g1w3, l1w3, k2w3, g2w3, l2w3])
  obtain ⟨k1w4, g1w4⟩ := kp hb (b := w.heap.size + 1) (cs := #[.bool false, .int .i64 m, .int .i64 bx, .int .i64 bz]) (by (first | (with_reducible exact Nat.le_refl _) | (with_reducible assumption) | omega | (simp only [World.size_alloc, World.size_setCell, World.size_drew]; omega) | (simp; omega) | (simp; done))) (fun i => by simp [go_sem, k0w3, g0w3, l0w3, k1w3, g1w3, l1w3, k2w3, g2w3, l2w3]) (fun i => by simp [go_sem, k0w3, g0w3, l0w3, k1w3, g1w3, l1w3, k2w3, g2w3, l2w3])
  obtain ⟨k2w4, g2w4⟩ := kp hb (b := w.heap.size + 1 + 1) (cs := #[.bool false, .int .i64 0, .int .i64 0, .int .i64 0]) (by (first | (with_reducible exact Nat.le_refl _) | (with_reducible assumption) | omega | (simp only [World.size_alloc, World.size_setCell, World.size_drew]; omega) | (simp; omega) | (simp; done))) (fun i => by simp [go_sem, k0w3, g0w3, l0w3, k1w3, g1w3, l1w3, k2w3, g2w3, l2w3]) (fun i => by simp [go_sem, k0w3, g0w3, l0w3, k1w3, g1w3, l1w3, k2w3, g2w3, l2w3])
  obtain ⟨k3w4, g3w4⟩ := kp hb (b := w3.heap.size) (cs := #[.bool (false != false), .int .i64 Z, .int .i64 X, .int .i64 Y]) (by (first | (with_reducible exact Nat.le_refl _) | (with_reducible assumption) | omega | (simp only [World.size_alloc, World.size_setCell, World.size_drew]; omega) | (simp; omega) | (simp; done))) (fun i => by simp [go_sem, k0w3, g0w3, l0w3, k1w3, g1w3, l1w3, k2w3, g2w3, l2w3]) (fun i => by simp [go_sem, k0w3, g0w3, l0w3, k1w3, g1w3, l1w3, k2w3, g2w3, l2w3])
  have zw4 := hb.size
  have Bw4 := up (B := w.heap.size) (w := w) (by (repeat' (first | (with_reducible exact Below.refl _ _) | (with_reducible assumption) | (with_reducible refine Below.alloc ?_ ?_ _) | (with_reducible refine Below.drew ?_) | (with_reducible refine Below.setCell ?_ ?_ _) | (with_reducible exact Nat.le_refl _) | omega | (simp only [World.size_alloc, World.size_setCell, World.size_drew]; omega) | (simp; omega) | (simp; done)))) hb (by (first | (with_reducible exact Nat.le_refl _) | (with_reducible assumption) | omega | (simp only [World.size_alloc, World.size_setCell, World.size_drew]; omega) | (simp; omega) | (simp; done)))
  try simp only [World.size_alloc, World.size_setCell] at zw4
  have l0w4 : w.heap.size < w4.heap.size := by (first | (with_reducible exact Nat.le_refl _) | (with_reducible assumption) | omega | (simp only [World.size_alloc, World.size_setCell, World.size_drew]; omega) | (simp; omega) | (simp; done))
  have l1w4 : w.heap.size + 1 < w4.heap.size := by (first | (with_reducible exact Nat.le_refl _) | (with_reducible assumption) | omega | (simp only [World.size_alloc, World.size_setCell, World.size_drew]; omega) | (simp; omega) | (simp; done))
  have l2w4 : w.heap.size + 1 + 1 < w4.heap.size := by (first | (with_reducible exact Nat.le_refl _) | (with_reducible assumption) | omega | (simp only [World.size_alloc, World.size_setCell, World.size_drew]; omega) | (simp; omega) | (simp; done))
  have l3w4 : w3.heap.size < w4.heap.size := by (first | (with_reducible exact Nat.le_refl _) | (with_reducible assumption) | omega | (simp only [World.size_alloc, World.size_setCell, World.size_drew]; omega) | (simp; omega) | (simp; done))
  have n30 : ¬ w3.heap.size = w.heap.size := by omega
  have m30 : ¬ w.heap.size = w3.heap.size := by omega
  have n31 : ¬ w3.heap.size = w.heap.size + 1 := by omega
  have m31 : ¬ w.heap.size + 1 = w3.heap.size := by omega
  have n32 : ¬ w3.heap.size = w.heap.size + 1 + 1 := by omega
  have m32 : ¬ w.heap.size + 1 + 1 = w3.heap.size := by omega
  clear hb
  go_wp2_with fail
  refine bodyPost_ret (v := .tuple #[.agg #[.bool false, .int .i64 0, .int .i64 0, .int .i64 0], .int .i64 1]) (by simp [results, Try.results21, go_sem, k2w4, l2w4, n32, m32]) rfl ⟨rfl, ?_⟩
  (repeat' (first | (with_reducible exact Below.refl _ _) | (with_reducible assumption) | (with_reducible refine Below.alloc ?_ ?_ _) | (with_reducible refine Below.drew ?_) | (with_reducible refine Below.setCell ?_ ?_ _) | (with_reducible exact Nat.le_refl _) | omega | (simp only [World.size_alloc, World.size_setCell, World.size_drew]; omega) | (simp; omega) | (simp; done)))

set_option maxHeartbeats 400000 in
theorem rthen_bad3_true_false (n : Nat) (ax ay : Int) (m : Nat) (bx bz : Int) (w : World) (h0 : turnF n ax ay = 0) (h1 : turnF m bx bz = 0) (h2 : (okAt (tpx false m bx ax ay) && okAt (tpy false m bz ax ay)) = false) :
    Calls Try.prog 21 #[.agg #[.bool true, .int .i64 n, .int .i64 ax, .int .i64 ay], .agg #[.bool false, .int .i64 m, .int .i64 bx, .int .i64 bz]] w fun e w' => e = .returned (.tuple #[.agg #[.bool false, .int .i64 0, .int .i64 0, .int .i64 0], .int .i64 1]) ∧ Below w.heap.size w w' := by
  obtain ⟨hq0, hq3, hax, hay⟩ := turnF_in h0
  obtain ⟨hp0, hp3, hbx, hbz⟩ := turnF_in h1
  have c1 := fun w => rcheckTurn_ok true n ax ay w h0
  have c2 := fun w => rcheckTurn_ok false m bx bz w h1
  have c3 := fun w => thenOf_true_false n ax ay m bx bz w (by omega) (by omega) hax hay hbx hbz
  have c4 := fun w => isPoint_any (tpx false m bx ax ay) (tpy false m bz ax ay) w
  rw [h2] at c4
  clear h0 h1 h2 hax hay hbx hbz
  generalize tpx false m bx ax ay = X at *
  generalize tpy false m bz ax ay = Y at *
  generalize thQ false n m = Z at *
  have C1 := Lib.hid c1
  have C2 := Lib.hid c2
  have C3 := Lib.hid c3
  have C4 := Lib.hid c4
  clear c1 c2 c3 c4
  go_enter Try.func21, Try.ntmps21
  go_wp2_with fail
  refine (C1.out _).mono ?_
  rintro e w1 ⟨rfl, hb⟩
  obtain ⟨k0w1, g0w1⟩ := kp hb (b := w.heap.size) (cs := #[.bool true, .int .i64 n, .int .i64 ax, .int .i64 ay]) (by (first | (with_reducible exact Nat.le_refl _) | (with_reducible assumption) | omega | (simp only [World.size_alloc, World.size_setCell, World.size_drew]; omega) | (simp; omega) | (simp; done))) (fun i => by simp [go_sem]) (fun i => by simp [go_sem])
  obtain ⟨k1w1, g1w1⟩ := kp hb (b := w.heap.size + 1) (cs := #[.bool false, .int .i64 m, .int .i64 bx, .int .i64 bz]) (by (first | (with_reducible exact Nat.le_refl _) | (with_reducible assumption) | omega | (simp only [World.size_alloc, World.size_setCell, World.size_drew]; omega) | (simp; omega) | (simp; done))) (fun i => by simp [go_sem]) (fun i => by simp [go_sem])
  obtain ⟨k2w1, g2w1⟩ := kp hb (b := w.heap.size + 1 + 1) (cs := #[.bool false, .int .i64 0, .int .i64 0, .int .i64 0]) (by (first | (with_reducible exact Nat.le_refl _) | (with_reducible assumption) | omega | (simp only [World.size_alloc, World.size_setCell, World.size_drew]; omega) | (simp; omega) | (simp; done))) (fun i => by simp [go_sem]) (fun i => by simp [go_sem])
  have zw1 := hb.size
  have Bw1 := up (B := w.heap.size) (w := w) (by (repeat' (first | (with_reducible exact Below.refl _ _) | (with_reducible assumption) | (with_reducible refine Below.alloc ?_ ?_ _) | (with_reducible refine Below.drew ?_) | (with_reducible refine Below.setCell ?_ ?_ _) | (with_reducible exact Nat.le_refl _) | omega | (simp only [World.size_alloc, World.size_setCell, World.size_drew]; omega) | (simp; omega) | (simp; done)))) hb (by (first | (with_reducible exact Nat.le_refl _) | (with_reducible assumption) | omega | (simp only [World.size_alloc, World.size_setCell, World.size_drew]; omega) | (simp; omega) | (simp; done)))
  try simp only [World.size_alloc, World.size_setCell] at zw1
  have l0w1 : w.heap.size < w1.heap.size := by (first | (with_reducible exact Nat.le_refl _) | (with_reducible assumption) | omega | (simp only [World.size_alloc, World.size_setCell, World.size_drew]; omega) | (simp; omega) | (simp; done))
  have l1w1 : w.heap.size + 1 < w1.heap.size := by (first | (with_reducible exact Nat.le_refl _) | (with_reducible assumption) | omega | (simp only [World.size_alloc, World.size_setCell, World.size_drew]; omega) | (simp; omega) | (simp; done))
  have l2w1 : w.heap.size + 1 + 1 < w1.heap.size := by (first | (with_reducible exact Nat.le_refl _) | (with_reducible assumption) | omega | (simp only [World.size_alloc, World.size_setCell, World.size_drew]; omega) | (simp; omega) | (simp; done))
  clear hb
  go_wp2_with fail
  refine (C2.out _).mono ?_
  rintro e w2 ⟨rfl, hb⟩
  obtain ⟨k0w2, g0w2⟩ := kp hb (b := w.heap.size) (cs := #[.bool true, .int .i64 n, .int .i64 ax, .int .i64 ay]) (by (first | (with_reducible exact Nat.le_refl _) | (with_reducible assumption) | omega | (simp only [World.size_alloc, World.size_setCell, World.size_drew]; omega) | (simp; omega) | (simp; done))) (fun i => by simp [go_sem, k0w1, g0w1, l0w1, k1w1, g1w1, l1w1, k2w1, g2w1, l2w1]) (fun i => by simp [go_sem, k0w1, g0w1, l0w1, k1w1, g1w1, l1w1, k2w1, g2w1, l2w1])
  obtain ⟨k1w2, g1w2⟩ := kp hb (b := w.heap.size + 1) (cs := #[.bool false, .int .i64 m, .int .i64 bx, .int .i64 bz]) (by (first | (with_reducible exact Nat.le_refl _) | (with_reducible assumption) | omega | (simp only [World.size_alloc, World.size_setCell, World.size_drew]; omega) | (simp; omega) | (simp; done))) (fun i => by simp [go_sem, k0w1, g0w1, l0w1, k1w1, g1w1, l1w1, k2w1, g2w1, l2w1]) (fun i => by simp [go_sem, k0w1, g0w1, l0w1, k1w1, g1w1, l1w1, k2w1, g2w1, l2w1])
  obtain ⟨k2w2, g2w2⟩ := kp hb (b := w.heap.size + 1 + 1) (cs := #[.bool false, .int .i64 0, .int .i64 0, .int .i64 0]) (by (first | (with_reducible exact Nat.le_refl _) | (with_reducible assumption) | omega | (simp only [World.size_alloc, World.size_setCell, World.size_drew]; omega) | (simp; omega) | (simp; done))) (fun i => by simp [go_sem, k0w1, g0w1, l0w1, k1w1, g1w1, l1w1, k2w1, g2w1, l2w1]) (fun i => by simp [go_sem, k0w1, g0w1, l0w1, k1w1, g1w1, l1w1, k2w1, g2w1, l2w1])
  have zw2 := hb.size
  have Bw2 := up (B := w.heap.size) (w := w) (by (repeat' (first | (with_reducible exact Below.refl _ _) | (with_reducible assumption) | (with_reducible refine Below.alloc ?_ ?_ _) | (with_reducible refine Below.drew ?_) | (with_reducible refine Below.setCell ?_ ?_ _) | (with_reducible exact Nat.le_refl _) | omega | (simp only [World.size_alloc, World.size_setCell, World.size_drew]; omega) | (simp; omega) | (simp; done)))) hb (by (first | (with_reducible exact Nat.le_refl _) | (with_reducible assumption) | omega | (simp only [World.size_alloc, World.size_setCell, World.size_drew]; omega) | (simp; omega) | (simp; done)))
  try simp only [World.size_alloc, World.size_setCell] at zw2
  have l0w2 : w.heap.size < w2.heap.size := by (first | (with_reducible exact Nat.le_refl _) | (with_reducible assumption) | omega | (simp only [World.size_alloc, World.size_setCell, World.size_drew]; omega) | (simp; omega) | (simp; done))
  have l1w2 : w.heap.size + 1 < w2.heap.size := by (first | (with_reducible exact Nat.le_refl _) | (with_reducible assumption) | omega | (simp only [World.size_alloc, World.size_setCell, World.size_drew]; omega) | (simp; omega) | (simp; done))
  have l2w2 : w.heap.size + 1 + 1 < w2.heap.size := by (first | (with_reducible exact Nat.le_refl _) | (with_reducible assumption) | omega | (simp only [World.size_alloc, World.size_setCell, World.size_drew]; omega) | (simp; omega) | (simp; done))
  clear hb
  go_wp2_with fail
  refine (C3.out _).mono ?_
  rintro e w3 ⟨rfl, hb⟩
  obtain ⟨k0w3, g0w3⟩ := kp hb (b := w.heap.size) (cs := #[.bool true, .int .i64 n, .int .i64 ax, .int .i64 ay]) (by (first | (with_reducible exact Nat.le_refl _) | (with_reducible assumption) | omega | (simp only [World.size_alloc, World.size_setCell, World.size_drew]; omega) | (simp; omega) | (simp; done))) (fun i => by simp [go_sem, k0w2, g0w2, l0w2, k1w2, g1w2, l1w2, k2w2, g2w2, l2w2]) (fun i => by simp [go_sem, k0w2, g0w2, l0w2, k1w2, g1w2, l1w2, k2w2, g2w2, l2w2])
  obtain ⟨k1w3, g1w3⟩ := kp hb (b := w.heap.size + 1) (cs := #[.bool false, .int .i64 m, .int .i64 bx, .int .i64 bz]) (by (first | (with_reducible exact Nat.le_refl _) | (with_reducible assumption) | omega | (simp only [World.size_alloc, World.size_setCell, World.size_drew]; omega) | (simp; omega) | (simp; done))) (fun i => by simp [go_sem, k0w2, g0w2, l0w2, k1w2, g1w2, l1w2, k2w2, g2w2, l2w2]) (fun i => by simp [go_sem, k0w2, g0w2, l0w2, k1w2, g1w2, l1w2, k2w2, g2w2, l2w2])
  obtain ⟨k2w3, g2w3⟩ := kp hb (b := w.heap.size + 1 + 1) (cs := #[.bool false, .int .i64 0, .int .i64 0, .int .i64 0]) (by (first | (with_reducible exact Nat.le_refl _) | (with_reducible assumption) | omega | (simp only [World.size_alloc, World.size_setCell, World.size_drew]; omega) | (simp; omega) | (simp; done))) (fun i => by simp [go_sem, k0w2, g0w2, l0w2, k1w2, g1w2, l1w2, k2w2, g2w2, l2w2]) (fun i => by simp [go_sem, k0w2, g0w2, l0w2, k1w2, g1w2, l1w2, k2w2, g2w2, l2w2])
  have zw3 := hb.size
  have Bw3 := up (B := w.heap.size) (w := w) (by (repeat' (first | (with_reducible exact Below.refl _ _) | (with_reducible assumption) | (with_reducible refine Below.alloc ?_ ?_ _) | (with_reducible refine Below.drew ?_) | (with_reducible refine Below.setCell ?_ ?_ _) | (with_reducible exact Nat.le_refl _) | omega | (simp only [World.size_alloc, World.size_setCell, World.size_drew]; omega) | (simp; omega) | (simp; done)))) hb (by (first | (with_reducible exact Nat.le_refl _) | (with_reducible assumption) | omega | (simp only [World.size_alloc, World.size_setCell, World.size_drew]; omega) | (simp; omega) | (simp; done)))
  try simp only [World.size_alloc, World.size_setCell] at zw3
  have l0w3 : w.heap.size < w3.heap.size := by (first | (with_reducible exact Nat.le_refl _) | (with_reducible assumption) | omega | (simp only [World.size_alloc, World.size_setCell, World.size_drew]; omega) | (simp; omega) | (simp; done))
  have l1w3 : w.heap.size + 1 < w3.heap.size := by (first | (with_reducible exact Nat.le_refl _) | (with_reducible assumption) | omega | (simp only [World.size_alloc, World.size_setCell, World.size_drew]; omega) | (simp; omega) | (simp; done))
  have l2w3 : w.heap.size + 1 + 1 < w3.heap.size := by (first | (with_reducible exact Nat.le_refl _) | (with_reducible assumption) | omega | (simp only [World.size_alloc, World.size_setCell, World.size_drew]; omega) | (simp; omega) | (simp; done))
  clear hb
  go_wp2_with fail
  refine (C4.out _).mono ?_
  rintro e w4 ⟨rfl, hb⟩
  obtain ⟨k0w4, g0w4⟩ := kp hb (b := w.heap.size) (cs := #[.bool true, .int .i64 n, .int .i64 ax, .int .i64 ay]) (by (first | (with_reducible exact Nat.le_refl _) | (with_reducible assumption) | omega | (simp only [World.size_alloc, World.size_setCell, World.size_drew]; omega) | (simp; omega) | (simp; done))) (fun i => by simp [go_sem, k0w3, g0w3, l0w3, k1w3, g1w3, l1w3, k2w3, g2w3, l2w3]) (fun i => by simp [go_sem, k0w3, g0w3, l0w3, k1w3, g1w3, l1w3, k2w3, g2w3, l2w3])
  obtain ⟨k1w4, g1w4⟩ := kp hb (b := w.heap.size + 1) (cs := #[.bool false, .int .i64 m, .int .i64 bx, .int .i64 bz]) (by (first | (with_reducible exact Nat.le_refl _) | (with_reducible assumption) | omega | (simp only [World.size_alloc, World.size_setCell, World.size_drew]; omega) | (simp; omega) | (simp; done))) (fun i => by simp [go_sem, k0w3, g0w3, l0w3, k1w3, g1w3, l1w3, k2w3, g2w3, l2w3]) (fun i => by simp [go_sem, k0w3, g0w3, l0w3, k1w3, g1w3, l1w3, k2w3, g2w3, l2w3])
  obtain ⟨k2w4, g2w4⟩ := kp hb (b := w.heap.size + 1 + 1) (cs := #[.bool false, .int .i64 0, .int .i64 0, .int .i64 0]) (by (first | (with_reducible exact Nat.le_refl _) | (with_reducible assumption) | omega | (simp only [World.size_alloc, World.size_setCell, World.size_drew]; omega) | (simp; omega) | (simp; done))) (fun i => by simp [go_sem, k0w3, g0w3, l0w3, k1w3, g1w3, l1w3, k2w3, g2w3, l2w3]) (fun i => by simp [go_sem, k0w3, g0w3, l0w3, k1w3, g1w3, l1w3, k2w3, g2w3, l2w3])
  obtain ⟨k3w4, g3w4⟩ := kp hb (b := w3.heap.size) (cs := #[.bool (true != false), .int .i64 Z, .int .i64 X, .int .i64 Y]) (by (first | (with_reducible exact Nat.le_refl _) | (with_reducible assumption) | omega | (simp only [World.size_alloc, World.size_setCell, World.size_drew]; omega) | (simp; omega) | (simp; done))) (fun i => by simp [go_sem, k0w3, g0w3, l0w3, k1w3, g1w3, l1w3, k2w3, g2w3, l2w3]) (fun i => by simp [go_sem, k0w3, g0w3, l0w3, k1w3, g1w3, l1w3, k2w3, g2w3, l2w3])
  have zw4 := hb.size
  have Bw4 := up (B := w.heap.size) (w := w) (by (repeat' (first | (with_reducible exact Below.refl _ _) | (with_reducible assumption) | (with_reducible refine Below.alloc ?_ ?_ _) | (with_reducible refine Below.drew ?_) | (with_reducible refine Below.setCell ?_ ?_ _) | (with_reducible exact Nat.le_refl _) | omega | (simp only [World.size_alloc, World.size_setCell, World.size_drew]; omega) | (simp; omega) | (simp; done)))) hb (by (first | (with_reducible exact Nat.le_refl _) | (with_reducible assumption) | omega | (simp only [World.size_alloc, World.size_setCell, World.size_drew]; omega) | (simp; omega) | (simp; done)))
  try simp only [World.size_alloc, World.size_setCell] at zw4
  have l0w4 : w.heap.size < w4.heap.size := by (first | (with_reducible exact Nat.le_refl _) | (with_reducible assumption) | omega | (simp only [World.size_alloc, World.size_setCell, World.size_drew]; omega) | (simp; omega) | (simp; done))
  have l1w4 : w.heap.size + 1 < w4.heap.size := by (first | (with_reducible exact Nat.le_refl _) | (with_reducible assumption) | omega | (simp only [World.size_alloc, World.size_setCell, World.size_drew]; omega) | (simp; omega) | (simp; done))
  have l2w4 : w.heap.size + 1 + 1 < w4.heap.size := by (first | (with_reducible exact Nat.le_refl _) | (with_reducible assumption) | omega | (simp only [World.size_alloc, World.size_setCell, World.size_drew]; omega) | (simp; omega) | (simp; done))
  have l3w4 : w3.heap.size < w4.heap.size := by (first | (with_reducible exact Nat.le_refl _) | (with_reducible assumption) | omega | (simp only [World.size_alloc, World.size_setCell, World.size_drew]; omega) | (simp; omega) | (simp; done))
  have n30 : ¬ w3.heap.size = w.heap.size := by omega
  have m30 : ¬ w.heap.size = w3.heap.size := by omega
  have n31 : ¬ w3.heap.size = w.heap.size + 1 := by omega
  have m31 : ¬ w.heap.size + 1 = w3.heap.size := by omega
  have n32 : ¬ w3.heap.size = w.heap.size + 1 + 1 := by omega
  have m32 : ¬ w.heap.size + 1 + 1 = w3.heap.size := by omega
  clear hb
  go_wp2_with fail
  refine bodyPost_ret (v := .tuple #[.agg #[.bool false, .int .i64 0, .int .i64 0, .int .i64 0], .int .i64 1]) (by simp [results, Try.results21, go_sem, k2w4, l2w4, n32, m32]) rfl ⟨rfl, ?_⟩
  (repeat' (first | (with_reducible exact Below.refl _ _) | (with_reducible assumption) | (with_reducible refine Below.alloc ?_ ?_ _) | (with_reducible refine Below.drew ?_) | (with_reducible refine Below.setCell ?_ ?_ _) | (with_reducible exact Nat.le_refl _) | omega | (simp only [World.size_alloc, World.size_setCell, World.size_drew]; omega) | (simp; omega) | (simp; done)))

set_option maxHeartbeats 400000 in
theorem rthen_bad3_false_true (n : Nat) (ax ay : Int) (m : Nat) (bx bz : Int) (w : World) (h0 : turnF n ax ay = 0) (h1 : turnF m bx bz = 0) (h2 : (okAt (tpx true m bx ax ay) && okAt (tpy true m bz ax ay)) = false) :
    Calls Try.prog 21 #[.agg #[.bool false, .int .i64 n, .int .i64 ax, .int .i64 ay], .agg #[.bool true, .int .i64 m, .int .i64 bx, .int .i64 bz]] w fun e w' => e = .returned (.tuple #[.agg #[.bool false, .int .i64 0, .int .i64 0, .int .i64 0], .int .i64 1]) ∧ Below w.heap.size w w' := by
  obtain ⟨hq0, hq3, hax, hay⟩ := turnF_in h0
  obtain ⟨hp0, hp3, hbx, hbz⟩ := turnF_in h1
  have c1 := fun w => rcheckTurn_ok false n ax ay w h0
  have c2 := fun w => rcheckTurn_ok true m bx bz w h1
  have c3 := fun w => thenOf_false_true n ax ay m bx bz w (by omega) (by omega) hax hay hbx hbz
  have c4 := fun w => isPoint_any (tpx true m bx ax ay) (tpy true m bz ax ay) w
  rw [h2] at c4
  clear h0 h1 h2 hax hay hbx hbz
  generalize tpx true m bx ax ay = X at *
  generalize tpy true m bz ax ay = Y at *
  generalize thQ true n m = Z at *
  have C1 := Lib.hid c1
  have C2 := Lib.hid c2
  have C3 := Lib.hid c3
  have C4 := Lib.hid c4
  clear c1 c2 c3 c4
  go_enter Try.func21, Try.ntmps21
  go_wp2_with fail
  refine (C1.out _).mono ?_
  rintro e w1 ⟨rfl, hb⟩
  obtain ⟨k0w1, g0w1⟩ := kp hb (b := w.heap.size) (cs := #[.bool false, .int .i64 n, .int .i64 ax, .int .i64 ay]) (by (first | (with_reducible exact Nat.le_refl _) | (with_reducible assumption) | omega | (simp only [World.size_alloc, World.size_setCell, World.size_drew]; omega) | (simp; omega) | (simp; done))) (fun i => by simp [go_sem]) (fun i => by simp [go_sem])
  obtain ⟨k1w1, g1w1⟩ := kp hb (b := w.heap.size + 1) (cs := #[.bool true, .int .i64 m, .int .i64 bx, .int .i64 bz]) (by (first | (with_reducible exact Nat.le_refl _) | (with_reducible assumption) | omega | (simp only [World.size_alloc, World.size_setCell, World.size_drew]; omega) | (simp; omega) | (simp; done))) (fun i => by simp [go_sem]) (fun i => by simp [go_sem])
  obtain ⟨k2w1, g2w1⟩ := kp hb (b := w.heap.size + 1 + 1) (cs := #[.bool false, .int .i64 0, .int .i64 0, .int .i64 0]) (by (first | (with_reducible exact Nat.le_refl _) | (with_reducible assumption) | omega | (simp only [World.size_alloc, World.size_setCell, World.size_drew]; omega) | (simp; omega) | (simp; done))) (fun i => by simp [go_sem]) (fun i => by simp [go_sem])
  have zw1 := hb.size
  have Bw1 := up (B := w.heap.size) (w := w) (by (repeat' (first | (with_reducible exact Below.refl _ _) | (with_reducible assumption) | (with_reducible refine Below.alloc ?_ ?_ _) | (with_reducible refine Below.drew ?_) | (with_reducible refine Below.setCell ?_ ?_ _) | (with_reducible exact Nat.le_refl _) | omega | (simp only [World.size_alloc, World.size_setCell, World.size_drew]; omega) | (simp; omega) | (simp; done)))) hb (by (first | (with_reducible exact Nat.le_refl _) | (with_reducible assumption) | omega | (simp only [World.size_alloc, World.size_setCell, World.size_drew]; omega) | (simp; omega) | (simp; done)))
  try simp only [World.size_alloc, World.size_setCell] at zw1
  have l0w1 : w.heap.size < w1.heap.size := by (first | (with_reducible exact Nat.le_refl _) | (with_reducible assumption) | omega | (simp only [World.size_alloc, World.size_setCell, World.size_drew]; omega) | (simp; omega) | (simp; done))
  have l1w1 : w.heap.size + 1 < w1.heap.size := by (first | (with_reducible exact Nat.le_refl _) | (with_reducible assumption) | omega | (simp only [World.size_alloc, World.size_setCell, World.size_drew]; omega) | (simp; omega) | (simp; done))
  have l2w1 : w.heap.size + 1 + 1 < w1.heap.size := by (first | (with_reducible exact Nat.le_refl _) | (with_reducible assumption) | omega | (simp only [World.size_alloc, World.size_setCell, World.size_drew]; omega) | (simp; omega) | (simp; done))
  clear hb
  go_wp2_with fail
  refine (C2.out _).mono ?_
  rintro e w2 ⟨rfl, hb⟩
  obtain ⟨k0w2, g0w2⟩ := kp hb (b := w.heap.size) (cs := #[.bool false, .int .i64 n, .int .i64 ax, .int .i64 ay]) (by (first | (with_reducible exact Nat.le_refl _) | (with_reducible assumption) | omega | (simp only [World.size_alloc, World.size_setCell, World.size_drew]; omega) | (simp; omega) | (simp; done))) (fun i => by simp [go_sem, k0w1, g0w1, l0w1, k1w1, g1w1, l1w1, k2w1, g2w1, l2w1]) (fun i => by simp [go_sem, k0w1, g0w1, l0w1, k1w1, g1w1, l1w1, k2w1, g2w1, l2w1])
  obtain ⟨k1w2, g1w2⟩ := kp hb (b := w.heap.size + 1) (cs := #[.bool true, .int .i64 m, .int .i64 bx, .int .i64 bz]) (by (first | (with_reducible exact Nat.le_refl _) | (with_reducible assumption) | omega | (simp only [World.size_alloc, World.size_setCell, World.size_drew]; omega) | (simp; omega) | (simp; done))) (fun i => by simp [go_sem, k0w1, g0w1, l0w1, k1w1, g1w1, l1w1, k2w1, g2w1, l2w1]) (fun i => by simp [go_sem, k0w1, g0w1, l0w1, k1w1, g1w1, l1w1, k2w1, g2w1, l2w1])
  obtain ⟨k2w2, g2w2⟩ := kp hb (b := w.heap.size + 1 + 1) (cs := #[.bool false, .int .i64 0, .int .i64 0, .int .i64 0]) (by (first | (with_reducible exact Nat.le_refl _) | (with_reducible assumption) | omega | (simp only [World.size_alloc, World.size_setCell, World.size_drew]; omega) | (simp; omega) | (simp; done))) (fun i => by simp [go_sem, k0w1, g0w1, l0w1, k1w1, g1w1, l1w1, k2w1, g2w1, l2w1]) (fun i => by simp [go_sem, k0w1, g0w1, l0w1, k1w1, g1w1, l1w1, k2w1, g2w1, l2w1])
  have zw2 := hb.size
  have Bw2 := up (B := w.heap.size) (w := w) (by (repeat' (first | (with_reducible exact Below.refl _ _) | (with_reducible assumption) | (with_reducible refine Below.alloc ?_ ?_ _) | (with_reducible refine Below.drew ?_) | (with_reducible refine Below.setCell ?_ ?_ _) | (with_reducible exact Nat.le_refl _) | omega | (simp only [World.size_alloc, World.size_setCell, World.size_drew]; omega) | (simp; omega) | (simp; done)))) hb (by (first | (with_reducible exact Nat.le_refl _) | (with_reducible assumption) | omega | (simp only [World.size_alloc, World.size_setCell, World.size_drew]; omega) | (simp; omega) | (simp; done)))
  try simp only [World.size_alloc, World.size_setCell] at zw2
  have l0w2 : w.heap.size < w2.heap.size := by (first | (with_reducible exact Nat.le_refl _) | (with_reducible assumption) | omega | (simp only [World.size_alloc, World.size_setCell, World.size_drew]; omega) | (simp; omega) | (simp; done))
  have l1w2 : w.heap.size + 1 < w2.heap.size := by (first | (with_reducible exact Nat.le_refl _) | (with_reducible assumption) | omega | (simp only [World.size_alloc, World.size_setCell, World.size_drew]; omega) | (simp; omega) | (simp; done))
  have l2w2 : w.heap.size + 1 + 1 < w2.heap.size := by (first | (with_reducible exact Nat.le_refl _) | (with_reducible assumption) | omega | (simp only [World.size_alloc, World.size_setCell, World.size_drew]; omega) | (simp; omega) | (simp; done))
  clear hb
  go_wp2_with fail
  refine (C3.out _).mono ?_
  rintro e w3 ⟨rfl, hb⟩
  obtain ⟨k0w3, g0w3⟩ := kp hb (b := w.heap.size) (cs := #[.bool false, .int .i64 n, .int .i64 ax, .int .i64 ay]) (by (first | (with_reducible exact Nat.le_refl _) | (with_reducible assumption) | omega | (simp only [World.size_alloc, World.size_setCell, World.size_drew]; omega) | (simp; omega) | (simp; done))) (fun i => by simp [go_sem, k0w2, g0w2, l0w2, k1w2, g1w2, l1w2, k2w2, g2w2, l2w2]) (fun i => by simp [go_sem, k0w2, g0w2, l0w2, k1w2, g1w2, l1w2, k2w2, g2w2, l2w2])
  obtain ⟨k1w3, g1w3⟩ := kp hb (b := w.heap.size + 1) (cs := #[.bool true, .int .i64 m, .int .i64 bx, .int .i64 bz]) (by (first | (with_reducible exact Nat.le_refl _) | (with_reducible assumption) | omega | (simp only [World.size_alloc, World.size_setCell, World.size_drew]; omega) | (simp; omega) | (simp; done))) (fun i => by simp [go_sem, k0w2, g0w2, l0w2, k1w2, g1w2, l1w2, k2w2, g2w2, l2w2]) (fun i => by simp [go_sem, k0w2, g0w2, l0w2, k1w2, g1w2, l1w2, k2w2, g2w2, l2w2])
  obtain ⟨k2w3, g2w3⟩ := kp hb (b := w.heap.size + 1 + 1) (cs := #[.bool false, .int .i64 0, .int .i64 0, .int .i64 0]) (by (first | (with_reducible exact Nat.le_refl _) | (with_reducible assumption) | omega | (simp only [World.size_alloc, World.size_setCell, World.size_drew]; omega) | (simp; omega) | (simp; done))) (fun i => by simp [go_sem, k0w2, g0w2, l0w2, k1w2, g1w2, l1w2, k2w2, g2w2, l2w2]) (fun i => by simp [go_sem, k0w2, g0w2, l0w2, k1w2, g1w2, l1w2, k2w2, g2w2, l2w2])
  have zw3 := hb.size
  have Bw3 := up (B := w.heap.size) (w := w) (by (repeat' (first | (with_reducible exact Below.refl _ _) | (with_reducible assumption) | (with_reducible refine Below.alloc ?_ ?_ _) | (with_reducible refine Below.drew ?_) | (with_reducible refine Below.setCell ?_ ?_ _) | (with_reducible exact Nat.le_refl _) | omega | (simp only [World.size_alloc, World.size_setCell, World.size_drew]; omega) | (simp; omega) | (simp; done)))) hb (by (first | (with_reducible exact Nat.le_refl _) | (with_reducible assumption) | omega | (simp only [World.size_alloc, World.size_setCell, World.size_drew]; omega) | (simp; omega) | (simp; done)))
  try simp only [World.size_alloc, World.size_setCell] at zw3
  have l0w3 : w.heap.size < w3.heap.size := by (first | (with_reducible exact Nat.le_refl _) | (with_reducible assumption) | omega | (simp only [World.size_alloc, World.size_setCell, World.size_drew]; omega) | (simp; omega) | (simp; done))
  have l1w3 : w.heap.size + 1 < w3.heap.size := by (first | (with_reducible exact Nat.le_refl _) | (with_reducible assumption) | omega | (simp only [World.size_alloc, World.size_setCell, World.size_drew]; omega) | (simp; omega) | (simp; done))
  have l2w3 : w.heap.size + 1 + 1 < w3.heap.size := by (first | (with_reducible exact Nat.le_refl _) | (with_reducible assumption) | omega | (simp only [World.size_alloc, World.size_setCell, World.size_drew]; omega) | (simp; omega) | (simp; done))
  clear hb
  go_wp2_with fail
  refine (C4.out _).mono ?_
  rintro e w4 ⟨rfl, hb⟩
  obtain ⟨k0w4, g0w4⟩ := kp hb (b := w.heap.size) (cs := #[.bool false, .int .i64 n, .int .i64 ax, .int .i64 ay]) (by (first | (with_reducible exact Nat.le_refl _) | (with_reducible assumption) | omega | (simp only [World.size_alloc, World.size_setCell, World.size_drew]; omega) | (simp; omega) | (simp; done))) (fun i => by simp [go_sem, k0w3, g0w3, l0w3, k1w3, g1w3, l1w3, k2w3, g2w3, l2w3]) (fun i => by simp [go_sem, k0w3, g0w3, l0w3, k1w3, g1w3, l1w3, k2w3, g2w3, l2w3])
  obtain ⟨k1w4, g1w4⟩ := kp hb (b := w.heap.size + 1) (cs := #[.bool true, .int .i64 m, .int .i64 bx, .int .i64 bz]) (by (first | (with_reducible exact Nat.le_refl _) | (with_reducible assumption) | omega | (simp only [World.size_alloc, World.size_setCell, World.size_drew]; omega) | (simp; omega) | (simp; done))) (fun i => by simp [go_sem, k0w3, g0w3, l0w3, k1w3, g1w3, l1w3, k2w3, g2w3, l2w3]) (fun i => by simp [go_sem, k0w3, g0w3, l0w3, k1w3, g1w3, l1w3, k2w3, g2w3, l2w3])
  obtain ⟨k2w4, g2w4⟩ := kp hb (b := w.heap.size + 1 + 1) (cs := #[.bool false, .int .i64 0, .int .i64 0, .int .i64 0]) (by (first | (with_reducible exact Nat.le_refl _) | (with_reducible assumption) | omega | (simp only [World.size_alloc, World.size_setCell, World.size_drew]; omega) | (simp; omega) | (simp; done))) (fun i => by simp [go_sem, k0w3, g0w3, l0w3, k1w3, g1w3, l1w3, k2w3, g2w3, l2w3]) (fun i => by simp [go_sem, k0w3, g0w3, l0w3, k1w3, g1w3, l1w3, k2w3, g2w3, l2w3])
  obtain ⟨k3w4, g3w4⟩ := kp hb (b := w3.heap.size) (cs := #[.bool (false != true), .int .i64 Z, .int .i64 X, .int .i64 Y]) (by (first | (with_reducible exact Nat.le_refl _) | (with_reducible assumption) | omega | (simp only [World.size_alloc, World.size_setCell, World.size_drew]; omega) | (simp; omega) | (simp; done))) (fun i => by simp [go_sem, k0w3, g0w3, l0w3, k1w3, g1w3, l1w3, k2w3, g2w3, l2w3]) (fun i => by simp [go_sem, k0w3, g0w3, l0w3, k1w3, g1w3, l1w3, k2w3, g2w3, l2w3])
  have zw4 := hb.size
  have Bw4 := up (B := w.heap.size) (w := w) (by (repeat' (first | (with_reducible exact Below.refl _ _) | (with_reducible assumption) | (with_reducible refine Below.alloc ?_ ?_ _) | (with_reducible refine Below.drew ?_) | (with_reducible refine Below.setCell ?_ ?_ _) | (with_reducible exact Nat.le_refl _) | omega | (simp only [World.size_alloc, World.size_setCell, World.size_drew]; omega) | (simp; omega) | (simp; done)))) hb (by (first | (with_reducible exact Nat.le_refl _) | (with_reducible assumption) | omega | (simp only [World.size_alloc, World.size_setCell, World.size_drew]; omega) | (simp; omega) | (simp; done)))
  try simp only [World.size_alloc, World.size_setCell] at zw4
  have l0w4 : w.heap.size < w4.heap.size := by (first | (with_reducible exact Nat.le_refl _) | (with_reducible assumption) | omega | (simp only [World.size_alloc, World.size_setCell, World.size_drew]; omega) | (simp; omega) | (simp; done))
  have l1w4 : w.heap.size + 1 < w4.heap.size := by (first | (with_reducible exact Nat.le_refl _) | (with_reducible assumption) | omega | (simp only [World.size_alloc, World.size_setCell, World.size_drew]; omega) | (simp; omega) | (simp; done))
  have l2w4 : w.heap.size + 1 + 1 < w4.heap.size := by (first | (with_reducible exact Nat.le_refl _) | (with_reducible assumption) | omega | (simp only [World.size_alloc, World.size_setCell, World.size_drew]; omega) | (simp; omega) | (simp; done))
  have l3w4 : w3.heap.size < w4.heap.size := by (first | (with_reducible exact Nat.le_refl _) | (with_reducible assumption) | omega | (simp only [World.size_alloc, World.size_setCell, World.size_drew]; omega) | (simp; omega) | (simp; done))
  have n30 : ¬ w3.heap.size = w.heap.size := by omega
  have m30 : ¬ w.heap.size = w3.heap.size := by omega
  have n31 : ¬ w3.heap.size = w.heap.size + 1 := by omega
  have m31 : ¬ w.heap.size + 1 = w3.heap.size := by omega
  have n32 : ¬ w3.heap.size = w.heap.size + 1 + 1 := by omega
  have m32 : ¬ w.heap.size + 1 + 1 = w3.heap.size := by omega
  clear hb
  go_wp2_with fail
  refine bodyPost_ret (v := .tuple #[.agg #[.bool false, .int .i64 0, .int .i64 0, .int .i64 0], .int .i64 1]) (by simp [results, Try.results21, go_sem, k2w4, l2w4, n32, m32]) rfl ⟨rfl, ?_⟩
  (repeat' (first | (with_reducible exact Below.refl _ _) | (with_reducible assumption) | (with_reducible refine Below.alloc ?_ ?_ _) | (with_reducible refine Below.drew ?_) | (with_reducible refine Below.setCell ?_ ?_ _) | (with_reducible exact Nat.le_refl _) | omega | (simp only [World.size_alloc, World.size_setCell, World.size_drew]; omega) | (simp; omega) | (simp; done)))

set_option maxHeartbeats 400000 in
theorem rthen_bad3_true_true (n : Nat) (ax ay : Int) (m : Nat) (bx bz : Int) (w : World) (h0 : turnF n ax ay = 0) (h1 : turnF m bx bz = 0) (h2 : (okAt (tpx true m bx ax ay) && okAt (tpy true m bz ax ay)) = false) :
    Calls Try.prog 21 #[.agg #[.bool true, .int .i64 n, .int .i64 ax, .int .i64 ay], .agg #[.bool true, .int .i64 m, .int .i64 bx, .int .i64 bz]] w fun e w' => e = .returned (.tuple #[.agg #[.bool false, .int .i64 0, .int .i64 0, .int .i64 0], .int .i64 1]) ∧ Below w.heap.size w w' := by
  obtain ⟨hq0, hq3, hax, hay⟩ := turnF_in h0
  obtain ⟨hp0, hp3, hbx, hbz⟩ := turnF_in h1
  have c1 := fun w => rcheckTurn_ok true n ax ay w h0
  have c2 := fun w => rcheckTurn_ok true m bx bz w h1
  have c3 := fun w => thenOf_true_true n ax ay m bx bz w (by omega) (by omega) hax hay hbx hbz
  have c4 := fun w => isPoint_any (tpx true m bx ax ay) (tpy true m bz ax ay) w
  rw [h2] at c4
  clear h0 h1 h2 hax hay hbx hbz
  generalize tpx true m bx ax ay = X at *
  generalize tpy true m bz ax ay = Y at *
  generalize thQ true n m = Z at *
  have C1 := Lib.hid c1
  have C2 := Lib.hid c2
  have C3 := Lib.hid c3
  have C4 := Lib.hid c4
  clear c1 c2 c3 c4
  go_enter Try.func21, Try.ntmps21
  go_wp2_with fail
  refine (C1.out _).mono ?_
  rintro e w1 ⟨rfl, hb⟩
  obtain ⟨k0w1, g0w1⟩ := kp hb (b := w.heap.size) (cs := #[.bool true, .int .i64 n, .int .i64 ax, .int .i64 ay]) (by (first | (with_reducible exact Nat.le_refl _) | (with_reducible assumption) | omega | (simp only [World.size_alloc, World.size_setCell, World.size_drew]; omega) | (simp; omega) | (simp; done))) (fun i => by simp [go_sem]) (fun i => by simp [go_sem])
  obtain ⟨k1w1, g1w1⟩ := kp hb (b := w.heap.size + 1) (cs := #[.bool true, .int .i64 m, .int .i64 bx, .int .i64 bz]) (by (first | (with_reducible exact Nat.le_refl _) | (with_reducible assumption) | omega | (simp only [World.size_alloc, World.size_setCell, World.size_drew]; omega) | (simp; omega) | (simp; done))) (fun i => by simp [go_sem]) (fun i => by simp [go_sem])
  obtain ⟨k2w1, g2w1⟩ := kp hb (b := w.heap.size + 1 + 1) (cs := #[.bool false, .int .i64 0, .int .i64 0, .int .i64 0]) (by (first | (with_reducible exact Nat.le_refl _) | (with_reducible assumption) | omega | (simp only [World.size_alloc, World.size_setCell, World.size_drew]; omega) | (simp; omega) | (simp; done))) (fun i => by simp [go_sem]) (fun i => by simp [go_sem])
  have zw1 := hb.size
  have Bw1 := up (B := w.heap.size) (w := w) (by (repeat' (first | (with_reducible exact Below.refl _ _) | (with_reducible assumption) | (with_reducible refine Below.alloc ?_ ?_ _) | (with_reducible refine Below.drew ?_) | (with_reducible refine Below.setCell ?_ ?_ _) | (with_reducible exact Nat.le_refl _) | omega | (simp only [World.size_alloc, World.size_setCell, World.size_drew]; omega) | (simp; omega) | (simp; done)))) hb (by (first | (with_reducible exact Nat.le_refl _) | (with_reducible assumption) | omega | (simp only [World.size_alloc, World.size_setCell, World.size_drew]; omega) | (simp; omega) | (simp; done)))
  try simp only [World.size_alloc, World.size_setCell] at zw1
  have l0w1 : w.heap.size < w1.heap.size := by (first | (with_reducible exact Nat.le_refl _) | (with_reducible assumption) | omega | (simp only [World.size_alloc, World.size_setCell, World.size_drew]; omega) | (simp; omega) | (simp; done))
  have l1w1 : w.heap.size + 1 < w1.heap.size := by (first | (with_reducible exact Nat.le_refl _) | (with_reducible assumption) | omega | (simp only [World.size_alloc, World.size_setCell, World.size_drew]; omega) | (simp; omega) | (simp; done))
  have l2w1 : w.heap.size + 1 + 1 < w1.heap.size := by (first | (with_reducible exact Nat.le_refl _) | (with_reducible assumption) | omega | (simp only [World.size_alloc, World.size_setCell, World.size_drew]; omega) | (simp; omega) | (simp; done))
  clear hb
  go_wp2_with fail
  refine (C2.out _).mono ?_
  rintro e w2 ⟨rfl, hb⟩
  obtain ⟨k0w2, g0w2⟩ := kp hb (b := w.heap.size) (cs := #[.bool true, .int .i64 n, .int .i64 ax, .int .i64 ay]) (by (first | (with_reducible exact Nat.le_refl _) | (with_reducible assumption) | omega | (simp only [World.size_alloc, World.size_setCell, World.size_drew]; omega) | (simp; omega) | (simp; done))) (fun i => by simp [go_sem, k0w1, g0w1, l0w1, k1w1, g1w1, l1w1, k2w1, g2w1, l2w1]) (fun i => by simp [go_sem, k0w1, g0w1, l0w1, k1w1, g1w1, l1w1, k2w1, g2w1, l2w1])
  obtain ⟨k1w2, g1w2⟩ := kp hb (b := w.heap.size + 1) (cs := #[.bool true, .int .i64 m, .int .i64 bx, .int .i64 bz]) (by (first | (with_reducible exact Nat.le_refl _) | (with_reducible assumption) | omega | (simp only [World.size_alloc, World.size_setCell, World.size_drew]; omega) | (simp; omega) | (simp; done))) (fun i => by simp [go_sem, k0w1, g0w1, l0w1, k1w1, g1w1, l1w1, k2w1, g2w1, l2w1]) (fun i => by simp [go_sem, k0w1, g0w1, l0w1, k1w1, g1w1, l1w1, k2w1, g2w1, l2w1])
  obtain ⟨k2w2, g2w2⟩ := kp hb (b := w.heap.size + 1 + 1) (cs := #[.bool false, .int .i64 0, .int .i64 0, .int .i64 0]) (by (first | (with_reducible exact Nat.le_refl _) | (with_reducible assumption) | omega | (simp only [World.size_alloc, World.size_setCell, World.size_drew]; omega) | (simp; omega) | (simp; done))) (fun i => by simp [go_sem, k0w1, g0w1, l0w1, k1w1, g1w1, l1w1, k2w1, g2w1, l2w1]) (fun i => by simp [go_sem, k0w1, g0w1, l0w1, k1w1, g1w1, l1w1, k2w1, g2w1, l2w1])
  have zw2 := hb.size
  have Bw2 := up (B := w.heap.size) (w := w) (by (repeat' (first | (with_reducible exact Below.refl _ _) | (with_reducible assumption) | (with_reducible refine Below.alloc ?_ ?_ _) | (with_reducible refine Below.drew ?_) | (with_reducible refine Below.setCell ?_ ?_ _) | (with_reducible exact Nat.le_refl _) | omega | (simp only [World.size_alloc, World.size_setCell, World.size_drew]; omega) | (simp; omega) | (simp; done)))) hb (by (first | (with_reducible exact Nat.le_refl _) | (with_reducible assumption) | omega | (simp only [World.size_alloc, World.size_setCell, World.size_drew]; omega) | (simp; omega) | (simp; done)))
  try simp only [World.size_alloc, World.size_setCell] at zw2
  have l0w2 : w.heap.size < w2.heap.size := by (first | (with_reducible exact Nat.le_refl _) | (with_reducible assumption) | omega | (simp only [World.size_alloc, World.size_setCell, World.size_drew]; omega) | (simp; omega) | (simp; done))
  have l1w2 : w.heap.size + 1 < w2.heap.size := by (first | (with_reducible exact Nat.le_refl _) | (with_reducible assumption) | omega | (simp only [World.size_alloc, World.size_setCell, World.size_drew]; omega) | (simp; omega) | (simp; done))
  have l2w2 : w.heap.size + 1 + 1 < w2.heap.size := by (first | (with_reducible exact Nat.le_refl _) | (with_reducible assumption) | omega | (simp only [World.size_alloc, World.size_setCell, World.size_drew]; omega) | (simp; omega) | (simp; done))
  clear hb
  go_wp2_with fail
  refine (C3.out _).mono ?_
  rintro e w3 ⟨rfl, hb⟩
  obtain ⟨k0w3, g0w3⟩ := kp hb (b := w.heap.size) (cs := #[.bool true, .int .i64 n, .int .i64 ax, .int .i64 ay]) (by (first | (with_reducible exact Nat.le_refl _) | (with_reducible assumption) | omega | (simp only [World.size_alloc, World.size_setCell, World.size_drew]; omega) | (simp; omega) | (simp; done))) (fun i => by simp [go_sem, k0w2, g0w2, l0w2, k1w2, g1w2, l1w2, k2w2, g2w2, l2w2]) (fun i => by simp [go_sem, k0w2, g0w2, l0w2, k1w2, g1w2, l1w2, k2w2, g2w2, l2w2])
  obtain ⟨k1w3, g1w3⟩ := kp hb (b := w.heap.size + 1) (cs := #[.bool true, .int .i64 m, .int .i64 bx, .int .i64 bz]) (by (first | (with_reducible exact Nat.le_refl _) | (with_reducible assumption) | omega | (simp only [World.size_alloc, World.size_setCell, World.size_drew]; omega) | (simp; omega) | (simp; done))) (fun i => by simp [go_sem, k0w2, g0w2, l0w2, k1w2, g1w2, l1w2, k2w2, g2w2, l2w2]) (fun i => by simp [go_sem, k0w2, g0w2, l0w2, k1w2, g1w2, l1w2, k2w2, g2w2, l2w2])
  obtain ⟨k2w3, g2w3⟩ := kp hb (b := w.heap.size + 1 + 1) (cs := #[.bool false, .int .i64 0, .int .i64 0, .int .i64 0]) (by (first | (with_reducible exact Nat.le_refl _) | (with_reducible assumption) | omega | (simp only [World.size_alloc, World.size_setCell, World.size_drew]; omega) | (simp; omega) | (simp; done))) (fun i => by simp [go_sem, k0w2, g0w2, l0w2, k1w2, g1w2, l1w2, k2w2, g2w2, l2w2]) (fun i => by simp [go_sem, k0w2, g0w2, l0w2, k1w2, g1w2, l1w2, k2w2, g2w2, l2w2])
  have zw3 := hb.size
  have Bw3 := up (B := w.heap.size) (w := w) (by (repeat' (first | (with_reducible exact Below.refl _ _) | (with_reducible assumption) | (with_reducible refine Below.alloc ?_ ?_ _) | (with_reducible refine Below.drew ?_) | (with_reducible refine Below.setCell ?_ ?_ _) | (with_reducible exact Nat.le_refl _) | omega | (simp only [World.size_alloc, World.size_setCell, World.size_drew]; omega) | (simp; omega) | (simp; done)))) hb (by (first | (with_reducible exact Nat.le_refl _) | (with_reducible assumption) | omega | (simp only [World.size_alloc, World.size_setCell, World.size_drew]; omega) | (simp; omega) | (simp; done)))
  try simp only [World.size_alloc, World.size_setCell] at zw3
  have l0w3 : w.heap.size < w3.heap.size := by (first | (with_reducible exact Nat.le_refl _) | (with_reducible assumption) | omega | (simp only [World.size_alloc, World.size_setCell, World.size_drew]; omega) | (simp; omega) | (simp; done))
  have l1w3 : w.heap.size + 1 < w3.heap.size := by (first | (with_reducible exact Nat.le_refl _) | (with_reducible assumption) | omega | (simp only [World.size_alloc, World.size_setCell, World.size_drew]; omega) | (simp; omega) | (simp; done))
  have l2w3 : w.heap.size + 1 + 1 < w3.heap.size := by (first | (with_reducible exact Nat.le_refl _) | (with_reducible assumption) | omega | (simp only [World.size_alloc, World.size_setCell, World.size_drew]; omega) | (simp; omega) | (simp; done))
  clear hb
  go_wp2_with fail
  refine (C4.out _).mono ?_
  rintro e w4 ⟨rfl, hb⟩
  obtain ⟨k0w4, g0w4⟩ := kp hb (b := w.heap.size) (cs := #[.bool true, .int .i64 n, .int .i64 ax, .int .i64 ay]) (by (first | (with_reducible exact Nat.le_refl _) | (with_reducible assumption) | omega | (simp only [World.size_alloc, World.size_setCell, World.size_drew]; omega) | (simp; omega) | (simp; done))) (fun i => by simp [go_sem, k0w3, g0w3, l0w3, k1w3, g1w3, l1w3, k2w3, g2w3, l2w3]) (fun i => by simp [go_sem, k0w3, g0w3, l0w3, k1w3, g1w3, l1w3, k2w3, g2w3, l2w3])
  obtain ⟨k1w4, g1w4⟩ := kp hb (b := w.heap.size + 1) (cs := #[.bool true, .int .i64 m, .int .i64 bx, .int .i64 bz]) (by (first | (with_reducible exact Nat.le_refl _) | (with_reducible assumption) | omega | (simp only [World.size_alloc, World.size_setCell, World.size_drew]; omega) | (simp; omega) | (simp; done))) (fun i => by simp [go_sem, k0w3, g0w3, l0w3, k1w3, g1w3, l1w3, k2w3, g2w3, l2w3]) (fun i => by simp [go_sem, k0w3, g0w3, l0w3, k1w3, g1w3, l1w3, k2w3, g2w3, l2w3])
  obtain ⟨k2w4, g2w4⟩ := kp hb (b := w.heap.size + 1 + 1) (cs := #[.bool false, .int .i64 0, .int .i64 0, .int .i64 0]) (by (first | (with_reducible exact Nat.le_refl _) | (with_reducible assumption) | omega | (simp only [World.size_alloc, World.size_setCell, World.size_drew]; omega) | (simp; omega) | (simp; done))) (fun i => by simp [go_sem, k0w3, g0w3, l0w3, k1w3, g1w3, l1w3, k2w3, g2w3, l2w3]) (fun i => by simp [go_sem, k0w3, g0w3, l0w3, k1w3, g1w3, l1w3, k2w3, g2w3, l2w3])
  obtain ⟨k3w4, g3w4⟩ := kp hb (b := w3.heap.size) (cs := #[.bool (true != true), .int .i64 Z, .int .i64 X, .int .i64 Y]) (by (first | (with_reducible exact Nat.le_refl _) | (with_reducible assumption) | omega | (simp only [World.size_alloc, World.size_setCell, World.size_drew]; omega) | (simp; omega) | (simp; done))) (fun i => by simp [go_sem, k0w3, g0w3, l0w3, k1w3, g1w3, l1w3, k2w3, g2w3, l2w3]) (fun i => by simp [go_sem, k0w3, g0w3, l0w3, k1w3, g1w3, l1w3, k2w3, g2w3, l2w3])
  have zw4 := hb.size
  have Bw4 := up (B := w.heap.size) (w := w) (by (repeat' (first | (with_reducible exact Below.refl _ _) | (with_reducible assumption) | (with_reducible refine Below.alloc ?_ ?_ _) | (with_reducible refine Below.drew ?_) | (with_reducible refine Below.setCell ?_ ?_ _) | (with_reducible exact Nat.le_refl _) | omega | (simp only [World.size_alloc, World.size_setCell, World.size_drew]; omega) | (simp; omega) | (simp; done)))) hb (by (first | (with_reducible exact Nat.le_refl _) | (with_reducible assumption) | omega | (simp only [World.size_alloc, World.size_setCell, World.size_drew]; omega) | (simp; omega) | (simp; done)))
  try simp only [World.size_alloc, World.size_setCell] at zw4
  have l0w4 : w.heap.size < w4.heap.size := by (first | (with_reducible exact Nat.le_refl _) | (with_reducible assumption) | omega | (simp only [World.size_alloc, World.size_setCell, World.size_drew]; omega) | (simp; omega) | (simp; done))
  have l1w4 : w.heap.size + 1 < w4.heap.size := by (first | (with_reducible exact Nat.le_refl _) | (with_reducible assumption) | omega | (simp only [World.size_alloc, World.size_setCell, World.size_drew]; omega) | (simp; omega) | (simp; done))
  have l2w4 : w.heap.size + 1 + 1 < w4.heap.size := by (first | (with_reducible exact Nat.le_refl _) | (with_reducible assumption) | omega | (simp only [World.size_alloc, World.size_setCell, World.size_drew]; omega) | (simp; omega) | (simp; done))
  have l3w4 : w3.heap.size < w4.heap.size := by (first | (with_reducible exact Nat.le_refl _) | (with_reducible assumption) | omega | (simp only [World.size_alloc, World.size_setCell, World.size_drew]; omega) | (simp; omega) | (simp; done))
  have n30 : ¬ w3.heap.size = w.heap.size := by omega
  have m30 : ¬ w.heap.size = w3.heap.size := by omega
  have n31 : ¬ w3.heap.size = w.heap.size + 1 := by omega
  have m31 : ¬ w.heap.size + 1 = w3.heap.size := by omega
  have n32 : ¬ w3.heap.size = w.heap.size + 1 + 1 := by omega
  have m32 : ¬ w.heap.size + 1 + 1 = w3.heap.size := by omega
  clear hb
  go_wp2_with fail
  refine bodyPost_ret (v := .tuple #[.agg #[.bool false, .int .i64 0, .int .i64 0, .int .i64 0], .int .i64 1]) (by simp [results, Try.results21, go_sem, k2w4, l2w4, n32, m32]) rfl ⟨rfl, ?_⟩
  (repeat' (first | (with_reducible exact Below.refl _ _) | (with_reducible assumption) | (with_reducible refine Below.alloc ?_ ?_ _) | (with_reducible refine Below.drew ?_) | (with_reducible refine Below.setCell ?_ ?_ _) | (with_reducible exact Nat.le_refl _) | omega | (simp only [World.size_alloc, World.size_setCell, World.size_drew]; omega) | (simp; omega) | (simp; done)))

set_option maxHeartbeats 400000 in
theorem rthen_ok_false_false (n : Nat) (ax ay : Int) (m : Nat) (bx bz : Int) (w : World) (h0 : turnF n ax ay = 0) (h1 : turnF m bx bz = 0) (h2 : (okAt (tpx false m bx ax ay) && okAt (tpy false m bz ax ay)) = true) :
    Calls Try.prog 21 #[.agg #[.bool false, .int .i64 n, .int .i64 ax, .int .i64 ay], .agg #[.bool false, .int .i64 m, .int .i64 bx, .int .i64 bz]] w fun e w' => e = .returned (.tuple #[.agg #[.bool (false != false), .int .i64 (thQ false n m), .int .i64 (tpx false m bx ax ay), .int .i64 (tpy false m bz ax ay)], .int .i64 0]) ∧ Below w.heap.size w w' := by
  obtain ⟨hq0, hq3, hax, hay⟩ := turnF_in h0
  obtain ⟨hp0, hp3, hbx, hbz⟩ := turnF_in h1
  have c1 := fun w => rcheckTurn_ok false n ax ay w h0
  have c2 := fun w => rcheckTurn_ok false m bx bz w h1
  have c3 := fun w => thenOf_false_false n ax ay m bx bz w (by omega) (by omega) hax hay hbx hbz
  have c4 := fun w => isPoint_any (tpx false m bx ax ay) (tpy false m bz ax ay) w
  rw [h2] at c4
  clear h0 h1 h2 hax hay hbx hbz
  generalize tpx false m bx ax ay = X at *
  generalize tpy false m bz ax ay = Y at *
  generalize thQ false n m = Z at *
  have C1 := Lib.hid c1
  have C2 := Lib.hid c2
  have C3 := Lib.hid c3
  have C4 := Lib.hid c4
  clear c1 c2 c3 c4
  go_enter Try.func21, Try.ntmps21
  go_wp2_with fail
  refine (C1.out _).mono ?_
  rintro e w1 ⟨rfl, hb⟩
  obtain ⟨k0w1, g0w1⟩ := kp hb (b := w.heap.size) (cs := #[.bool false, .int .i64 n, .int .i64 ax, .int .i64 ay]) (by (first | (with_reducible exact Nat.le_refl _) | (with_reducible assumption) | omega | (simp only [World.size_alloc, World.size_setCell, World.size_drew]; omega) | (simp; omega) | (simp; done))) (fun i => by simp [go_sem]) (fun i => by simp [go_sem])
  obtain ⟨k1w1, g1w1⟩ := kp hb (b := w.heap.size + 1) (cs := #[.bool false, .int .i64 m, .int .i64 bx, .int .i64 bz]) (by (first | (with_reducible exact Nat.le_refl _) | (with_reducible assumption) | omega | (simp only [World.size_alloc, World.size_setCell, World.size_drew]; omega) | (simp; omega) | (simp; done))) (fun i => by simp [go_sem]) (fun i => by simp [go_sem])
  obtain ⟨k2w1, g2w1⟩ := kp hb (b := w.heap.size + 1 + 1) (cs := #[.bool false, .int .i64 0, .int .i64 0, .int .i64 0]) (by (first | (with_reducible exact Nat.le_refl _) | (with_reducible assumption) | omega | (simp only [World.size_alloc, World.size_setCell, World.size_drew]; omega) | (simp; omega) | (simp; done))) (fun i => by simp [go_sem]) (fun i => by simp [go_sem])
  have zw1 := hb.size
  have Bw1 := up (B := w.heap.size) (w := w) (by (repeat' (first | (with_reducible exact Below.refl _ _) | (with_reducible assumption) | (with_reducible refine Below.alloc ?_ ?_ _) | (with_reducible refine Below.drew ?_) | (with_reducible refine Below.setCell ?_ ?_ _) | (with_reducible exact Nat.le_refl _) | omega | (simp only [World.size_alloc, World.size_setCell, World.size_drew]; omega) | (simp; omega) | (simp; done)))) hb (by (first | (with_reducible exact Nat.le_refl _) | (with_reducible assumption) | omega | (simp only [World.size_alloc, World.size_setCell, World.size_drew]; omega) | (simp; omega) | (simp; done)))
  try simp only [World.size_alloc, World.size_setCell] at zw1
  have l0w1 : w.heap.size < w1.heap.size := by (first | (with_reducible exact Nat.le_refl _) | (with_reducible assumption) | omega | (simp only [World.size_alloc, World.size_setCell, World.size_drew]; omega) | (simp; omega) | (simp; done))
  have l1w1 : w.heap.size + 1 < w1.heap.size := by (first | (with_reducible exact Nat.le_refl _) | (with_reducible assumption) | omega | (simp only [World.size_alloc, World.size_setCell, World.size_drew]; omega) | (simp; omega) | (simp; done))
  have l2w1 : w.heap.size + 1 + 1 < w1.heap.size := by (first | (with_reducible exact Nat.le_refl _) | (with_reducible assumption) | omega | (simp only [World.size_alloc, World.size_setCell, World.size_drew]; omega) | (simp; omega) | (simp; done))
  clear hb
  go_wp2_with fail
  refine (C2.out _).mono ?_
  rintro e w2 ⟨rfl, hb⟩
  obtain ⟨k0w2, g0w2⟩ := kp hb (b := w.heap.size) (cs := #[.bool false, .int .i64 n, .int .i64 ax, .int .i64 ay]) (by (first | (with_reducible exact Nat.le_refl _) | (with_reducible assumption) | omega | (simp only [World.size_alloc, World.size_setCell, World.size_drew]; omega) | (simp; omega) | (simp; done))) (fun i => by simp [go_sem, k0w1, g0w1, l0w1, k1w1, g1w1, l1w1, k2w1, g2w1, l2w1]) (fun i => by simp [go_sem, k0w1, g0w1, l0w1, k1w1, g1w1, l1w1, k2w1, g2w1, l2w1])
  obtain ⟨k1w2, g1w2⟩ := kp hb (b := w.heap.size + 1) (cs := #[.bool false, .int .i64 m, .int .i64 bx, .int .i64 bz]) (by (first | (with_reducible exact Nat.le_refl _) | (with_reducible assumption) | omega | (simp only [World.size_alloc, World.size_setCell, World.size_drew]; omega) | (simp; omega) | (simp; done))) (fun i => by simp [go_sem, k0w1, g0w1, l0w1, k1w1, g1w1, l1w1, k2w1, g2w1, l2w1]) (fun i => by simp [go_sem, k0w1, g0w1, l0w1, k1w1, g1w1, l1w1, k2w1, g2w1, l2w1])
  obtain ⟨k2w2, g2w2⟩ := kp hb (b := w.heap.size + 1 + 1) (cs := #[.bool false, .int .i64 0, .int .i64 0, .int .i64 0]) (by (first | (with_reducible exact Nat.le_refl _) | (with_reducible assumption) | omega | (simp only [World.size_alloc, World.size_setCell, World.size_drew]; omega) | (simp; omega) | (simp; done))) (fun i => by simp [go_sem, k0w1, g0w1, l0w1, k1w1, g1w1, l1w1, k2w1, g2w1, l2w1]) (fun i => by simp [go_sem, k0w1, g0w1, l0w1, k1w1, g1w1, l1w1, k2w1, g2w1, l2w1])
  have zw2 := hb.size
  have Bw2 := up (B := w.heap.size) (w := w) (by (repeat' (first | (with_reducible exact Below.refl _ _) | (with_reducible assumption) | (with_reducible refine Below.alloc ?_ ?_ _) | (with_reducible refine Below.drew ?_) | (with_reducible refine Below.setCell ?_ ?_ _) | (with_reducible exact Nat.le_refl _) | omega | (simp only [World.size_alloc, World.size_setCell, World.size_drew]; omega) | (simp; omega) | (simp; done)))) hb (by (first | (with_reducible exact Nat.le_refl _) | (with_reducible assumption) | omega | (simp only [World.size_alloc, World.size_setCell, World.size_drew]; omega) | (simp; omega) | (simp; done)))
  try simp only [World.size_alloc, World.size_setCell] at zw2
  have l0w2 : w.heap.size < w2.heap.size := by (first | (with_reducible exact Nat.le_refl _) | (with_reducible assumption) | omega | (simp only [World.size_alloc, World.size_setCell, World.size_drew]; omega) | (simp; omega) | (simp; done))
  have l1w2 : w.heap.size + 1 < w2.heap.size := by (first | (with_reducible exact Nat.le_refl _) | (with_reducible assumption) | omega | (simp only [World.size_alloc, World.size_setCell, World.size_drew]; omega) | (simp; omega) | (simp; done))
  have l2w2 : w.heap.size + 1 + 1 < w2.heap.size := by (first | (with_reducible exact Nat.le_refl _) | (with_reducible assumption) | omega | (simp only [World.size_alloc, World.size_setCell, World.size_drew]; omega) | (simp; omega) | (simp; done))
  clear hb
  go_wp2_with fail
  refine (C3.out _).mono ?_
  rintro e w3 ⟨rfl, hb⟩
  obtain ⟨k0w3, g0w3⟩ := kp hb (b := w.heap.size) (cs := #[.bool false, .int .i64 n, .int .i64 ax, .int .i64 ay]) (by (first | (with_reducible exact Nat.le_refl _) | (with_reducible assumption) | omega | (simp only [World.size_alloc, World.size_setCell, World.size_drew]; omega) | (simp; omega) | (simp; done))) (fun i => by simp [go_sem, k0w2, g0w2, l0w2, k1w2, g1w2, l1w2, k2w2, g2w2, l2w2]) (fun i => by simp [go_sem, k0w2, g0w2, l0w2, k1w2, g1w2, l1w2, k2w2, g2w2, l2w2])
  obtain ⟨k1w3, g1w3⟩ := kp hb (b := w.heap.size + 1) (cs := #[.bool false, .int .i64 m, .int .i64 bx, .int .i64 bz]) (by (first | (with_reducible exact Nat.le_refl _) | (with_reducible assumption) | omega | (simp only [World.size_alloc, World.size_setCell, World.size_drew]; omega) | (simp; omega) | (simp; done))) (fun i => by simp [go_sem, k0w2, g0w2, l0w2, k1w2, g1w2, l1w2, k2w2, g2w2, l2w2]) (fun i => by simp [go_sem, k0w2, g0w2, l0w2, k1w2, g1w2, l1w2, k2w2, g2w2, l2w2])
  obtain ⟨k2w3, g2w3⟩ := kp hb (b := w.heap.size + 1 + 1) (cs := #[.bool false, .int .i64 0, .int .i64 0, .int .i64 0]) (by (first | (with_reducible exact Nat.le_refl _) | (with_reducible assumption) | omega | (simp only [World.size_alloc, World.size_setCell, World.size_drew]; omega) | (simp; omega) | (simp; done))) (fun i => by simp [go_sem, k0w2, g0w2, l0w2, k1w2, g1w2, l1w2, k2w2, g2w2, l2w2]) (fun i => by simp [go_sem, k0w2, g0w2, l0w2, k1w2, g1w2, l1w2, k2w2, g2w2, l2w2])
  have zw3 := hb.size
  have Bw3 := up (B := w.heap.size) (w := w) (by (repeat' (first | (with_reducible exact Below.refl _ _) | (with_reducible assumption) | (with_reducible refine Below.alloc ?_ ?_ _) | (with_reducible refine Below.drew ?_) | (with_reducible refine Below.setCell ?_ ?_ _) | (with_reducible exact Nat.le_refl _) | omega | (simp only [World.size_alloc, World.size_setCell, World.size_drew]; omega) | (simp; omega) | (simp; done)))) hb (by (first | (with_reducible exact Nat.le_refl _) | (with_reducible assumption) | omega | (simp only [World.size_alloc, World.size_setCell, World.size_drew]; omega) | (simp; omega) | (simp; done)))
  try simp only [World.size_alloc, World.size_setCell] at zw3
  have l0w3 : w.heap.size < w3.heap.size := by (first | (with_reducible exact Nat.le_refl _) | (with_reducible assumption) | omega | (simp only [World.size_alloc, World.size_setCell, World.size_drew]; omega) | (simp; omega) | (simp; done))
  have l1w3 : w.heap.size + 1 < w3.heap.size := by (first | (with_reducible exact Nat.le_refl _) | (with_reducible assumption) | omega | (simp only [World.size_alloc, World.size_setCell, World.size_drew]; omega) | (simp; omega) | (simp; done))
  have l2w3 : w.heap.size + 1 + 1 < w3.heap.size := by (first | (with_reducible exact Nat.le_refl _) | (with_reducible assumption) | omega | (simp only [World.size_alloc, World.size_setCell, World.size_drew]; omega) | (simp; omega) | (simp; done))
  clear hb
  go_wp2_with fail
  refine (C4.out _).mono ?_
  rintro e w4 ⟨rfl, hb⟩
  obtain ⟨k0w4, g0w4⟩ := kp hb (b := w.heap.size) (cs := #[.bool false, .int .i64 n, .int .i64 ax, .int .i64 ay]) (by (first | (with_reducible exact Nat.le_refl _) | (with_reducible assumption) | omega | (simp only [World.size_alloc, World.size_setCell, World.size_drew]; omega) | (simp; omega) | (simp; done))) (fun i => by simp [go_sem, k0w3, g0w3, l0w3, k1w3, g1w3, l1w3, k2w3, g2w3, l2w3]) (fun i => by simp [go_sem, k0w3, g0w3, l0w3, k1w3, g1w3, l1w3, k2w3, g2w3, l2w3])
  obtain ⟨k1w4, g1w4⟩ := kp hb (b := w.heap.size + 1) (cs := #[.bool false, .int .i64 m, .int .i64 bx, .int .i64 bz]) (by (first | (with_reducible exact Nat.le_refl _) | (with_reducible assumption) | omega | (simp only [World.size_alloc, World.size_setCell, World.size_drew]; omega) | (simp; omega) | (simp; done))) (fun i => by simp [go_sem, k0w3, g0w3, l0w3, k1w3, g1w3, l1w3, k2w3, g2w3, l2w3]) (fun i => by simp [go_sem, k0w3, g0w3, l0w3, k1w3, g1w3, l1w3, k2w3, g2w3, l2w3])
  obtain ⟨k2w4, g2w4⟩ := kp hb (b := w.heap.size + 1 + 1) (cs := #[.bool false, .int .i64 0, .int .i64 0, .int .i64 0]) (by (first | (with_reducible exact Nat.le_refl _) | (with_reducible assumption) | omega | (simp only [World.size_alloc, World.size_setCell, World.size_drew]; omega) | (simp; omega) | (simp; done))) (fun i => by simp [go_sem, k0w3, g0w3, l0w3, k1w3, g1w3, l1w3, k2w3, g2w3, l2w3]) (fun i => by simp [go_sem, k0w3, g0w3, l0w3, k1w3, g1w3, l1w3, k2w3, g2w3, l2w3])
  obtain ⟨k3w4, g3w4⟩ := kp hb (b := w3.heap.size) (cs := #[.bool (false != false), .int .i64 Z, .int .i64 X, .int .i64 Y]) (by (first | (with_reducible exact Nat.le_refl _) | (with_reducible assumption) | omega | (simp only [World.size_alloc, World.size_setCell, World.size_drew]; omega) | (simp; omega) | (simp; done))) (fun i => by simp [go_sem, k0w3, g0w3, l0w3, k1w3, g1w3, l1w3, k2w3, g2w3, l2w3]) (fun i => by simp [go_sem, k0w3, g0w3, l0w3, k1w3, g1w3, l1w3, k2w3, g2w3, l2w3])
  have zw4 := hb.size
  have Bw4 := up (B := w.heap.size) (w := w) (by (repeat' (first | (with_reducible exact Below.refl _ _) | (with_reducible assumption) | (with_reducible refine Below.alloc ?_ ?_ _) | (with_reducible refine Below.drew ?_) | (with_reducible refine Below.setCell ?_ ?_ _) | (with_reducible exact Nat.le_refl _) | omega | (simp only [World.size_alloc, World.size_setCell, World.size_drew]; omega) | (simp; omega) | (simp; done)))) hb (by (first | (with_reducible exact Nat.le_refl _) | (with_reducible assumption) | omega | (simp only [World.size_alloc, World.size_setCell, World.size_drew]; omega) | (simp; omega) | (simp; done)))
  try simp only [World.size_alloc, World.size_setCell] at zw4
  have l0w4 : w.heap.size < w4.heap.size := by (first | (with_reducible exact Nat.le_refl _) | (with_reducible assumption) | omega | (simp only [World.size_alloc, World.size_setCell, World.size_drew]; omega) | (simp; omega) | (simp; done))
  have l1w4 : w.heap.size + 1 < w4.heap.size := by (first | (with_reducible exact Nat.le_refl _) | (with_reducible assumption) | omega | (simp only [World.size_alloc, World.size_setCell, World.size_drew]; omega) | (simp; omega) | (simp; done))
  have l2w4 : w.heap.size + 1 + 1 < w4.heap.size := by (first | (with_reducible exact Nat.le_refl _) | (with_reducible assumption) | omega | (simp only [World.size_alloc, World.size_setCell, World.size_drew]; omega) | (simp; omega) | (simp; done))
  have l3w4 : w3.heap.size < w4.heap.size := by (first | (with_reducible exact Nat.le_refl _) | (with_reducible assumption) | omega | (simp only [World.size_alloc, World.size_setCell, World.size_drew]; omega) | (simp; omega) | (simp; done))
  have n30 : ¬ w3.heap.size = w.heap.size := by omega
  have m30 : ¬ w.heap.size = w3.heap.size := by omega
  have n31 : ¬ w3.heap.size = w.heap.size + 1 := by omega
  have m31 : ¬ w.heap.size + 1 = w3.heap.size := by omega
  have n32 : ¬ w3.heap.size = w.heap.size + 1 + 1 := by omega
  have m32 : ¬ w.heap.size + 1 + 1 = w3.heap.size := by omega
  clear hb
  go_wp2_with fail
  refine bodyPost_ret (v := .tuple #[.agg #[.bool (false != false), .int .i64 Z, .int .i64 X, .int .i64 Y], .int .i64 0]) (by simp [results, Try.results21, go_sem, k2w4, l2w4, n32, m32]) rfl ⟨rfl, ?_⟩
  (repeat' (first | (with_reducible exact Below.refl _ _) | (with_reducible assumption) | (with_reducible refine Below.alloc ?_ ?_ _) | (with_reducible refine Below.drew ?_) | (with_reducible refine Below.setCell ?_ ?_ _) | (with_reducible exact Nat.le_refl _) | omega | (simp only [World.size_alloc, World.size_setCell, World.size_drew]; omega) | (simp; omega) | (simp; done)))

set_option maxHeartbeats 400000 in
theorem rthen_ok_true_false (n : Nat) (ax ay : Int) (m : Nat) (bx bz : Int) (w : World) (h0 : turnF n ax ay = 0) (h1 : turnF m bx bz = 0) (h2 : (okAt (tpx false m bx ax ay) && okAt (tpy false m bz ax ay)) = true) :
    Calls Try.prog 21 #[.agg #[.bool true, .int .i64 n, .int .i64 ax, .int .i64 ay], .agg #[.bool false, .int .i64 m, .int .i64 bx, .int .i64 bz]] w fun e w' => e = .returned (.tuple #[.agg #[.bool (true != false), .int .i64 (thQ false n m), .int .i64 (tpx false m bx ax ay), .int .i64 (tpy false m bz ax ay)], .int .i64 0]) ∧ Below w.heap.size w w' := by
  obtain ⟨hq0, hq3, hax, hay⟩ := turnF_in h0
  obtain ⟨hp0, hp3, hbx, hbz⟩ := turnF_in h1
  have c1 := fun w => rcheckTurn_ok true n ax ay w h0
  have c2 := fun w => rcheckTurn_ok false m bx bz w h1
  have c3 := fun w => thenOf_true_false n ax ay m bx bz w (by omega) (by omega) hax hay hbx hbz
  have c4 := fun w => isPoint_any (tpx false m bx ax ay) (tpy false m bz ax ay) w
  rw [h2] at c4
  clear h0 h1 h2 hax hay hbx hbz
  generalize tpx false m bx ax ay = X at *
  generalize tpy false m bz ax ay = Y at *
  generalize thQ false n m = Z at *
  have C1 := Lib.hid c1
  have C2 := Lib.hid c2
  have C3 := Lib.hid c3
  have C4 := Lib.hid c4
  clear c1 c2 c3 c4
  go_enter Try.func21, Try.ntmps21
  go_wp2_with fail
  refine (C1.out _).mono ?_
  rintro e w1 ⟨rfl, hb⟩
  obtain ⟨k0w1, g0w1⟩ := kp hb (b := w.heap.size) (cs := #[.bool true, .int .i64 n, .int .i64 ax, .int .i64 ay]) (by (first | (with_reducible exact Nat.le_refl _) | (with_reducible assumption) | omega | (simp only [World.size_alloc, World.size_setCell, World.size_drew]; omega) | (simp; omega) | (simp; done))) (fun i => by simp [go_sem]) (fun i => by simp [go_sem])
  obtain ⟨k1w1, g1w1⟩ := kp hb (b := w.heap.size + 1) (cs := #[.bool false, .int .i64 m, .int .i64 bx, .int .i64 bz]) (by (first | (with_reducible exact Nat.le_refl _) | (with_reducible assumption) | omega | (simp only [World.size_alloc, World.size_setCell, World.size_drew]; omega) | (simp; omega) | (simp; done))) (fun i => by simp [go_sem]) (fun i => by simp [go_sem])
  obtain ⟨k2w1, g2w1⟩ := kp hb (b := w.heap.size + 1 + 1) (cs := #[.bool false, .int .i64 0, .int .i64 0, .int .i64 0]) (by (first | (with_reducible exact Nat.le_refl _) | (with_reducible assumption) | omega | (simp only [World.size_alloc, World.size_setCell, World.size_drew]; omega) | (simp; omega) | (simp; done))) (fun i => by simp [go_sem]) (fun i => by simp [go_sem])
  have zw1 := hb.size
  have Bw1 := up (B := w.heap.size) (w := w) (by (repeat' (first | (with_reducible exact Below.refl _ _) | (with_reducible assumption) | (with_reducible refine Below.alloc ?_ ?_ _) | (with_reducible refine Below.drew ?_) | (with_reducible refine Below.setCell ?_ ?_ _) | (with_reducible exact Nat.le_refl _) | omega | (simp only [World.size_alloc, World.size_setCell, World.size_drew]; omega) | (simp; omega) | (simp; done)))) hb (by (first | (with_reducible exact Nat.le_refl _) | (with_reducible assumption) | omega | (simp only [World.size_alloc, World.size_setCell, World.size_drew]; omega) | (simp; omega) | (simp; done)))
  try simp only [World.size_alloc, World.size_setCell] at zw1
  have l0w1 : w.heap.size < w1.heap.size := by (first | (with_reducible exact Nat.le_refl _) | (with_reducible assumption) | omega | (simp only [World.size_alloc, World.size_setCell, World.size_drew]; omega) | (simp; omega) | (simp; done))
  have l1w1 : w.heap.size + 1 < w1.heap.size := by (first | (with_reducible exact Nat.le_refl _) | (with_reducible assumption) | omega | (simp only [World.size_alloc, World.size_setCell, World.size_drew]; omega) | (simp; omega) | (simp; done))
  have l2w1 : w.heap.size + 1 + 1 < w1.heap.size := by (first | (with_reducible exact Nat.le_refl _) | (with_reducible assumption) | omega | (simp only [World.size_alloc, World.size_setCell, World.size_drew]; omega) | (simp; omega) | (simp; done))
  clear hb
  go_wp2_with fail
  refine (C2.out _).mono ?_
  rintro e w2 ⟨rfl, hb⟩
  obtain ⟨k0w2, g0w2⟩ := kp hb (b := w.heap.size) (cs := #[.bool true, .int .i64 n, .int .i64 ax, .int .i64 ay]) (by (first | (with_reducible exact Nat.le_refl _) | (with_reducible assumption) | omega | (simp only [World.size_alloc, World.size_setCell, World.size_drew]; omega) | (simp; omega) | (simp; done))) (fun i => by simp [go_sem, k0w1, g0w1, l0w1, k1w1, g1w1, l1w1, k2w1, g2w1, l2w1]) (fun i => by simp [go_sem, k0w1, g0w1, l0w1, k1w1, g1w1, l1w1, k2w1, g2w1, l2w1])
  obtain ⟨k1w2, g1w2⟩ := kp hb (b := w.heap.size + 1) (cs := #[.bool false, .int .i64 m, .int .i64 bx, .int .i64 bz]) (by (first | (with_reducible exact Nat.le_refl _) | (with_reducible assumption) | omega | (simp only [World.size_alloc, World.size_setCell, World.size_drew]; omega) | (simp; omega) | (simp; done))) (fun i => by simp [go_sem, k0w1, g0w1, l0w1, k1w1, g1w1, l1w1, k2w1, g2w1, l2w1]) (fun i => by simp [go_sem, k0w1, g0w1, l0w1, k1w1, g1w1, l1w1, k2w1, g2w1, l2w1])
  obtain ⟨k2w2, g2w2⟩ := kp hb (b := w.heap.size + 1 + 1) (cs := #[.bool false, .int .i64 0, .int .i64 0, .int .i64 0]) (by (first | (with_reducible exact Nat.le_refl _) | (with_reducible assumption) | omega | (simp only [World.size_alloc, World.size_setCell, World.size_drew]; omega) | (simp; omega) | (simp; done))) (fun i => by simp [go_sem, k0w1, g0w1, l0w1, k1w1, g1w1, l1w1, k2w1, g2w1, l2w1]) (fun i => by simp [go_sem, k0w1, g0w1, l0w1, k1w1, g1w1, l1w1, k2w1, g2w1, l2w1])
  have zw2 := hb.size
  have Bw2 := up (B := w.heap.size) (w := w) (by (repeat' (first | (with_reducible exact Below.refl _ _) | (with_reducible assumption) | (with_reducible refine Below.alloc ?_ ?_ _) | (with_reducible refine Below.drew ?_) | (with_reducible refine Below.setCell ?_ ?_ _) | (with_reducible exact Nat.le_refl _) | omega | (simp only [World.size_alloc, World.size_setCell, World.size_drew]; omega) | (simp; omega) | (simp; done)))) hb (by (first | (with_reducible exact Nat.le_refl _) | (with_reducible assumption) | omega | (simp only [World.size_alloc, World.size_setCell, World.size_drew]; omega) | (simp; omega) | (simp; done)))
  try simp only [World.size_alloc, World.size_setCell] at zw2
  have l0w2 : w.heap.size < w2.heap.size := by (first | (with_reducible exact Nat.le_refl _) | (with_reducible assumption) | omega | (simp only [World.size_alloc, World.size_setCell, World.size_drew]; omega) | (simp; omega) | (simp; done))
  have l1w2 : w.heap.size + 1 < w2.heap.size := by (first | (with_reducible exact Nat.le_refl _) | (with_reducible assumption) | omega | (simp only [World.size_alloc, World.size_setCell, World.size_drew]; omega) | (simp; omega) | (simp; done))
  have l2w2 : w.heap.size + 1 + 1 < w2.heap.size := by (first | (with_reducible exact Nat.le_refl _) | (with_reducible assumption) | omega | (simp only [World.size_alloc, World.size_setCell, World.size_drew]; omega) | (simp; omega) | (simp; done))
  clear hb
  go_wp2_with fail
  refine (C3.out _).mono ?_
  rintro e w3 ⟨rfl, hb⟩
  obtain ⟨k0w3, g0w3⟩ := kp hb (b := w.heap.size) (cs := #[.bool true, .int .i64 n, .int .i64 ax, .int .i64 ay]) (by (first | (with_reducible exact Nat.le_refl _) | (with_reducible assumption) | omega | (simp only [World.size_alloc, World.size_setCell, World.size_drew]; omega) | (simp; omega) | (simp; done))) (fun i => by simp [go_sem, k0w2, g0w2, l0w2, k1w2, g1w2, l1w2, k2w2, g2w2, l2w2]) (fun i => by simp [go_sem, k0w2, g0w2, l0w2, k1w2, g1w2, l1w2, k2w2, g2w2, l2w2])
  obtain ⟨k1w3, g1w3⟩ := kp hb (b := w.heap.size + 1) (cs := #[.bool false, .int .i64 m, .int .i64 bx, .int .i64 bz]) (by (first | (with_reducible exact Nat.le_refl _) | (with_reducible assumption) | omega | (simp only [World.size_alloc, World.size_setCell, World.size_drew]; omega) | (simp; omega) | (simp; done))) (fun i => by simp [go_sem, k0w2, g0w2, l0w2, k1w2, g1w2, l1w2, k2w2, g2w2, l2w2]) (fun i => by simp [go_sem, k0w2, g0w2, l0w2, k1w2, g1w2, l1w2, k2w2, g2w2, l2w2])
  obtain ⟨k2w3, g2w3⟩ := kp hb (b := w.heap.size + 1 + 1) (cs := #[.bool false, .int .i64 0, .int .i64 0, .int .i64 0]) (by (first | (with_reducible exact Nat.le_refl _) | (with_reducible assumption) | omega | (simp only [World.size_alloc, World.size_setCell, World.size_drew]; omega) | (simp; omega) | (simp; done))) (fun i => by simp [go_sem, k0w2, g0w2, l0w2, k1w2, g1w2, l1w2, k2w2, g2w2, l2w2]) (fun i => by simp [go_sem, k0w2, g0w2, l0w2, k1w2, g1w2, l1w2, k2w2, g2w2, l2w2])
  have zw3 := hb.size
  have Bw3 := up (B := w.heap.size) (w := w) (by (repeat' (first | (with_reducible exact Below.refl _ _) | (with_reducible assumption) | (with_reducible refine Below.alloc ?_ ?_ _) | (with_reducible refine Below.drew ?_) | (with_reducible refine Below.setCell ?_ ?_ _) | (with_reducible exact Nat.le_refl _) | omega | (simp only [World.size_alloc, World.size_setCell, World.size_drew]; omega) | (simp; omega) | (simp; done)))) hb (by (first | (with_reducible exact Nat.le_refl _) | (with_reducible assumption) | omega | (simp only [World.size_alloc, World.size_setCell, World.size_drew]; omega) | (simp; omega) | (simp; done)))
  try simp only [World.size_alloc, World.size_setCell] at zw3
  have l0w3 : w.heap.size < w3.heap.size := by (first | (with_reducible exact Nat.le_refl _) | (with_reducible assumption) | omega | (simp only [World.size_alloc, World.size_setCell, World.size_drew]; omega) | (simp; omega) | (simp; done))
  have l1w3 : w.heap.size + 1 < w3.heap.size := by (first | (with_reducible exact Nat.le_refl _) | (with_reducible assumption) | omega | (simp only [World.size_alloc, World.size_setCell, World.size_drew]; omega) | (simp; omega) | (simp; done))
  have l2w3 : w.heap.size + 1 + 1 < w3.heap.size := by (first | (with_reducible exact Nat.le_refl _) | (with_reducible assumption) | omega | (simp only [World.size_alloc, World.size_setCell, World.size_drew]; omega) | (simp; omega) | (simp; done))
  clear hb
  go_wp2_with fail
  refine (C4.out _).mono ?_
  rintro e w4 ⟨rfl, hb⟩
  obtain ⟨k0w4, g0w4⟩ := kp hb (b := w.heap.size) (cs := #[.bool true, .int .i64 n, .int .i64 ax, .int .i64 ay]) (by (first | (with_reducible exact Nat.le_refl _) | (with_reducible assumption) | omega | (simp only [World.size_alloc, World.size_setCell, World.size_drew]; omega) | (simp; omega) | (simp; done))) (fun i => by simp [go_sem, k0w3, g0w3, l0w3, k1w3, g1w3, l1w3, k2w3, g2w3, l2w3]) (fun i => by simp [go_sem, k0w3, g0w3, l0w3, k1w3, g1w3, l1w3, k2w3, g2w3, l2w3])
  obtain ⟨k1w4, g1w4⟩ := kp hb (b := w.heap.size + 1) (cs := #[.bool false, .int .i64 m, .int .i64 bx, .int .i64 bz]) (by (first | (with_reducible exact Nat.le_refl _) | (with_reducible assumption) | omega | (simp only [World.size_alloc, World.size_setCell, World.size_drew]; omega) | (simp; omega) | (simp; done))) (fun i => by simp [go_sem, k0w3, g0w3, l0w3, k1w3, g1w3, l1w3, k2w3, g2w3, l2w3]) (fun i => by simp [go_sem, k0w3, g0w3, l0w3, k1w3, g1w3, l1w3, k2w3, g2w3, l2w3])
  obtain ⟨k2w4, g2w4⟩ := kp hb (b := w.heap.size + 1 + 1) (cs := #[.bool false, .int .i64 0, .int .i64 0, .int .i64 0]) (by (first | (with_reducible exact Nat.le_refl _) | (with_reducible assumption) | omega | (simp only [World.size_alloc, World.size_setCell, World.size_drew]; omega) | (simp; omega) | (simp; done))) (fun i => by simp [go_sem, k0w3, g0w3, l0w3, k1w3, g1w3, l1w3, k2w3, g2w3, l2w3]) (fun i => by simp [go_sem, k0w3, g0w3, l0w3, k1w3, g1w3, l1w3, k2w3, g2w3, l2w3])
  obtain ⟨k3w4, g3w4⟩ := kp hb (b := w3.heap.size) (cs := #[.bool (true != false), .int .i64 Z, .int .i64 X, .int .i64 Y]) (by (first | (with_reducible exact Nat.le_refl _) | (with_reducible assumption) | omega | (simp only [World.size_alloc, World.size_setCell, World.size_drew]; omega) | (simp; omega) | (simp; done))) (fun i => by simp [go_sem, k0w3, g0w3, l0w3, k1w3, g1w3, l1w3, k2w3, g2w3, l2w3]) (fun i => by simp [go_sem, k0w3, g0w3, l0w3, k1w3, g1w3, l1w3, k2w3, g2w3, l2w3])
  have zw4 := hb.size
  have Bw4 := up (B := w.heap.size) (w := w) (by (repeat' (first | (with_reducible exact Below.refl _ _) | (with_reducible assumption) | (with_reducible refine Below.alloc ?_ ?_ _) | (with_reducible refine Below.drew ?_) | (with_reducible refine Below.setCell ?_ ?_ _) | (with_reducible exact Nat.le_refl _) | omega | (simp only [World.size_alloc, World.size_setCell, World.size_drew]; omega) | (simp; omega) | (simp; done)))) hb (by (first | (with_reducible exact Nat.le_refl _) | (with_reducible assumption) | omega | (simp only [World.size_alloc, World.size_setCell, World.size_drew]; omega) | (simp; omega) | (simp; done)))
  try simp only [World.size_alloc, World.size_setCell] at zw4
  have l0w4 : w.heap.size < w4.heap.size := by (first | (with_reducible exact Nat.le_refl _) | (with_reducible assumption) | omega | (simp only [World.size_alloc, World.size_setCell, World.size_drew]; omega) | (simp; omega) | (simp; done))
  have l1w4 : w.heap.size + 1 < w4.heap.size := by (first | (with_reducible exact Nat.le_refl _) | (with_reducible assumption) | omega | (simp only [World.size_alloc, World.size_setCell, World.size_drew]; omega) | (simp; omega) | (simp; done))
  have l2w4 : w.heap.size + 1 + 1 < w4.heap.size := by (first | (with_reducible exact Nat.le_refl _) | (with_reducible assumption) | omega | (simp only [World.size_alloc, World.size_setCell, World.size_drew]; omega) | (simp; omega) | (simp; done))
  have l3w4 : w3.heap.size < w4.heap.size := by (first | (with_reducible exact Nat.le_refl _) | (with_reducible assumption) | omega | (simp only [World.size_alloc, World.size_setCell, World.size_drew]; omega) | (simp; omega) | (simp; done))
  have n30 : ¬ w3.heap.size = w.heap.size := by omega
  have m30 : ¬ w.heap.size = w3.heap.size := by omega
  have n31 : ¬ w3.heap.size = w.heap.size + 1 := by omega
  have m31 : ¬ w.heap.size + 1 = w3.heap.size := by omega
  have n32 : ¬ w3.heap.size = w.heap.size + 1 + 1 := by omega
  have m32 : ¬ w.heap.size + 1 + 1 = w3.heap.size := by omega
  clear hb
  go_wp2_with fail
  refine bodyPost_ret (v := .tuple #[.agg #[.bool (true != false), .int .i64 Z, .int .i64 X, .int .i64 Y], .int .i64 0]) (by simp [results, Try.results21, go_sem, k2w4, l2w4, n32, m32]) rfl ⟨rfl, ?_⟩
  (repeat' (first | (with_reducible exact Below.refl _ _) | (with_reducible assumption) | (with_reducible refine Below.alloc ?_ ?_ _) | (with_reducible refine Below.drew ?_) | (with_reducible refine Below.setCell ?_ ?_ _) | (with_reducible exact Nat.le_refl _) | omega | (simp only [World.size_alloc, World.size_setCell, World.size_drew]; omega) | (simp; omega) | (simp; done)))

set_option maxHeartbeats 400000 in
theorem rthen_ok_false_true (n : Nat) (ax ay : Int) (m : Nat) (bx bz : Int) (w : World) (h0 : turnF n ax ay = 0) (h1 : turnF m bx bz = 0) (h2 : (okAt (tpx true m bx ax ay) && okAt (tpy true m bz ax ay)) = true) :
    Calls Try.prog 21 #[.agg #[.bool false, .int .i64 n, .int .i64 ax, .int .i64 ay], .agg #[.bool true, .int .i64 m, .int .i64 bx, .int .i64 bz]] w fun e w' => e = .returned (.tuple #[.agg #[.bool (false != true), .int .i64 (thQ true n m), .int .i64 (tpx true m bx ax ay), .int .i64 (tpy true m bz ax ay)], .int .i64 0]) ∧ Below w.heap.size w w' := by
  obtain ⟨hq0, hq3, hax, hay⟩ := turnF_in h0
  obtain ⟨hp0, hp3, hbx, hbz⟩ := turnF_in h1
  have c1 := fun w => rcheckTurn_ok false n ax ay w h0
  have c2 := fun w => rcheckTurn_ok true m bx bz w h1
  have c3 := fun w => thenOf_false_true n ax ay m bx bz w (by omega) (by omega) hax hay hbx hbz
  have c4 := fun w => isPoint_any (tpx true m bx ax ay) (tpy true m bz ax ay) w
  rw [h2] at c4
  clear h0 h1 h2 hax hay hbx hbz
  generalize tpx true m bx ax ay = X at *
  generalize tpy true m bz ax ay = Y at *
  generalize thQ true n m = Z at *
  have C1 := Lib.hid c1
  have C2 := Lib.hid c2
  have C3 := Lib.hid c3
  have C4 := Lib.hid c4
  clear c1 c2 c3 c4
  go_enter Try.func21, Try.ntmps21
  go_wp2_with fail
  refine (C1.out _).mono ?_
  rintro e w1 ⟨rfl, hb⟩
  obtain ⟨k0w1, g0w1⟩ := kp hb (b := w.heap.size) (cs := #[.bool false, .int .i64 n, .int .i64 ax, .int .i64 ay]) (by (first | (with_reducible exact Nat.le_refl _) | (with_reducible assumption) | omega | (simp only [World.size_alloc, World.size_setCell, World.size_drew]; omega) | (simp; omega) | (simp; done))) (fun i => by simp [go_sem]) (fun i => by simp [go_sem])
  obtain ⟨k1w1, g1w1⟩ := kp hb (b := w.heap.size + 1) (cs := #[.bool true, .int .i64 m, .int .i64 bx, .int .i64 bz]) (by (first | (with_reducible exact Nat.le_refl _) | (with_reducible assumption) | omega | (simp only [World.size_alloc, World.size_setCell, World.size_drew]; omega) | (simp; omega) | (simp; done))) (fun i => by simp [go_sem]) (fun i => by simp [go_sem])
  obtain ⟨k2w1, g2w1⟩ := kp hb (b := w.heap.size + 1 + 1) (cs := #[.bool false, .int .i64 0, .int .i64 0, .int .i64 0]) (by (first | (with_reducible exact Nat.le_refl _) | (with_reducible assumption) | omega | (simp only [World.size_alloc, World.size_setCell, World.size_drew]; omega) | (simp; omega) | (simp; done))) (fun i => by simp [go_sem]) (fun i => by simp [go_sem])
  have zw1 := hb.size
  have Bw1 := up (B := w.heap.size) (w := w) (by (repeat' (first | (with_reducible exact Below.refl _ _) | (with_reducible assumption) | (with_reducible refine Below.alloc ?_ ?_ _) | (with_reducible refine Below.drew ?_) | (with_reducible refine Below.setCell ?_ ?_ _) | (with_reducible exact Nat.le_refl _) | omega | (simp only [World.size_alloc, World.size_setCell, World.size_drew]; omega) | (simp; omega) | (simp; done)))) hb (by (first | (with_reducible exact Nat.le_refl _) | (with_reducible assumption) | omega | (simp only [World.size_alloc, World.size_setCell, World.size_drew]; omega) | (simp; omega) | (simp; done)))
  try simp only [World.size_alloc, World.size_setCell] at zw1
  have l0w1 : w.heap.size < w1.heap.size := by (first | (with_reducible exact Nat.le_refl _) | (with_reducible assumption) | omega | (simp only [World.size_alloc, World.size_setCell, World.size_drew]; omega) | (simp; omega) | (simp; done))
  have l1w1 : w.heap.size + 1 < w1.heap.size := by (first | (with_reducible exact Nat.le_refl _) | (with_reducible assumption) | omega | (simp only [World.size_alloc, World.size_setCell, World.size_drew]; omega) | (simp; omega) | (simp; done))
  have l2w1 : w.heap.size + 1 + 1 < w1.heap.size := by (first | (with_reducible exact Nat.le_refl _) | (with_reducible assumption) | omega | (simp only [World.size_alloc, World.size_setCell, World.size_drew]; omega) | (simp; omega) | (simp; done))
  clear hb
  go_wp2_with fail
  refine (C2.out _).mono ?_
  rintro e w2 ⟨rfl, hb⟩
  obtain ⟨k0w2, g0w2⟩ := kp hb (b := w.heap.size) (cs := #[.bool false, .int .i64 n, .int .i64 ax, .int .i64 ay]) (by (first | (with_reducible exact Nat.le_refl _) | (with_reducible assumption) | omega | (simp only [World.size_alloc, World.size_setCell, World.size_drew]; omega) | (simp; omega) | (simp; done))) (fun i => by simp [go_sem, k0w1, g0w1, l0w1, k1w1, g1w1, l1w1, k2w1, g2w1, l2w1]) (fun i => by simp [go_sem, k0w1, g0w1, l0w1, k1w1, g1w1, l1w1, k2w1, g2w1, l2w1])
  obtain ⟨k1w2, g1w2⟩ := kp hb (b := w.heap.size + 1) (cs := #[.bool true, .int .i64 m, .int .i64 bx, .int .i64 bz]) (by (first | (with_reducible exact Nat.le_refl _) | (with_reducible assumption) | omega | (simp only [World.size_alloc, World.size_setCell, World.size_drew]; omega) | (simp; omega) | (simp; done))) (fun i => by simp [go_sem, k0w1, g0w1, l0w1, k1w1, g1w1, l1w1, k2w1, g2w1, l2w1]) (fun i => by simp [go_sem, k0w1, g0w1, l0w1, k1w1, g1w1, l1w1, k2w1, g2w1, l2w1])
  obtain ⟨k2w2, g2w2⟩ := kp hb (b := w.heap.size + 1 + 1) (cs := #[.bool false, .int .i64 0, .int .i64 0, .int .i64 0]) (by (first | (with_reducible exact Nat.le_refl _) | (with_reducible assumption) | omega | (simp only [World.size_alloc, World.size_setCell, World.size_drew]; omega) | (simp; omega) | (simp; done))) (fun i => by simp [go_sem, k0w1, g0w1, l0w1, k1w1, g1w1, l1w1, k2w1, g2w1, l2w1]) (fun i => by simp [go_sem, k0w1, g0w1, l0w1, k1w1, g1w1, l1w1, k2w1, g2w1, l2w1])
  have zw2 := hb.size
  have Bw2 := up (B := w.heap.size) (w := w) (by (repeat' (first | (with_reducible exact Below.refl _ _) | (with_reducible assumption) | (with_reducible refine Below.alloc ?_ ?_ _) | (with_reducible refine Below.drew ?_) | (with_reducible refine Below.setCell ?_ ?_ _) | (with_reducible exact Nat.le_refl _) | omega | (simp only [World.size_alloc, World.size_setCell, World.size_drew]; omega) | (simp; omega) | (simp; done)))) hb (by (first | (with_reducible exact Nat.le_refl _) | (with_reducible assumption) | omega | (simp only [World.size_alloc, World.size_setCell, World.size_drew]; omega) | (simp; omega) | (simp; done)))
  try simp only [World.size_alloc, World.size_setCell] at zw2
  have l0w2 : w.heap.size < w2.heap.size := by (first | (with_reducible exact Nat.le_refl _) | (with_reducible assumption) | omega | (simp only [World.size_alloc, World.size_setCell, World.size_drew]; omega) | (simp; omega) | (simp; done))
  have l1w2 : w.heap.size + 1 < w2.heap.size := by (first | (with_reducible exact Nat.le_refl _) | (with_reducible assumption) | omega | (simp only [World.size_alloc, World.size_setCell, World.size_drew]; omega) | (simp; omega) | (simp; done))
  have l2w2 : w.heap.size + 1 + 1 < w2.heap.size := by (first | (with_reducible exact Nat.le_refl _) | (with_reducible assumption) | omega | (simp only [World.size_alloc, World.size_setCell, World.size_drew]; omega) | (simp; omega) | (simp; done))
  clear hb
  go_wp2_with fail
  refine (C3.out _).mono ?_
  rintro e w3 ⟨rfl, hb⟩
  obtain ⟨k0w3, g0w3⟩ := kp hb (b := w.heap.size) (cs := #[.bool false, .int .i64 n, .int .i64 ax, .int .i64 ay]) (by (first | (with_reducible exact Nat.le_refl _) | (with_reducible assumption) | omega | (simp only [World.size_alloc, World.size_setCell, World.size_drew]; omega) | (simp; omega) | (simp; done))) (fun i => by simp [go_sem, k0w2, g0w2, l0w2, k1w2, g1w2, l1w2, k2w2, g2w2, l2w2]) (fun i => by simp [go_sem, k0w2, g0w2, l0w2, k1w2, g1w2, l1w2, k2w2, g2w2, l2w2])
  obtain ⟨k1w3, g1w3⟩ := kp hb (b := w.heap.size + 1) (cs := #[.bool true, .int .i64 m, .int .i64 bx, .int .i64 bz]) (by (first | (with_reducible exact Nat.le_refl _) | (with_reducible assumption) | omega | (simp only [World.size_alloc, World.size_setCell, World.size_drew]; omega) | (simp; omega) | (simp; done))) (fun i => by simp [go_sem, k0w2, g0w2, l0w2, k1w2, g1w2, l1w2, k2w2, g2w2, l2w2]) (fun i => by simp [go_sem, k0w2, g0w2, l0w2, k1w2, g1w2, l1w2, k2w2, g2w2, l2w2])
  obtain ⟨k2w3, g2w3⟩ := kp hb (b := w.heap.size + 1 + 1) (cs := #[.bool false, .int .i64 0, .int .i64 0, .int .i64 0]) (by (first | (with_reducible exact Nat.le_refl _) | (with_reducible assumption) | omega | (simp only [World.size_alloc, World.size_setCell, World.size_drew]; omega) | (simp; omega) | (simp; done))) (fun i => by simp [go_sem, k0w2, g0w2, l0w2, k1w2, g1w2, l1w2, k2w2, g2w2, l2w2]) (fun i => by simp [go_sem, k0w2, g0w2, l0w2, k1w2, g1w2, l1w2, k2w2, g2w2, l2w2])
  have zw3 := hb.size
  have Bw3 := up (B := w.heap.size) (w := w) (by (repeat' (first | (with_reducible exact Below.refl _ _) | (with_reducible assumption) | (with_reducible refine Below.alloc ?_ ?_ _) | (with_reducible refine Below.drew ?_) | (with_reducible refine Below.setCell ?_ ?_ _) | (with_reducible exact Nat.le_refl _) | omega | (simp only [World.size_alloc, World.size_setCell, World.size_drew]; omega) | (simp; omega) | (simp; done)))) hb (by (first | (with_reducible exact Nat.le_refl _) | (with_reducible assumption) | omega | (simp only [World.size_alloc, World.size_setCell, World.size_drew]; omega) | (simp; omega) | (simp; done)))
  try simp only [World.size_alloc, World.size_setCell] at zw3
  have l0w3 : w.heap.size < w3.heap.size := by (first | (with_reducible exact Nat.le_refl _) | (with_reducible assumption) | omega | (simp only [World.size_alloc, World.size_setCell, World.size_drew]; omega) | (simp; omega) | (simp; done))
  have l1w3 : w.heap.size + 1 < w3.heap.size := by (first | (with_reducible exact Nat.le_refl _) | (with_reducible assumption) | omega | (simp only [World.size_alloc, World.size_setCell, World.size_drew]; omega) | (simp; omega) | (simp; done))
  have l2w3 : w.heap.size + 1 + 1 < w3.heap.size := by (first | (with_reducible exact Nat.le_refl _) | (with_reducible assumption) | omega | (simp only [World.size_alloc, World.size_setCell, World.size_drew]; omega) | (simp; omega) | (simp; done))
  clear hb
  go_wp2_with fail
  refine (C4.out _).mono ?_
  rintro e w4 ⟨rfl, hb⟩
  obtain ⟨k0w4, g0w4⟩ := kp hb (b := w.heap.size) (cs := #[.bool false, .int .i64 n, .int .i64 ax, .int .i64 ay]) (by (first | (with_reducible exact Nat.le_refl _) | (with_reducible assumption) | omega | (simp only [World.size_alloc, World.size_setCell, World.size_drew]; omega) | (simp; omega) | (simp; done))) (fun i => by simp [go_sem, k0w3, g0w3, l0w3, k1w3, g1w3, l1w3, k2w3, g2w3, l2w3]) (fun i => by simp [go_sem, k0w3, g0w3, l0w3, k1w3, g1w3, l1w3, k2w3, g2w3, l2w3])
  obtain ⟨k1w4, g1w4⟩ := kp hb (b := w.heap.size + 1) (cs := #[.bool true, .int .i64 m, .int .i64 bx, .int .i64 bz]) (by (first | (with_reducible exact Nat.le_refl _) | (with_reducible assumption) | omega | (simp only [World.size_alloc, World.size_setCell, World.size_drew]; omega) | (simp; omega) | (simp; done))) (fun i => by simp [go_sem, k0w3, g0w3, l0w3, k1w3, g1w3, l1w3, k2w3, g2w3, l2w3]) (fun i => by simp [go_sem, k0w3, g0w3, l0w3, k1w3, g1w3, l1w3, k2w3, g2w3, l2w3])
  obtain ⟨k2w4, g2w4⟩ := kp hb (b := w.heap.size + 1 + 1) (cs := #[.bool false, .int .i64 0, .int .i64 0, .int .i64 0]) (by (first | (with_reducible exact Nat.le_refl _) | (with_reducible assumption) | omega | (simp only [World.size_alloc, World.size_setCell, World.size_drew]; omega) | (simp; omega) | (simp; done))) (fun i => by simp [go_sem, k0w3, g0w3, l0w3, k1w3, g1w3, l1w3, k2w3, g2w3, l2w3]) (fun i => by simp [go_sem, k0w3, g0w3, l0w3, k1w3, g1w3, l1w3, k2w3, g2w3, l2w3])
  obtain ⟨k3w4, g3w4⟩ := kp hb (b := w3.heap.size) (cs := #[.bool (false != true), .int .i64 Z, .int .i64 X, .int .i64 Y]) (by (first | (with_reducible exact Nat.le_refl _) | (with_reducible assumption) | omega | (simp only [World.size_alloc, World.size_setCell, World.size_drew]; omega) | (simp; omega) | (simp; done))) (fun i => by simp [go_sem, k0w3, g0w3, l0w3, k1w3, g1w3, l1w3, k2w3, g2w3, l2w3]) (fun i => by simp [go_sem, k0w3, g0w3, l0w3, k1w3, g1w3, l1w3, k2w3, g2w3, l2w3])
  have zw4 := hb.size
  have Bw4 := up (B := w.heap.size) (w := w) (by (repeat' (first | (with_reducible exact Below.refl _ _) | (with_reducible assumption) | (with_reducible refine Below.alloc ?_ ?_ _) | (with_reducible refine Below.drew ?_) | (with_reducible refine Below.setCell ?_ ?_ _) | (with_reducible exact Nat.le_refl _) | omega | (simp only [World.size_alloc, World.size_setCell, World.size_drew]; omega) | (simp; omega) | (simp; done)))) hb (by (first | (with_reducible exact Nat.le_refl _) | (with_reducible assumption) | omega | (simp only [World.size_alloc, World.size_setCell, World.size_drew]; omega) | (simp; omega) | (simp; done)))
  try simp only [World.size_alloc, World.size_setCell] at zw4
  have l0w4 : w.heap.size < w4.heap.size := by (first | (with_reducible exact Nat.le_refl _) | (with_reducible assumption) | omega | (simp only [World.size_alloc, World.size_setCell, World.size_drew]; omega) | (simp; omega) | (simp; done))
  have l1w4 : w.heap.size + 1 < w4.heap.size := by (first | (with_reducible exact Nat.le_refl _) | (with_reducible assumption) | omega | (simp only [World.size_alloc, World.size_setCell, World.size_drew]; omega) | (simp; omega) | (simp; done))
  have l2w4 : w.heap.size + 1 + 1 < w4.heap.size := by (first | (with_reducible exact Nat.le_refl _) | (with_reducible assumption) | omega | (simp only [World.size_alloc, World.size_setCell, World.size_drew]; omega) | (simp; omega) | (simp; done))
  have l3w4 : w3.heap.size < w4.heap.size := by (first | (with_reducible exact Nat.le_refl _) | (with_reducible assumption) | omega | (simp only [World.size_alloc, World.size_setCell, World.size_drew]; omega) | (simp; omega) | (simp; done))
  have n30 : ¬ w3.heap.size = w.heap.size := by omega
  have m30 : ¬ w.heap.size = w3.heap.size := by omega
  have n31 : ¬ w3.heap.size = w.heap.size + 1 := by omega
  have m31 : ¬ w.heap.size + 1 = w3.heap.size := by omega
  have n32 : ¬ w3.heap.size = w.heap.size + 1 + 1 := by omega
  have m32 : ¬ w.heap.size + 1 + 1 = w3.heap.size := by omega
  clear hb
  go_wp2_with fail
  refine bodyPost_ret (v := .tuple #[.agg #[.bool (false != true), .int .i64 Z, .int .i64 X, .int .i64 Y], .int .i64 0]) (by simp [results, Try.results21, go_sem, k2w4, l2w4, n32, m32]) rfl ⟨rfl, ?_⟩
  (repeat' (first | (with_reducible exact Below.refl _ _) | (with_reducible assumption) | (with_reducible refine Below.alloc ?_ ?_ _) | (with_reducible refine Below.drew ?_) | (with_reducible refine Below.setCell ?_ ?_ _) | (with_reducible exact Nat.le_refl _) | omega | (simp only [World.size_alloc, World.size_setCell, World.size_drew]; omega) | (simp; omega) | (simp; done)))

set_option maxHeartbeats 400000 in
theorem rthen_ok_true_true (n : Nat) (ax ay : Int) (m : Nat) (bx bz : Int) (w : World) (h0 : turnF n ax ay = 0) (h1 : turnF m bx bz = 0) (h2 : (okAt (tpx true m bx ax ay) && okAt (tpy true m bz ax ay)) = true) :
    Calls Try.prog 21 #[.agg #[.bool true, .int .i64 n, .int .i64 ax, .int .i64 ay], .agg #[.bool true, .int .i64 m, .int .i64 bx, .int .i64 bz]] w fun e w' => e = .returned (.tuple #[.agg #[.bool (true != true), .int .i64 (thQ true n m), .int .i64 (tpx true m bx ax ay), .int .i64 (tpy true m bz ax ay)], .int .i64 0]) ∧ Below w.heap.size w w' := by
  obtain ⟨hq0, hq3, hax, hay⟩ := turnF_in h0
  obtain ⟨hp0, hp3, hbx, hbz⟩ := turnF_in h1
  have c1 := fun w => rcheckTurn_ok true n ax ay w h0
  have c2 := fun w => rcheckTurn_ok true m bx bz w h1
  have c3 := fun w => thenOf_true_true n ax ay m bx bz w (by omega) (by omega) hax hay hbx hbz
  have c4 := fun w => isPoint_any (tpx true m bx ax ay) (tpy true m bz ax ay) w
  rw [h2] at c4
  clear h0 h1 h2 hax hay hbx hbz
  generalize tpx true m bx ax ay = X at *
  generalize tpy true m bz ax ay = Y at *
  generalize thQ true n m = Z at *
  have C1 := Lib.hid c1
  have C2 := Lib.hid c2
  have C3 := Lib.hid c3
  have C4 := Lib.hid c4
  clear c1 c2 c3 c4
  go_enter Try.func21, Try.ntmps21
  go_wp2_with fail
  refine (C1.out _).mono ?_
  rintro e w1 ⟨rfl, hb⟩
  obtain ⟨k0w1, g0w1⟩ := kp hb (b := w.heap.size) (cs := #[.bool true, .int .i64 n, .int .i64 ax, .int .i64 ay]) (by (first | (with_reducible exact Nat.le_refl _) | (with_reducible assumption) | omega | (simp only [World.size_alloc, World.size_setCell, World.size_drew]; omega) | (simp; omega) | (simp; done))) (fun i => by simp [go_sem]) (fun i => by simp [go_sem])
  obtain ⟨k1w1, g1w1⟩ := kp hb (b := w.heap.size + 1) (cs := #[.bool true, .int .i64 m, .int .i64 bx, .int .i64 bz]) (by (first | (with_reducible exact Nat.le_refl _) | (with_reducible assumption) | omega | (simp only [World.size_alloc, World.size_setCell, World.size_drew]; omega) | (simp; omega) | (simp; done))) (fun i => by simp [go_sem]) (fun i => by simp [go_sem])
  obtain ⟨k2w1, g2w1⟩ := kp hb (b := w.heap.size + 1 + 1) (cs := #[.bool false, .int .i64 0, .int .i64 0, .int .i64 0]) (by (first | (with_reducible exact Nat.le_refl _) | (with_reducible assumption) | omega | (simp only [World.size_alloc, World.size_setCell, World.size_drew]; omega) | (simp; omega) | (simp; done))) (fun i => by simp [go_sem]) (fun i => by simp [go_sem])
  have zw1 := hb.size
  have Bw1 := up (B := w.heap.size) (w := w) (by (repeat' (first | (with_reducible exact Below.refl _ _) | (with_reducible assumption) | (with_reducible refine Below.alloc ?_ ?_ _) | (with_reducible refine Below.drew ?_) | (with_reducible refine Below.setCell ?_ ?_ _) | (with_reducible exact Nat.le_refl _) | omega | (simp only [World.size_alloc, World.size_setCell, World.size_drew]; omega) | (simp; omega) | (simp; done)))) hb (by (first | (with_reducible exact Nat.le_refl _) | (with_reducible assumption) | omega | (simp only [World.size_alloc, World.size_setCell, World.size_drew]; omega) | (simp; omega) | (simp; done)))
  try simp only [World.size_alloc, World.size_setCell] at zw1
  have l0w1 : w.heap.size < w1.heap.size := by (first | (with_reducible exact Nat.le_refl _) | (with_reducible assumption) | omega | (simp only [World.size_alloc, World.size_setCell, World.size_drew]; omega) | (simp; omega) | (simp; done))
  have l1w1 : w.heap.size + 1 < w1.heap.size := by (first | (with_reducible exact Nat.le_refl _) | (with_reducible assumption) | omega | (simp only [World.size_alloc, World.size_setCell, World.size_drew]; omega) | (simp; omega) | (simp; done))
  have l2w1 : w.heap.size + 1 + 1 < w1.heap.size := by (first | (with_reducible exact Nat.le_refl _) | (with_reducible assumption) | omega | (simp only [World.size_alloc, World.size_setCell, World.size_drew]; omega) | (simp; omega) | (simp; done))
  clear hb
  go_wp2_with fail
  refine (C2.out _).mono ?_
  rintro e w2 ⟨rfl, hb⟩
  obtain ⟨k0w2, g0w2⟩ := kp hb (b := w.heap.size) (cs := #[.bool true, .int .i64 n, .int .i64 ax, .int .i64 ay]) (by (first | (with_reducible exact Nat.le_refl _) | (with_reducible assumption) | omega | (simp only [World.size_alloc, World.size_setCell, World.size_drew]; omega) | (simp; omega) | (simp; done))) (fun i => by simp [go_sem, k0w1, g0w1, l0w1, k1w1, g1w1, l1w1, k2w1, g2w1, l2w1]) (fun i => by simp [go_sem, k0w1, g0w1, l0w1, k1w1, g1w1, l1w1, k2w1, g2w1, l2w1])
  obtain ⟨k1w2, g1w2⟩ := kp hb (b := w.heap.size + 1) (cs := #[.bool true, .int .i64 m, .int .i64 bx, .int .i64 bz]) (by (first | (with_reducible exact Nat.le_refl _) | (with_reducible assumption) | omega | (simp only [World.size_alloc, World.size_setCell, World.size_drew]; omega) | (simp; omega) | (simp; done))) (fun i => by simp [go_sem, k0w1, g0w1, l0w1, k1w1, g1w1, l1w1, k2w1, g2w1, l2w1]) (fun i => by simp [go_sem, k0w1, g0w1, l0w1, k1w1, g1w1, l1w1, k2w1, g2w1, l2w1])
  obtain ⟨k2w2, g2w2⟩ := kp hb (b := w.heap.size + 1 + 1) (cs := #[.bool false, .int .i64 0, .int .i64 0, .int .i64 0]) (by (first | (with_reducible exact Nat.le_refl _) | (with_reducible assumption) | omega | (simp only [World.size_alloc, World.size_setCell, World.size_drew]; omega) | (simp; omega) | (simp; done))) (fun i => by simp [go_sem, k0w1, g0w1, l0w1, k1w1, g1w1, l1w1, k2w1, g2w1, l2w1]) (fun i => by simp [go_sem, k0w1, g0w1, l0w1, k1w1, g1w1, l1w1, k2w1, g2w1, l2w1])
  have zw2 := hb.size
  have Bw2 := up (B := w.heap.size) (w := w) (by (repeat' (first | (with_reducible exact Below.refl _ _) | (with_reducible assumption) | (with_reducible refine Below.alloc ?_ ?_ _) | (with_reducible refine Below.drew ?_) | (with_reducible refine Below.setCell ?_ ?_ _) | (with_reducible exact Nat.le_refl _) | omega | (simp only [World.size_alloc, World.size_setCell, World.size_drew]; omega) | (simp; omega) | (simp; done)))) hb (by (first | (with_reducible exact Nat.le_refl _) | (with_reducible assumption) | omega | (simp only [World.size_alloc, World.size_setCell, World.size_drew]; omega) | (simp; omega) | (simp; done)))
  try simp only [World.size_alloc, World.size_setCell] at zw2
  have l0w2 : w.heap.size < w2.heap.size := by (first | (with_reducible exact Nat.le_refl _) | (with_reducible assumption) | omega | (simp only [World.size_alloc, World.size_setCell, World.size_drew]; omega) | (simp; omega) | (simp; done))
  have l1w2 : w.heap.size + 1 < w2.heap.size := by (first | (with_reducible exact Nat.le_refl _) | (with_reducible assumption) | omega | (simp only [World.size_alloc, World.size_setCell, World.size_drew]; omega) | (simp; omega) | (simp; done))
  have l2w2 : w.heap.size + 1 + 1 < w2.heap.size := by (first | (with_reducible exact Nat.le_refl _) | (with_reducible assumption) | omega | (simp only [World.size_alloc, World.size_setCell, World.size_drew]; omega) | (simp; omega) | (simp; done))
  clear hb
  go_wp2_with fail
  refine (C3.out _).mono ?_
  rintro e w3 ⟨rfl, hb⟩
  obtain ⟨k0w3, g0w3⟩ := kp hb (b := w.heap.size) (cs := #[.bool true, .int .i64 n, .int .i64 ax, .int .i64 ay]) (by (first | (with_reducible exact Nat.le_refl _) | (with_reducible assumption) | omega | (simp only [World.size_alloc, World.size_setCell, World.size_drew]; omega) | (simp; omega) | (simp; done))) (fun i => by simp [go_sem, k0w2, g0w2, l0w2, k1w2, g1w2, l1w2, k2w2, g2w2, l2w2]) (fun i => by simp [go_sem, k0w2, g0w2, l0w2, k1w2, g1w2, l1w2, k2w2, g2w2, l2w2])
  obtain ⟨k1w3, g1w3⟩ := kp hb (b := w.heap.size + 1) (cs := #[.bool true, .int .i64 m, .int .i64 bx, .int .i64 bz]) (by (first | (with_reducible exact Nat.le_refl _) | (with_reducible assumption) | omega | (simp only [World.size_alloc, World.size_setCell, World.size_drew]; omega) | (simp; omega) | (simp; done))) (fun i => by simp [go_sem, k0w2, g0w2, l0w2, k1w2, g1w2, l1w2, k2w2, g2w2, l2w2]) (fun i => by simp [go_sem, k0w2, g0w2, l0w2, k1w2, g1w2, l1w2, k2w2, g2w2, l2w2])
  obtain ⟨k2w3, g2w3⟩ := kp hb (b := w.heap.size + 1 + 1) (cs := #[.bool false, .int .i64 0, .int .i64 0, .int .i64 0]) (by (first | (with_reducible exact Nat.le_refl _) | (with_reducible assumption) | omega | (simp only [World.size_alloc, World.size_setCell, World.size_drew]; omega) | (simp; omega) | (simp; done))) (fun i => by simp [go_sem, k0w2, g0w2, l0w2, k1w2, g1w2, l1w2, k2w2, g2w2, l2w2]) (fun i => by simp [go_sem, k0w2, g0w2, l0w2, k1w2, g1w2, l1w2, k2w2, g2w2, l2w2])
  have zw3 := hb.size
  have Bw3 := up (B := w.heap.size) (w := w) (by (repeat' (first | (with_reducible exact Below.refl _ _) | (with_reducible assumption) | (with_reducible refine Below.alloc ?_ ?_ _) | (with_reducible refine Below.drew ?_) | (with_reducible refine Below.setCell ?_ ?_ _) | (with_reducible exact Nat.le_refl _) | omega | (simp only [World.size_alloc, World.size_setCell, World.size_drew]; omega) | (simp; omega) | (simp; done)))) hb (by (first | (with_reducible exact Nat.le_refl _) | (with_reducible assumption) | omega | (simp only [World.size_alloc, World.size_setCell, World.size_drew]; omega) | (simp; omega) | (simp; done)))
  try simp only [World.size_alloc, World.size_setCell] at zw3
  have l0w3 : w.heap.size < w3.heap.size := by (first | (with_reducible exact Nat.le_refl _) | (with_reducible assumption) | omega | (simp only [World.size_alloc, World.size_setCell, World.size_drew]; omega) | (simp; omega) | (simp; done))
  have l1w3 : w.heap.size + 1 < w3.heap.size := by (first | (with_reducible exact Nat.le_refl _) | (with_reducible assumption) | omega | (simp only [World.size_alloc, World.size_setCell, World.size_drew]; omega) | (simp; omega) | (simp; done))
  have l2w3 : w.heap.size + 1 + 1 < w3.heap.size := by (first | (with_reducible exact Nat.le_refl _) | (with_reducible assumption) | omega | (simp only [World.size_alloc, World.size_setCell, World.size_drew]; omega) | (simp; omega) | (simp; done))
  clear hb
  go_wp2_with fail
  refine (C4.out _).mono ?_
  rintro e w4 ⟨rfl, hb⟩
  obtain ⟨k0w4, g0w4⟩ := kp hb (b := w.heap.size) (cs := #[.bool true, .int .i64 n, .int .i64 ax, .int .i64 ay]) (by (first | (with_reducible exact Nat.le_refl _) | (with_reducible assumption) | omega | (simp only [World.size_alloc, World.size_setCell, World.size_drew]; omega) | (simp; omega) | (simp; done))) (fun i => by simp [go_sem, k0w3, g0w3, l0w3, k1w3, g1w3, l1w3, k2w3, g2w3, l2w3]) (fun i => by simp [go_sem, k0w3, g0w3, l0w3, k1w3, g1w3, l1w3, k2w3, g2w3, l2w3])
  obtain ⟨k1w4, g1w4⟩ := kp hb (b := w.heap.size + 1) (cs := #[.bool true, .int .i64 m, .int .i64 bx, .int .i64 bz]) (by (first | (with_reducible exact Nat.le_refl _) | (with_reducible assumption) | omega | (simp only [World.size_alloc, World.size_setCell, World.size_drew]; omega) | (simp; omega) | (simp; done))) (fun i => by simp [go_sem, k0w3, g0w3, l0w3, k1w3, g1w3, l1w3, k2w3, g2w3, l2w3]) (fun i => by simp [go_sem, k0w3, g0w3, l0w3, k1w3, g1w3, l1w3, k2w3, g2w3, l2w3])
  obtain ⟨k2w4, g2w4⟩ := kp hb (b := w.heap.size + 1 + 1) (cs := #[.bool false, .int .i64 0, .int .i64 0, .int .i64 0]) (by (first | (with_reducible exact Nat.le_refl _) | (with_reducible assumption) | omega | (simp only [World.size_alloc, World.size_setCell, World.size_drew]; omega) | (simp; omega) | (simp; done))) (fun i => by simp [go_sem, k0w3, g0w3, l0w3, k1w3, g1w3, l1w3, k2w3, g2w3, l2w3]) (fun i => by simp [go_sem, k0w3, g0w3, l0w3, k1w3, g1w3, l1w3, k2w3, g2w3, l2w3])
  obtain ⟨k3w4, g3w4⟩ := kp hb (b := w3.heap.size) (cs := #[.bool (true != true), .int .i64 Z, .int .i64 X, .int .i64 Y]) (by (first | (with_reducible exact Nat.le_refl _) | (with_reducible assumption) | omega | (simp only [World.size_alloc, World.size_setCell, World.size_drew]; omega) | (simp; omega) | (simp; done))) (fun i => by simp [go_sem, k0w3, g0w3, l0w3, k1w3, g1w3, l1w3, k2w3, g2w3, l2w3]) (fun i => by simp [go_sem, k0w3, g0w3, l0w3, k1w3, g1w3, l1w3, k2w3, g2w3, l2w3])
  have zw4 := hb.size
  have Bw4 := up (B := w.heap.size) (w := w) (by (repeat' (first | (with_reducible exact Below.refl _ _) | (with_reducible assumption) | (with_reducible refine Below.alloc ?_ ?_ _) | (with_reducible refine Below.drew ?_) | (with_reducible refine Below.setCell ?_ ?_ _) | (with_reducible exact Nat.le_refl _) | omega | (simp only [World.size_alloc, World.size_setCell, World.size_drew]; omega) | (simp; omega) | (simp; done)))) hb (by (first | (with_reducible exact Nat.le_refl _) | (with_reducible assumption) | omega | (simp only [World.size_alloc, World.size_setCell, World.size_drew]; omega) | (simp; omega) | (simp; done)))
  try simp only [World.size_alloc, World.size_setCell] at zw4
  have l0w4 : w.heap.size < w4.heap.size := by (first | (with_reducible exact Nat.le_refl _) | (with_reducible assumption) | omega | (simp only [World.size_alloc, World.size_setCell, World.size_drew]; omega) | (simp; omega) | (simp; done))
  have l1w4 : w.heap.size + 1 < w4.heap.size := by (first | (with_reducible exact Nat.le_refl _) | (with_reducible assumption) | omega | (simp only [World.size_alloc, World.size_setCell, World.size_drew]; omega) | (simp; omega) | (simp; done))
  have l2w4 : w.heap.size + 1 + 1 < w4.heap.size := by (first | (with_reducible exact Nat.le_refl _) | (with_reducible assumption) | omega | (simp only [World.size_alloc, World.size_setCell, World.size_drew]; omega) | (simp; omega) | (simp; done))
  have l3w4 : w3.heap.size < w4.heap.size := by (first | (with_reducible exact Nat.le_refl _) | (with_reducible assumption) | omega | (simp only [World.size_alloc, World.size_setCell, World.size_drew]; omega) | (simp; omega) | (simp; done))
  have n30 : ¬ w3.heap.size = w.heap.size := by omega
  have m30 : ¬ w.heap.size = w3.heap.size := by omega
  have n31 : ¬ w3.heap.size = w.heap.size + 1 := by omega
  have m31 : ¬ w.heap.size + 1 = w3.heap.size := by omega
  have n32 : ¬ w3.heap.size = w.heap.size + 1 + 1 := by omega
  have m32 : ¬ w.heap.size + 1 + 1 = w3.heap.size := by omega
  clear hb
  go_wp2_with fail
  refine bodyPost_ret (v := .tuple #[.agg #[.bool (true != true), .int .i64 Z, .int .i64 X, .int .i64 Y], .int .i64 0]) (by simp [results, Try.results21, go_sem, k2w4, l2w4, n32, m32]) rfl ⟨rfl, ?_⟩
  (repeat' (first | (with_reducible exact Below.refl _ _) | (with_reducible assumption) | (with_reducible refine Below.alloc ?_ ?_ _) | (with_reducible refine Below.drew ?_) | (with_reducible refine Below.setCell ?_ ?_ _) | (with_reducible exact Nat.le_refl _) | omega | (simp only [World.size_alloc, World.size_setCell, World.size_drew]; omega) | (simp; omega) | (simp; done)))
end Go.Proofs.Ytemnhkfedjhpiaa

/- Turned, of the program and of the reference, returns what tdV says; CheckTurn of the reference. -/
import Derived.Test.YtemnhkfedjhpiaaTurnB
namespace Go.Proofs.Ytemnhkfedjhpiaa
open Go.RowKit
set_option linter.unusedSimpArgs false
set_option linter.unusedVariables false
theorem within_any (n lo hi : Int) (w : World) : Calls Try.prog 35 #[.int .i64 n, .int .i64 lo, .int .i64 hi] w fun e w' => e = .returned (.bool (decide (lo ≤ n) && decide (n ≤ hi))) ∧ w = w' := by
  by_cases h1 : lo ≤ n
  · by_cases h2 : n ≤ hi
    · go_enter Try.func35, Try.ntmps35
      go_wp2
      go_ret
      exact ⟨by simp; omega, rfl⟩
    · go_enter Try.func35, Try.ntmps35
      go_wp2
      go_ret
      exact ⟨by simp; omega, rfl⟩
  · go_enter Try.func35, Try.ntmps35
    go_wp2
    go_ret
    exact ⟨by simp; omega, rfl⟩
theorem within_as (n lo hi : Int) (b : Bool) (h : (decide (lo ≤ n) && decide (n ≤ hi)) = b) (w : World) : Calls Try.prog 35 #[.int .i64 n, .int .i64 lo, .int .i64 hi] w fun e w' => e = .returned (.bool b) ∧ w = w' := h ▸ within_any n lo hi w

theorem rcheckTurn_any (f : Bool) (q x y : Int) (w : World) : Calls Try.prog 19 #[.agg #[.bool f, .int .i64 q, .int .i64 x, .int .i64 y]] w fun e w' => e = .returned (.int .i64 (turnF q x y)) ∧ Below w.heap.size w w' := by
  by_cases h1 : 0 ≤ q ∧ q ≤ 3
  · have c1 := fun w => within_as q 0 3 true (by simp; omega) w
    have c2 := fun w => isPoint_any x y w
    cases h3 : okAt x && okAt y
    · rw [turnF_one (q := q) (x := x) (y := y) (by simp only [h3]; simp)]
      rw [h3] at c2
      have C1 := Lib.hid c1
      have C2 := Lib.hid c2
      clear c1 c2 h1 h3
      go_enter Try.func19, Try.ntmps19
      go_wp2_with fail
      refine (C1.out _).mono ?_
      rintro e w1 ⟨rfl, rfl⟩
      go_wp2_with fail
      refine (C2.out _).mono ?_
      rintro e w1 ⟨rfl, hb⟩
      have B1 := up (B := w.heap.size) (w := w) (by (repeat' (first | (with_reducible exact Below.refl _ _) | (with_reducible assumption) | (with_reducible refine Below.alloc ?_ ?_ _) | (with_reducible refine Below.drew ?_) | (with_reducible refine Below.setCell ?_ ?_ _) | (with_reducible exact Nat.le_refl _) | omega | (simp only [World.size_alloc, World.size_setCell, World.size_drew]; omega) | (simp; omega) | (simp; done)))) hb (by (first | (with_reducible exact Nat.le_refl _) | (with_reducible assumption) | omega | (simp only [World.size_alloc, World.size_setCell, World.size_drew]; omega) | (simp; omega) | (simp; done)))
      go_wp2_with fail
      go_ret
      exact ⟨rfl, B1⟩
    · rw [turnF_zero (q := q) (x := x) (y := y) ⟨h1.1, h1.2, h3⟩]
      rw [h3] at c2
      have C1 := Lib.hid c1
      have C2 := Lib.hid c2
      clear c1 c2 h1 h3
      go_enter Try.func19, Try.ntmps19
      go_wp2_with fail
      refine (C1.out _).mono ?_
      rintro e w1 ⟨rfl, rfl⟩
      go_wp2_with fail
      refine (C2.out _).mono ?_
      rintro e w1 ⟨rfl, hb⟩
      have B1 := up (B := w.heap.size) (w := w) (by (repeat' (first | (with_reducible exact Below.refl _ _) | (with_reducible assumption) | (with_reducible refine Below.alloc ?_ ?_ _) | (with_reducible refine Below.drew ?_) | (with_reducible refine Below.setCell ?_ ?_ _) | (with_reducible exact Nat.le_refl _) | omega | (simp only [World.size_alloc, World.size_setCell, World.size_drew]; omega) | (simp; omega) | (simp; done)))) hb (by (first | (with_reducible exact Nat.le_refl _) | (with_reducible assumption) | omega | (simp only [World.size_alloc, World.size_setCell, World.size_drew]; omega) | (simp; omega) | (simp; done)))
      go_wp2_with fail
      go_ret
      exact ⟨rfl, B1⟩
  · have c1 := fun w => within_as q 0 3 false (by simp; omega) w
    rw [turnF_one (q := q) (x := x) (y := y) (by omega)]
    have C1 := Lib.hid c1
    clear c1 h1
    go_enter Try.func19, Try.ntmps19
    go_wp2_with fail
    refine (C1.out _).mono ?_
    rintro e w1 ⟨rfl, rfl⟩
    go_wp2_with fail
    go_ret
    exact ⟨rfl, by (repeat' (first | (with_reducible exact Below.refl _ _) | (with_reducible assumption) | (with_reducible refine Below.alloc ?_ ?_ _) | (with_reducible refine Below.drew ?_) | (with_reducible refine Below.setCell ?_ ?_ _) | (with_reducible exact Nat.le_refl _) | omega | (simp only [World.size_alloc, World.size_setCell, World.size_drew]; omega) | (simp; omega) | (simp; done)))⟩

theorem rcheckTurn_bad (f : Bool) (q x y : Int) (w : World) (h : turnF q x y = 1) : Calls Try.prog 19 #[.agg #[.bool f, .int .i64 q, .int .i64 x, .int .i64 y]] w fun e w' => e = .returned (.int .i64 1) ∧ Below w.heap.size w w' :=
  h ▸ rcheckTurn_any f q x y w
theorem rcheckTurn_ok (f : Bool) (q x y : Int) (w : World) (h : turnF q x y = 0) : Calls Try.prog 19 #[.agg #[.bool f, .int .i64 q, .int .i64 x, .int .i64 y]] w fun e w' => e = .returned (.int .i64 0) ∧ Below w.heap.size w w' :=
  h ▸ rcheckTurn_any f q x y w

theorem turned_any (f : Bool) (q ax ay x y : Int) (w : World) : Calls Try.prog 16 #[.agg #[.int .i64 x, .int .i64 y], .agg #[.bool f, .int .i64 q, .int .i64 ax, .int .i64 ay]] w fun e w' =>
    e = .returned (tdV f q ax ay x y) ∧ Below w.heap.size w w' := by
  rcases turnF_or q ax ay with h0 | h0
  · by_cases h1 : (okAt x && okAt y) = true
    · obtain ⟨hq0, hq3, hax, hay⟩ := turnF_in h0
      obtain ⟨n, rfl⟩ := Int.eq_ofNat_of_zero_le hq0
      have h1' := h1
      simp only [Bool.and_eq_true] at h1'
      have hx := okAt_in h1'.1
      have hy := okAt_in h1'.2
      have c1 := fun w => checkTurn_ok f n ax ay w h0
      have c2 := fun w => (pointInRange_any x y w)
      rw [h1] at c2
      have c3 := fun w => turn_any f n ax ay x y w (by omega) hx hy hax hay
      have c4 := fun w => (pointInRange_any (tpx f n ax x y) (tpy f n ay x y) w)
      by_cases h2 : (okAt (tpx f n ax x y) && okAt (tpy f n ay x y)) = true
      · have hv : tdV f n ax ay x y = .tuple #[.agg #[.int .i64 (tpx f n ax x y), .int .i64 (tpy f n ay x y)], .int .i64 0] := tdV_ok (by simp only [tdOk, h0, h1, Int.toNat_natCast, h2]; rfl)
        rw [hv]
        rw [h2] at c4
        clear hv h0 h1 h1' h2 hx hy hax hay
        generalize tpx f n ax x y = X at *
        generalize tpy f n ay x y = Y at *
        have C1 := Lib.hid c1
        have C2 := Lib.hid c2
        have C3 := Lib.hid c3
        have C4 := Lib.hid c4
        clear c1 c2 c3 c4
        go_enter Try.func16, Try.ntmps16
        go_wp2_with fail
        refine (C1.out _).mono ?_
        rintro e w1 ⟨rfl, hb⟩
        obtain ⟨k0w1, g0w1⟩ := kp hb (b := w.heap.size) (cs := #[.int .i64 x, .int .i64 y]) (by (first | (with_reducible exact Nat.le_refl _) | (with_reducible assumption) | omega | (simp only [World.size_alloc, World.size_setCell, World.size_drew]; omega) | (simp; omega) | (simp; done))) (fun i => by simp [go_sem]) (fun i => by simp [go_sem])
        obtain ⟨k1w1, g1w1⟩ := kp hb (b := w.heap.size + 1) (cs := #[.bool f, .int .i64 n, .int .i64 ax, .int .i64 ay]) (by (first | (with_reducible exact Nat.le_refl _) | (with_reducible assumption) | omega | (simp only [World.size_alloc, World.size_setCell, World.size_drew]; omega) | (simp; omega) | (simp; done))) (fun i => by simp [go_sem]) (fun i => by simp [go_sem])
        obtain ⟨k2w1, g2w1⟩ := kp hb (b := w.heap.size + 1 + 1) (cs := #[.int .i64 0, .int .i64 0]) (by (first | (with_reducible exact Nat.le_refl _) | (with_reducible assumption) | omega | (simp only [World.size_alloc, World.size_setCell, World.size_drew]; omega) | (simp; omega) | (simp; done))) (fun i => by simp [go_sem]) (fun i => by simp [go_sem])
        have zw1 := hb.size
        have Bw1 := up (B := w.heap.size) (w := w) (by (repeat' (first | (with_reducible exact Below.refl _ _) | (with_reducible assumption) | (with_reducible refine Below.alloc ?_ ?_ _) | (with_reducible refine Below.drew ?_) | (with_reducible refine Below.setCell ?_ ?_ _) | (with_reducible exact Nat.le_refl _) | omega | (simp only [World.size_alloc, World.size_setCell, World.size_drew]; omega) | (simp; omega) | (simp; done)))) hb (by (first | (with_reducible exact Nat.le_refl _) | (with_reducible assumption) | omega | (simp only [World.size_alloc, World.size_setCell, World.size_drew]; omega) | (simp; omega) | (simp; done)))
        try simp only [World.size_alloc, World.size_setCell] at zw1
        have l0w1 : w.heap.size < w1.heap.size := by (first | (with_reducible exact Nat.le_refl _) | (with_reducible assumption) | omega | (simp only [World.size_alloc, World.size_setCell, World.size_drew]; omega) | (simp; omega) | (simp; done))
        have l1w1 : w.heap.size + 1 < w1.heap.size := by (first | (with_reducible exact Nat.le_refl _) | (with_reducible assumption) | omega | (simp only [World.size_alloc, World.size_setCell, World.size_drew]; omega) | (simp; omega) | (simp; done))
        have l2w1 : w.heap.size + 1 + 1 < w1.heap.size := by (first | (with_reducible exact Nat.le_refl _) | (with_reducible assumption) | omega | (simp only [World.size_alloc, World.size_setCell, World.size_drew]; omega) | (simp; omega) | (simp; done))
        clear hb
        go_wp2_with fail
        refine (C2.out _).mono ?_
        rintro e w2 ⟨rfl, hb⟩
        obtain ⟨k0w2, g0w2⟩ := kp hb (b := w.heap.size) (cs := #[.int .i64 x, .int .i64 y]) (by (first | (with_reducible exact Nat.le_refl _) | (with_reducible assumption) | omega | (simp only [World.size_alloc, World.size_setCell, World.size_drew]; omega) | (simp; omega) | (simp; done))) (fun i => by simp [go_sem, k0w1, g0w1, l0w1, k1w1, g1w1, l1w1, k2w1, g2w1, l2w1]) (fun i => by simp [go_sem, k0w1, g0w1, l0w1, k1w1, g1w1, l1w1, k2w1, g2w1, l2w1])
        obtain ⟨k1w2, g1w2⟩ := kp hb (b := w.heap.size + 1) (cs := #[.bool f, .int .i64 n, .int .i64 ax, .int .i64 ay]) (by (first | (with_reducible exact Nat.le_refl _) | (with_reducible assumption) | omega | (simp only [World.size_alloc, World.size_setCell, World.size_drew]; omega) | (simp; omega) | (simp; done))) (fun i => by simp [go_sem, k0w1, g0w1, l0w1, k1w1, g1w1, l1w1, k2w1, g2w1, l2w1]) (fun i => by simp [go_sem, k0w1, g0w1, l0w1, k1w1, g1w1, l1w1, k2w1, g2w1, l2w1])
        obtain ⟨k2w2, g2w2⟩ := kp hb (b := w.heap.size + 1 + 1) (cs := #[.int .i64 0, .int .i64 0]) (by (first | (with_reducible exact Nat.le_refl _) | (with_reducible assumption) | omega | (simp only [World.size_alloc, World.size_setCell, World.size_drew]; omega) | (simp; omega) | (simp; done))) (fun i => by simp [go_sem, k0w1, g0w1, l0w1, k1w1, g1w1, l1w1, k2w1, g2w1, l2w1]) (fun i => by simp [go_sem, k0w1, g0w1, l0w1, k1w1, g1w1, l1w1, k2w1, g2w1, l2w1])
        have zw2 := hb.size
        have Bw2 := up (B := w.heap.size) (w := w) (by (repeat' (first | (with_reducible exact Below.refl _ _) | (with_reducible assumption) | (with_reducible refine Below.alloc ?_ ?_ _) | (with_reducible refine Below.drew ?_) | (with_reducible refine Below.setCell ?_ ?_ _) | (with_reducible exact Nat.le_refl _) | omega | (simp only [World.size_alloc, World.size_setCell, World.size_drew]; omega) | (simp; omega) | (simp; done)))) hb (by (first | (with_reducible exact Nat.le_refl _) | (with_reducible assumption) | omega | (simp only [World.size_alloc, World.size_setCell, World.size_drew]; omega) | (simp; omega) | (simp; done)))
        try simp only [World.size_alloc, World.size_setCell] at zw2
        have l0w2 : w.heap.size < w2.heap.size := by (first | (with_reducible exact Nat.le_refl _) | (with_reducible assumption) | omega | (simp only [World.size_alloc, World.size_setCell, World.size_drew]; omega) | (simp; omega) | (simp; done))
        have l1w2 : w.heap.size + 1 < w2.heap.size := by (first | (with_reducible exact Nat.le_refl _) | (with_reducible assumption) | omega | (simp only [World.size_alloc, World.size_setCell, World.size_drew]; omega) | (simp; omega) | (simp; done))
        have l2w2 : w.heap.size + 1 + 1 < w2.heap.size := by (first | (with_reducible exact Nat.le_refl _) | (with_reducible assumption) | omega | (simp only [World.size_alloc, World.size_setCell, World.size_drew]; omega) | (simp; omega) | (simp; done))
        clear hb
        go_wp2_with fail
        refine (C3.out _).mono ?_
        rintro e w3 ⟨rfl, hb⟩
        obtain ⟨k0w3, g0w3⟩ := kp hb (b := w.heap.size) (cs := #[.int .i64 x, .int .i64 y]) (by (first | (with_reducible exact Nat.le_refl _) | (with_reducible assumption) | omega | (simp only [World.size_alloc, World.size_setCell, World.size_drew]; omega) | (simp; omega) | (simp; done))) (fun i => by simp [go_sem, k0w2, g0w2, l0w2, k1w2, g1w2, l1w2, k2w2, g2w2, l2w2]) (fun i => by simp [go_sem, k0w2, g0w2, l0w2, k1w2, g1w2, l1w2, k2w2, g2w2, l2w2])
        obtain ⟨k1w3, g1w3⟩ := kp hb (b := w.heap.size + 1) (cs := #[.bool f, .int .i64 n, .int .i64 ax, .int .i64 ay]) (by (first | (with_reducible exact Nat.le_refl _) | (with_reducible assumption) | omega | (simp only [World.size_alloc, World.size_setCell, World.size_drew]; omega) | (simp; omega) | (simp; done))) (fun i => by simp [go_sem, k0w2, g0w2, l0w2, k1w2, g1w2, l1w2, k2w2, g2w2, l2w2]) (fun i => by simp [go_sem, k0w2, g0w2, l0w2, k1w2, g1w2, l1w2, k2w2, g2w2, l2w2])
        obtain ⟨k2w3, g2w3⟩ := kp hb (b := w.heap.size + 1 + 1) (cs := #[.int .i64 0, .int .i64 0]) (by (first | (with_reducible exact Nat.le_refl _) | (with_reducible assumption) | omega | (simp only [World.size_alloc, World.size_setCell, World.size_drew]; omega) | (simp; omega) | (simp; done))) (fun i => by simp [go_sem, k0w2, g0w2, l0w2, k1w2, g1w2, l1w2, k2w2, g2w2, l2w2]) (fun i => by simp [go_sem, k0w2, g0w2, l0w2, k1w2, g1w2, l1w2, k2w2, g2w2, l2w2])
        have zw3 := hb.size
        have Bw3 := up (B := w.heap.size) (w := w) (by (repeat' (first | (with_reducible exact Below.refl _ _) | (with_reducible assumption) | (with_reducible refine Below.alloc ?_ ?_ _) | (with_reducible refine Below.drew ?_) | (with_reducible refine Below.setCell ?_ ?_ _) | (with_reducible exact Nat.le_refl _) | omega | (simp only [World.size_alloc, World.size_setCell, World.size_drew]; omega) | (simp; omega) | (simp; done)))) hb (by (first | (with_reducible exact Nat.le_refl _) | (with_reducible assumption) | omega | (simp only [World.size_alloc, World.size_setCell, World.size_drew]; omega) | (simp; omega) | (simp; done)))
        try simp only [World.size_alloc, World.size_setCell] at zw3
        have l0w3 : w.heap.size < w3.heap.size := by (first | (with_reducible exact Nat.le_refl _) | (with_reducible assumption) | omega | (simp only [World.size_alloc, World.size_setCell, World.size_drew]; omega) | (simp; omega) | (simp; done))
        have l1w3 : w.heap.size + 1 < w3.heap.size := by (first | (with_reducible exact Nat.le_refl _) | (with_reducible assumption) | omega | (simp only [World.size_alloc, World.size_setCell, World.size_drew]; omega) | (simp; omega) | (simp; done))
        have l2w3 : w.heap.size + 1 + 1 < w3.heap.size := by (first | (with_reducible exact Nat.le_refl _) | (with_reducible assumption) | omega | (simp only [World.size_alloc, World.size_setCell, World.size_drew]; omega) | (simp; omega) | (simp; done))
        clear hb
        go_wp2_with fail
        refine (C4.out _).mono ?_
        rintro e w4 ⟨rfl, hb⟩
        obtain ⟨k0w4, g0w4⟩ := kp hb (b := w.heap.size) (cs := #[.int .i64 x, .int .i64 y]) (by (first | (with_reducible exact Nat.le_refl _) | (with_reducible assumption) | omega | (simp only [World.size_alloc, World.size_setCell, World.size_drew]; omega) | (simp; omega) | (simp; done))) (fun i => by simp [go_sem, k0w3, g0w3, l0w3, k1w3, g1w3, l1w3, k2w3, g2w3, l2w3]) (fun i => by simp [go_sem, k0w3, g0w3, l0w3, k1w3, g1w3, l1w3, k2w3, g2w3, l2w3])
        obtain ⟨k1w4, g1w4⟩ := kp hb (b := w.heap.size + 1) (cs := #[.bool f, .int .i64 n, .int .i64 ax, .int .i64 ay]) (by (first | (with_reducible exact Nat.le_refl _) | (with_reducible assumption) | omega | (simp only [World.size_alloc, World.size_setCell, World.size_drew]; omega) | (simp; omega) | (simp; done))) (fun i => by simp [go_sem, k0w3, g0w3, l0w3, k1w3, g1w3, l1w3, k2w3, g2w3, l2w3]) (fun i => by simp [go_sem, k0w3, g0w3, l0w3, k1w3, g1w3, l1w3, k2w3, g2w3, l2w3])
        obtain ⟨k2w4, g2w4⟩ := kp hb (b := w.heap.size + 1 + 1) (cs := #[.int .i64 0, .int .i64 0]) (by (first | (with_reducible exact Nat.le_refl _) | (with_reducible assumption) | omega | (simp only [World.size_alloc, World.size_setCell, World.size_drew]; omega) | (simp; omega) | (simp; done))) (fun i => by simp [go_sem, k0w3, g0w3, l0w3, k1w3, g1w3, l1w3, k2w3, g2w3, l2w3]) (fun i => by simp [go_sem, k0w3, g0w3, l0w3, k1w3, g1w3, l1w3, k2w3, g2w3, l2w3])
        have zw4 := hb.size
        have Bw4 := up (B := w.heap.size) (w := w) (by (repeat' (first | (with_reducible exact Below.refl _ _) | (with_reducible assumption) | (with_reducible refine Below.alloc ?_ ?_ _) | (with_reducible refine Below.drew ?_) | (with_reducible refine Below.setCell ?_ ?_ _) | (with_reducible exact Nat.le_refl _) | omega | (simp only [World.size_alloc, World.size_setCell, World.size_drew]; omega) | (simp; omega) | (simp; done)))) hb (by (first | (with_reducible exact Nat.le_refl _) | (with_reducible assumption) | omega | (simp only [World.size_alloc, World.size_setCell, World.size_drew]; omega) | (simp; omega) | (simp; done)))
        try simp only [World.size_alloc, World.size_setCell] at zw4
        have l0w4 : w.heap.size < w4.heap.size := by (first | (with_reducible exact Nat.le_refl _) | (with_reducible assumption) | omega | (simp only [World.size_alloc, World.size_setCell, World.size_drew]; omega) | (simp; omega) | (simp; done))
        have l1w4 : w.heap.size + 1 < w4.heap.size := by (first | (with_reducible exact Nat.le_refl _) | (with_reducible assumption) | omega | (simp only [World.size_alloc, World.size_setCell, World.size_drew]; omega) | (simp; omega) | (simp; done))
        have l2w4 : w.heap.size + 1 + 1 < w4.heap.size := by (first | (with_reducible exact Nat.le_refl _) | (with_reducible assumption) | omega | (simp only [World.size_alloc, World.size_setCell, World.size_drew]; omega) | (simp; omega) | (simp; done))
        clear hb
        go_wp2_with fail
        refine (C3.out _).mono ?_
        rintro e w5 ⟨rfl, hb⟩
        obtain ⟨k0w5, g0w5⟩ := kp hb (b := w.heap.size) (cs := #[.int .i64 x, .int .i64 y]) (by (first | (with_reducible exact Nat.le_refl _) | (with_reducible assumption) | omega | (simp only [World.size_alloc, World.size_setCell, World.size_drew]; omega) | (simp; omega) | (simp; done))) (fun i => by simp [go_sem, k0w4, g0w4, l0w4, k1w4, g1w4, l1w4, k2w4, g2w4, l2w4]) (fun i => by simp [go_sem, k0w4, g0w4, l0w4, k1w4, g1w4, l1w4, k2w4, g2w4, l2w4])
        obtain ⟨k1w5, g1w5⟩ := kp hb (b := w.heap.size + 1) (cs := #[.bool f, .int .i64 n, .int .i64 ax, .int .i64 ay]) (by (first | (with_reducible exact Nat.le_refl _) | (with_reducible assumption) | omega | (simp only [World.size_alloc, World.size_setCell, World.size_drew]; omega) | (simp; omega) | (simp; done))) (fun i => by simp [go_sem, k0w4, g0w4, l0w4, k1w4, g1w4, l1w4, k2w4, g2w4, l2w4]) (fun i => by simp [go_sem, k0w4, g0w4, l0w4, k1w4, g1w4, l1w4, k2w4, g2w4, l2w4])
        obtain ⟨k2w5, g2w5⟩ := kp hb (b := w.heap.size + 1 + 1) (cs := #[.int .i64 0, .int .i64 0]) (by (first | (with_reducible exact Nat.le_refl _) | (with_reducible assumption) | omega | (simp only [World.size_alloc, World.size_setCell, World.size_drew]; omega) | (simp; omega) | (simp; done))) (fun i => by simp [go_sem, k0w4, g0w4, l0w4, k1w4, g1w4, l1w4, k2w4, g2w4, l2w4]) (fun i => by simp [go_sem, k0w4, g0w4, l0w4, k1w4, g1w4, l1w4, k2w4, g2w4, l2w4])
        have zw5 := hb.size
        have Bw5 := up (B := w.heap.size) (w := w) (by (repeat' (first | (with_reducible exact Below.refl _ _) | (with_reducible assumption) | (with_reducible refine Below.alloc ?_ ?_ _) | (with_reducible refine Below.drew ?_) | (with_reducible refine Below.setCell ?_ ?_ _) | (with_reducible exact Nat.le_refl _) | omega | (simp only [World.size_alloc, World.size_setCell, World.size_drew]; omega) | (simp; omega) | (simp; done)))) hb (by (first | (with_reducible exact Nat.le_refl _) | (with_reducible assumption) | omega | (simp only [World.size_alloc, World.size_setCell, World.size_drew]; omega) | (simp; omega) | (simp; done)))
        try simp only [World.size_alloc, World.size_setCell] at zw5
        have l0w5 : w.heap.size < w5.heap.size := by (first | (with_reducible exact Nat.le_refl _) | (with_reducible assumption) | omega | (simp only [World.size_alloc, World.size_setCell, World.size_drew]; omega) | (simp; omega) | (simp; done))
        have l1w5 : w.heap.size + 1 < w5.heap.size := by (first | (with_reducible exact Nat.le_refl _) | (with_reducible assumption) | omega | (simp only [World.size_alloc, World.size_setCell, World.size_drew]; omega) | (simp; omega) | (simp; done))
        have l2w5 : w.heap.size + 1 + 1 < w5.heap.size := by (first | (with_reducible exact Nat.le_refl _) | (with_reducible assumption) | omega | (simp only [World.size_alloc, World.size_setCell, World.size_drew]; omega) | (simp; omega) | (simp; done))
        clear hb
        go_wp2_with fail
        refine bodyPost_ret (v := .tuple #[.agg #[.int .i64 X, .int .i64 Y], .int .i64 0]) (by simp [results, Try.results16, go_sem, k2w5]) rfl ⟨rfl, ?_⟩
        (repeat' (first | (with_reducible exact Below.refl _ _) | (with_reducible assumption) | (with_reducible refine Below.alloc ?_ ?_ _) | (with_reducible refine Below.drew ?_) | (with_reducible refine Below.setCell ?_ ?_ _) | (with_reducible exact Nat.le_refl _) | omega | (simp only [World.size_alloc, World.size_setCell, World.size_drew]; omega) | (simp; omega) | (simp; done)))
      · have h2 := Bool.eq_false_iff.2 h2
        have hv : tdV f n ax ay x y = .tuple #[.agg #[.int .i64 0, .int .i64 0], .int .i64 1] := tdV_bad (by simp only [tdOk, h0, h1, Int.toNat_natCast, h2]; rfl)
        rw [hv]
        rw [h2] at c4
        clear hv h0 h1 h1' h2 hx hy hax hay
        generalize tpx f n ax x y = X at *
        generalize tpy f n ay x y = Y at *
        have C1 := Lib.hid c1
        have C2 := Lib.hid c2
        have C3 := Lib.hid c3
        have C4 := Lib.hid c4
        clear c1 c2 c3 c4
        go_enter Try.func16, Try.ntmps16
        go_wp2_with fail
        refine (C1.out _).mono ?_
        rintro e w1 ⟨rfl, hb⟩
        obtain ⟨k0w1, g0w1⟩ := kp hb (b := w.heap.size) (cs := #[.int .i64 x, .int .i64 y]) (by (first | (with_reducible exact Nat.le_refl _) | (with_reducible assumption) | omega | (simp only [World.size_alloc, World.size_setCell, World.size_drew]; omega) | (simp; omega) | (simp; done))) (fun i => by simp [go_sem]) (fun i => by simp [go_sem])
        obtain ⟨k1w1, g1w1⟩ := kp hb (b := w.heap.size + 1) (cs := #[.bool f, .int .i64 n, .int .i64 ax, .int .i64 ay]) (by (first | (with_reducible exact Nat.le_refl _) | (with_reducible assumption) | omega | (simp only [World.size_alloc, World.size_setCell, World.size_drew]; omega) | (simp; omega) | (simp; done))) (fun i => by simp [go_sem]) (fun i => by simp [go_sem])
        obtain ⟨k2w1, g2w1⟩ := kp hb (b := w.heap.size + 1 + 1) (cs := #[.int .i64 0, .int .i64 0]) (by (first | (with_reducible exact Nat.le_refl _) | (with_reducible assumption) | omega | (simp only [World.size_alloc, World.size_setCell, World.size_drew]; omega) | (simp; omega) | (simp; done))) (fun i => by simp [go_sem]) (fun i => by simp [go_sem])
        have zw1 := hb.size
        have Bw1 := up (B := w.heap.size) (w := w) (by (repeat' (first | (with_reducible exact Below.refl _ _) | (with_reducible assumption) | (with_reducible refine Below.alloc ?_ ?_ _) | (with_reducible refine Below.drew ?_) | (with_reducible refine Below.setCell ?_ ?_ _) | (with_reducible exact Nat.le_refl _) | omega | (simp only [World.size_alloc, World.size_setCell, World.size_drew]; omega) | (simp; omega) | (simp; done)))) hb (by (first | (with_reducible exact Nat.le_refl _) | (with_reducible assumption) | omega | (simp only [World.size_alloc, World.size_setCell, World.size_drew]; omega) | (simp; omega) | (simp; done)))
        try simp only [World.size_alloc, World.size_setCell] at zw1
        have l0w1 : w.heap.size < w1.heap.size := by (first | (with_reducible exact Nat.le_refl _) | (with_reducible assumption) | omega | (simp only [World.size_alloc, World.size_setCell, World.size_drew]; omega) | (simp; omega) | (simp; done))
        have l1w1 : w.heap.size + 1 < w1.heap.size := by (first | (with_reducible exact Nat.le_refl _) | (with_reducible assumption) | omega | (simp only [World.size_alloc, World.size_setCell, World.size_drew]; omega) | (simp; omega) | (simp; done))
        have l2w1 : w.heap.size + 1 + 1 < w1.heap.size := by (first | (with_reducible exact Nat.le_refl _) | (with_reducible assumption) | omega | (simp only [World.size_alloc, World.size_setCell, World.size_drew]; omega) | (simp; omega) | (simp; done))
        clear hb
        go_wp2_with fail
        refine (C2.out _).mono ?_
        rintro e w2 ⟨rfl, hb⟩
        obtain ⟨k0w2, g0w2⟩ := kp hb (b := w.heap.size) (cs := #[.int .i64 x, .int .i64 y]) (by (first | (with_reducible exact Nat.le_refl _) | (with_reducible assumption) | omega | (simp only [World.size_alloc, World.size_setCell, World.size_drew]; omega) | (simp; omega) | (simp; done))) (fun i => by simp [go_sem, k0w1, g0w1, l0w1, k1w1, g1w1, l1w1, k2w1, g2w1, l2w1]) (fun i => by simp [go_sem, k0w1, g0w1, l0w1, k1w1, g1w1, l1w1, k2w1, g2w1, l2w1])
        obtain ⟨k1w2, g1w2⟩ := kp hb (b := w.heap.size + 1) (cs := #[.bool f, .int .i64 n, .int .i64 ax, .int .i64 ay]) (by (first | (with_reducible exact Nat.le_refl _) | (with_reducible assumption) | omega | (simp only [World.size_alloc, World.size_setCell, World.size_drew]; omega) | (simp; omega) | (simp; done))) (fun i => by simp [go_sem, k0w1, g0w1, l0w1, k1w1, g1w1, l1w1, k2w1, g2w1, l2w1]) (fun i => by simp [go_sem, k0w1, g0w1, l0w1, k1w1, g1w1, l1w1, k2w1, g2w1, l2w1])
        obtain ⟨k2w2, g2w2⟩ := kp hb (b := w.heap.size + 1 + 1) (cs := #[.int .i64 0, .int .i64 0]) (by (first | (with_reducible exact Nat.le_refl _) | (with_reducible assumption) | omega | (simp only [World.size_alloc, World.size_setCell, World.size_drew]; omega) | (simp; omega) | (simp; done))) (fun i => by simp [go_sem, k0w1, g0w1, l0w1, k1w1, g1w1, l1w1, k2w1, g2w1, l2w1]) (fun i => by simp [go_sem, k0w1, g0w1, l0w1, k1w1, g1w1, l1w1, k2w1, g2w1, l2w1])
        have zw2 := hb.size
        have Bw2 := up (B := w.heap.size) (w := w) (by (repeat' (first | (with_reducible exact Below.refl _ _) | (with_reducible assumption) | (with_reducible refine Below.alloc ?_ ?_ _) | (with_reducible refine Below.drew ?_) | (with_reducible refine Below.setCell ?_ ?_ _) | (with_reducible exact Nat.le_refl _) | omega | (simp only [World.size_alloc, World.size_setCell, World.size_drew]; omega) | (simp; omega) | (simp; done)))) hb (by (first | (with_reducible exact Nat.le_refl _) | (with_reducible assumption) | omega | (simp only [World.size_alloc, World.size_setCell, World.size_drew]; omega) | (simp; omega) | (simp; done)))
        try simp only [World.size_alloc, World.size_setCell] at zw2
        have l0w2 : w.heap.size < w2.heap.size := by (first | (with_reducible exact Nat.le_refl _) | (with_reducible assumption) | omega | (simp only [World.size_alloc, World.size_setCell, World.size_drew]; omega) | (simp; omega) | (simp; done))
        have l1w2 : w.heap.size + 1 < w2.heap.size := by (first | (with_reducible exact Nat.le_refl _) | (with_reducible assumption) | omega | (simp only [World.size_alloc, World.size_setCell, World.size_drew]; omega) | (simp; omega) | (simp; done))
        have l2w2 : w.heap.size + 1 + 1 < w2.heap.size := by (first | (with_reducible exact Nat.le_refl _) | (with_reducible assumption) | omega | (simp only [World.size_alloc, World.size_setCell, World.size_drew]; omega) | (simp; omega) | (simp; done))
        clear hb
        go_wp2_with fail
        refine (C3.out _).mono ?_
        rintro e w3 ⟨rfl, hb⟩
        obtain ⟨k0w3, g0w3⟩ := kp hb (b := w.heap.size) (cs := #[.int .i64 x, .int .i64 y]) (by (first | (with_reducible exact Nat.le_refl _) | (with_reducible assumption) | omega | (simp only [World.size_alloc, World.size_setCell, World.size_drew]; omega) | (simp; omega) | (simp; done))) (fun i => by simp [go_sem, k0w2, g0w2, l0w2, k1w2, g1w2, l1w2, k2w2, g2w2, l2w2]) (fun i => by simp [go_sem, k0w2, g0w2, l0w2, k1w2, g1w2, l1w2, k2w2, g2w2, l2w2])
        obtain ⟨k1w3, g1w3⟩ := kp hb (b := w.heap.size + 1) (cs := #[.bool f, .int .i64 n, .int .i64 ax, .int .i64 ay]) (by (first | (with_reducible exact Nat.le_refl _) | (with_reducible assumption) | omega | (simp only [World.size_alloc, World.size_setCell, World.size_drew]; omega) | (simp; omega) | (simp; done))) (fun i => by simp [go_sem, k0w2, g0w2, l0w2, k1w2, g1w2, l1w2, k2w2, g2w2, l2w2]) (fun i => by simp [go_sem, k0w2, g0w2, l0w2, k1w2, g1w2, l1w2, k2w2, g2w2, l2w2])
        obtain ⟨k2w3, g2w3⟩ := kp hb (b := w.heap.size + 1 + 1) (cs := #[.int .i64 0, .int .i64 0]) (by (first | (with_reducible exact Nat.le_refl _) | (with_reducible assumption) | omega | (simp only [World.size_alloc, World.size_setCell, World.size_drew]; omega) | (simp; omega) | (simp; done))) (fun i => by simp [go_sem, k0w2, g0w2, l0w2, k1w2, g1w2, l1w2, k2w2, g2w2, l2w2]) (fun i => by simp [go_sem, k0w2, g0w2, l0w2, k1w2, g1w2, l1w2, k2w2, g2w2, l2w2])
        have zw3 := hb.size
        have Bw3 := up (B := w.heap.size) (w := w) (by (repeat' (first | (with_reducible exact Below.refl _ _) | (with_reducible assumption) | (with_reducible refine Below.alloc ?_ ?_ _) | (with_reducible refine Below.drew ?_) | (with_reducible refine Below.setCell ?_ ?_ _) | (with_reducible exact Nat.le_refl _) | omega | (simp only [World.size_alloc, World.size_setCell, World.size_drew]; omega) | (simp; omega) | (simp; done)))) hb (by (first | (with_reducible exact Nat.le_refl _) | (with_reducible assumption) | omega | (simp only [World.size_alloc, World.size_setCell, World.size_drew]; omega) | (simp; omega) | (simp; done)))
        try simp only [World.size_alloc, World.size_setCell] at zw3
        have l0w3 : w.heap.size < w3.heap.size := by (first | (with_reducible exact Nat.le_refl _) | (with_reducible assumption) | omega | (simp only [World.size_alloc, World.size_setCell, World.size_drew]; omega) | (simp; omega) | (simp; done))
        have l1w3 : w.heap.size + 1 < w3.heap.size := by (first | (with_reducible exact Nat.le_refl _) | (with_reducible assumption) | omega | (simp only [World.size_alloc, World.size_setCell, World.size_drew]; omega) | (simp; omega) | (simp; done))
        have l2w3 : w.heap.size + 1 + 1 < w3.heap.size := by (first | (with_reducible exact Nat.le_refl _) | (with_reducible assumption) | omega | (simp only [World.size_alloc, World.size_setCell, World.size_drew]; omega) | (simp; omega) | (simp; done))
        clear hb
        go_wp2_with fail
        refine (C4.out _).mono ?_
        rintro e w4 ⟨rfl, hb⟩
        obtain ⟨k0w4, g0w4⟩ := kp hb (b := w.heap.size) (cs := #[.int .i64 x, .int .i64 y]) (by (first | (with_reducible exact Nat.le_refl _) | (with_reducible assumption) | omega | (simp only [World.size_alloc, World.size_setCell, World.size_drew]; omega) | (simp; omega) | (simp; done))) (fun i => by simp [go_sem, k0w3, g0w3, l0w3, k1w3, g1w3, l1w3, k2w3, g2w3, l2w3]) (fun i => by simp [go_sem, k0w3, g0w3, l0w3, k1w3, g1w3, l1w3, k2w3, g2w3, l2w3])
        obtain ⟨k1w4, g1w4⟩ := kp hb (b := w.heap.size + 1) (cs := #[.bool f, .int .i64 n, .int .i64 ax, .int .i64 ay]) (by (first | (with_reducible exact Nat.le_refl _) | (with_reducible assumption) | omega | (simp only [World.size_alloc, World.size_setCell, World.size_drew]; omega) | (simp; omega) | (simp; done))) (fun i => by simp [go_sem, k0w3, g0w3, l0w3, k1w3, g1w3, l1w3, k2w3, g2w3, l2w3]) (fun i => by simp [go_sem, k0w3, g0w3, l0w3, k1w3, g1w3, l1w3, k2w3, g2w3, l2w3])
        obtain ⟨k2w4, g2w4⟩ := kp hb (b := w.heap.size + 1 + 1) (cs := #[.int .i64 0, .int .i64 0]) (by (first | (with_reducible exact Nat.le_refl _) | (with_reducible assumption) | omega | (simp only [World.size_alloc, World.size_setCell, World.size_drew]; omega) | (simp; omega) | (simp; done))) (fun i => by simp [go_sem, k0w3, g0w3, l0w3, k1w3, g1w3, l1w3, k2w3, g2w3, l2w3]) (fun i => by simp [go_sem, k0w3, g0w3, l0w3, k1w3, g1w3, l1w3, k2w3, g2w3, l2w3])
        have zw4 := hb.size
        have Bw4 := up (B := w.heap.size) (w := w) (by (repeat' (first | (with_reducible exact Below.refl _ _) | (with_reducible assumption) | (with_reducible refine Below.alloc ?_ ?_ _) | (with_reducible refine Below.drew ?_) | (with_reducible refine Below.setCell ?_ ?_ _) | (with_reducible exact Nat.le_refl _) | omega | (simp only [World.size_alloc, World.size_setCell, World.size_drew]; omega) | (simp; omega) | (simp; done)))) hb (by (first | (with_reducible exact Nat.le_refl _) | (with_reducible assumption) | omega | (simp only [World.size_alloc, World.size_setCell, World.size_drew]; omega) | (simp; omega) | (simp; done)))
        try simp only [World.size_alloc, World.size_setCell] at zw4
        have l0w4 : w.heap.size < w4.heap.size := by (first | (with_reducible exact Nat.le_refl _) | (with_reducible assumption) | omega | (simp only [World.size_alloc, World.size_setCell, World.size_drew]; omega) | (simp; omega) | (simp; done))
        have l1w4 : w.heap.size + 1 < w4.heap.size := by (first | (with_reducible exact Nat.le_refl _) | (with_reducible assumption) | omega | (simp only [World.size_alloc, World.size_setCell, World.size_drew]; omega) | (simp; omega) | (simp; done))
        have l2w4 : w.heap.size + 1 + 1 < w4.heap.size := by (first | (with_reducible exact Nat.le_refl _) | (with_reducible assumption) | omega | (simp only [World.size_alloc, World.size_setCell, World.size_drew]; omega) | (simp; omega) | (simp; done))
        clear hb
        go_wp2_with fail
        refine bodyPost_ret (v := .tuple #[.agg #[.int .i64 0, .int .i64 0], .int .i64 1]) (by simp [results, Try.results16, go_sem, k2w4]) rfl ⟨rfl, ?_⟩
        (repeat' (first | (with_reducible exact Below.refl _ _) | (with_reducible assumption) | (with_reducible refine Below.alloc ?_ ?_ _) | (with_reducible refine Below.drew ?_) | (with_reducible refine Below.setCell ?_ ?_ _) | (with_reducible exact Nat.le_refl _) | omega | (simp only [World.size_alloc, World.size_setCell, World.size_drew]; omega) | (simp; omega) | (simp; done)))
    · have h1 := Bool.eq_false_iff.2 h1
      have hv : tdV f q ax ay x y = .tuple #[.agg #[.int .i64 0, .int .i64 0], .int .i64 1] := tdV_bad (by simp only [tdOk, h1]; simp)
      rw [hv]
      have c1 := fun w => checkTurn_ok f q ax ay w h0
      have c2 := fun w => (pointInRange_any x y w)
      rw [h1] at c2
      have C1 := Lib.hid c1
      have C2 := Lib.hid c2
      clear c1 c2 hv h0 h1
      go_enter Try.func16, Try.ntmps16
      go_wp2_with fail
      refine (C1.out _).mono ?_
      rintro e w1 ⟨rfl, hb⟩
      obtain ⟨k0w1, g0w1⟩ := kp hb (b := w.heap.size) (cs := #[.int .i64 x, .int .i64 y]) (by (first | (with_reducible exact Nat.le_refl _) | (with_reducible assumption) | omega | (simp only [World.size_alloc, World.size_setCell, World.size_drew]; omega) | (simp; omega) | (simp; done))) (fun i => by simp [go_sem]) (fun i => by simp [go_sem])
      obtain ⟨k1w1, g1w1⟩ := kp hb (b := w.heap.size + 1) (cs := #[.bool f, .int .i64 q, .int .i64 ax, .int .i64 ay]) (by (first | (with_reducible exact Nat.le_refl _) | (with_reducible assumption) | omega | (simp only [World.size_alloc, World.size_setCell, World.size_drew]; omega) | (simp; omega) | (simp; done))) (fun i => by simp [go_sem]) (fun i => by simp [go_sem])
      obtain ⟨k2w1, g2w1⟩ := kp hb (b := w.heap.size + 1 + 1) (cs := #[.int .i64 0, .int .i64 0]) (by (first | (with_reducible exact Nat.le_refl _) | (with_reducible assumption) | omega | (simp only [World.size_alloc, World.size_setCell, World.size_drew]; omega) | (simp; omega) | (simp; done))) (fun i => by simp [go_sem]) (fun i => by simp [go_sem])
      have zw1 := hb.size
      have Bw1 := up (B := w.heap.size) (w := w) (by (repeat' (first | (with_reducible exact Below.refl _ _) | (with_reducible assumption) | (with_reducible refine Below.alloc ?_ ?_ _) | (with_reducible refine Below.drew ?_) | (with_reducible refine Below.setCell ?_ ?_ _) | (with_reducible exact Nat.le_refl _) | omega | (simp only [World.size_alloc, World.size_setCell, World.size_drew]; omega) | (simp; omega) | (simp; done)))) hb (by (first | (with_reducible exact Nat.le_refl _) | (with_reducible assumption) | omega | (simp only [World.size_alloc, World.size_setCell, World.size_drew]; omega) | (simp; omega) | (simp; done)))
      try simp only [World.size_alloc, World.size_setCell] at zw1
      have l0w1 : w.heap.size < w1.heap.size := by (first | (with_reducible exact Nat.le_refl _) | (with_reducible assumption) | omega | (simp only [World.size_alloc, World.size_setCell, World.size_drew]; omega) | (simp; omega) | (simp; done))
      have l1w1 : w.heap.size + 1 < w1.heap.size := by (first | (with_reducible exact Nat.le_refl _) | (with_reducible assumption) | omega | (simp only [World.size_alloc, World.size_setCell, World.size_drew]; omega) | (simp; omega) | (simp; done))
      have l2w1 : w.heap.size + 1 + 1 < w1.heap.size := by (first | (with_reducible exact Nat.le_refl _) | (with_reducible assumption) | omega | (simp only [World.size_alloc, World.size_setCell, World.size_drew]; omega) | (simp; omega) | (simp; done))
      clear hb
      go_wp2_with fail
      refine (C2.out _).mono ?_
      rintro e w2 ⟨rfl, hb⟩
      obtain ⟨k0w2, g0w2⟩ := kp hb (b := w.heap.size) (cs := #[.int .i64 x, .int .i64 y]) (by (first | (with_reducible exact Nat.le_refl _) | (with_reducible assumption) | omega | (simp only [World.size_alloc, World.size_setCell, World.size_drew]; omega) | (simp; omega) | (simp; done))) (fun i => by simp [go_sem, k0w1, g0w1, l0w1, k1w1, g1w1, l1w1, k2w1, g2w1, l2w1]) (fun i => by simp [go_sem, k0w1, g0w1, l0w1, k1w1, g1w1, l1w1, k2w1, g2w1, l2w1])
      obtain ⟨k1w2, g1w2⟩ := kp hb (b := w.heap.size + 1) (cs := #[.bool f, .int .i64 q, .int .i64 ax, .int .i64 ay]) (by (first | (with_reducible exact Nat.le_refl _) | (with_reducible assumption) | omega | (simp only [World.size_alloc, World.size_setCell, World.size_drew]; omega) | (simp; omega) | (simp; done))) (fun i => by simp [go_sem, k0w1, g0w1, l0w1, k1w1, g1w1, l1w1, k2w1, g2w1, l2w1]) (fun i => by simp [go_sem, k0w1, g0w1, l0w1, k1w1, g1w1, l1w1, k2w1, g2w1, l2w1])
      obtain ⟨k2w2, g2w2⟩ := kp hb (b := w.heap.size + 1 + 1) (cs := #[.int .i64 0, .int .i64 0]) (by (first | (with_reducible exact Nat.le_refl _) | (with_reducible assumption) | omega | (simp only [World.size_alloc, World.size_setCell, World.size_drew]; omega) | (simp; omega) | (simp; done))) (fun i => by simp [go_sem, k0w1, g0w1, l0w1, k1w1, g1w1, l1w1, k2w1, g2w1, l2w1]) (fun i => by simp [go_sem, k0w1, g0w1, l0w1, k1w1, g1w1, l1w1, k2w1, g2w1, l2w1])
      have zw2 := hb.size
      have Bw2 := up (B := w.heap.size) (w := w) (by (repeat' (first | (with_reducible exact Below.refl _ _) | (with_reducible assumption) | (with_reducible refine Below.alloc ?_ ?_ _) | (with_reducible refine Below.drew ?_) | (with_reducible refine Below.setCell ?_ ?_ _) | (with_reducible exact Nat.le_refl _) | omega | (simp only [World.size_alloc, World.size_setCell, World.size_drew]; omega) | (simp; omega) | (simp; done)))) hb (by (first | (with_reducible exact Nat.le_refl _) | (with_reducible assumption) | omega | (simp only [World.size_alloc, World.size_setCell, World.size_drew]; omega) | (simp; omega) | (simp; done)))
      try simp only [World.size_alloc, World.size_setCell] at zw2
      have l0w2 : w.heap.size < w2.heap.size := by (first | (with_reducible exact Nat.le_refl _) | (with_reducible assumption) | omega | (simp only [World.size_alloc, World.size_setCell, World.size_drew]; omega) | (simp; omega) | (simp; done))
      have l1w2 : w.heap.size + 1 < w2.heap.size := by (first | (with_reducible exact Nat.le_refl _) | (with_reducible assumption) | omega | (simp only [World.size_alloc, World.size_setCell, World.size_drew]; omega) | (simp; omega) | (simp; done))
      have l2w2 : w.heap.size + 1 + 1 < w2.heap.size := by (first | (with_reducible exact Nat.le_refl _) | (with_reducible assumption) | omega | (simp only [World.size_alloc, World.size_setCell, World.size_drew]; omega) | (simp; omega) | (simp; done))
      clear hb
      go_wp2_with fail
      refine bodyPost_ret (v := .tuple #[.agg #[.int .i64 0, .int .i64 0], .int .i64 1]) (by simp [results, Try.results16, go_sem, k2w2]) rfl ⟨rfl, ?_⟩
      (repeat' (first | (with_reducible exact Below.refl _ _) | (with_reducible assumption) | (with_reducible refine Below.alloc ?_ ?_ _) | (with_reducible refine Below.drew ?_) | (with_reducible refine Below.setCell ?_ ?_ _) | (with_reducible exact Nat.le_refl _) | omega | (simp only [World.size_alloc, World.size_setCell, World.size_drew]; omega) | (simp; omega) | (simp; done)))
  · have hv : tdV f q ax ay x y = .tuple #[.agg #[.int .i64 0, .int .i64 0], .int .i64 1] := tdV_bad (by simp only [tdOk, h0]; simp)
    rw [hv]
    have c1 := fun w => checkTurn_bad f q ax ay w h0
    have C1 := Lib.hid c1
    clear c1 hv h0
    go_enter Try.func16, Try.ntmps16
    go_wp2_with fail
    refine (C1.out _).mono ?_
    rintro e w1 ⟨rfl, hb⟩
    obtain ⟨k0w1, g0w1⟩ := kp hb (b := w.heap.size) (cs := #[.int .i64 x, .int .i64 y]) (by (first | (with_reducible exact Nat.le_refl _) | (with_reducible assumption) | omega | (simp only [World.size_alloc, World.size_setCell, World.size_drew]; omega) | (simp; omega) | (simp; done))) (fun i => by simp [go_sem]) (fun i => by simp [go_sem])
    obtain ⟨k1w1, g1w1⟩ := kp hb (b := w.heap.size + 1) (cs := #[.bool f, .int .i64 q, .int .i64 ax, .int .i64 ay]) (by (first | (with_reducible exact Nat.le_refl _) | (with_reducible assumption) | omega | (simp only [World.size_alloc, World.size_setCell, World.size_drew]; omega) | (simp; omega) | (simp; done))) (fun i => by simp [go_sem]) (fun i => by simp [go_sem])
    obtain ⟨k2w1, g2w1⟩ := kp hb (b := w.heap.size + 1 + 1) (cs := #[.int .i64 0, .int .i64 0]) (by (first | (with_reducible exact Nat.le_refl _) | (with_reducible assumption) | omega | (simp only [World.size_alloc, World.size_setCell, World.size_drew]; omega) | (simp; omega) | (simp; done))) (fun i => by simp [go_sem]) (fun i => by simp [go_sem])
    have zw1 := hb.size
    have Bw1 := up (B := w.heap.size) (w := w) (by (repeat' (first | (with_reducible exact Below.refl _ _) | (with_reducible assumption) | (with_reducible refine Below.alloc ?_ ?_ _) | (with_reducible refine Below.drew ?_) | (with_reducible refine Below.setCell ?_ ?_ _) | (with_reducible exact Nat.le_refl _) | omega | (simp only [World.size_alloc, World.size_setCell, World.size_drew]; omega) | (simp; omega) | (simp; done)))) hb (by (first | (with_reducible exact Nat.le_refl _) | (with_reducible assumption) | omega | (simp only [World.size_alloc, World.size_setCell, World.size_drew]; omega) | (simp; omega) | (simp; done)))
    try simp only [World.size_alloc, World.size_setCell] at zw1
    have l0w1 : w.heap.size < w1.heap.size := by (first | (with_reducible exact Nat.le_refl _) | (with_reducible assumption) | omega | (simp only [World.size_alloc, World.size_setCell, World.size_drew]; omega) | (simp; omega) | (simp; done))
    have l1w1 : w.heap.size + 1 < w1.heap.size := by (first | (with_reducible exact Nat.le_refl _) | (with_reducible assumption) | omega | (simp only [World.size_alloc, World.size_setCell, World.size_drew]; omega) | (simp; omega) | (simp; done))
    have l2w1 : w.heap.size + 1 + 1 < w1.heap.size := by (first | (with_reducible exact Nat.le_refl _) | (with_reducible assumption) | omega | (simp only [World.size_alloc, World.size_setCell, World.size_drew]; omega) | (simp; omega) | (simp; done))
    clear hb
    go_wp2_with fail
    refine bodyPost_ret (v := .tuple #[.agg #[.int .i64 0, .int .i64 0], .int .i64 1]) (by simp [results, Try.results16, go_sem, k2w1]) rfl ⟨rfl, ?_⟩
    (repeat' (first | (with_reducible exact Below.refl _ _) | (with_reducible assumption) | (with_reducible refine Below.alloc ?_ ?_ _) | (with_reducible refine Below.drew ?_) | (with_reducible refine Below.setCell ?_ ?_ _) | (with_reducible exact Nat.le_refl _) | omega | (simp only [World.size_alloc, World.size_setCell, World.size_drew]; omega) | (simp; omega) | (simp; done)))

theorem rturned_any (f : Bool) (q ax ay x y : Int) (w : World) : Calls Try.prog 17 #[.agg #[.int .i64 x, .int .i64 y], .agg #[.bool f, .int .i64 q, .int .i64 ax, .int .i64 ay]] w fun e w' =>
    e = .returned (tdV f q ax ay x y) ∧ Below w.heap.size w w' := by
  rcases turnF_or q ax ay with h0 | h0
  · by_cases h1 : (okAt x && okAt y) = true
    · obtain ⟨hq0, hq3, hax, hay⟩ := turnF_in h0
      obtain ⟨n, rfl⟩ := Int.eq_ofNat_of_zero_le hq0
      have h1' := h1
      simp only [Bool.and_eq_true] at h1'
      have hx := okAt_in h1'.1
      have hy := okAt_in h1'.2
      have c1 := fun w => rcheckTurn_ok f n ax ay w h0
      have c2 := fun w => (isPoint_any x y w)
      rw [h1] at c2
      have c3 := fun w => turnPoint_any f n ax ay x y w (by omega) hx hy hax hay
      have c4 := fun w => (isPoint_any (tpx f n ax x y) (tpy f n ay x y) w)
      by_cases h2 : (okAt (tpx f n ax x y) && okAt (tpy f n ay x y)) = true
      · have hv : tdV f n ax ay x y = .tuple #[.agg #[.int .i64 (tpx f n ax x y), .int .i64 (tpy f n ay x y)], .int .i64 0] := tdV_ok (by simp only [tdOk, h0, h1, Int.toNat_natCast, h2]; rfl)
        rw [hv]
        rw [h2] at c4
        clear hv h0 h1 h1' h2 hx hy hax hay
        generalize tpx f n ax x y = X at *
        generalize tpy f n ay x y = Y at *
        have C1 := Lib.hid c1
        have C2 := Lib.hid c2
        have C3 := Lib.hid c3
        have C4 := Lib.hid c4
        clear c1 c2 c3 c4
        go_enter Try.func17, Try.ntmps17
        go_wp2_with fail
        refine (C1.out _).mono ?_
        rintro e w1 ⟨rfl, hb⟩
        obtain ⟨k0w1, g0w1⟩ := kp hb (b := w.heap.size) (cs := #[.int .i64 x, .int .i64 y]) (by (first | (with_reducible exact Nat.le_refl _) | (with_reducible assumption) | omega | (simp only [World.size_alloc, World.size_setCell, World.size_drew]; omega) | (simp; omega) | (simp; done))) (fun i => by simp [go_sem]) (fun i => by simp [go_sem])
        obtain ⟨k1w1, g1w1⟩ := kp hb (b := w.heap.size + 1) (cs := #[.bool f, .int .i64 n, .int .i64 ax, .int .i64 ay]) (by (first | (with_reducible exact Nat.le_refl _) | (with_reducible assumption) | omega | (simp only [World.size_alloc, World.size_setCell, World.size_drew]; omega) | (simp; omega) | (simp; done))) (fun i => by simp [go_sem]) (fun i => by simp [go_sem])
        obtain ⟨k2w1, g2w1⟩ := kp hb (b := w.heap.size + 1 + 1) (cs := #[.int .i64 0, .int .i64 0]) (by (first | (with_reducible exact Nat.le_refl _) | (with_reducible assumption) | omega | (simp only [World.size_alloc, World.size_setCell, World.size_drew]; omega) | (simp; omega) | (simp; done))) (fun i => by simp [go_sem]) (fun i => by simp [go_sem])
        have zw1 := hb.size
        have Bw1 := up (B := w.heap.size) (w := w) (by (repeat' (first | (with_reducible exact Below.refl _ _) | (with_reducible assumption) | (with_reducible refine Below.alloc ?_ ?_ _) | (with_reducible refine Below.drew ?_) | (with_reducible refine Below.setCell ?_ ?_ _) | (with_reducible exact Nat.le_refl _) | omega | (simp only [World.size_alloc, World.size_setCell, World.size_drew]; omega) | (simp; omega) | (simp; done)))) hb (by (first | (with_reducible exact Nat.le_refl _) | (with_reducible assumption) | omega | (simp only [World.size_alloc, World.size_setCell, World.size_drew]; omega) | (simp; omega) | (simp; done)))
        try simp only [World.size_alloc, World.size_setCell] at zw1
        have l0w1 : w.heap.size < w1.heap.size := by (first | (with_reducible exact Nat.le_refl _) | (with_reducible assumption) | omega | (simp only [World.size_alloc, World.size_setCell, World.size_drew]; omega) | (simp; omega) | (simp; done))
        have l1w1 : w.heap.size + 1 < w1.heap.size := by (first | (with_reducible exact Nat.le_refl _) | (with_reducible assumption) | omega | (simp only [World.size_alloc, World.size_setCell, World.size_drew]; omega) | (simp; omega) | (simp; done))
        have l2w1 : w.heap.size + 1 + 1 < w1.heap.size := by (first | (with_reducible exact Nat.le_refl _) | (with_reducible assumption) | omega | (simp only [World.size_alloc, World.size_setCell, World.size_drew]; omega) | (simp; omega) | (simp; done))
        clear hb
        go_wp2_with fail
        refine (C2.out _).mono ?_
        rintro e w2 ⟨rfl, hb⟩
        obtain ⟨k0w2, g0w2⟩ := kp hb (b := w.heap.size) (cs := #[.int .i64 x, .int .i64 y]) (by (first | (with_reducible exact Nat.le_refl _) | (with_reducible assumption) | omega | (simp only [World.size_alloc, World.size_setCell, World.size_drew]; omega) | (simp; omega) | (simp; done))) (fun i => by simp [go_sem, k0w1, g0w1, l0w1, k1w1, g1w1, l1w1, k2w1, g2w1, l2w1]) (fun i => by simp [go_sem, k0w1, g0w1, l0w1, k1w1, g1w1, l1w1, k2w1, g2w1, l2w1])
        obtain ⟨k1w2, g1w2⟩ := kp hb (b := w.heap.size + 1) (cs := #[.bool f, .int .i64 n, .int .i64 ax, .int .i64 ay]) (by (first | (with_reducible exact Nat.le_refl _) | (with_reducible assumption) | omega | (simp only [World.size_alloc, World.size_setCell, World.size_drew]; omega) | (simp; omega) | (simp; done))) (fun i => by simp [go_sem, k0w1, g0w1, l0w1, k1w1, g1w1, l1w1, k2w1, g2w1, l2w1]) (fun i => by simp [go_sem, k0w1, g0w1, l0w1, k1w1, g1w1, l1w1, k2w1, g2w1, l2w1])
        obtain ⟨k2w2, g2w2⟩ := kp hb (b := w.heap.size + 1 + 1) (cs := #[.int .i64 0, .int .i64 0]) (by (first | (with_reducible exact Nat.le_refl _) | (with_reducible assumption) | omega | (simp only [World.size_alloc, World.size_setCell, World.size_drew]; omega) | (simp; omega) | (simp; done))) (fun i => by simp [go_sem, k0w1, g0w1, l0w1, k1w1, g1w1, l1w1, k2w1, g2w1, l2w1]) (fun i => by simp [go_sem, k0w1, g0w1, l0w1, k1w1, g1w1, l1w1, k2w1, g2w1, l2w1])
        have zw2 := hb.size
        have Bw2 := up (B := w.heap.size) (w := w) (by (repeat' (first | (with_reducible exact Below.refl _ _) | (with_reducible assumption) | (with_reducible refine Below.alloc ?_ ?_ _) | (with_reducible refine Below.drew ?_) | (with_reducible refine Below.setCell ?_ ?_ _) | (with_reducible exact Nat.le_refl _) | omega | (simp only [World.size_alloc, World.size_setCell, World.size_drew]; omega) | (simp; omega) | (simp; done)))) hb (by (first | (with_reducible exact Nat.le_refl _) | (with_reducible assumption) | omega | (simp only [World.size_alloc, World.size_setCell, World.size_drew]; omega) | (simp; omega) | (simp; done)))
        try simp only [World.size_alloc, World.size_setCell] at zw2
        have l0w2 : w.heap.size < w2.heap.size := by (first | (with_reducible exact Nat.le_refl _) | (with_reducible assumption) | omega | (simp only [World.size_alloc, World.size_setCell, World.size_drew]; omega) | (simp; omega) | (simp; done))
        have l1w2 : w.heap.size + 1 < w2.heap.size := by (first | (with_reducible exact Nat.le_refl _) | (with_reducible assumption) | omega | (simp only [World.size_alloc, World.size_setCell, World.size_drew]; omega) | (simp; omega) | (simp; done))
        have l2w2 : w.heap.size + 1 + 1 < w2.heap.size := by (first | (with_reducible exact Nat.le_refl _) | (with_reducible assumption) | omega | (simp only [World.size_alloc, World.size_setCell, World.size_drew]; omega) | (simp; omega) | (simp; done))
        clear hb
        go_wp2_with fail
        refine (C3.out _).mono ?_
        rintro e w3 ⟨rfl, hb⟩
        obtain ⟨k0w3, g0w3⟩ := kp hb (b := w.heap.size) (cs := #[.int .i64 x, .int .i64 y]) (by (first | (with_reducible exact Nat.le_refl _) | (with_reducible assumption) | omega | (simp only [World.size_alloc, World.size_setCell, World.size_drew]; omega) | (simp; omega) | (simp; done))) (fun i => by simp [go_sem, k0w2, g0w2, l0w2, k1w2, g1w2, l1w2, k2w2, g2w2, l2w2]) (fun i => by simp [go_sem, k0w2, g0w2, l0w2, k1w2, g1w2, l1w2, k2w2, g2w2, l2w2])
        obtain ⟨k1w3, g1w3⟩ := kp hb (b := w.heap.size + 1) (cs := #[.bool f, .int .i64 n, .int .i64 ax, .int .i64 ay]) (by (first | (with_reducible exact Nat.le_refl _) | (with_reducible assumption) | omega | (simp only [World.size_alloc, World.size_setCell, World.size_drew]; omega) | (simp; omega) | (simp; done))) (fun i => by simp [go_sem, k0w2, g0w2, l0w2, k1w2, g1w2, l1w2, k2w2, g2w2, l2w2]) (fun i => by simp [go_sem, k0w2, g0w2, l0w2, k1w2, g1w2, l1w2, k2w2, g2w2, l2w2])
        obtain ⟨k2w3, g2w3⟩ := kp hb (b := w.heap.size + 1 + 1) (cs := #[.int .i64 0, .int .i64 0]) (by (first | (with_reducible exact Nat.le_refl _) | (with_reducible assumption) | omega | (simp only [World.size_alloc, World.size_setCell, World.size_drew]; omega) | (simp; omega) | (simp; done))) (fun i => by simp [go_sem, k0w2, g0w2, l0w2, k1w2, g1w2, l1w2, k2w2, g2w2, l2w2]) (fun i => by simp [go_sem, k0w2, g0w2, l0w2, k1w2, g1w2, l1w2, k2w2, g2w2, l2w2])
        have zw3 := hb.size
        have Bw3 := up (B := w.heap.size) (w := w) (by (repeat' (first | (with_reducible exact Below.refl _ _) | (with_reducible assumption) | (with_reducible refine Below.alloc ?_ ?_ _) | (with_reducible refine Below.drew ?_) | (with_reducible refine Below.setCell ?_ ?_ _) | (with_reducible exact Nat.le_refl _) | omega | (simp only [World.size_alloc, World.size_setCell, World.size_drew]; omega) | (simp; omega) | (simp; done)))) hb (by (first | (with_reducible exact Nat.le_refl _) | (with_reducible assumption) | omega | (simp only [World.size_alloc, World.size_setCell, World.size_drew]; omega) | (simp; omega) | (simp; done)))
        try simp only [World.size_alloc, World.size_setCell] at zw3
        have l0w3 : w.heap.size < w3.heap.size := by (first | (with_reducible exact Nat.le_refl _) | (with_reducible assumption) | omega | (simp only [World.size_alloc, World.size_setCell, World.size_drew]; omega) | (simp; omega) | (simp; done))
        have l1w3 : w.heap.size + 1 < w3.heap.size := by (first | (with_reducible exact Nat.le_refl _) | (with_reducible assumption) | omega | (simp only [World.size_alloc, World.size_setCell, World.size_drew]; omega) | (simp; omega) | (simp; done))
        have l2w3 : w.heap.size + 1 + 1 < w3.heap.size := by (first | (with_reducible exact Nat.le_refl _) | (with_reducible assumption) | omega | (simp only [World.size_alloc, World.size_setCell, World.size_drew]; omega) | (simp; omega) | (simp; done))
        clear hb
        go_wp2_with fail
        refine (C4.out _).mono ?_
        rintro e w4 ⟨rfl, hb⟩
        obtain ⟨k0w4, g0w4⟩ := kp hb (b := w.heap.size) (cs := #[.int .i64 x, .int .i64 y]) (by (first | (with_reducible exact Nat.le_refl _) | (with_reducible assumption) | omega | (simp only [World.size_alloc, World.size_setCell, World.size_drew]; omega) | (simp; omega) | (simp; done))) (fun i => by simp [go_sem, k0w3, g0w3, l0w3, k1w3, g1w3, l1w3, k2w3, g2w3, l2w3]) (fun i => by simp [go_sem, k0w3, g0w3, l0w3, k1w3, g1w3, l1w3, k2w3, g2w3, l2w3])
        obtain ⟨k1w4, g1w4⟩ := kp hb (b := w.heap.size + 1) (cs := #[.bool f, .int .i64 n, .int .i64 ax, .int .i64 ay]) (by (first | (with_reducible exact Nat.le_refl _) | (with_reducible assumption) | omega | (simp only [World.size_alloc, World.size_setCell, World.size_drew]; omega) | (simp; omega) | (simp; done))) (fun i => by simp [go_sem, k0w3, g0w3, l0w3, k1w3, g1w3, l1w3, k2w3, g2w3, l2w3]) (fun i => by simp [go_sem, k0w3, g0w3, l0w3, k1w3, g1w3, l1w3, k2w3, g2w3, l2w3])
        obtain ⟨k2w4, g2w4⟩ := kp hb (b := w.heap.size + 1 + 1) (cs := #[.int .i64 0, .int .i64 0]) (by (first | (with_reducible exact Nat.le_refl _) | (with_reducible assumption) | omega | (simp only [World.size_alloc, World.size_setCell, World.size_drew]; omega) | (simp; omega) | (simp; done))) (fun i => by simp [go_sem, k0w3, g0w3, l0w3, k1w3, g1w3, l1w3, k2w3, g2w3, l2w3]) (fun i => by simp [go_sem, k0w3, g0w3, l0w3, k1w3, g1w3, l1w3, k2w3, g2w3, l2w3])
        obtain ⟨k3w4, g3w4⟩ := kp hb (b := w3.heap.size) (cs := #[.int .i64 X, .int .i64 Y]) (by (first | (with_reducible exact Nat.le_refl _) | (with_reducible assumption) | omega | (simp only [World.size_alloc, World.size_setCell, World.size_drew]; omega) | (simp; omega) | (simp; done))) (fun i => by simp [go_sem, k0w3, g0w3, l0w3, k1w3, g1w3, l1w3, k2w3, g2w3, l2w3]) (fun i => by simp [go_sem, k0w3, g0w3, l0w3, k1w3, g1w3, l1w3, k2w3, g2w3, l2w3])
        have zw4 := hb.size
        have Bw4 := up (B := w.heap.size) (w := w) (by (repeat' (first | (with_reducible exact Below.refl _ _) | (with_reducible assumption) | (with_reducible refine Below.alloc ?_ ?_ _) | (with_reducible refine Below.drew ?_) | (with_reducible refine Below.setCell ?_ ?_ _) | (with_reducible exact Nat.le_refl _) | omega | (simp only [World.size_alloc, World.size_setCell, World.size_drew]; omega) | (simp; omega) | (simp; done)))) hb (by (first | (with_reducible exact Nat.le_refl _) | (with_reducible assumption) | omega | (simp only [World.size_alloc, World.size_setCell, World.size_drew]; omega) | (simp; omega) | (simp; done)))
        try simp only [World.size_alloc, World.size_setCell] at zw4
        have l0w4 : w.heap.size < w4.heap.size := by (first | (with_reducible exact Nat.le_refl _) | (with_reducible assumption) | omega | (simp only [World.size_alloc, World.size_setCell, World.size_drew]; omega) | (simp; omega) | (simp; done))
        have l1w4 : w.heap.size + 1 < w4.heap.size := by (first | (with_reducible exact Nat.le_refl _) | (with_reducible assumption) | omega | (simp only [World.size_alloc, World.size_setCell, World.size_drew]; omega) | (simp; omega) | (simp; done))
        have l2w4 : w.heap.size + 1 + 1 < w4.heap.size := by (first | (with_reducible exact Nat.le_refl _) | (with_reducible assumption) | omega | (simp only [World.size_alloc, World.size_setCell, World.size_drew]; omega) | (simp; omega) | (simp; done))
        have l3w4 : w3.heap.size < w4.heap.size := by (first | (with_reducible exact Nat.le_refl _) | (with_reducible assumption) | omega | (simp only [World.size_alloc, World.size_setCell, World.size_drew]; omega) | (simp; omega) | (simp; done))
        clear hb
        go_wp2_with fail
        refine bodyPost_ret (v := .tuple #[.agg #[.int .i64 X, .int .i64 Y], .int .i64 0]) (by simp [results, Try.results17, go_sem, k2w4]) rfl ⟨rfl, ?_⟩
        (repeat' (first | (with_reducible exact Below.refl _ _) | (with_reducible assumption) | (with_reducible refine Below.alloc ?_ ?_ _) | (with_reducible refine Below.drew ?_) | (with_reducible refine Below.setCell ?_ ?_ _) | (with_reducible exact Nat.le_refl _) | omega | (simp only [World.size_alloc, World.size_setCell, World.size_drew]; omega) | (simp; omega) | (simp; done)))
      · have h2 := Bool.eq_false_iff.2 h2
        have hv : tdV f n ax ay x y = .tuple #[.agg #[.int .i64 0, .int .i64 0], .int .i64 1] := tdV_bad (by simp only [tdOk, h0, h1, Int.toNat_natCast, h2]; rfl)
        rw [hv]
        rw [h2] at c4
        clear hv h0 h1 h1' h2 hx hy hax hay
        generalize tpx f n ax x y = X at *
        generalize tpy f n ay x y = Y at *
        have C1 := Lib.hid c1
        have C2 := Lib.hid c2
        have C3 := Lib.hid c3
        have C4 := Lib.hid c4
        clear c1 c2 c3 c4
        go_enter Try.func17, Try.ntmps17
        go_wp2_with fail
        refine (C1.out _).mono ?_
        rintro e w1 ⟨rfl, hb⟩
        obtain ⟨k0w1, g0w1⟩ := kp hb (b := w.heap.size) (cs := #[.int .i64 x, .int .i64 y]) (by (first | (with_reducible exact Nat.le_refl _) | (with_reducible assumption) | omega | (simp only [World.size_alloc, World.size_setCell, World.size_drew]; omega) | (simp; omega) | (simp; done))) (fun i => by simp [go_sem]) (fun i => by simp [go_sem])
        obtain ⟨k1w1, g1w1⟩ := kp hb (b := w.heap.size + 1) (cs := #[.bool f, .int .i64 n, .int .i64 ax, .int .i64 ay]) (by (first | (with_reducible exact Nat.le_refl _) | (with_reducible assumption) | omega | (simp only [World.size_alloc, World.size_setCell, World.size_drew]; omega) | (simp; omega) | (simp; done))) (fun i => by simp [go_sem]) (fun i => by simp [go_sem])
        obtain ⟨k2w1, g2w1⟩ := kp hb (b := w.heap.size + 1 + 1) (cs := #[.int .i64 0, .int .i64 0]) (by (first | (with_reducible exact Nat.le_refl _) | (with_reducible assumption) | omega | (simp only [World.size_alloc, World.size_setCell, World.size_drew]; omega) | (simp; omega) | (simp; done))) (fun i => by simp [go_sem]) (fun i => by simp [go_sem])
        have zw1 := hb.size
        have Bw1 := up (B := w.heap.size) (w := w) (by (repeat' (first | (with_reducible exact Below.refl _ _) | (with_reducible assumption) | (with_reducible refine Below.alloc ?_ ?_ _) | (with_reducible refine Below.drew ?_) | (with_reducible refine Below.setCell ?_ ?_ _) | (with_reducible exact Nat.le_refl _) | omega | (simp only [World.size_alloc, World.size_setCell, World.size_drew]; omega) | (simp; omega) | (simp; done)))) hb (by (first | (with_reducible exact Nat.le_refl _) | (with_reducible assumption) | omega | (simp only [World.size_alloc, World.size_setCell, World.size_drew]; omega) | (simp; omega) | (simp; done)))
        try simp only [World.size_alloc, World.size_setCell] at zw1
        have l0w1 : w.heap.size < w1.heap.size := by (first | (with_reducible exact Nat.le_refl _) | (with_reducible assumption) | omega | (simp only [World.size_alloc, World.size_setCell, World.size_drew]; omega) | (simp; omega) | (simp; done))
        have l1w1 : w.heap.size + 1 < w1.heap.size := by (first | (with_reducible exact Nat.le_refl _) | (with_reducible assumption) | omega | (simp only [World.size_alloc, World.size_setCell, World.size_drew]; omega) | (simp; omega) | (simp; done))
        have l2w1 : w.heap.size + 1 + 1 < w1.heap.size := by (first | (with_reducible exact Nat.le_refl _) | (with_reducible assumption) | omega | (simp only [World.size_alloc, World.size_setCell, World.size_drew]; omega) | (simp; omega) | (simp; done))
        clear hb
        go_wp2_with fail
        refine (C2.out _).mono ?_
        rintro e w2 ⟨rfl, hb⟩
        obtain ⟨k0w2, g0w2⟩ := kp hb (b := w.heap.size) (cs := #[.int .i64 x, .int .i64 y]) (by (first | (with_reducible exact Nat.le_refl _) | (with_reducible assumption) | omega | (simp only [World.size_alloc, World.size_setCell, World.size_drew]; omega) | (simp; omega) | (simp; done))) (fun i => by simp [go_sem, k0w1, g0w1, l0w1, k1w1, g1w1, l1w1, k2w1, g2w1, l2w1]) (fun i => by simp [go_sem, k0w1, g0w1, l0w1, k1w1, g1w1, l1w1, k2w1, g2w1, l2w1])
        obtain ⟨k1w2, g1w2⟩ := kp hb (b := w.heap.size + 1) (cs := #[.bool f, .int .i64 n, .int .i64 ax, .int .i64 ay]) (by (first | (with_reducible exact Nat.le_refl _) | (with_reducible assumption) | omega | (simp only [World.size_alloc, World.size_setCell, World.size_drew]; omega) | (simp; omega) | (simp; done))) (fun i => by simp [go_sem, k0w1, g0w1, l0w1, k1w1, g1w1, l1w1, k2w1, g2w1, l2w1]) (fun i => by simp [go_sem, k0w1, g0w1, l0w1, k1w1, g1w1, l1w1, k2w1, g2w1, l2w1])
        obtain ⟨k2w2, g2w2⟩ := kp hb (b := w.heap.size + 1 + 1) (cs := #[.int .i64 0, .int .i64 0]) (by (first | (with_reducible exact Nat.le_refl _) | (with_reducible assumption) | omega | (simp only [World.size_alloc, World.size_setCell, World.size_drew]; omega) | (simp; omega) | (simp; done))) (fun i => by simp [go_sem, k0w1, g0w1, l0w1, k1w1, g1w1, l1w1, k2w1, g2w1, l2w1]) (fun i => by simp [go_sem, k0w1, g0w1, l0w1, k1w1, g1w1, l1w1, k2w1, g2w1, l2w1])
        have zw2 := hb.size
        have Bw2 := up (B := w.heap.size) (w := w) (by (repeat' (first | (with_reducible exact Below.refl _ _) | (with_reducible assumption) | (with_reducible refine Below.alloc ?_ ?_ _) | (with_reducible refine Below.drew ?_) | (with_reducible refine Below.setCell ?_ ?_ _) | (with_reducible exact Nat.le_refl _) | omega | (simp only [World.size_alloc, World.size_setCell, World.size_drew]; omega) | (simp; omega) | (simp; done)))) hb (by (first | (with_reducible exact Nat.le_refl _) | (with_reducible assumption) | omega | (simp only [World.size_alloc, World.size_setCell, World.size_drew]; omega) | (simp; omega) | (simp; done)))
        try simp only [World.size_alloc, World.size_setCell] at zw2
        have l0w2 : w.heap.size < w2.heap.size := by (first | (with_reducible exact Nat.le_refl _) | (with_reducible assumption) | omega | (simp only [World.size_alloc, World.size_setCell, World.size_drew]; omega) | (simp; omega) | (simp; done))
        have l1w2 : w.heap.size + 1 < w2.heap.size := by (first | (with_reducible exact Nat.le_refl _) | (with_reducible assumption) | omega | (simp only [World.size_alloc, World.size_setCell, World.size_drew]; omega) | (simp; omega) | (simp; done))
        have l2w2 : w.heap.size + 1 + 1 < w2.heap.size := by (first | (with_reducible exact Nat.le_refl _) | (with_reducible assumption) | omega | (simp only [World.size_alloc, World.size_setCell, World.size_drew]; omega) | (simp; omega) | (simp; done))
        clear hb
        go_wp2_with fail
        refine (C3.out _).mono ?_
        rintro e w3 ⟨rfl, hb⟩
        obtain ⟨k0w3, g0w3⟩ := kp hb (b := w.heap.size) (cs := #[.int .i64 x, .int .i64 y]) (by (first | (with_reducible exact Nat.le_refl _) | (with_reducible assumption) | omega | (simp only [World.size_alloc, World.size_setCell, World.size_drew]; omega) | (simp; omega) | (simp; done))) (fun i => by simp [go_sem, k0w2, g0w2, l0w2, k1w2, g1w2, l1w2, k2w2, g2w2, l2w2]) (fun i => by simp [go_sem, k0w2, g0w2, l0w2, k1w2, g1w2, l1w2, k2w2, g2w2, l2w2])
        obtain ⟨k1w3, g1w3⟩ := kp hb (b := w.heap.size + 1) (cs := #[.bool f, .int .i64 n, .int .i64 ax, .int .i64 ay]) (by (first | (with_reducible exact Nat.le_refl _) | (with_reducible assumption) | omega | (simp only [World.size_alloc, World.size_setCell, World.size_drew]; omega) | (simp; omega) | (simp; done))) (fun i => by simp [go_sem, k0w2, g0w2, l0w2, k1w2, g1w2, l1w2, k2w2, g2w2, l2w2]) (fun i => by simp [go_sem, k0w2, g0w2, l0w2, k1w2, g1w2, l1w2, k2w2, g2w2, l2w2])
        obtain ⟨k2w3, g2w3⟩ := kp hb (b := w.heap.size + 1 + 1) (cs := #[.int .i64 0, .int .i64 0]) (by (first | (with_reducible exact Nat.le_refl _) | (with_reducible assumption) | omega | (simp only [World.size_alloc, World.size_setCell, World.size_drew]; omega) | (simp; omega) | (simp; done))) (fun i => by simp [go_sem, k0w2, g0w2, l0w2, k1w2, g1w2, l1w2, k2w2, g2w2, l2w2]) (fun i => by simp [go_sem, k0w2, g0w2, l0w2, k1w2, g1w2, l1w2, k2w2, g2w2, l2w2])
        have zw3 := hb.size
        have Bw3 := up (B := w.heap.size) (w := w) (by (repeat' (first | (with_reducible exact Below.refl _ _) | (with_reducible assumption) | (with_reducible refine Below.alloc ?_ ?_ _) | (with_reducible refine Below.drew ?_) | (with_reducible refine Below.setCell ?_ ?_ _) | (with_reducible exact Nat.le_refl _) | omega | (simp only [World.size_alloc, World.size_setCell, World.size_drew]; omega) | (simp; omega) | (simp; done)))) hb (by (first | (with_reducible exact Nat.le_refl _) | (with_reducible assumption) | omega | (simp only [World.size_alloc, World.size_setCell, World.size_drew]; omega) | (simp; omega) | (simp; done)))
        try simp only [World.size_alloc, World.size_setCell] at zw3
        have l0w3 : w.heap.size < w3.heap.size := by (first | (with_reducible exact Nat.le_refl _) | (with_reducible assumption) | omega | (simp only [World.size_alloc, World.size_setCell, World.size_drew]; omega) | (simp; omega) | (simp; done))
        have l1w3 : w.heap.size + 1 < w3.heap.size := by (first | (with_reducible exact Nat.le_refl _) | (with_reducible assumption) | omega | (simp only [World.size_alloc, World.size_setCell, World.size_drew]; omega) | (simp; omega) | (simp; done))
        have l2w3 : w.heap.size + 1 + 1 < w3.heap.size := by (first | (with_reducible exact Nat.le_refl _) | (with_reducible assumption) | omega | (simp only [World.size_alloc, World.size_setCell, World.size_drew]; omega) | (simp; omega) | (simp; done))
        clear hb
        go_wp2_with fail
        refine (C4.out _).mono ?_
        rintro e w4 ⟨rfl, hb⟩
        obtain ⟨k0w4, g0w4⟩ := kp hb (b := w.heap.size) (cs := #[.int .i64 x, .int .i64 y]) (by (first | (with_reducible exact Nat.le_refl _) | (with_reducible assumption) | omega | (simp only [World.size_alloc, World.size_setCell, World.size_drew]; omega) | (simp; omega) | (simp; done))) (fun i => by simp [go_sem, k0w3, g0w3, l0w3, k1w3, g1w3, l1w3, k2w3, g2w3, l2w3]) (fun i => by simp [go_sem, k0w3, g0w3, l0w3, k1w3, g1w3, l1w3, k2w3, g2w3, l2w3])
        obtain ⟨k1w4, g1w4⟩ := kp hb (b := w.heap.size + 1) (cs := #[.bool f, .int .i64 n, .int .i64 ax, .int .i64 ay]) (by (first | (with_reducible exact Nat.le_refl _) | (with_reducible assumption) | omega | (simp only [World.size_alloc, World.size_setCell, World.size_drew]; omega) | (simp; omega) | (simp; done))) (fun i => by simp [go_sem, k0w3, g0w3, l0w3, k1w3, g1w3, l1w3, k2w3, g2w3, l2w3]) (fun i => by simp [go_sem, k0w3, g0w3, l0w3, k1w3, g1w3, l1w3, k2w3, g2w3, l2w3])
        obtain ⟨k2w4, g2w4⟩ := kp hb (b := w.heap.size + 1 + 1) (cs := #[.int .i64 0, .int .i64 0]) (by (first | (with_reducible exact Nat.le_refl _) | (with_reducible assumption) | omega | (simp only [World.size_alloc, World.size_setCell, World.size_drew]; omega) | (simp; omega) | (simp; done))) (fun i => by simp [go_sem, k0w3, g0w3, l0w3, k1w3, g1w3, l1w3, k2w3, g2w3, l2w3]) (fun i => by simp [go_sem, k0w3, g0w3, l0w3, k1w3, g1w3, l1w3, k2w3, g2w3, l2w3])
        obtain ⟨k3w4, g3w4⟩ := kp hb (b := w3.heap.size) (cs := #[.int .i64 X, .int .i64 Y]) (by (first | (with_reducible exact Nat.le_refl _) | (with_reducible assumption) | omega | (simp only [World.size_alloc, World.size_setCell, World.size_drew]; omega) | (simp; omega) | (simp; done))) (fun i => by simp [go_sem, k0w3, g0w3, l0w3, k1w3, g1w3, l1w3, k2w3, g2w3, l2w3]) (fun i => by simp [go_sem, k0w3, g0w3, l0w3, k1w3, g1w3, l1w3, k2w3, g2w3, l2w3])
        have zw4 := hb.size
        have Bw4 := up (B := w.heap.size) (w := w) (by (repeat' (first | (with_reducible exact Below.refl _ _) | (with_reducible assumption) | (with_reducible refine Below.alloc ?_ ?_ _) | (with_reducible refine Below.drew ?_) | (with_reducible refine Below.setCell ?_ ?_ _) | (with_reducible exact Nat.le_refl _) | omega | (simp only [World.size_alloc, World.size_setCell, World.size_drew]; omega) | (simp; omega) | (simp; done)))) hb (by (first | (with_reducible exact Nat.le_refl _) | (with_reducible assumption) | omega | (simp only [World.size_alloc, World.size_setCell, World.size_drew]; omega) | (simp; omega) | (simp; done)))
        try simp only [World.size_alloc, World.size_setCell] at zw4
        have l0w4 : w.heap.size < w4.heap.size := by (first | (with_reducible exact Nat.le_refl _) | (with_reducible assumption) | omega | (simp only [World.size_alloc, World.size_setCell, World.size_drew]; omega) | (simp; omega) | (simp; done))
        have l1w4 : w.heap.size + 1 < w4.heap.size := by (first | (with_reducible exact Nat.le_refl _) | (with_reducible assumption) | omega | (simp only [World.size_alloc, World.size_setCell, World.size_drew]; omega) | (simp; omega) | (simp; done))
        have l2w4 : w.heap.size + 1 + 1 < w4.heap.size := by (first | (with_reducible exact Nat.le_refl _) | (with_reducible assumption) | omega | (simp only [World.size_alloc, World.size_setCell, World.size_drew]; omega) | (simp; omega) | (simp; done))
        have l3w4 : w3.heap.size < w4.heap.size := by (first | (with_reducible exact Nat.le_refl _) | (with_reducible assumption) | omega | (simp only [World.size_alloc, World.size_setCell, World.size_drew]; omega) | (simp; omega) | (simp; done))
        clear hb
        go_wp2_with fail
        refine bodyPost_ret (v := .tuple #[.agg #[.int .i64 0, .int .i64 0], .int .i64 1]) (by simp [results, Try.results17, go_sem, k2w4]) rfl ⟨rfl, ?_⟩
        (repeat' (first | (with_reducible exact Below.refl _ _) | (with_reducible assumption) | (with_reducible refine Below.alloc ?_ ?_ _) | (with_reducible refine Below.drew ?_) | (with_reducible refine Below.setCell ?_ ?_ _) | (with_reducible exact Nat.le_refl _) | omega | (simp only [World.size_alloc, World.size_setCell, World.size_drew]; omega) | (simp; omega) | (simp; done)))
    · have h1 := Bool.eq_false_iff.2 h1
      have hv : tdV f q ax ay x y = .tuple #[.agg #[.int .i64 0, .int .i64 0], .int .i64 1] := tdV_bad (by simp only [tdOk, h1]; simp)
      rw [hv]
      have c1 := fun w => rcheckTurn_ok f q ax ay w h0
      have c2 := fun w => (isPoint_any x y w)
      rw [h1] at c2
      have C1 := Lib.hid c1
      have C2 := Lib.hid c2
      clear c1 c2 hv h0 h1
      go_enter Try.func17, Try.ntmps17
      go_wp2_with fail
      refine (C1.out _).mono ?_
      rintro e w1 ⟨rfl, hb⟩
      obtain ⟨k0w1, g0w1⟩ := kp hb (b := w.heap.size) (cs := #[.int .i64 x, .int .i64 y]) (by (first | (with_reducible exact Nat.le_refl _) | (with_reducible assumption) | omega | (simp only [World.size_alloc, World.size_setCell, World.size_drew]; omega) | (simp; omega) | (simp; done))) (fun i => by simp [go_sem]) (fun i => by simp [go_sem])
      obtain ⟨k1w1, g1w1⟩ := kp hb (b := w.heap.size + 1) (cs := #[.bool f, .int .i64 q, .int .i64 ax, .int .i64 ay]) (by (first | (with_reducible exact Nat.le_refl _) | (with_reducible assumption) | omega | (simp only [World.size_alloc, World.size_setCell, World.size_drew]; omega) | (simp; omega) | (simp; done))) (fun i => by simp [go_sem]) (fun i => by simp [go_sem])
      obtain ⟨k2w1, g2w1⟩ := kp hb (b := w.heap.size + 1 + 1) (cs := #[.int .i64 0, .int .i64 0]) (by (first | (with_reducible exact Nat.le_refl _) | (with_reducible assumption) | omega | (simp only [World.size_alloc, World.size_setCell, World.size_drew]; omega) | (simp; omega) | (simp; done))) (fun i => by simp [go_sem]) (fun i => by simp [go_sem])
      have zw1 := hb.size
      have Bw1 := up (B := w.heap.size) (w := w) (by (repeat' (first | (with_reducible exact Below.refl _ _) | (with_reducible assumption) | (with_reducible refine Below.alloc ?_ ?_ _) | (with_reducible refine Below.drew ?_) | (with_reducible refine Below.setCell ?_ ?_ _) | (with_reducible exact Nat.le_refl _) | omega | (simp only [World.size_alloc, World.size_setCell, World.size_drew]; omega) | (simp; omega) | (simp; done)))) hb (by (first | (with_reducible exact Nat.le_refl _) | (with_reducible assumption) | omega | (simp only [World.size_alloc, World.size_setCell, World.size_drew]; omega) | (simp; omega) | (simp; done)))
      try simp only [World.size_alloc, World.size_setCell] at zw1
      have l0w1 : w.heap.size < w1.heap.size := by (first | (with_reducible exact Nat.le_refl _) | (with_reducible assumption) | omega | (simp only [World.size_alloc, World.size_setCell, World.size_drew]; omega) | (simp; omega) | (simp; done))
      have l1w1 : w.heap.size + 1 < w1.heap.size := by (first | (with_reducible exact Nat.le_refl _) | (with_reducible assumption) | omega | (simp only [World.size_alloc, World.size_setCell, World.size_drew]; omega) | (simp; omega) | (simp; done))
      have l2w1 : w.heap.size + 1 + 1 < w1.heap.size := by (first | (with_reducible exact Nat.le_refl _) | (with_reducible assumption) | omega | (simp only [World.size_alloc, World.size_setCell, World.size_drew]; omega) | (simp; omega) | (simp; done))
      clear hb
      go_wp2_with fail
      refine (C2.out _).mono ?_
      rintro e w2 ⟨rfl, hb⟩
      obtain ⟨k0w2, g0w2⟩ := kp hb (b := w.heap.size) (cs := #[.int .i64 x, .int .i64 y]) (by (first | (with_reducible exact Nat.le_refl _) | (with_reducible assumption) | omega | (simp only [World.size_alloc, World.size_setCell, World.size_drew]; omega) | (simp; omega) | (simp; done))) (fun i => by simp [go_sem, k0w1, g0w1, l0w1, k1w1, g1w1, l1w1, k2w1, g2w1, l2w1]) (fun i => by simp [go_sem, k0w1, g0w1, l0w1, k1w1, g1w1, l1w1, k2w1, g2w1, l2w1])
      obtain ⟨k1w2, g1w2⟩ := kp hb (b := w.heap.size + 1) (cs := #[.bool f, .int .i64 q, .int .i64 ax, .int .i64 ay]) (by (first | (with_reducible exact Nat.le_refl _) | (with_reducible assumption) | omega | (simp only [World.size_alloc, World.size_setCell, World.size_drew]; omega) | (simp; omega) | (simp; done))) (fun i => by simp [go_sem, k0w1, g0w1, l0w1, k1w1, g1w1, l1w1, k2w1, g2w1, l2w1]) (fun i => by simp [go_sem, k0w1, g0w1, l0w1, k1w1, g1w1, l1w1, k2w1, g2w1, l2w1])
      obtain ⟨k2w2, g2w2⟩ := kp hb (b := w.heap.size + 1 + 1) (cs := #[.int .i64 0, .int .i64 0]) (by (first | (with_reducible exact Nat.le_refl _) | (with_reducible assumption) | omega | (simp only [World.size_alloc, World.size_setCell, World.size_drew]; omega) | (simp; omega) | (simp; done))) (fun i => by simp [go_sem, k0w1, g0w1, l0w1, k1w1, g1w1, l1w1, k2w1, g2w1, l2w1]) (fun i => by simp [go_sem, k0w1, g0w1, l0w1, k1w1, g1w1, l1w1, k2w1, g2w1, l2w1])
      have zw2 := hb.size
      have Bw2 := up (B := w.heap.size) (w := w) (by (repeat' (first | (with_reducible exact Below.refl _ _) | (with_reducible assumption) | (with_reducible refine Below.alloc ?_ ?_ _) | (with_reducible refine Below.drew ?_) | (with_reducible refine Below.setCell ?_ ?_ _) | (with_reducible exact Nat.le_refl _) | omega | (simp only [World.size_alloc, World.size_setCell, World.size_drew]; omega) | (simp; omega) | (simp; done)))) hb (by (first | (with_reducible exact Nat.le_refl _) | (with_reducible assumption) | omega | (simp only [World.size_alloc, World.size_setCell, World.size_drew]; omega) | (simp; omega) | (simp; done)))
      try simp only [World.size_alloc, World.size_setCell] at zw2
      have l0w2 : w.heap.size < w2.heap.size := by (first | (with_reducible exact Nat.le_refl _) | (with_reducible assumption) | omega | (simp only [World.size_alloc, World.size_setCell, World.size_drew]; omega) | (simp; omega) | (simp; done))
      have l1w2 : w.heap.size + 1 < w2.heap.size := by (first | (with_reducible exact Nat.le_refl _) | (with_reducible assumption) | omega | (simp only [World.size_alloc, World.size_setCell, World.size_drew]; omega) | (simp; omega) | (simp; done))
      have l2w2 : w.heap.size + 1 + 1 < w2.heap.size := by (first | (with_reducible exact Nat.le_refl _) | (with_reducible assumption) | omega | (simp only [World.size_alloc, World.size_setCell, World.size_drew]; omega) | (simp; omega) | (simp; done))
      clear hb
      go_wp2_with fail
      refine bodyPost_ret (v := .tuple #[.agg #[.int .i64 0, .int .i64 0], .int .i64 1]) (by simp [results, Try.results17, go_sem, k2w2]) rfl ⟨rfl, ?_⟩
      (repeat' (first | (with_reducible exact Below.refl _ _) | (with_reducible assumption) | (with_reducible refine Below.alloc ?_ ?_ _) | (with_reducible refine Below.drew ?_) | (with_reducible refine Below.setCell ?_ ?_ _) | (with_reducible exact Nat.le_refl _) | omega | (simp only [World.size_alloc, World.size_setCell, World.size_drew]; omega) | (simp; omega) | (simp; done)))
  · have hv : tdV f q ax ay x y = .tuple #[.agg #[.int .i64 0, .int .i64 0], .int .i64 1] := tdV_bad (by simp only [tdOk, h0]; simp)
    rw [hv]
    have c1 := fun w => rcheckTurn_bad f q ax ay w h0
    have C1 := Lib.hid c1
    clear c1 hv h0
    go_enter Try.func17, Try.ntmps17
    go_wp2_with fail
    refine (C1.out _).mono ?_
    rintro e w1 ⟨rfl, hb⟩
    obtain ⟨k0w1, g0w1⟩ := kp hb (b := w.heap.size) (cs := #[.int .i64 x, .int .i64 y]) (by (first | (with_reducible exact Nat.le_refl _) | (with_reducible assumption) | omega | (simp only [World.size_alloc, World.size_setCell, World.size_drew]; omega) | (simp; omega) | (simp; done))) (fun i => by simp [go_sem]) (fun i => by simp [go_sem])
    obtain ⟨k1w1, g1w1⟩ := kp hb (b := w.heap.size + 1) (cs := #[.bool f, .int .i64 q, .int .i64 ax, .int .i64 ay]) (by (first | (with_reducible exact Nat.le_refl _) | (with_reducible assumption) | omega | (simp only [World.size_alloc, World.size_setCell, World.size_drew]; omega) | (simp; omega) | (simp; done))) (fun i => by simp [go_sem]) (fun i => by simp [go_sem])
    obtain ⟨k2w1, g2w1⟩ := kp hb (b := w.heap.size + 1 + 1) (cs := #[.int .i64 0, .int .i64 0]) (by (first | (with_reducible exact Nat.le_refl _) | (with_reducible assumption) | omega | (simp only [World.size_alloc, World.size_setCell, World.size_drew]; omega) | (simp; omega) | (simp; done))) (fun i => by simp [go_sem]) (fun i => by simp [go_sem])
    have zw1 := hb.size
    have Bw1 := up (B := w.heap.size) (w := w) (by (repeat' (first | (with_reducible exact Below.refl _ _) | (with_reducible assumption) | (with_reducible refine Below.alloc ?_ ?_ _) | (with_reducible refine Below.drew ?_) | (with_reducible refine Below.setCell ?_ ?_ _) | (with_reducible exact Nat.le_refl _) | omega | (simp only [World.size_alloc, World.size_setCell, World.size_drew]; omega) | (simp; omega) | (simp; done)))) hb (by (first | (with_reducible exact Nat.le_refl _) | (with_reducible assumption) | omega | (simp only [World.size_alloc, World.size_setCell, World.size_drew]; omega) | (simp; omega) | (simp; done)))
    try simp only [World.size_alloc, World.size_setCell] at zw1
    have l0w1 : w.heap.size < w1.heap.size := by (first | (with_reducible exact Nat.le_refl _) | (with_reducible assumption) | omega | (simp only [World.size_alloc, World.size_setCell, World.size_drew]; omega) | (simp; omega) | (simp; done))
    have l1w1 : w.heap.size + 1 < w1.heap.size := by (first | (with_reducible exact Nat.le_refl _) | (with_reducible assumption) | omega | (simp only [World.size_alloc, World.size_setCell, World.size_drew]; omega) | (simp; omega) | (simp; done))
    have l2w1 : w.heap.size + 1 + 1 < w1.heap.size := by (first | (with_reducible exact Nat.le_refl _) | (with_reducible assumption) | omega | (simp only [World.size_alloc, World.size_setCell, World.size_drew]; omega) | (simp; omega) | (simp; done))
    clear hb
    go_wp2_with fail
    refine bodyPost_ret (v := .tuple #[.agg #[.int .i64 0, .int .i64 0], .int .i64 1]) (by simp [results, Try.results17, go_sem, k2w1]) rfl ⟨rfl, ?_⟩
    (repeat' (first | (with_reducible exact Below.refl _ _) | (with_reducible assumption) | (with_reducible refine Below.alloc ?_ ?_ _) | (with_reducible refine Below.drew ?_) | (with_reducible refine Below.setCell ?_ ?_ _) | (with_reducible exact Nat.le_refl _) | omega | (simp only [World.size_alloc, World.size_setCell, World.size_drew]; omega) | (simp; omega) | (simp; done)))

/-- The end of Back. -/
def bkQ (f : Bool) (q : Int) : Int := if f then q else (4 - q) % 4
def bkX (f : Bool) (q ax ay : Int) : Int := -(tpx f (bkQ f q).toNat 0 ax ay)
def bkY (f : Bool) (q ax ay : Int) : Int := -(tpy f (bkQ f q).toNat 0 ax ay)
theorem bkQ_in {f : Bool} {q : Int} (h0 : 0 ≤ q) (h3 : q ≤ 3) : 0 ≤ bkQ f q ∧ bkQ f q ≤ 3 := by unfold bkQ; split <;> omega
def bkOk (q ax ay : Int) : Bool := decide (turnF q ax ay = 0)
def bkV (f : Bool) (q ax ay : Int) : Value := if bkOk q ax ay then .tuple #[.agg #[.bool f, .int .i64 (bkQ f q), .int .i64 (bkX f q ax ay), .int .i64 (bkY f q ax ay)], .int .i64 0] else .tuple #[.agg #[.bool false, .int .i64 0, .int .i64 0, .int .i64 0], .int .i64 1]
theorem tp_in (f : Bool) (q : Nat) {x y : Int} (hx : In6 x) (hy : In6 y) : In6 (tpx f q 0 x y) ∧ In6 (tpy f q 0 x y) := by
  have b1 := rot_le _ y (flip_le (f := f) hx) hy q
  exact ⟨by simp only [tpx, In6]; omega, by simp only [tpy, In6]; omega⟩

end Go.Proofs.Ytemnhkfedjhpiaa

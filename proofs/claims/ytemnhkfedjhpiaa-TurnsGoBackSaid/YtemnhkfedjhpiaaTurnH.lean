/- TurnsGoBack returns true in whatever world, and turns nothing that was there. -/
import Derived.Test.YtemnhkfedjhpiaaTurnG
namespace Go.Proofs.Ytemnhkfedjhpiaa
open Go.RowKit
set_option linter.unusedSimpArgs false
set_option linter.unusedVariables false

theorem nat4 {n : Nat} (h : n ≤ 3) : n = 0 ∨ n = 1 ∨ n = 2 ∨ n = 3 := by omega
theorem back_plain (f : Bool) (n m : Nat) (hn : n ≤ 3) (hm : (m : Int) = bkQ f n) (ax ay x y : Int) :
    tpx f m (bkX f n ax ay) (tpx f n ax x y) (tpy f n ay x y) = x ∧ tpy f m (bkY f n ax ay) (tpx f n ax x y) (tpy f n ay x y) = y := by
  rcases nat4 hn with rfl | rfl | rfl | rfl <;> cases f
  all_goals
    simp [bkQ] at hm
    first
      | ((have e : m = 0 := by omega); subst e)
      | ((have e : m = 1 := by omega); subst e)
      | ((have e : m = 2 := by omega); subst e)
      | ((have e : m = 3 := by omega); subst e)
    simp [bkX, bkY, bkQ, tpx, tpy, rot, flipX]
    omega
theorem then_plain (f g : Bool) (n m k : Nat) (hn : n ≤ 3) (hm : m ≤ 3) (hk : (k : Int) = thQ g n m) (ax ay bx bz x y : Int) :
    tpx (f != g) k (tpx g m bx ax ay) x y = tpx g m bx (tpx f n ax x y) (tpy f n ay x y) ∧ tpy (f != g) k (tpy g m bz ax ay) x y = tpy g m bz (tpx f n ax x y) (tpy f n ay x y) := by
  rcases nat4 hn with rfl | rfl | rfl | rfl <;> rcases nat4 hm with rfl | rfl | rfl | rfl <;> cases f <;> cases g
  all_goals
    simp [thQ] at hk
    first
      | ((have e : k = 0 := by omega); subst e)
      | ((have e : k = 1 := by omega); subst e)
      | ((have e : k = 2 := by omega); subst e)
      | ((have e : k = 3 := by omega); subst e)
    simp [tpx, tpy, rot, flipX]
    try omega
theorem okAt_of {x : Int} (h : In6 x) : okAt x = true := by simp [okAt]; exact h
theorem turnF_of {q x y : Int} (h0 : 0 ≤ q) (h3 : q ≤ 3) (hx : In6 x) (hy : In6 y) : turnF q x y = 0 := turnF_zero ⟨h0, h3, by simp [okAt_of hx, okAt_of hy]⟩
theorem tdOk_in {f : Bool} {q ax ay x y : Int} (h : tdOk f q ax ay x y = true) : turnF q ax ay = 0 ∧ In6 x ∧ In6 y ∧ In6 (tpx f q.toNat ax x y) ∧ In6 (tpy f q.toNat ay x y) := by
  simp only [tdOk, Bool.and_eq_true, decide_eq_true_eq] at h
  exact ⟨h.1.1, okAt_in h.1.2.1, okAt_in h.1.2.2, okAt_in h.2.1, okAt_in h.2.2⟩
theorem tdOk_of {f : Bool} {q ax ay x y : Int} (h : turnF q ax ay = 0) (hx : In6 x) (hy : In6 y) (h1 : In6 (tpx f q.toNat ax x y)) (h2 : In6 (tpy f q.toNat ay x y)) : tdOk f q ax ay x y = true := by
  simp only [tdOk, Bool.and_eq_true, decide_eq_true_eq]
  exact ⟨⟨h, okAt_of hx, okAt_of hy⟩, okAt_of h1, okAt_of h2⟩
theorem bk_in {f : Bool} {q ax ay : Int} (h : turnF q ax ay = 0) : In6 (bkX f q ax ay) ∧ In6 (bkY f q ax ay) := by
  obtain ⟨_, _, hx, hy⟩ := turnF_in h
  have := tp_in f (bkQ f q).toNat hx hy
  simp only [bkX, bkY, In6] at *
  omega

theorem back_end {f : Bool} {n : Nat} {ax ay x y : Int} (h : tdOk f n ax ay x y = true) :
    tdV f (bkQ f n) (bkX f n ax ay) (bkY f n ax ay) (tpx f n ax x y) (tpy f n ay x y) = .tuple #[.agg #[.int .i64 x, .int .i64 y], .int .i64 0] := by
  obtain ⟨h0, hx, hy, h1, h2⟩ := tdOk_in h
  rw [Int.toNat_natCast] at h1 h2
  obtain ⟨q0, q3, _, _⟩ := turnF_in h0
  obtain ⟨b0, b3⟩ := bkQ_in (f := f) q0 q3
  obtain ⟨k1, k2⟩ := bk_in (f := f) h0
  obtain ⟨m, hm⟩ := Int.eq_ofNat_of_zero_le b0
  obtain ⟨e1, e2⟩ := back_plain f n m (by omega) hm.symm ax ay x y
  rw [hm] at b0 b3 ⊢
  rw [tdV_ok (tdOk_of (turnF_of b0 b3 k1 k2) h1 h2 (by rw [Int.toNat_natCast, e1]; exact hx) (by rw [Int.toNat_natCast, e2]; exact hy)), Int.toNat_natCast, e1, e2]
theorem then_end {f g : Bool} {n m : Nat} {ax ay bx bz x y : Int} (h : tdOk f n ax ay x y = true) (h' : thOk n ax ay g m bx bz = true) (hu : tdOk g m bx bz (tpx f n ax x y) (tpy f n ay x y) = true) :
    tdV (f != g) (thQ g n m) (tpx g m bx ax ay) (tpy g m bz ax ay) x y = .tuple #[.agg #[.int .i64 (tpx g m bx (tpx f n ax x y) (tpy f n ay x y)), .int .i64 (tpy g m bz (tpx f n ax x y) (tpy f n ay x y))], .int .i64 0] := by
  obtain ⟨h0, hx, hy, h1, h2⟩ := tdOk_in h
  obtain ⟨u0, _, _, u1, u2⟩ := tdOk_in hu
  rw [Int.toNat_natCast] at h1 h2 u1 u2
  obtain ⟨q0, q3, _, _⟩ := turnF_in h0
  obtain ⟨p0, p3, _, _⟩ := turnF_in u0
  simp only [thOk, Bool.and_eq_true, decide_eq_true_eq, Int.toNat_natCast] at h'
  obtain ⟨t0, t3⟩ := thQ_in g n m
  obtain ⟨k, hk⟩ := Int.eq_ofNat_of_zero_le t0
  obtain ⟨e1, e2⟩ := then_plain f g n m k (by omega) (by omega) hk.symm ax ay bx bz x y
  rw [hk] at t0 t3 ⊢
  rw [tdV_ok (tdOk_of (turnF_of t0 t3 (okAt_in h'.2.1) (okAt_in h'.2.2)) hx hy (by rw [Int.toNat_natCast, e1]; exact u1) (by rw [Int.toNat_natCast, e2]; exact u2)), Int.toNat_natCast, e1, e2]

set_option maxHeartbeats 400000 in
theorem goBack_bad (f : Bool) (q ax ay : Int) (g : Bool) (p bx bz x y : Int) (w : World) (h : tdOk f q ax ay x y = false) :
    Calls Try.prog 6 #[.agg #[.bool f, .int .i64 q, .int .i64 ax, .int .i64 ay], .agg #[.bool g, .int .i64 p, .int .i64 bx, .int .i64 bz], .agg #[.int .i64 x, .int .i64 y]] w fun e w' => e = .returned (.bool true) ∧ Below w.heap.size w w' := by
  have c16 := fun w => turned_any f q ax ay x y w
  rw [tdV_bad h] at c16
  have C16 := Lib.hid c16
  clear c16 h
  go_enter Try.func6, Try.ntmps6
  go_wp2_with fail
  refine (C16.out _).mono ?_
  rintro e w1 ⟨rfl, hb⟩
  obtain ⟨k0w1, g0w1⟩ := kp hb (b := w.heap.size) (cs := #[.bool f, .int .i64 q, .int .i64 ax, .int .i64 ay]) (by (first | (with_reducible exact Nat.le_refl _) | (with_reducible assumption) | omega | (simp only [World.size_alloc, World.size_setCell, World.size_drew]; omega) | (simp; omega) | (simp; done))) (fun i => by simp [go_sem]) (fun i => by simp [go_sem])
  obtain ⟨k1w1, g1w1⟩ := kp hb (b := w.heap.size + 1) (cs := #[.bool g, .int .i64 p, .int .i64 bx, .int .i64 bz]) (by (first | (with_reducible exact Nat.le_refl _) | (with_reducible assumption) | omega | (simp only [World.size_alloc, World.size_setCell, World.size_drew]; omega) | (simp; omega) | (simp; done))) (fun i => by simp [go_sem]) (fun i => by simp [go_sem])
  obtain ⟨k2w1, g2w1⟩ := kp hb (b := w.heap.size + 1 + 1) (cs := #[.int .i64 x, .int .i64 y]) (by (first | (with_reducible exact Nat.le_refl _) | (with_reducible assumption) | omega | (simp only [World.size_alloc, World.size_setCell, World.size_drew]; omega) | (simp; omega) | (simp; done))) (fun i => by simp [go_sem]) (fun i => by simp [go_sem])
  have zw1 := hb.size
  have Bw1 := up (B := w.heap.size) (w := w) (by (repeat' (first | (with_reducible exact Below.refl _ _) | (with_reducible assumption) | (with_reducible refine Below.alloc ?_ ?_ _) | (with_reducible refine Below.drew ?_) | (with_reducible refine below_drewN ?_ _) | (with_reducible refine Below.setCell ?_ ?_ _) | (with_reducible exact Nat.le_refl _) | omega | (simp only [World.size_alloc, World.size_setCell, World.size_drew]; omega) | (simp; omega) | (simp; done)))) hb (by (first | (with_reducible exact Nat.le_refl _) | (with_reducible assumption) | omega | (simp only [World.size_alloc, World.size_setCell, World.size_drew]; omega) | (simp; omega) | (simp; done)))
  try simp only [World.size_alloc, World.size_setCell, World.size_drew] at zw1
  have l0w1 : w.heap.size < w1.heap.size := by (first | (with_reducible exact Nat.le_refl _) | (with_reducible assumption) | omega | (simp only [World.size_alloc, World.size_setCell, World.size_drew]; omega) | (simp; omega) | (simp; done))
  have l1w1 : w.heap.size + 1 < w1.heap.size := by (first | (with_reducible exact Nat.le_refl _) | (with_reducible assumption) | omega | (simp only [World.size_alloc, World.size_setCell, World.size_drew]; omega) | (simp; omega) | (simp; done))
  have l2w1 : w.heap.size + 1 + 1 < w1.heap.size := by (first | (with_reducible exact Nat.le_refl _) | (with_reducible assumption) | omega | (simp only [World.size_alloc, World.size_setCell, World.size_drew]; omega) | (simp; omega) | (simp; done))
  clear hb
  go_wp2_with fail
  refine (awake_any _).mono ?_
  rintro e w2 ⟨rfl, hb⟩
  have zw2 := hb.size
  have Bw2 := up (B := w.heap.size) (w := w) (by (repeat' (first | (with_reducible exact Below.refl _ _) | (with_reducible assumption) | (with_reducible refine Below.alloc ?_ ?_ _) | (with_reducible refine Below.drew ?_) | (with_reducible refine below_drewN ?_ _) | (with_reducible refine Below.setCell ?_ ?_ _) | (with_reducible exact Nat.le_refl _) | omega | (simp only [World.size_alloc, World.size_setCell, World.size_drew]; omega) | (simp; omega) | (simp; done)))) hb (by (first | (with_reducible exact Nat.le_refl _) | (with_reducible assumption) | omega | (simp only [World.size_alloc, World.size_setCell, World.size_drew]; omega) | (simp; omega) | (simp; done)))
  try simp only [World.size_alloc, World.size_setCell, World.size_drew] at zw2
  clear hb
  go_wp2_with fail
  go_ret
  exact ⟨rfl, by (repeat' (first | (with_reducible exact Below.refl _ _) | (with_reducible assumption) | (with_reducible refine Below.alloc ?_ ?_ _) | (with_reducible refine Below.drew ?_) | (with_reducible refine below_drewN ?_ _) | (with_reducible refine Below.setCell ?_ ?_ _) | (with_reducible exact Nat.le_refl _) | omega | (simp only [World.size_alloc, World.size_setCell, World.size_drew]; omega) | (simp; omega) | (simp; done)))⟩

set_option maxHeartbeats 1000000 in
theorem goBack_then (f : Bool) (n : Nat) (ax ay : Int) (g : Bool) (p : Int) (bx bz x y : Int) (w : World) (h : tdOk f n ax ay x y = true) (h1 : thOk n ax ay g p bx bz = false) :
    Calls Try.prog 6 #[.agg #[.bool f, .int .i64 n, .int .i64 ax, .int .i64 ay], .agg #[.bool g, .int .i64 p, .int .i64 bx, .int .i64 bz], .agg #[.int .i64 x, .int .i64 y]] w fun e w' => e = .returned (.bool true) ∧ Below w.heap.size w w' := by
  have c16 := fun w => turned_any f n ax ay x y w
  rw [tdV_ok h, Int.toNat_natCast] at c16
  have c22 := fun w => back_any f n ax ay w
  have hb : bkV f n ax ay = .tuple #[.agg #[.bool f, .int .i64 (bkQ f n), .int .i64 (bkX f n ax ay), .int .i64 (bkY f n ax ay)], .int .i64 0] := by simp only [bkV, bkOk, (tdOk_in h).1]; rfl
  rw [hb] at c22
  have c16b := fun w => turned_any f (bkQ f n) (bkX f n ax ay) (bkY f n ax ay) (tpx f n ax x y) (tpy f n ay x y) w
  rw [back_end h] at c16b
  have c20 := fun w => then_all f n ax ay g p bx bz w
  rw [thV_bad h1] at c20
  have c16c := fun w => turned_any g p bx bz (tpx f n ax x y) (tpy f n ay x y) w
  unfold tdV at c16c
  clear h hb h1
  generalize tdX g p bx bz (tpx f n ax x y) (tpy f n ay x y) = X2 at *
  generalize tdY g p bx bz (tpx f n ax x y) (tpy f n ay x y) = Y2 at *
  generalize tdC g p bx bz (tpx f n ax x y) (tpy f n ay x y) = C2 at *
  generalize tpx f n ax x y = X at *
  generalize tpy f n ay x y = Y at *
  generalize bkX f n ax ay = BX at *
  generalize bkY f n ax ay = BY at *
  generalize bkQ f n = BQ at *
  have C16 := Lib.hid c16
  have C22 := Lib.hid c22
  have C16b := Lib.hid c16b
  have C20 := Lib.hid c20
  have C16c := Lib.hid c16c
  clear c16 c22 c16b c20 c16c
  go_enter Try.func6, Try.ntmps6
  go_wp2_with fail
  refine (C16.out _).mono ?_
  rintro e w1 ⟨rfl, hb⟩
  obtain ⟨k0w1, g0w1⟩ := kp hb (b := w.heap.size) (cs := #[.bool f, .int .i64 n, .int .i64 ax, .int .i64 ay]) (by (first | (with_reducible exact Nat.le_refl _) | (with_reducible assumption) | omega | (simp only [World.size_alloc, World.size_setCell, World.size_drew]; omega) | (simp; omega) | (simp; done))) (fun i => by simp [go_sem]) (fun i => by simp [go_sem])
  obtain ⟨k1w1, g1w1⟩ := kp hb (b := w.heap.size + 1) (cs := #[.bool g, .int .i64 p, .int .i64 bx, .int .i64 bz]) (by (first | (with_reducible exact Nat.le_refl _) | (with_reducible assumption) | omega | (simp only [World.size_alloc, World.size_setCell, World.size_drew]; omega) | (simp; omega) | (simp; done))) (fun i => by simp [go_sem]) (fun i => by simp [go_sem])
  obtain ⟨k2w1, g2w1⟩ := kp hb (b := w.heap.size + 1 + 1) (cs := #[.int .i64 x, .int .i64 y]) (by (first | (with_reducible exact Nat.le_refl _) | (with_reducible assumption) | omega | (simp only [World.size_alloc, World.size_setCell, World.size_drew]; omega) | (simp; omega) | (simp; done))) (fun i => by simp [go_sem]) (fun i => by simp [go_sem])
  have zw1 := hb.size
  have Bw1 := up (B := w.heap.size) (w := w) (by (repeat' (first | (with_reducible exact Below.refl _ _) | (with_reducible assumption) | (with_reducible refine Below.alloc ?_ ?_ _) | (with_reducible refine Below.drew ?_) | (with_reducible refine below_drewN ?_ _) | (with_reducible refine Below.setCell ?_ ?_ _) | (with_reducible exact Nat.le_refl _) | omega | (simp only [World.size_alloc, World.size_setCell, World.size_drew]; omega) | (simp; omega) | (simp; done)))) hb (by (first | (with_reducible exact Nat.le_refl _) | (with_reducible assumption) | omega | (simp only [World.size_alloc, World.size_setCell, World.size_drew]; omega) | (simp; omega) | (simp; done)))
  try simp only [World.size_alloc, World.size_setCell, World.size_drew] at zw1
  have l0w1 : w.heap.size < w1.heap.size := by (first | (with_reducible exact Nat.le_refl _) | (with_reducible assumption) | omega | (simp only [World.size_alloc, World.size_setCell, World.size_drew]; omega) | (simp; omega) | (simp; done))
  have l1w1 : w.heap.size + 1 < w1.heap.size := by (first | (with_reducible exact Nat.le_refl _) | (with_reducible assumption) | omega | (simp only [World.size_alloc, World.size_setCell, World.size_drew]; omega) | (simp; omega) | (simp; done))
  have l2w1 : w.heap.size + 1 + 1 < w1.heap.size := by (first | (with_reducible exact Nat.le_refl _) | (with_reducible assumption) | omega | (simp only [World.size_alloc, World.size_setCell, World.size_drew]; omega) | (simp; omega) | (simp; done))
  clear hb
  go_wp2_with fail
  refine (C22.out _).mono ?_
  rintro e w2 ⟨rfl, hb⟩
  obtain ⟨k0w2, g0w2⟩ := kp hb (b := w.heap.size) (cs := #[.bool f, .int .i64 n, .int .i64 ax, .int .i64 ay]) (by (first | (with_reducible exact Nat.le_refl _) | (with_reducible assumption) | omega | (simp only [World.size_alloc, World.size_setCell, World.size_drew]; omega) | (simp; omega) | (simp; done))) (fun i => by simp [go_sem, k0w1, g0w1, l0w1, k1w1, g1w1, l1w1, k2w1, g2w1, l2w1]) (fun i => by simp [go_sem, k0w1, g0w1, l0w1, k1w1, g1w1, l1w1, k2w1, g2w1, l2w1])
  obtain ⟨k1w2, g1w2⟩ := kp hb (b := w.heap.size + 1) (cs := #[.bool g, .int .i64 p, .int .i64 bx, .int .i64 bz]) (by (first | (with_reducible exact Nat.le_refl _) | (with_reducible assumption) | omega | (simp only [World.size_alloc, World.size_setCell, World.size_drew]; omega) | (simp; omega) | (simp; done))) (fun i => by simp [go_sem, k0w1, g0w1, l0w1, k1w1, g1w1, l1w1, k2w1, g2w1, l2w1]) (fun i => by simp [go_sem, k0w1, g0w1, l0w1, k1w1, g1w1, l1w1, k2w1, g2w1, l2w1])
  obtain ⟨k2w2, g2w2⟩ := kp hb (b := w.heap.size + 1 + 1) (cs := #[.int .i64 x, .int .i64 y]) (by (first | (with_reducible exact Nat.le_refl _) | (with_reducible assumption) | omega | (simp only [World.size_alloc, World.size_setCell, World.size_drew]; omega) | (simp; omega) | (simp; done))) (fun i => by simp [go_sem, k0w1, g0w1, l0w1, k1w1, g1w1, l1w1, k2w1, g2w1, l2w1]) (fun i => by simp [go_sem, k0w1, g0w1, l0w1, k1w1, g1w1, l1w1, k2w1, g2w1, l2w1])
  obtain ⟨k3w2, g3w2⟩ := kp hb (b := w1.heap.size) (cs := #[.int .i64 X, .int .i64 Y]) (by (first | (with_reducible exact Nat.le_refl _) | (with_reducible assumption) | omega | (simp only [World.size_alloc, World.size_setCell, World.size_drew]; omega) | (simp; omega) | (simp; done))) (fun i => by simp [go_sem, k0w1, g0w1, l0w1, k1w1, g1w1, l1w1, k2w1, g2w1, l2w1]) (fun i => by simp [go_sem, k0w1, g0w1, l0w1, k1w1, g1w1, l1w1, k2w1, g2w1, l2w1])
  have zw2 := hb.size
  have Bw2 := up (B := w.heap.size) (w := w) (by (repeat' (first | (with_reducible exact Below.refl _ _) | (with_reducible assumption) | (with_reducible refine Below.alloc ?_ ?_ _) | (with_reducible refine Below.drew ?_) | (with_reducible refine below_drewN ?_ _) | (with_reducible refine Below.setCell ?_ ?_ _) | (with_reducible exact Nat.le_refl _) | omega | (simp only [World.size_alloc, World.size_setCell, World.size_drew]; omega) | (simp; omega) | (simp; done)))) hb (by (first | (with_reducible exact Nat.le_refl _) | (with_reducible assumption) | omega | (simp only [World.size_alloc, World.size_setCell, World.size_drew]; omega) | (simp; omega) | (simp; done)))
  try simp only [World.size_alloc, World.size_setCell, World.size_drew] at zw2
  have l0w2 : w.heap.size < w2.heap.size := by (first | (with_reducible exact Nat.le_refl _) | (with_reducible assumption) | omega | (simp only [World.size_alloc, World.size_setCell, World.size_drew]; omega) | (simp; omega) | (simp; done))
  have l1w2 : w.heap.size + 1 < w2.heap.size := by (first | (with_reducible exact Nat.le_refl _) | (with_reducible assumption) | omega | (simp only [World.size_alloc, World.size_setCell, World.size_drew]; omega) | (simp; omega) | (simp; done))
  have l2w2 : w.heap.size + 1 + 1 < w2.heap.size := by (first | (with_reducible exact Nat.le_refl _) | (with_reducible assumption) | omega | (simp only [World.size_alloc, World.size_setCell, World.size_drew]; omega) | (simp; omega) | (simp; done))
  have l3w2 : w1.heap.size < w2.heap.size := by (first | (with_reducible exact Nat.le_refl _) | (with_reducible assumption) | omega | (simp only [World.size_alloc, World.size_setCell, World.size_drew]; omega) | (simp; omega) | (simp; done))
  have n30 : ¬ w1.heap.size = w.heap.size := by omega
  have m30 : ¬ w.heap.size = w1.heap.size := by omega
  have n31 : ¬ w1.heap.size = w.heap.size + 1 := by omega
  have m31 : ¬ w.heap.size + 1 = w1.heap.size := by omega
  have n32 : ¬ w1.heap.size = w.heap.size + 1 + 1 := by omega
  have m32 : ¬ w.heap.size + 1 + 1 = w1.heap.size := by omega
  clear hb
  go_wp2_with fail
  refine (C16b.out _).mono ?_
  rintro e w3 ⟨rfl, hb⟩
  obtain ⟨k0w3, g0w3⟩ := kp hb (b := w.heap.size) (cs := #[.bool f, .int .i64 n, .int .i64 ax, .int .i64 ay]) (by (first | (with_reducible exact Nat.le_refl _) | (with_reducible assumption) | omega | (simp only [World.size_alloc, World.size_setCell, World.size_drew]; omega) | (simp; omega) | (simp; done))) (fun i => by simp [go_sem, k0w2, g0w2, l0w2, k1w2, g1w2, l1w2, k2w2, g2w2, l2w2, k3w2, g3w2, l3w2]) (fun i => by simp [go_sem, k0w2, g0w2, l0w2, k1w2, g1w2, l1w2, k2w2, g2w2, l2w2, k3w2, g3w2, l3w2])
  obtain ⟨k1w3, g1w3⟩ := kp hb (b := w.heap.size + 1) (cs := #[.bool g, .int .i64 p, .int .i64 bx, .int .i64 bz]) (by (first | (with_reducible exact Nat.le_refl _) | (with_reducible assumption) | omega | (simp only [World.size_alloc, World.size_setCell, World.size_drew]; omega) | (simp; omega) | (simp; done))) (fun i => by simp [go_sem, k0w2, g0w2, l0w2, k1w2, g1w2, l1w2, k2w2, g2w2, l2w2, k3w2, g3w2, l3w2]) (fun i => by simp [go_sem, k0w2, g0w2, l0w2, k1w2, g1w2, l1w2, k2w2, g2w2, l2w2, k3w2, g3w2, l3w2])
  obtain ⟨k2w3, g2w3⟩ := kp hb (b := w.heap.size + 1 + 1) (cs := #[.int .i64 x, .int .i64 y]) (by (first | (with_reducible exact Nat.le_refl _) | (with_reducible assumption) | omega | (simp only [World.size_alloc, World.size_setCell, World.size_drew]; omega) | (simp; omega) | (simp; done))) (fun i => by simp [go_sem, k0w2, g0w2, l0w2, k1w2, g1w2, l1w2, k2w2, g2w2, l2w2, k3w2, g3w2, l3w2]) (fun i => by simp [go_sem, k0w2, g0w2, l0w2, k1w2, g1w2, l1w2, k2w2, g2w2, l2w2, k3w2, g3w2, l3w2])
  obtain ⟨k3w3, g3w3⟩ := kp hb (b := w1.heap.size) (cs := #[.int .i64 X, .int .i64 Y]) (by (first | (with_reducible exact Nat.le_refl _) | (with_reducible assumption) | omega | (simp only [World.size_alloc, World.size_setCell, World.size_drew]; omega) | (simp; omega) | (simp; done))) (fun i => by simp [go_sem, k0w2, g0w2, l0w2, k1w2, g1w2, l1w2, k2w2, g2w2, l2w2, k3w2, g3w2, l3w2]) (fun i => by simp [go_sem, k0w2, g0w2, l0w2, k1w2, g1w2, l1w2, k2w2, g2w2, l2w2, k3w2, g3w2, l3w2])
  obtain ⟨k4w3, g4w3⟩ := kp hb (b := w2.heap.size) (cs := #[.bool f, .int .i64 BQ, .int .i64 BX, .int .i64 BY]) (by (first | (with_reducible exact Nat.le_refl _) | (with_reducible assumption) | omega | (simp only [World.size_alloc, World.size_setCell, World.size_drew]; omega) | (simp; omega) | (simp; done))) (fun i => by simp [go_sem, k0w2, g0w2, l0w2, k1w2, g1w2, l1w2, k2w2, g2w2, l2w2, k3w2, g3w2, l3w2]) (fun i => by simp [go_sem, k0w2, g0w2, l0w2, k1w2, g1w2, l1w2, k2w2, g2w2, l2w2, k3w2, g3w2, l3w2])
  have zw3 := hb.size
  have Bw3 := up (B := w.heap.size) (w := w) (by (repeat' (first | (with_reducible exact Below.refl _ _) | (with_reducible assumption) | (with_reducible refine Below.alloc ?_ ?_ _) | (with_reducible refine Below.drew ?_) | (with_reducible refine below_drewN ?_ _) | (with_reducible refine Below.setCell ?_ ?_ _) | (with_reducible exact Nat.le_refl _) | omega | (simp only [World.size_alloc, World.size_setCell, World.size_drew]; omega) | (simp; omega) | (simp; done)))) hb (by (first | (with_reducible exact Nat.le_refl _) | (with_reducible assumption) | omega | (simp only [World.size_alloc, World.size_setCell, World.size_drew]; omega) | (simp; omega) | (simp; done)))
  try simp only [World.size_alloc, World.size_setCell, World.size_drew] at zw3
  have l0w3 : w.heap.size < w3.heap.size := by (first | (with_reducible exact Nat.le_refl _) | (with_reducible assumption) | omega | (simp only [World.size_alloc, World.size_setCell, World.size_drew]; omega) | (simp; omega) | (simp; done))
  have l1w3 : w.heap.size + 1 < w3.heap.size := by (first | (with_reducible exact Nat.le_refl _) | (with_reducible assumption) | omega | (simp only [World.size_alloc, World.size_setCell, World.size_drew]; omega) | (simp; omega) | (simp; done))
  have l2w3 : w.heap.size + 1 + 1 < w3.heap.size := by (first | (with_reducible exact Nat.le_refl _) | (with_reducible assumption) | omega | (simp only [World.size_alloc, World.size_setCell, World.size_drew]; omega) | (simp; omega) | (simp; done))
  have l3w3 : w1.heap.size < w3.heap.size := by (first | (with_reducible exact Nat.le_refl _) | (with_reducible assumption) | omega | (simp only [World.size_alloc, World.size_setCell, World.size_drew]; omega) | (simp; omega) | (simp; done))
  have l4w3 : w2.heap.size < w3.heap.size := by (first | (with_reducible exact Nat.le_refl _) | (with_reducible assumption) | omega | (simp only [World.size_alloc, World.size_setCell, World.size_drew]; omega) | (simp; omega) | (simp; done))
  have n40 : ¬ w2.heap.size = w.heap.size := by omega
  have m40 : ¬ w.heap.size = w2.heap.size := by omega
  have n41 : ¬ w2.heap.size = w.heap.size + 1 := by omega
  have m41 : ¬ w.heap.size + 1 = w2.heap.size := by omega
  have n42 : ¬ w2.heap.size = w.heap.size + 1 + 1 := by omega
  have m42 : ¬ w.heap.size + 1 + 1 = w2.heap.size := by omega
  have n43 : ¬ w2.heap.size = w1.heap.size := by omega
  have m43 : ¬ w1.heap.size = w2.heap.size := by omega
  clear hb
  go_wp2_with fail
  refine (C20.out _).mono ?_
  rintro e w4 ⟨rfl, hb⟩
  obtain ⟨k0w4, g0w4⟩ := kp hb (b := w.heap.size) (cs := #[.bool f, .int .i64 n, .int .i64 ax, .int .i64 ay]) (by (first | (with_reducible exact Nat.le_refl _) | (with_reducible assumption) | omega | (simp only [World.size_alloc, World.size_setCell, World.size_drew]; omega) | (simp; omega) | (simp; done))) (fun i => by simp [go_sem, k0w3, g0w3, l0w3, k1w3, g1w3, l1w3, k2w3, g2w3, l2w3, k3w3, g3w3, l3w3, k4w3, g4w3, l4w3]) (fun i => by simp [go_sem, k0w3, g0w3, l0w3, k1w3, g1w3, l1w3, k2w3, g2w3, l2w3, k3w3, g3w3, l3w3, k4w3, g4w3, l4w3])
  obtain ⟨k1w4, g1w4⟩ := kp hb (b := w.heap.size + 1) (cs := #[.bool g, .int .i64 p, .int .i64 bx, .int .i64 bz]) (by (first | (with_reducible exact Nat.le_refl _) | (with_reducible assumption) | omega | (simp only [World.size_alloc, World.size_setCell, World.size_drew]; omega) | (simp; omega) | (simp; done))) (fun i => by simp [go_sem, k0w3, g0w3, l0w3, k1w3, g1w3, l1w3, k2w3, g2w3, l2w3, k3w3, g3w3, l3w3, k4w3, g4w3, l4w3]) (fun i => by simp [go_sem, k0w3, g0w3, l0w3, k1w3, g1w3, l1w3, k2w3, g2w3, l2w3, k3w3, g3w3, l3w3, k4w3, g4w3, l4w3])
  obtain ⟨k2w4, g2w4⟩ := kp hb (b := w.heap.size + 1 + 1) (cs := #[.int .i64 x, .int .i64 y]) (by (first | (with_reducible exact Nat.le_refl _) | (with_reducible assumption) | omega | (simp only [World.size_alloc, World.size_setCell, World.size_drew]; omega) | (simp; omega) | (simp; done))) (fun i => by simp [go_sem, k0w3, g0w3, l0w3, k1w3, g1w3, l1w3, k2w3, g2w3, l2w3, k3w3, g3w3, l3w3, k4w3, g4w3, l4w3]) (fun i => by simp [go_sem, k0w3, g0w3, l0w3, k1w3, g1w3, l1w3, k2w3, g2w3, l2w3, k3w3, g3w3, l3w3, k4w3, g4w3, l4w3])
  obtain ⟨k3w4, g3w4⟩ := kp hb (b := w1.heap.size) (cs := #[.int .i64 X, .int .i64 Y]) (by (first | (with_reducible exact Nat.le_refl _) | (with_reducible assumption) | omega | (simp only [World.size_alloc, World.size_setCell, World.size_drew]; omega) | (simp; omega) | (simp; done))) (fun i => by simp [go_sem, k0w3, g0w3, l0w3, k1w3, g1w3, l1w3, k2w3, g2w3, l2w3, k3w3, g3w3, l3w3, k4w3, g4w3, l4w3]) (fun i => by simp [go_sem, k0w3, g0w3, l0w3, k1w3, g1w3, l1w3, k2w3, g2w3, l2w3, k3w3, g3w3, l3w3, k4w3, g4w3, l4w3])
  obtain ⟨k4w4, g4w4⟩ := kp hb (b := w2.heap.size) (cs := #[.bool f, .int .i64 BQ, .int .i64 BX, .int .i64 BY]) (by (first | (with_reducible exact Nat.le_refl _) | (with_reducible assumption) | omega | (simp only [World.size_alloc, World.size_setCell, World.size_drew]; omega) | (simp; omega) | (simp; done))) (fun i => by simp [go_sem, k0w3, g0w3, l0w3, k1w3, g1w3, l1w3, k2w3, g2w3, l2w3, k3w3, g3w3, l3w3, k4w3, g4w3, l4w3]) (fun i => by simp [go_sem, k0w3, g0w3, l0w3, k1w3, g1w3, l1w3, k2w3, g2w3, l2w3, k3w3, g3w3, l3w3, k4w3, g4w3, l4w3])
  obtain ⟨k5w4, g5w4⟩ := kp hb (b := w3.heap.size) (cs := #[.int .i64 x, .int .i64 y]) (by (first | (with_reducible exact Nat.le_refl _) | (with_reducible assumption) | omega | (simp only [World.size_alloc, World.size_setCell, World.size_drew]; omega) | (simp; omega) | (simp; done))) (fun i => by simp [go_sem, k0w3, g0w3, l0w3, k1w3, g1w3, l1w3, k2w3, g2w3, l2w3, k3w3, g3w3, l3w3, k4w3, g4w3, l4w3]) (fun i => by simp [go_sem, k0w3, g0w3, l0w3, k1w3, g1w3, l1w3, k2w3, g2w3, l2w3, k3w3, g3w3, l3w3, k4w3, g4w3, l4w3])
  have zw4 := hb.size
  have Bw4 := up (B := w.heap.size) (w := w) (by (repeat' (first | (with_reducible exact Below.refl _ _) | (with_reducible assumption) | (with_reducible refine Below.alloc ?_ ?_ _) | (with_reducible refine Below.drew ?_) | (with_reducible refine below_drewN ?_ _) | (with_reducible refine Below.setCell ?_ ?_ _) | (with_reducible exact Nat.le_refl _) | omega | (simp only [World.size_alloc, World.size_setCell, World.size_drew]; omega) | (simp; omega) | (simp; done)))) hb (by (first | (with_reducible exact Nat.le_refl _) | (with_reducible assumption) | omega | (simp only [World.size_alloc, World.size_setCell, World.size_drew]; omega) | (simp; omega) | (simp; done)))
  try simp only [World.size_alloc, World.size_setCell, World.size_drew] at zw4
  have l0w4 : w.heap.size < w4.heap.size := by (first | (with_reducible exact Nat.le_refl _) | (with_reducible assumption) | omega | (simp only [World.size_alloc, World.size_setCell, World.size_drew]; omega) | (simp; omega) | (simp; done))
  have l1w4 : w.heap.size + 1 < w4.heap.size := by (first | (with_reducible exact Nat.le_refl _) | (with_reducible assumption) | omega | (simp only [World.size_alloc, World.size_setCell, World.size_drew]; omega) | (simp; omega) | (simp; done))
  have l2w4 : w.heap.size + 1 + 1 < w4.heap.size := by (first | (with_reducible exact Nat.le_refl _) | (with_reducible assumption) | omega | (simp only [World.size_alloc, World.size_setCell, World.size_drew]; omega) | (simp; omega) | (simp; done))
  have l3w4 : w1.heap.size < w4.heap.size := by (first | (with_reducible exact Nat.le_refl _) | (with_reducible assumption) | omega | (simp only [World.size_alloc, World.size_setCell, World.size_drew]; omega) | (simp; omega) | (simp; done))
  have l4w4 : w2.heap.size < w4.heap.size := by (first | (with_reducible exact Nat.le_refl _) | (with_reducible assumption) | omega | (simp only [World.size_alloc, World.size_setCell, World.size_drew]; omega) | (simp; omega) | (simp; done))
  have l5w4 : w3.heap.size < w4.heap.size := by (first | (with_reducible exact Nat.le_refl _) | (with_reducible assumption) | omega | (simp only [World.size_alloc, World.size_setCell, World.size_drew]; omega) | (simp; omega) | (simp; done))
  have n50 : ¬ w3.heap.size = w.heap.size := by omega
  have m50 : ¬ w.heap.size = w3.heap.size := by omega
  have n51 : ¬ w3.heap.size = w.heap.size + 1 := by omega
  have m51 : ¬ w.heap.size + 1 = w3.heap.size := by omega
  have n52 : ¬ w3.heap.size = w.heap.size + 1 + 1 := by omega
  have m52 : ¬ w.heap.size + 1 + 1 = w3.heap.size := by omega
  have n53 : ¬ w3.heap.size = w1.heap.size := by omega
  have m53 : ¬ w1.heap.size = w3.heap.size := by omega
  have n54 : ¬ w3.heap.size = w2.heap.size := by omega
  have m54 : ¬ w2.heap.size = w3.heap.size := by omega
  clear hb
  go_wp2_with fail
  refine (C16c.out _).mono ?_
  rintro e w5 ⟨rfl, hb⟩
  obtain ⟨k0w5, g0w5⟩ := kp hb (b := w.heap.size) (cs := #[.bool f, .int .i64 n, .int .i64 ax, .int .i64 ay]) (by (first | (with_reducible exact Nat.le_refl _) | (with_reducible assumption) | omega | (simp only [World.size_alloc, World.size_setCell, World.size_drew]; omega) | (simp; omega) | (simp; done))) (fun i => by simp [go_sem, k0w4, g0w4, l0w4, k1w4, g1w4, l1w4, k2w4, g2w4, l2w4, k3w4, g3w4, l3w4, k4w4, g4w4, l4w4, k5w4, g5w4, l5w4]) (fun i => by simp [go_sem, k0w4, g0w4, l0w4, k1w4, g1w4, l1w4, k2w4, g2w4, l2w4, k3w4, g3w4, l3w4, k4w4, g4w4, l4w4, k5w4, g5w4, l5w4])
  obtain ⟨k1w5, g1w5⟩ := kp hb (b := w.heap.size + 1) (cs := #[.bool g, .int .i64 p, .int .i64 bx, .int .i64 bz]) (by (first | (with_reducible exact Nat.le_refl _) | (with_reducible assumption) | omega | (simp only [World.size_alloc, World.size_setCell, World.size_drew]; omega) | (simp; omega) | (simp; done))) (fun i => by simp [go_sem, k0w4, g0w4, l0w4, k1w4, g1w4, l1w4, k2w4, g2w4, l2w4, k3w4, g3w4, l3w4, k4w4, g4w4, l4w4, k5w4, g5w4, l5w4]) (fun i => by simp [go_sem, k0w4, g0w4, l0w4, k1w4, g1w4, l1w4, k2w4, g2w4, l2w4, k3w4, g3w4, l3w4, k4w4, g4w4, l4w4, k5w4, g5w4, l5w4])
  obtain ⟨k2w5, g2w5⟩ := kp hb (b := w.heap.size + 1 + 1) (cs := #[.int .i64 x, .int .i64 y]) (by (first | (with_reducible exact Nat.le_refl _) | (with_reducible assumption) | omega | (simp only [World.size_alloc, World.size_setCell, World.size_drew]; omega) | (simp; omega) | (simp; done))) (fun i => by simp [go_sem, k0w4, g0w4, l0w4, k1w4, g1w4, l1w4, k2w4, g2w4, l2w4, k3w4, g3w4, l3w4, k4w4, g4w4, l4w4, k5w4, g5w4, l5w4]) (fun i => by simp [go_sem, k0w4, g0w4, l0w4, k1w4, g1w4, l1w4, k2w4, g2w4, l2w4, k3w4, g3w4, l3w4, k4w4, g4w4, l4w4, k5w4, g5w4, l5w4])
  obtain ⟨k3w5, g3w5⟩ := kp hb (b := w1.heap.size) (cs := #[.int .i64 X, .int .i64 Y]) (by (first | (with_reducible exact Nat.le_refl _) | (with_reducible assumption) | omega | (simp only [World.size_alloc, World.size_setCell, World.size_drew]; omega) | (simp; omega) | (simp; done))) (fun i => by simp [go_sem, k0w4, g0w4, l0w4, k1w4, g1w4, l1w4, k2w4, g2w4, l2w4, k3w4, g3w4, l3w4, k4w4, g4w4, l4w4, k5w4, g5w4, l5w4]) (fun i => by simp [go_sem, k0w4, g0w4, l0w4, k1w4, g1w4, l1w4, k2w4, g2w4, l2w4, k3w4, g3w4, l3w4, k4w4, g4w4, l4w4, k5w4, g5w4, l5w4])
  obtain ⟨k4w5, g4w5⟩ := kp hb (b := w2.heap.size) (cs := #[.bool f, .int .i64 BQ, .int .i64 BX, .int .i64 BY]) (by (first | (with_reducible exact Nat.le_refl _) | (with_reducible assumption) | omega | (simp only [World.size_alloc, World.size_setCell, World.size_drew]; omega) | (simp; omega) | (simp; done))) (fun i => by simp [go_sem, k0w4, g0w4, l0w4, k1w4, g1w4, l1w4, k2w4, g2w4, l2w4, k3w4, g3w4, l3w4, k4w4, g4w4, l4w4, k5w4, g5w4, l5w4]) (fun i => by simp [go_sem, k0w4, g0w4, l0w4, k1w4, g1w4, l1w4, k2w4, g2w4, l2w4, k3w4, g3w4, l3w4, k4w4, g4w4, l4w4, k5w4, g5w4, l5w4])
  obtain ⟨k5w5, g5w5⟩ := kp hb (b := w3.heap.size) (cs := #[.int .i64 x, .int .i64 y]) (by (first | (with_reducible exact Nat.le_refl _) | (with_reducible assumption) | omega | (simp only [World.size_alloc, World.size_setCell, World.size_drew]; omega) | (simp; omega) | (simp; done))) (fun i => by simp [go_sem, k0w4, g0w4, l0w4, k1w4, g1w4, l1w4, k2w4, g2w4, l2w4, k3w4, g3w4, l3w4, k4w4, g4w4, l4w4, k5w4, g5w4, l5w4]) (fun i => by simp [go_sem, k0w4, g0w4, l0w4, k1w4, g1w4, l1w4, k2w4, g2w4, l2w4, k3w4, g3w4, l3w4, k4w4, g4w4, l4w4, k5w4, g5w4, l5w4])
  obtain ⟨k6w5, g6w5⟩ := kp hb (b := w4.heap.size) (cs := #[.bool false, .int .i64 0, .int .i64 0, .int .i64 0]) (by (first | (with_reducible exact Nat.le_refl _) | (with_reducible assumption) | omega | (simp only [World.size_alloc, World.size_setCell, World.size_drew]; omega) | (simp; omega) | (simp; done))) (fun i => by simp [go_sem, k0w4, g0w4, l0w4, k1w4, g1w4, l1w4, k2w4, g2w4, l2w4, k3w4, g3w4, l3w4, k4w4, g4w4, l4w4, k5w4, g5w4, l5w4]) (fun i => by simp [go_sem, k0w4, g0w4, l0w4, k1w4, g1w4, l1w4, k2w4, g2w4, l2w4, k3w4, g3w4, l3w4, k4w4, g4w4, l4w4, k5w4, g5w4, l5w4])
  have zw5 := hb.size
  have Bw5 := up (B := w.heap.size) (w := w) (by (repeat' (first | (with_reducible exact Below.refl _ _) | (with_reducible assumption) | (with_reducible refine Below.alloc ?_ ?_ _) | (with_reducible refine Below.drew ?_) | (with_reducible refine below_drewN ?_ _) | (with_reducible refine Below.setCell ?_ ?_ _) | (with_reducible exact Nat.le_refl _) | omega | (simp only [World.size_alloc, World.size_setCell, World.size_drew]; omega) | (simp; omega) | (simp; done)))) hb (by (first | (with_reducible exact Nat.le_refl _) | (with_reducible assumption) | omega | (simp only [World.size_alloc, World.size_setCell, World.size_drew]; omega) | (simp; omega) | (simp; done)))
  try simp only [World.size_alloc, World.size_setCell, World.size_drew] at zw5
  have l0w5 : w.heap.size < w5.heap.size := by (first | (with_reducible exact Nat.le_refl _) | (with_reducible assumption) | omega | (simp only [World.size_alloc, World.size_setCell, World.size_drew]; omega) | (simp; omega) | (simp; done))
  have l1w5 : w.heap.size + 1 < w5.heap.size := by (first | (with_reducible exact Nat.le_refl _) | (with_reducible assumption) | omega | (simp only [World.size_alloc, World.size_setCell, World.size_drew]; omega) | (simp; omega) | (simp; done))
  have l2w5 : w.heap.size + 1 + 1 < w5.heap.size := by (first | (with_reducible exact Nat.le_refl _) | (with_reducible assumption) | omega | (simp only [World.size_alloc, World.size_setCell, World.size_drew]; omega) | (simp; omega) | (simp; done))
  have l3w5 : w1.heap.size < w5.heap.size := by (first | (with_reducible exact Nat.le_refl _) | (with_reducible assumption) | omega | (simp only [World.size_alloc, World.size_setCell, World.size_drew]; omega) | (simp; omega) | (simp; done))
  have l4w5 : w2.heap.size < w5.heap.size := by (first | (with_reducible exact Nat.le_refl _) | (with_reducible assumption) | omega | (simp only [World.size_alloc, World.size_setCell, World.size_drew]; omega) | (simp; omega) | (simp; done))
  have l5w5 : w3.heap.size < w5.heap.size := by (first | (with_reducible exact Nat.le_refl _) | (with_reducible assumption) | omega | (simp only [World.size_alloc, World.size_setCell, World.size_drew]; omega) | (simp; omega) | (simp; done))
  have l6w5 : w4.heap.size < w5.heap.size := by (first | (with_reducible exact Nat.le_refl _) | (with_reducible assumption) | omega | (simp only [World.size_alloc, World.size_setCell, World.size_drew]; omega) | (simp; omega) | (simp; done))
  have n60 : ¬ w4.heap.size = w.heap.size := by omega
  have m60 : ¬ w.heap.size = w4.heap.size := by omega
  have n61 : ¬ w4.heap.size = w.heap.size + 1 := by omega
  have m61 : ¬ w.heap.size + 1 = w4.heap.size := by omega
  have n62 : ¬ w4.heap.size = w.heap.size + 1 + 1 := by omega
  have m62 : ¬ w.heap.size + 1 + 1 = w4.heap.size := by omega
  have n63 : ¬ w4.heap.size = w1.heap.size := by omega
  have m63 : ¬ w1.heap.size = w4.heap.size := by omega
  have n64 : ¬ w4.heap.size = w2.heap.size := by omega
  have m64 : ¬ w2.heap.size = w4.heap.size := by omega
  have n65 : ¬ w4.heap.size = w3.heap.size := by omega
  have m65 : ¬ w3.heap.size = w4.heap.size := by omega
  clear hb
  go_wp2_with fail
  refine (awake_any _).mono ?_
  rintro e w7 ⟨rfl, hb⟩
  have zw7 := hb.size
  have Bw7 := up (B := w.heap.size) (w := w) (by (repeat' (first | (with_reducible exact Below.refl _ _) | (with_reducible assumption) | (with_reducible refine Below.alloc ?_ ?_ _) | (with_reducible refine Below.drew ?_) | (with_reducible refine below_drewN ?_ _) | (with_reducible refine Below.setCell ?_ ?_ _) | (with_reducible exact Nat.le_refl _) | omega | (simp only [World.size_alloc, World.size_setCell, World.size_drew]; omega) | (simp; omega) | (simp; done)))) hb (by (first | (with_reducible exact Nat.le_refl _) | (with_reducible assumption) | omega | (simp only [World.size_alloc, World.size_setCell, World.size_drew]; omega) | (simp; omega) | (simp; done)))
  try simp only [World.size_alloc, World.size_setCell, World.size_drew] at zw7
  clear hb
  go_wp2_with fail
  go_ret
  exact ⟨rfl, by (repeat' (first | (with_reducible exact Below.refl _ _) | (with_reducible assumption) | (with_reducible refine Below.alloc ?_ ?_ _) | (with_reducible refine Below.drew ?_) | (with_reducible refine below_drewN ?_ _) | (with_reducible refine Below.setCell ?_ ?_ _) | (with_reducible exact Nat.le_refl _) | omega | (simp only [World.size_alloc, World.size_setCell, World.size_drew]; omega) | (simp; omega) | (simp; done)))⟩

set_option maxHeartbeats 1000000 in
theorem goBack_turn (f : Bool) (n : Nat) (ax ay : Int) (g : Bool) (m : Nat) (bx bz x y : Int) (w : World) (h : tdOk f n ax ay x y = true) (h1 : thOk n ax ay g m bx bz = true) (h2 : tdOk g m bx bz (tpx f n ax x y) (tpy f n ay x y) = false) :
    Calls Try.prog 6 #[.agg #[.bool f, .int .i64 n, .int .i64 ax, .int .i64 ay], .agg #[.bool g, .int .i64 m, .int .i64 bx, .int .i64 bz], .agg #[.int .i64 x, .int .i64 y]] w fun e w' => e = .returned (.bool true) ∧ Below w.heap.size w w' := by
  have c16 := fun w => turned_any f n ax ay x y w
  rw [tdV_ok h, Int.toNat_natCast] at c16
  have c22 := fun w => back_any f n ax ay w
  have hb : bkV f n ax ay = .tuple #[.agg #[.bool f, .int .i64 (bkQ f n), .int .i64 (bkX f n ax ay), .int .i64 (bkY f n ax ay)], .int .i64 0] := by simp only [bkV, bkOk, (tdOk_in h).1]; rfl
  rw [hb] at c22
  have c16b := fun w => turned_any f (bkQ f n) (bkX f n ax ay) (bkY f n ax ay) (tpx f n ax x y) (tpy f n ay x y) w
  rw [back_end h] at c16b
  have c20 := fun w => then_all f n ax ay g m bx bz w
  rw [thV_ok h1, Int.toNat_natCast] at c20
  have c16c := fun w => turned_any g m bx bz (tpx f n ax x y) (tpy f n ay x y) w
  rw [tdV_bad h2] at c16c
  clear h hb h1 h2
  generalize thQ g n m = TQ at *
  generalize tpx g m bx ax ay = TX at *
  generalize tpy g m bz ax ay = TY at *
  generalize (f != g) = TF at *
  generalize tpx f n ax x y = X at *
  generalize tpy f n ay x y = Y at *
  generalize bkX f n ax ay = BX at *
  generalize bkY f n ax ay = BY at *
  generalize bkQ f n = BQ at *
  have C16 := Lib.hid c16
  have C22 := Lib.hid c22
  have C16b := Lib.hid c16b
  have C20 := Lib.hid c20
  have C16c := Lib.hid c16c
  clear c16 c22 c16b c20 c16c
  go_enter Try.func6, Try.ntmps6
  go_wp2_with fail
  refine (C16.out _).mono ?_
  rintro e w1 ⟨rfl, hb⟩
  obtain ⟨k0w1, g0w1⟩ := kp hb (b := w.heap.size) (cs := #[.bool f, .int .i64 n, .int .i64 ax, .int .i64 ay]) (by (first | (with_reducible exact Nat.le_refl _) | (with_reducible assumption) | omega | (simp only [World.size_alloc, World.size_setCell, World.size_drew]; omega) | (simp; omega) | (simp; done))) (fun i => by simp [go_sem]) (fun i => by simp [go_sem])
  obtain ⟨k1w1, g1w1⟩ := kp hb (b := w.heap.size + 1) (cs := #[.bool g, .int .i64 m, .int .i64 bx, .int .i64 bz]) (by (first | (with_reducible exact Nat.le_refl _) | (with_reducible assumption) | omega | (simp only [World.size_alloc, World.size_setCell, World.size_drew]; omega) | (simp; omega) | (simp; done))) (fun i => by simp [go_sem]) (fun i => by simp [go_sem])
  obtain ⟨k2w1, g2w1⟩ := kp hb (b := w.heap.size + 1 + 1) (cs := #[.int .i64 x, .int .i64 y]) (by (first | (with_reducible exact Nat.le_refl _) | (with_reducible assumption) | omega | (simp only [World.size_alloc, World.size_setCell, World.size_drew]; omega) | (simp; omega) | (simp; done))) (fun i => by simp [go_sem]) (fun i => by simp [go_sem])
  have zw1 := hb.size
  have Bw1 := up (B := w.heap.size) (w := w) (by (repeat' (first | (with_reducible exact Below.refl _ _) | (with_reducible assumption) | (with_reducible refine Below.alloc ?_ ?_ _) | (with_reducible refine Below.drew ?_) | (with_reducible refine below_drewN ?_ _) | (with_reducible refine Below.setCell ?_ ?_ _) | (with_reducible exact Nat.le_refl _) | omega | (simp only [World.size_alloc, World.size_setCell, World.size_drew]; omega) | (simp; omega) | (simp; done)))) hb (by (first | (with_reducible exact Nat.le_refl _) | (with_reducible assumption) | omega | (simp only [World.size_alloc, World.size_setCell, World.size_drew]; omega) | (simp; omega) | (simp; done)))
  try simp only [World.size_alloc, World.size_setCell, World.size_drew] at zw1
  have l0w1 : w.heap.size < w1.heap.size := by (first | (with_reducible exact Nat.le_refl _) | (with_reducible assumption) | omega | (simp only [World.size_alloc, World.size_setCell, World.size_drew]; omega) | (simp; omega) | (simp; done))
  have l1w1 : w.heap.size + 1 < w1.heap.size := by (first | (with_reducible exact Nat.le_refl _) | (with_reducible assumption) | omega | (simp only [World.size_alloc, World.size_setCell, World.size_drew]; omega) | (simp; omega) | (simp; done))
  have l2w1 : w.heap.size + 1 + 1 < w1.heap.size := by (first | (with_reducible exact Nat.le_refl _) | (with_reducible assumption) | omega | (simp only [World.size_alloc, World.size_setCell, World.size_drew]; omega) | (simp; omega) | (simp; done))
  clear hb
  go_wp2_with fail
  refine (C22.out _).mono ?_
  rintro e w2 ⟨rfl, hb⟩
  obtain ⟨k0w2, g0w2⟩ := kp hb (b := w.heap.size) (cs := #[.bool f, .int .i64 n, .int .i64 ax, .int .i64 ay]) (by (first | (with_reducible exact Nat.le_refl _) | (with_reducible assumption) | omega | (simp only [World.size_alloc, World.size_setCell, World.size_drew]; omega) | (simp; omega) | (simp; done))) (fun i => by simp [go_sem, k0w1, g0w1, l0w1, k1w1, g1w1, l1w1, k2w1, g2w1, l2w1]) (fun i => by simp [go_sem, k0w1, g0w1, l0w1, k1w1, g1w1, l1w1, k2w1, g2w1, l2w1])
  obtain ⟨k1w2, g1w2⟩ := kp hb (b := w.heap.size + 1) (cs := #[.bool g, .int .i64 m, .int .i64 bx, .int .i64 bz]) (by (first | (with_reducible exact Nat.le_refl _) | (with_reducible assumption) | omega | (simp only [World.size_alloc, World.size_setCell, World.size_drew]; omega) | (simp; omega) | (simp; done))) (fun i => by simp [go_sem, k0w1, g0w1, l0w1, k1w1, g1w1, l1w1, k2w1, g2w1, l2w1]) (fun i => by simp [go_sem, k0w1, g0w1, l0w1, k1w1, g1w1, l1w1, k2w1, g2w1, l2w1])
  obtain ⟨k2w2, g2w2⟩ := kp hb (b := w.heap.size + 1 + 1) (cs := #[.int .i64 x, .int .i64 y]) (by (first | (with_reducible exact Nat.le_refl _) | (with_reducible assumption) | omega | (simp only [World.size_alloc, World.size_setCell, World.size_drew]; omega) | (simp; omega) | (simp; done))) (fun i => by simp [go_sem, k0w1, g0w1, l0w1, k1w1, g1w1, l1w1, k2w1, g2w1, l2w1]) (fun i => by simp [go_sem, k0w1, g0w1, l0w1, k1w1, g1w1, l1w1, k2w1, g2w1, l2w1])
  obtain ⟨k3w2, g3w2⟩ := kp hb (b := w1.heap.size) (cs := #[.int .i64 X, .int .i64 Y]) (by (first | (with_reducible exact Nat.le_refl _) | (with_reducible assumption) | omega | (simp only [World.size_alloc, World.size_setCell, World.size_drew]; omega) | (simp; omega) | (simp; done))) (fun i => by simp [go_sem, k0w1, g0w1, l0w1, k1w1, g1w1, l1w1, k2w1, g2w1, l2w1]) (fun i => by simp [go_sem, k0w1, g0w1, l0w1, k1w1, g1w1, l1w1, k2w1, g2w1, l2w1])
  have zw2 := hb.size
  have Bw2 := up (B := w.heap.size) (w := w) (by (repeat' (first | (with_reducible exact Below.refl _ _) | (with_reducible assumption) | (with_reducible refine Below.alloc ?_ ?_ _) | (with_reducible refine Below.drew ?_) | (with_reducible refine below_drewN ?_ _) | (with_reducible refine Below.setCell ?_ ?_ _) | (with_reducible exact Nat.le_refl _) | omega | (simp only [World.size_alloc, World.size_setCell, World.size_drew]; omega) | (simp; omega) | (simp; done)))) hb (by (first | (with_reducible exact Nat.le_refl _) | (with_reducible assumption) | omega | (simp only [World.size_alloc, World.size_setCell, World.size_drew]; omega) | (simp; omega) | (simp; done)))
  try simp only [World.size_alloc, World.size_setCell, World.size_drew] at zw2
  have l0w2 : w.heap.size < w2.heap.size := by (first | (with_reducible exact Nat.le_refl _) | (with_reducible assumption) | omega | (simp only [World.size_alloc, World.size_setCell, World.size_drew]; omega) | (simp; omega) | (simp; done))
  have l1w2 : w.heap.size + 1 < w2.heap.size := by (first | (with_reducible exact Nat.le_refl _) | (with_reducible assumption) | omega | (simp only [World.size_alloc, World.size_setCell, World.size_drew]; omega) | (simp; omega) | (simp; done))
  have l2w2 : w.heap.size + 1 + 1 < w2.heap.size := by (first | (with_reducible exact Nat.le_refl _) | (with_reducible assumption) | omega | (simp only [World.size_alloc, World.size_setCell, World.size_drew]; omega) | (simp; omega) | (simp; done))
  have l3w2 : w1.heap.size < w2.heap.size := by (first | (with_reducible exact Nat.le_refl _) | (with_reducible assumption) | omega | (simp only [World.size_alloc, World.size_setCell, World.size_drew]; omega) | (simp; omega) | (simp; done))
  have n30 : ¬ w1.heap.size = w.heap.size := by omega
  have m30 : ¬ w.heap.size = w1.heap.size := by omega
  have n31 : ¬ w1.heap.size = w.heap.size + 1 := by omega
  have m31 : ¬ w.heap.size + 1 = w1.heap.size := by omega
  have n32 : ¬ w1.heap.size = w.heap.size + 1 + 1 := by omega
  have m32 : ¬ w.heap.size + 1 + 1 = w1.heap.size := by omega
  clear hb
  go_wp2_with fail
  refine (C16b.out _).mono ?_
  rintro e w3 ⟨rfl, hb⟩
  obtain ⟨k0w3, g0w3⟩ := kp hb (b := w.heap.size) (cs := #[.bool f, .int .i64 n, .int .i64 ax, .int .i64 ay]) (by (first | (with_reducible exact Nat.le_refl _) | (with_reducible assumption) | omega | (simp only [World.size_alloc, World.size_setCell, World.size_drew]; omega) | (simp; omega) | (simp; done))) (fun i => by simp [go_sem, k0w2, g0w2, l0w2, k1w2, g1w2, l1w2, k2w2, g2w2, l2w2, k3w2, g3w2, l3w2]) (fun i => by simp [go_sem, k0w2, g0w2, l0w2, k1w2, g1w2, l1w2, k2w2, g2w2, l2w2, k3w2, g3w2, l3w2])
  obtain ⟨k1w3, g1w3⟩ := kp hb (b := w.heap.size + 1) (cs := #[.bool g, .int .i64 m, .int .i64 bx, .int .i64 bz]) (by (first | (with_reducible exact Nat.le_refl _) | (with_reducible assumption) | omega | (simp only [World.size_alloc, World.size_setCell, World.size_drew]; omega) | (simp; omega) | (simp; done))) (fun i => by simp [go_sem, k0w2, g0w2, l0w2, k1w2, g1w2, l1w2, k2w2, g2w2, l2w2, k3w2, g3w2, l3w2]) (fun i => by simp [go_sem, k0w2, g0w2, l0w2, k1w2, g1w2, l1w2, k2w2, g2w2, l2w2, k3w2, g3w2, l3w2])
  obtain ⟨k2w3, g2w3⟩ := kp hb (b := w.heap.size + 1 + 1) (cs := #[.int .i64 x, .int .i64 y]) (by (first | (with_reducible exact Nat.le_refl _) | (with_reducible assumption) | omega | (simp only [World.size_alloc, World.size_setCell, World.size_drew]; omega) | (simp; omega) | (simp; done))) (fun i => by simp [go_sem, k0w2, g0w2, l0w2, k1w2, g1w2, l1w2, k2w2, g2w2, l2w2, k3w2, g3w2, l3w2]) (fun i => by simp [go_sem, k0w2, g0w2, l0w2, k1w2, g1w2, l1w2, k2w2, g2w2, l2w2, k3w2, g3w2, l3w2])
  obtain ⟨k3w3, g3w3⟩ := kp hb (b := w1.heap.size) (cs := #[.int .i64 X, .int .i64 Y]) (by (first | (with_reducible exact Nat.le_refl _) | (with_reducible assumption) | omega | (simp only [World.size_alloc, World.size_setCell, World.size_drew]; omega) | (simp; omega) | (simp; done))) (fun i => by simp [go_sem, k0w2, g0w2, l0w2, k1w2, g1w2, l1w2, k2w2, g2w2, l2w2, k3w2, g3w2, l3w2]) (fun i => by simp [go_sem, k0w2, g0w2, l0w2, k1w2, g1w2, l1w2, k2w2, g2w2, l2w2, k3w2, g3w2, l3w2])
  obtain ⟨k4w3, g4w3⟩ := kp hb (b := w2.heap.size) (cs := #[.bool f, .int .i64 BQ, .int .i64 BX, .int .i64 BY]) (by (first | (with_reducible exact Nat.le_refl _) | (with_reducible assumption) | omega | (simp only [World.size_alloc, World.size_setCell, World.size_drew]; omega) | (simp; omega) | (simp; done))) (fun i => by simp [go_sem, k0w2, g0w2, l0w2, k1w2, g1w2, l1w2, k2w2, g2w2, l2w2, k3w2, g3w2, l3w2]) (fun i => by simp [go_sem, k0w2, g0w2, l0w2, k1w2, g1w2, l1w2, k2w2, g2w2, l2w2, k3w2, g3w2, l3w2])
  have zw3 := hb.size
  have Bw3 := up (B := w.heap.size) (w := w) (by (repeat' (first | (with_reducible exact Below.refl _ _) | (with_reducible assumption) | (with_reducible refine Below.alloc ?_ ?_ _) | (with_reducible refine Below.drew ?_) | (with_reducible refine below_drewN ?_ _) | (with_reducible refine Below.setCell ?_ ?_ _) | (with_reducible exact Nat.le_refl _) | omega | (simp only [World.size_alloc, World.size_setCell, World.size_drew]; omega) | (simp; omega) | (simp; done)))) hb (by (first | (with_reducible exact Nat.le_refl _) | (with_reducible assumption) | omega | (simp only [World.size_alloc, World.size_setCell, World.size_drew]; omega) | (simp; omega) | (simp; done)))
  try simp only [World.size_alloc, World.size_setCell, World.size_drew] at zw3
  have l0w3 : w.heap.size < w3.heap.size := by (first | (with_reducible exact Nat.le_refl _) | (with_reducible assumption) | omega | (simp only [World.size_alloc, World.size_setCell, World.size_drew]; omega) | (simp; omega) | (simp; done))
  have l1w3 : w.heap.size + 1 < w3.heap.size := by (first | (with_reducible exact Nat.le_refl _) | (with_reducible assumption) | omega | (simp only [World.size_alloc, World.size_setCell, World.size_drew]; omega) | (simp; omega) | (simp; done))
  have l2w3 : w.heap.size + 1 + 1 < w3.heap.size := by (first | (with_reducible exact Nat.le_refl _) | (with_reducible assumption) | omega | (simp only [World.size_alloc, World.size_setCell, World.size_drew]; omega) | (simp; omega) | (simp; done))
  have l3w3 : w1.heap.size < w3.heap.size := by (first | (with_reducible exact Nat.le_refl _) | (with_reducible assumption) | omega | (simp only [World.size_alloc, World.size_setCell, World.size_drew]; omega) | (simp; omega) | (simp; done))
  have l4w3 : w2.heap.size < w3.heap.size := by (first | (with_reducible exact Nat.le_refl _) | (with_reducible assumption) | omega | (simp only [World.size_alloc, World.size_setCell, World.size_drew]; omega) | (simp; omega) | (simp; done))
  have n40 : ¬ w2.heap.size = w.heap.size := by omega
  have m40 : ¬ w.heap.size = w2.heap.size := by omega
  have n41 : ¬ w2.heap.size = w.heap.size + 1 := by omega
  have m41 : ¬ w.heap.size + 1 = w2.heap.size := by omega
  have n42 : ¬ w2.heap.size = w.heap.size + 1 + 1 := by omega
  have m42 : ¬ w.heap.size + 1 + 1 = w2.heap.size := by omega
  have n43 : ¬ w2.heap.size = w1.heap.size := by omega
  have m43 : ¬ w1.heap.size = w2.heap.size := by omega
  clear hb
  go_wp2_with fail
  refine (C20.out _).mono ?_
  rintro e w4 ⟨rfl, hb⟩
  obtain ⟨k0w4, g0w4⟩ := kp hb (b := w.heap.size) (cs := #[.bool f, .int .i64 n, .int .i64 ax, .int .i64 ay]) (by (first | (with_reducible exact Nat.le_refl _) | (with_reducible assumption) | omega | (simp only [World.size_alloc, World.size_setCell, World.size_drew]; omega) | (simp; omega) | (simp; done))) (fun i => by simp [go_sem, k0w3, g0w3, l0w3, k1w3, g1w3, l1w3, k2w3, g2w3, l2w3, k3w3, g3w3, l3w3, k4w3, g4w3, l4w3]) (fun i => by simp [go_sem, k0w3, g0w3, l0w3, k1w3, g1w3, l1w3, k2w3, g2w3, l2w3, k3w3, g3w3, l3w3, k4w3, g4w3, l4w3])
  obtain ⟨k1w4, g1w4⟩ := kp hb (b := w.heap.size + 1) (cs := #[.bool g, .int .i64 m, .int .i64 bx, .int .i64 bz]) (by (first | (with_reducible exact Nat.le_refl _) | (with_reducible assumption) | omega | (simp only [World.size_alloc, World.size_setCell, World.size_drew]; omega) | (simp; omega) | (simp; done))) (fun i => by simp [go_sem, k0w3, g0w3, l0w3, k1w3, g1w3, l1w3, k2w3, g2w3, l2w3, k3w3, g3w3, l3w3, k4w3, g4w3, l4w3]) (fun i => by simp [go_sem, k0w3, g0w3, l0w3, k1w3, g1w3, l1w3, k2w3, g2w3, l2w3, k3w3, g3w3, l3w3, k4w3, g4w3, l4w3])
  obtain ⟨k2w4, g2w4⟩ := kp hb (b := w.heap.size + 1 + 1) (cs := #[.int .i64 x, .int .i64 y]) (by (first | (with_reducible exact Nat.le_refl _) | (with_reducible assumption) | omega | (simp only [World.size_alloc, World.size_setCell, World.size_drew]; omega) | (simp; omega) | (simp; done))) (fun i => by simp [go_sem, k0w3, g0w3, l0w3, k1w3, g1w3, l1w3, k2w3, g2w3, l2w3, k3w3, g3w3, l3w3, k4w3, g4w3, l4w3]) (fun i => by simp [go_sem, k0w3, g0w3, l0w3, k1w3, g1w3, l1w3, k2w3, g2w3, l2w3, k3w3, g3w3, l3w3, k4w3, g4w3, l4w3])
  obtain ⟨k3w4, g3w4⟩ := kp hb (b := w1.heap.size) (cs := #[.int .i64 X, .int .i64 Y]) (by (first | (with_reducible exact Nat.le_refl _) | (with_reducible assumption) | omega | (simp only [World.size_alloc, World.size_setCell, World.size_drew]; omega) | (simp; omega) | (simp; done))) (fun i => by simp [go_sem, k0w3, g0w3, l0w3, k1w3, g1w3, l1w3, k2w3, g2w3, l2w3, k3w3, g3w3, l3w3, k4w3, g4w3, l4w3]) (fun i => by simp [go_sem, k0w3, g0w3, l0w3, k1w3, g1w3, l1w3, k2w3, g2w3, l2w3, k3w3, g3w3, l3w3, k4w3, g4w3, l4w3])
  obtain ⟨k4w4, g4w4⟩ := kp hb (b := w2.heap.size) (cs := #[.bool f, .int .i64 BQ, .int .i64 BX, .int .i64 BY]) (by (first | (with_reducible exact Nat.le_refl _) | (with_reducible assumption) | omega | (simp only [World.size_alloc, World.size_setCell, World.size_drew]; omega) | (simp; omega) | (simp; done))) (fun i => by simp [go_sem, k0w3, g0w3, l0w3, k1w3, g1w3, l1w3, k2w3, g2w3, l2w3, k3w3, g3w3, l3w3, k4w3, g4w3, l4w3]) (fun i => by simp [go_sem, k0w3, g0w3, l0w3, k1w3, g1w3, l1w3, k2w3, g2w3, l2w3, k3w3, g3w3, l3w3, k4w3, g4w3, l4w3])
  obtain ⟨k5w4, g5w4⟩ := kp hb (b := w3.heap.size) (cs := #[.int .i64 x, .int .i64 y]) (by (first | (with_reducible exact Nat.le_refl _) | (with_reducible assumption) | omega | (simp only [World.size_alloc, World.size_setCell, World.size_drew]; omega) | (simp; omega) | (simp; done))) (fun i => by simp [go_sem, k0w3, g0w3, l0w3, k1w3, g1w3, l1w3, k2w3, g2w3, l2w3, k3w3, g3w3, l3w3, k4w3, g4w3, l4w3]) (fun i => by simp [go_sem, k0w3, g0w3, l0w3, k1w3, g1w3, l1w3, k2w3, g2w3, l2w3, k3w3, g3w3, l3w3, k4w3, g4w3, l4w3])
  have zw4 := hb.size
  have Bw4 := up (B := w.heap.size) (w := w) (by (repeat' (first | (with_reducible exact Below.refl _ _) | (with_reducible assumption) | (with_reducible refine Below.alloc ?_ ?_ _) | (with_reducible refine Below.drew ?_) | (with_reducible refine below_drewN ?_ _) | (with_reducible refine Below.setCell ?_ ?_ _) | (with_reducible exact Nat.le_refl _) | omega | (simp only [World.size_alloc, World.size_setCell, World.size_drew]; omega) | (simp; omega) | (simp; done)))) hb (by (first | (with_reducible exact Nat.le_refl _) | (with_reducible assumption) | omega | (simp only [World.size_alloc, World.size_setCell, World.size_drew]; omega) | (simp; omega) | (simp; done)))
  try simp only [World.size_alloc, World.size_setCell, World.size_drew] at zw4
  have l0w4 : w.heap.size < w4.heap.size := by (first | (with_reducible exact Nat.le_refl _) | (with_reducible assumption) | omega | (simp only [World.size_alloc, World.size_setCell, World.size_drew]; omega) | (simp; omega) | (simp; done))
  have l1w4 : w.heap.size + 1 < w4.heap.size := by (first | (with_reducible exact Nat.le_refl _) | (with_reducible assumption) | omega | (simp only [World.size_alloc, World.size_setCell, World.size_drew]; omega) | (simp; omega) | (simp; done))
  have l2w4 : w.heap.size + 1 + 1 < w4.heap.size := by (first | (with_reducible exact Nat.le_refl _) | (with_reducible assumption) | omega | (simp only [World.size_alloc, World.size_setCell, World.size_drew]; omega) | (simp; omega) | (simp; done))
  have l3w4 : w1.heap.size < w4.heap.size := by (first | (with_reducible exact Nat.le_refl _) | (with_reducible assumption) | omega | (simp only [World.size_alloc, World.size_setCell, World.size_drew]; omega) | (simp; omega) | (simp; done))
  have l4w4 : w2.heap.size < w4.heap.size := by (first | (with_reducible exact Nat.le_refl _) | (with_reducible assumption) | omega | (simp only [World.size_alloc, World.size_setCell, World.size_drew]; omega) | (simp; omega) | (simp; done))
  have l5w4 : w3.heap.size < w4.heap.size := by (first | (with_reducible exact Nat.le_refl _) | (with_reducible assumption) | omega | (simp only [World.size_alloc, World.size_setCell, World.size_drew]; omega) | (simp; omega) | (simp; done))
  have n50 : ¬ w3.heap.size = w.heap.size := by omega
  have m50 : ¬ w.heap.size = w3.heap.size := by omega
  have n51 : ¬ w3.heap.size = w.heap.size + 1 := by omega
  have m51 : ¬ w.heap.size + 1 = w3.heap.size := by omega
  have n52 : ¬ w3.heap.size = w.heap.size + 1 + 1 := by omega
  have m52 : ¬ w.heap.size + 1 + 1 = w3.heap.size := by omega
  have n53 : ¬ w3.heap.size = w1.heap.size := by omega
  have m53 : ¬ w1.heap.size = w3.heap.size := by omega
  have n54 : ¬ w3.heap.size = w2.heap.size := by omega
  have m54 : ¬ w2.heap.size = w3.heap.size := by omega
  clear hb
  go_wp2_with fail
  refine (C16c.out _).mono ?_
  rintro e w5 ⟨rfl, hb⟩
  obtain ⟨k0w5, g0w5⟩ := kp hb (b := w.heap.size) (cs := #[.bool f, .int .i64 n, .int .i64 ax, .int .i64 ay]) (by (first | (with_reducible exact Nat.le_refl _) | (with_reducible assumption) | omega | (simp only [World.size_alloc, World.size_setCell, World.size_drew]; omega) | (simp; omega) | (simp; done))) (fun i => by simp [go_sem, k0w4, g0w4, l0w4, k1w4, g1w4, l1w4, k2w4, g2w4, l2w4, k3w4, g3w4, l3w4, k4w4, g4w4, l4w4, k5w4, g5w4, l5w4]) (fun i => by simp [go_sem, k0w4, g0w4, l0w4, k1w4, g1w4, l1w4, k2w4, g2w4, l2w4, k3w4, g3w4, l3w4, k4w4, g4w4, l4w4, k5w4, g5w4, l5w4])
  obtain ⟨k1w5, g1w5⟩ := kp hb (b := w.heap.size + 1) (cs := #[.bool g, .int .i64 m, .int .i64 bx, .int .i64 bz]) (by (first | (with_reducible exact Nat.le_refl _) | (with_reducible assumption) | omega | (simp only [World.size_alloc, World.size_setCell, World.size_drew]; omega) | (simp; omega) | (simp; done))) (fun i => by simp [go_sem, k0w4, g0w4, l0w4, k1w4, g1w4, l1w4, k2w4, g2w4, l2w4, k3w4, g3w4, l3w4, k4w4, g4w4, l4w4, k5w4, g5w4, l5w4]) (fun i => by simp [go_sem, k0w4, g0w4, l0w4, k1w4, g1w4, l1w4, k2w4, g2w4, l2w4, k3w4, g3w4, l3w4, k4w4, g4w4, l4w4, k5w4, g5w4, l5w4])
  obtain ⟨k2w5, g2w5⟩ := kp hb (b := w.heap.size + 1 + 1) (cs := #[.int .i64 x, .int .i64 y]) (by (first | (with_reducible exact Nat.le_refl _) | (with_reducible assumption) | omega | (simp only [World.size_alloc, World.size_setCell, World.size_drew]; omega) | (simp; omega) | (simp; done))) (fun i => by simp [go_sem, k0w4, g0w4, l0w4, k1w4, g1w4, l1w4, k2w4, g2w4, l2w4, k3w4, g3w4, l3w4, k4w4, g4w4, l4w4, k5w4, g5w4, l5w4]) (fun i => by simp [go_sem, k0w4, g0w4, l0w4, k1w4, g1w4, l1w4, k2w4, g2w4, l2w4, k3w4, g3w4, l3w4, k4w4, g4w4, l4w4, k5w4, g5w4, l5w4])
  obtain ⟨k3w5, g3w5⟩ := kp hb (b := w1.heap.size) (cs := #[.int .i64 X, .int .i64 Y]) (by (first | (with_reducible exact Nat.le_refl _) | (with_reducible assumption) | omega | (simp only [World.size_alloc, World.size_setCell, World.size_drew]; omega) | (simp; omega) | (simp; done))) (fun i => by simp [go_sem, k0w4, g0w4, l0w4, k1w4, g1w4, l1w4, k2w4, g2w4, l2w4, k3w4, g3w4, l3w4, k4w4, g4w4, l4w4, k5w4, g5w4, l5w4]) (fun i => by simp [go_sem, k0w4, g0w4, l0w4, k1w4, g1w4, l1w4, k2w4, g2w4, l2w4, k3w4, g3w4, l3w4, k4w4, g4w4, l4w4, k5w4, g5w4, l5w4])
  obtain ⟨k4w5, g4w5⟩ := kp hb (b := w2.heap.size) (cs := #[.bool f, .int .i64 BQ, .int .i64 BX, .int .i64 BY]) (by (first | (with_reducible exact Nat.le_refl _) | (with_reducible assumption) | omega | (simp only [World.size_alloc, World.size_setCell, World.size_drew]; omega) | (simp; omega) | (simp; done))) (fun i => by simp [go_sem, k0w4, g0w4, l0w4, k1w4, g1w4, l1w4, k2w4, g2w4, l2w4, k3w4, g3w4, l3w4, k4w4, g4w4, l4w4, k5w4, g5w4, l5w4]) (fun i => by simp [go_sem, k0w4, g0w4, l0w4, k1w4, g1w4, l1w4, k2w4, g2w4, l2w4, k3w4, g3w4, l3w4, k4w4, g4w4, l4w4, k5w4, g5w4, l5w4])
  obtain ⟨k5w5, g5w5⟩ := kp hb (b := w3.heap.size) (cs := #[.int .i64 x, .int .i64 y]) (by (first | (with_reducible exact Nat.le_refl _) | (with_reducible assumption) | omega | (simp only [World.size_alloc, World.size_setCell, World.size_drew]; omega) | (simp; omega) | (simp; done))) (fun i => by simp [go_sem, k0w4, g0w4, l0w4, k1w4, g1w4, l1w4, k2w4, g2w4, l2w4, k3w4, g3w4, l3w4, k4w4, g4w4, l4w4, k5w4, g5w4, l5w4]) (fun i => by simp [go_sem, k0w4, g0w4, l0w4, k1w4, g1w4, l1w4, k2w4, g2w4, l2w4, k3w4, g3w4, l3w4, k4w4, g4w4, l4w4, k5w4, g5w4, l5w4])
  obtain ⟨k6w5, g6w5⟩ := kp hb (b := w4.heap.size) (cs := #[.bool TF, .int .i64 TQ, .int .i64 TX, .int .i64 TY]) (by (first | (with_reducible exact Nat.le_refl _) | (with_reducible assumption) | omega | (simp only [World.size_alloc, World.size_setCell, World.size_drew]; omega) | (simp; omega) | (simp; done))) (fun i => by simp [go_sem, k0w4, g0w4, l0w4, k1w4, g1w4, l1w4, k2w4, g2w4, l2w4, k3w4, g3w4, l3w4, k4w4, g4w4, l4w4, k5w4, g5w4, l5w4]) (fun i => by simp [go_sem, k0w4, g0w4, l0w4, k1w4, g1w4, l1w4, k2w4, g2w4, l2w4, k3w4, g3w4, l3w4, k4w4, g4w4, l4w4, k5w4, g5w4, l5w4])
  have zw5 := hb.size
  have Bw5 := up (B := w.heap.size) (w := w) (by (repeat' (first | (with_reducible exact Below.refl _ _) | (with_reducible assumption) | (with_reducible refine Below.alloc ?_ ?_ _) | (with_reducible refine Below.drew ?_) | (with_reducible refine below_drewN ?_ _) | (with_reducible refine Below.setCell ?_ ?_ _) | (with_reducible exact Nat.le_refl _) | omega | (simp only [World.size_alloc, World.size_setCell, World.size_drew]; omega) | (simp; omega) | (simp; done)))) hb (by (first | (with_reducible exact Nat.le_refl _) | (with_reducible assumption) | omega | (simp only [World.size_alloc, World.size_setCell, World.size_drew]; omega) | (simp; omega) | (simp; done)))
  try simp only [World.size_alloc, World.size_setCell, World.size_drew] at zw5
  have l0w5 : w.heap.size < w5.heap.size := by (first | (with_reducible exact Nat.le_refl _) | (with_reducible assumption) | omega | (simp only [World.size_alloc, World.size_setCell, World.size_drew]; omega) | (simp; omega) | (simp; done))
  have l1w5 : w.heap.size + 1 < w5.heap.size := by (first | (with_reducible exact Nat.le_refl _) | (with_reducible assumption) | omega | (simp only [World.size_alloc, World.size_setCell, World.size_drew]; omega) | (simp; omega) | (simp; done))
  have l2w5 : w.heap.size + 1 + 1 < w5.heap.size := by (first | (with_reducible exact Nat.le_refl _) | (with_reducible assumption) | omega | (simp only [World.size_alloc, World.size_setCell, World.size_drew]; omega) | (simp; omega) | (simp; done))
  have l3w5 : w1.heap.size < w5.heap.size := by (first | (with_reducible exact Nat.le_refl _) | (with_reducible assumption) | omega | (simp only [World.size_alloc, World.size_setCell, World.size_drew]; omega) | (simp; omega) | (simp; done))
  have l4w5 : w2.heap.size < w5.heap.size := by (first | (with_reducible exact Nat.le_refl _) | (with_reducible assumption) | omega | (simp only [World.size_alloc, World.size_setCell, World.size_drew]; omega) | (simp; omega) | (simp; done))
  have l5w5 : w3.heap.size < w5.heap.size := by (first | (with_reducible exact Nat.le_refl _) | (with_reducible assumption) | omega | (simp only [World.size_alloc, World.size_setCell, World.size_drew]; omega) | (simp; omega) | (simp; done))
  have l6w5 : w4.heap.size < w5.heap.size := by (first | (with_reducible exact Nat.le_refl _) | (with_reducible assumption) | omega | (simp only [World.size_alloc, World.size_setCell, World.size_drew]; omega) | (simp; omega) | (simp; done))
  have n60 : ¬ w4.heap.size = w.heap.size := by omega
  have m60 : ¬ w.heap.size = w4.heap.size := by omega
  have n61 : ¬ w4.heap.size = w.heap.size + 1 := by omega
  have m61 : ¬ w.heap.size + 1 = w4.heap.size := by omega
  have n62 : ¬ w4.heap.size = w.heap.size + 1 + 1 := by omega
  have m62 : ¬ w.heap.size + 1 + 1 = w4.heap.size := by omega
  have n63 : ¬ w4.heap.size = w1.heap.size := by omega
  have m63 : ¬ w1.heap.size = w4.heap.size := by omega
  have n64 : ¬ w4.heap.size = w2.heap.size := by omega
  have m64 : ¬ w2.heap.size = w4.heap.size := by omega
  have n65 : ¬ w4.heap.size = w3.heap.size := by omega
  have m65 : ¬ w3.heap.size = w4.heap.size := by omega
  clear hb
  go_wp2_with fail
  refine (awake_any _).mono ?_
  rintro e w7 ⟨rfl, hb⟩
  have zw7 := hb.size
  have Bw7 := up (B := w.heap.size) (w := w) (by (repeat' (first | (with_reducible exact Below.refl _ _) | (with_reducible assumption) | (with_reducible refine Below.alloc ?_ ?_ _) | (with_reducible refine Below.drew ?_) | (with_reducible refine below_drewN ?_ _) | (with_reducible refine Below.setCell ?_ ?_ _) | (with_reducible exact Nat.le_refl _) | omega | (simp only [World.size_alloc, World.size_setCell, World.size_drew]; omega) | (simp; omega) | (simp; done)))) hb (by (first | (with_reducible exact Nat.le_refl _) | (with_reducible assumption) | omega | (simp only [World.size_alloc, World.size_setCell, World.size_drew]; omega) | (simp; omega) | (simp; done)))
  try simp only [World.size_alloc, World.size_setCell, World.size_drew] at zw7
  clear hb
  go_wp2_with fail
  go_ret
  exact ⟨rfl, by (repeat' (first | (with_reducible exact Below.refl _ _) | (with_reducible assumption) | (with_reducible refine Below.alloc ?_ ?_ _) | (with_reducible refine Below.drew ?_) | (with_reducible refine below_drewN ?_ _) | (with_reducible refine Below.setCell ?_ ?_ _) | (with_reducible exact Nat.le_refl _) | omega | (simp only [World.size_alloc, World.size_setCell, World.size_drew]; omega) | (simp; omega) | (simp; done)))⟩

set_option maxHeartbeats 1000000 in
theorem goBack_all (f : Bool) (n : Nat) (ax ay : Int) (g : Bool) (m : Nat) (bx bz x y : Int) (w : World) (h : tdOk f n ax ay x y = true) (h1 : thOk n ax ay g m bx bz = true) (h2 : tdOk g m bx bz (tpx f n ax x y) (tpy f n ay x y) = true) :
    Calls Try.prog 6 #[.agg #[.bool f, .int .i64 n, .int .i64 ax, .int .i64 ay], .agg #[.bool g, .int .i64 m, .int .i64 bx, .int .i64 bz], .agg #[.int .i64 x, .int .i64 y]] w fun e w' => e = .returned (.bool true) ∧ Below w.heap.size w w' := by
  have c16 := fun w => turned_any f n ax ay x y w
  rw [tdV_ok h, Int.toNat_natCast] at c16
  have c22 := fun w => back_any f n ax ay w
  have hb : bkV f n ax ay = .tuple #[.agg #[.bool f, .int .i64 (bkQ f n), .int .i64 (bkX f n ax ay), .int .i64 (bkY f n ax ay)], .int .i64 0] := by simp only [bkV, bkOk, (tdOk_in h).1]; rfl
  rw [hb] at c22
  have c16b := fun w => turned_any f (bkQ f n) (bkX f n ax ay) (bkY f n ax ay) (tpx f n ax x y) (tpy f n ay x y) w
  rw [back_end h] at c16b
  have c20 := fun w => then_all f n ax ay g m bx bz w
  rw [thV_ok h1, Int.toNat_natCast] at c20
  have c16c := fun w => turned_any g m bx bz (tpx f n ax x y) (tpy f n ay x y) w
  rw [tdV_ok h2, Int.toNat_natCast] at c16c
  have c16d := fun w => turned_any (f != g) (thQ g n m) (tpx g m bx ax ay) (tpy g m bz ax ay) x y w
  rw [then_end h h1 h2] at c16d
  clear h hb h1 h2
  generalize tpx g m bx (tpx f n ax x y) (tpy f n ay x y) = X2 at *
  generalize tpy g m bz (tpx f n ax x y) (tpy f n ay x y) = Y2 at *
  generalize thQ g n m = TQ at *
  generalize tpx g m bx ax ay = TX at *
  generalize tpy g m bz ax ay = TY at *
  generalize (f != g) = TF at *
  generalize tpx f n ax x y = X at *
  generalize tpy f n ay x y = Y at *
  generalize bkX f n ax ay = BX at *
  generalize bkY f n ax ay = BY at *
  generalize bkQ f n = BQ at *
  have C16 := Lib.hid c16
  have C22 := Lib.hid c22
  have C16b := Lib.hid c16b
  have C20 := Lib.hid c20
  have C16c := Lib.hid c16c
  have C16d := Lib.hid c16d
  clear c16 c22 c16b c20 c16c c16d
  go_enter Try.func6, Try.ntmps6
  go_wp2_with fail
  refine (C16.out _).mono ?_
  rintro e w1 ⟨rfl, hb⟩
  obtain ⟨k0w1, g0w1⟩ := kp hb (b := w.heap.size) (cs := #[.bool f, .int .i64 n, .int .i64 ax, .int .i64 ay]) (by (first | (with_reducible exact Nat.le_refl _) | (with_reducible assumption) | omega | (simp only [World.size_alloc, World.size_setCell, World.size_drew]; omega) | (simp; omega) | (simp; done))) (fun i => by simp [go_sem]) (fun i => by simp [go_sem])
  obtain ⟨k1w1, g1w1⟩ := kp hb (b := w.heap.size + 1) (cs := #[.bool g, .int .i64 m, .int .i64 bx, .int .i64 bz]) (by (first | (with_reducible exact Nat.le_refl _) | (with_reducible assumption) | omega | (simp only [World.size_alloc, World.size_setCell, World.size_drew]; omega) | (simp; omega) | (simp; done))) (fun i => by simp [go_sem]) (fun i => by simp [go_sem])
  obtain ⟨k2w1, g2w1⟩ := kp hb (b := w.heap.size + 1 + 1) (cs := #[.int .i64 x, .int .i64 y]) (by (first | (with_reducible exact Nat.le_refl _) | (with_reducible assumption) | omega | (simp only [World.size_alloc, World.size_setCell, World.size_drew]; omega) | (simp; omega) | (simp; done))) (fun i => by simp [go_sem]) (fun i => by simp [go_sem])
  have zw1 := hb.size
  have Bw1 := up (B := w.heap.size) (w := w) (by (repeat' (first | (with_reducible exact Below.refl _ _) | (with_reducible assumption) | (with_reducible refine Below.alloc ?_ ?_ _) | (with_reducible refine Below.drew ?_) | (with_reducible refine below_drewN ?_ _) | (with_reducible refine Below.setCell ?_ ?_ _) | (with_reducible exact Nat.le_refl _) | omega | (simp only [World.size_alloc, World.size_setCell, World.size_drew]; omega) | (simp; omega) | (simp; done)))) hb (by (first | (with_reducible exact Nat.le_refl _) | (with_reducible assumption) | omega | (simp only [World.size_alloc, World.size_setCell, World.size_drew]; omega) | (simp; omega) | (simp; done)))
  try simp only [World.size_alloc, World.size_setCell, World.size_drew] at zw1
  have l0w1 : w.heap.size < w1.heap.size := by (first | (with_reducible exact Nat.le_refl _) | (with_reducible assumption) | omega | (simp only [World.size_alloc, World.size_setCell, World.size_drew]; omega) | (simp; omega) | (simp; done))
  have l1w1 : w.heap.size + 1 < w1.heap.size := by (first | (with_reducible exact Nat.le_refl _) | (with_reducible assumption) | omega | (simp only [World.size_alloc, World.size_setCell, World.size_drew]; omega) | (simp; omega) | (simp; done))
  have l2w1 : w.heap.size + 1 + 1 < w1.heap.size := by (first | (with_reducible exact Nat.le_refl _) | (with_reducible assumption) | omega | (simp only [World.size_alloc, World.size_setCell, World.size_drew]; omega) | (simp; omega) | (simp; done))
  clear hb
  go_wp2_with fail
  refine (C22.out _).mono ?_
  rintro e w2 ⟨rfl, hb⟩
  obtain ⟨k0w2, g0w2⟩ := kp hb (b := w.heap.size) (cs := #[.bool f, .int .i64 n, .int .i64 ax, .int .i64 ay]) (by (first | (with_reducible exact Nat.le_refl _) | (with_reducible assumption) | omega | (simp only [World.size_alloc, World.size_setCell, World.size_drew]; omega) | (simp; omega) | (simp; done))) (fun i => by simp [go_sem, k0w1, g0w1, l0w1, k1w1, g1w1, l1w1, k2w1, g2w1, l2w1]) (fun i => by simp [go_sem, k0w1, g0w1, l0w1, k1w1, g1w1, l1w1, k2w1, g2w1, l2w1])
  obtain ⟨k1w2, g1w2⟩ := kp hb (b := w.heap.size + 1) (cs := #[.bool g, .int .i64 m, .int .i64 bx, .int .i64 bz]) (by (first | (with_reducible exact Nat.le_refl _) | (with_reducible assumption) | omega | (simp only [World.size_alloc, World.size_setCell, World.size_drew]; omega) | (simp; omega) | (simp; done))) (fun i => by simp [go_sem, k0w1, g0w1, l0w1, k1w1, g1w1, l1w1, k2w1, g2w1, l2w1]) (fun i => by simp [go_sem, k0w1, g0w1, l0w1, k1w1, g1w1, l1w1, k2w1, g2w1, l2w1])
  obtain ⟨k2w2, g2w2⟩ := kp hb (b := w.heap.size + 1 + 1) (cs := #[.int .i64 x, .int .i64 y]) (by (first | (with_reducible exact Nat.le_refl _) | (with_reducible assumption) | omega | (simp only [World.size_alloc, World.size_setCell, World.size_drew]; omega) | (simp; omega) | (simp; done))) (fun i => by simp [go_sem, k0w1, g0w1, l0w1, k1w1, g1w1, l1w1, k2w1, g2w1, l2w1]) (fun i => by simp [go_sem, k0w1, g0w1, l0w1, k1w1, g1w1, l1w1, k2w1, g2w1, l2w1])
  obtain ⟨k3w2, g3w2⟩ := kp hb (b := w1.heap.size) (cs := #[.int .i64 X, .int .i64 Y]) (by (first | (with_reducible exact Nat.le_refl _) | (with_reducible assumption) | omega | (simp only [World.size_alloc, World.size_setCell, World.size_drew]; omega) | (simp; omega) | (simp; done))) (fun i => by simp [go_sem, k0w1, g0w1, l0w1, k1w1, g1w1, l1w1, k2w1, g2w1, l2w1]) (fun i => by simp [go_sem, k0w1, g0w1, l0w1, k1w1, g1w1, l1w1, k2w1, g2w1, l2w1])
  have zw2 := hb.size
  have Bw2 := up (B := w.heap.size) (w := w) (by (repeat' (first | (with_reducible exact Below.refl _ _) | (with_reducible assumption) | (with_reducible refine Below.alloc ?_ ?_ _) | (with_reducible refine Below.drew ?_) | (with_reducible refine below_drewN ?_ _) | (with_reducible refine Below.setCell ?_ ?_ _) | (with_reducible exact Nat.le_refl _) | omega | (simp only [World.size_alloc, World.size_setCell, World.size_drew]; omega) | (simp; omega) | (simp; done)))) hb (by (first | (with_reducible exact Nat.le_refl _) | (with_reducible assumption) | omega | (simp only [World.size_alloc, World.size_setCell, World.size_drew]; omega) | (simp; omega) | (simp; done)))
  try simp only [World.size_alloc, World.size_setCell, World.size_drew] at zw2
  have l0w2 : w.heap.size < w2.heap.size := by (first | (with_reducible exact Nat.le_refl _) | (with_reducible assumption) | omega | (simp only [World.size_alloc, World.size_setCell, World.size_drew]; omega) | (simp; omega) | (simp; done))
  have l1w2 : w.heap.size + 1 < w2.heap.size := by (first | (with_reducible exact Nat.le_refl _) | (with_reducible assumption) | omega | (simp only [World.size_alloc, World.size_setCell, World.size_drew]; omega) | (simp; omega) | (simp; done))
  have l2w2 : w.heap.size + 1 + 1 < w2.heap.size := by (first | (with_reducible exact Nat.le_refl _) | (with_reducible assumption) | omega | (simp only [World.size_alloc, World.size_setCell, World.size_drew]; omega) | (simp; omega) | (simp; done))
  have l3w2 : w1.heap.size < w2.heap.size := by (first | (with_reducible exact Nat.le_refl _) | (with_reducible assumption) | omega | (simp only [World.size_alloc, World.size_setCell, World.size_drew]; omega) | (simp; omega) | (simp; done))
  have n30 : ¬ w1.heap.size = w.heap.size := by omega
  have m30 : ¬ w.heap.size = w1.heap.size := by omega
  have n31 : ¬ w1.heap.size = w.heap.size + 1 := by omega
  have m31 : ¬ w.heap.size + 1 = w1.heap.size := by omega
  have n32 : ¬ w1.heap.size = w.heap.size + 1 + 1 := by omega
  have m32 : ¬ w.heap.size + 1 + 1 = w1.heap.size := by omega
  clear hb
  go_wp2_with fail
  refine (C16b.out _).mono ?_
  rintro e w3 ⟨rfl, hb⟩
  obtain ⟨k0w3, g0w3⟩ := kp hb (b := w.heap.size) (cs := #[.bool f, .int .i64 n, .int .i64 ax, .int .i64 ay]) (by (first | (with_reducible exact Nat.le_refl _) | (with_reducible assumption) | omega | (simp only [World.size_alloc, World.size_setCell, World.size_drew]; omega) | (simp; omega) | (simp; done))) (fun i => by simp [go_sem, k0w2, g0w2, l0w2, k1w2, g1w2, l1w2, k2w2, g2w2, l2w2, k3w2, g3w2, l3w2]) (fun i => by simp [go_sem, k0w2, g0w2, l0w2, k1w2, g1w2, l1w2, k2w2, g2w2, l2w2, k3w2, g3w2, l3w2])
  obtain ⟨k1w3, g1w3⟩ := kp hb (b := w.heap.size + 1) (cs := #[.bool g, .int .i64 m, .int .i64 bx, .int .i64 bz]) (by (first | (with_reducible exact Nat.le_refl _) | (with_reducible assumption) | omega | (simp only [World.size_alloc, World.size_setCell, World.size_drew]; omega) | (simp; omega) | (simp; done))) (fun i => by simp [go_sem, k0w2, g0w2, l0w2, k1w2, g1w2, l1w2, k2w2, g2w2, l2w2, k3w2, g3w2, l3w2]) (fun i => by simp [go_sem, k0w2, g0w2, l0w2, k1w2, g1w2, l1w2, k2w2, g2w2, l2w2, k3w2, g3w2, l3w2])
  obtain ⟨k2w3, g2w3⟩ := kp hb (b := w.heap.size + 1 + 1) (cs := #[.int .i64 x, .int .i64 y]) (by (first | (with_reducible exact Nat.le_refl _) | (with_reducible assumption) | omega | (simp only [World.size_alloc, World.size_setCell, World.size_drew]; omega) | (simp; omega) | (simp; done))) (fun i => by simp [go_sem, k0w2, g0w2, l0w2, k1w2, g1w2, l1w2, k2w2, g2w2, l2w2, k3w2, g3w2, l3w2]) (fun i => by simp [go_sem, k0w2, g0w2, l0w2, k1w2, g1w2, l1w2, k2w2, g2w2, l2w2, k3w2, g3w2, l3w2])
  obtain ⟨k3w3, g3w3⟩ := kp hb (b := w1.heap.size) (cs := #[.int .i64 X, .int .i64 Y]) (by (first | (with_reducible exact Nat.le_refl _) | (with_reducible assumption) | omega | (simp only [World.size_alloc, World.size_setCell, World.size_drew]; omega) | (simp; omega) | (simp; done))) (fun i => by simp [go_sem, k0w2, g0w2, l0w2, k1w2, g1w2, l1w2, k2w2, g2w2, l2w2, k3w2, g3w2, l3w2]) (fun i => by simp [go_sem, k0w2, g0w2, l0w2, k1w2, g1w2, l1w2, k2w2, g2w2, l2w2, k3w2, g3w2, l3w2])
  obtain ⟨k4w3, g4w3⟩ := kp hb (b := w2.heap.size) (cs := #[.bool f, .int .i64 BQ, .int .i64 BX, .int .i64 BY]) (by (first | (with_reducible exact Nat.le_refl _) | (with_reducible assumption) | omega | (simp only [World.size_alloc, World.size_setCell, World.size_drew]; omega) | (simp; omega) | (simp; done))) (fun i => by simp [go_sem, k0w2, g0w2, l0w2, k1w2, g1w2, l1w2, k2w2, g2w2, l2w2, k3w2, g3w2, l3w2]) (fun i => by simp [go_sem, k0w2, g0w2, l0w2, k1w2, g1w2, l1w2, k2w2, g2w2, l2w2, k3w2, g3w2, l3w2])
  have zw3 := hb.size
  have Bw3 := up (B := w.heap.size) (w := w) (by (repeat' (first | (with_reducible exact Below.refl _ _) | (with_reducible assumption) | (with_reducible refine Below.alloc ?_ ?_ _) | (with_reducible refine Below.drew ?_) | (with_reducible refine below_drewN ?_ _) | (with_reducible refine Below.setCell ?_ ?_ _) | (with_reducible exact Nat.le_refl _) | omega | (simp only [World.size_alloc, World.size_setCell, World.size_drew]; omega) | (simp; omega) | (simp; done)))) hb (by (first | (with_reducible exact Nat.le_refl _) | (with_reducible assumption) | omega | (simp only [World.size_alloc, World.size_setCell, World.size_drew]; omega) | (simp; omega) | (simp; done)))
  try simp only [World.size_alloc, World.size_setCell, World.size_drew] at zw3
  have l0w3 : w.heap.size < w3.heap.size := by (first | (with_reducible exact Nat.le_refl _) | (with_reducible assumption) | omega | (simp only [World.size_alloc, World.size_setCell, World.size_drew]; omega) | (simp; omega) | (simp; done))
  have l1w3 : w.heap.size + 1 < w3.heap.size := by (first | (with_reducible exact Nat.le_refl _) | (with_reducible assumption) | omega | (simp only [World.size_alloc, World.size_setCell, World.size_drew]; omega) | (simp; omega) | (simp; done))
  have l2w3 : w.heap.size + 1 + 1 < w3.heap.size := by (first | (with_reducible exact Nat.le_refl _) | (with_reducible assumption) | omega | (simp only [World.size_alloc, World.size_setCell, World.size_drew]; omega) | (simp; omega) | (simp; done))
  have l3w3 : w1.heap.size < w3.heap.size := by (first | (with_reducible exact Nat.le_refl _) | (with_reducible assumption) | omega | (simp only [World.size_alloc, World.size_setCell, World.size_drew]; omega) | (simp; omega) | (simp; done))
  have l4w3 : w2.heap.size < w3.heap.size := by (first | (with_reducible exact Nat.le_refl _) | (with_reducible assumption) | omega | (simp only [World.size_alloc, World.size_setCell, World.size_drew]; omega) | (simp; omega) | (simp; done))
  have n40 : ¬ w2.heap.size = w.heap.size := by omega
  have m40 : ¬ w.heap.size = w2.heap.size := by omega
  have n41 : ¬ w2.heap.size = w.heap.size + 1 := by omega
  have m41 : ¬ w.heap.size + 1 = w2.heap.size := by omega
  have n42 : ¬ w2.heap.size = w.heap.size + 1 + 1 := by omega
  have m42 : ¬ w.heap.size + 1 + 1 = w2.heap.size := by omega
  have n43 : ¬ w2.heap.size = w1.heap.size := by omega
  have m43 : ¬ w1.heap.size = w2.heap.size := by omega
  clear hb
  go_wp2_with fail
  refine (C20.out _).mono ?_
  rintro e w4 ⟨rfl, hb⟩
  obtain ⟨k0w4, g0w4⟩ := kp hb (b := w.heap.size) (cs := #[.bool f, .int .i64 n, .int .i64 ax, .int .i64 ay]) (by (first | (with_reducible exact Nat.le_refl _) | (with_reducible assumption) | omega | (simp only [World.size_alloc, World.size_setCell, World.size_drew]; omega) | (simp; omega) | (simp; done))) (fun i => by simp [go_sem, k0w3, g0w3, l0w3, k1w3, g1w3, l1w3, k2w3, g2w3, l2w3, k3w3, g3w3, l3w3, k4w3, g4w3, l4w3]) (fun i => by simp [go_sem, k0w3, g0w3, l0w3, k1w3, g1w3, l1w3, k2w3, g2w3, l2w3, k3w3, g3w3, l3w3, k4w3, g4w3, l4w3])
  obtain ⟨k1w4, g1w4⟩ := kp hb (b := w.heap.size + 1) (cs := #[.bool g, .int .i64 m, .int .i64 bx, .int .i64 bz]) (by (first | (with_reducible exact Nat.le_refl _) | (with_reducible assumption) | omega | (simp only [World.size_alloc, World.size_setCell, World.size_drew]; omega) | (simp; omega) | (simp; done))) (fun i => by simp [go_sem, k0w3, g0w3, l0w3, k1w3, g1w3, l1w3, k2w3, g2w3, l2w3, k3w3, g3w3, l3w3, k4w3, g4w3, l4w3]) (fun i => by simp [go_sem, k0w3, g0w3, l0w3, k1w3, g1w3, l1w3, k2w3, g2w3, l2w3, k3w3, g3w3, l3w3, k4w3, g4w3, l4w3])
  obtain ⟨k2w4, g2w4⟩ := kp hb (b := w.heap.size + 1 + 1) (cs := #[.int .i64 x, .int .i64 y]) (by (first | (with_reducible exact Nat.le_refl _) | (with_reducible assumption) | omega | (simp only [World.size_alloc, World.size_setCell, World.size_drew]; omega) | (simp; omega) | (simp; done))) (fun i => by simp [go_sem, k0w3, g0w3, l0w3, k1w3, g1w3, l1w3, k2w3, g2w3, l2w3, k3w3, g3w3, l3w3, k4w3, g4w3, l4w3]) (fun i => by simp [go_sem, k0w3, g0w3, l0w3, k1w3, g1w3, l1w3, k2w3, g2w3, l2w3, k3w3, g3w3, l3w3, k4w3, g4w3, l4w3])
  obtain ⟨k3w4, g3w4⟩ := kp hb (b := w1.heap.size) (cs := #[.int .i64 X, .int .i64 Y]) (by (first | (with_reducible exact Nat.le_refl _) | (with_reducible assumption) | omega | (simp only [World.size_alloc, World.size_setCell, World.size_drew]; omega) | (simp; omega) | (simp; done))) (fun i => by simp [go_sem, k0w3, g0w3, l0w3, k1w3, g1w3, l1w3, k2w3, g2w3, l2w3, k3w3, g3w3, l3w3, k4w3, g4w3, l4w3]) (fun i => by simp [go_sem, k0w3, g0w3, l0w3, k1w3, g1w3, l1w3, k2w3, g2w3, l2w3, k3w3, g3w3, l3w3, k4w3, g4w3, l4w3])
  obtain ⟨k4w4, g4w4⟩ := kp hb (b := w2.heap.size) (cs := #[.bool f, .int .i64 BQ, .int .i64 BX, .int .i64 BY]) (by (first | (with_reducible exact Nat.le_refl _) | (with_reducible assumption) | omega | (simp only [World.size_alloc, World.size_setCell, World.size_drew]; omega) | (simp; omega) | (simp; done))) (fun i => by simp [go_sem, k0w3, g0w3, l0w3, k1w3, g1w3, l1w3, k2w3, g2w3, l2w3, k3w3, g3w3, l3w3, k4w3, g4w3, l4w3]) (fun i => by simp [go_sem, k0w3, g0w3, l0w3, k1w3, g1w3, l1w3, k2w3, g2w3, l2w3, k3w3, g3w3, l3w3, k4w3, g4w3, l4w3])
  obtain ⟨k5w4, g5w4⟩ := kp hb (b := w3.heap.size) (cs := #[.int .i64 x, .int .i64 y]) (by (first | (with_reducible exact Nat.le_refl _) | (with_reducible assumption) | omega | (simp only [World.size_alloc, World.size_setCell, World.size_drew]; omega) | (simp; omega) | (simp; done))) (fun i => by simp [go_sem, k0w3, g0w3, l0w3, k1w3, g1w3, l1w3, k2w3, g2w3, l2w3, k3w3, g3w3, l3w3, k4w3, g4w3, l4w3]) (fun i => by simp [go_sem, k0w3, g0w3, l0w3, k1w3, g1w3, l1w3, k2w3, g2w3, l2w3, k3w3, g3w3, l3w3, k4w3, g4w3, l4w3])
  have zw4 := hb.size
  have Bw4 := up (B := w.heap.size) (w := w) (by (repeat' (first | (with_reducible exact Below.refl _ _) | (with_reducible assumption) | (with_reducible refine Below.alloc ?_ ?_ _) | (with_reducible refine Below.drew ?_) | (with_reducible refine below_drewN ?_ _) | (with_reducible refine Below.setCell ?_ ?_ _) | (with_reducible exact Nat.le_refl _) | omega | (simp only [World.size_alloc, World.size_setCell, World.size_drew]; omega) | (simp; omega) | (simp; done)))) hb (by (first | (with_reducible exact Nat.le_refl _) | (with_reducible assumption) | omega | (simp only [World.size_alloc, World.size_setCell, World.size_drew]; omega) | (simp; omega) | (simp; done)))
  try simp only [World.size_alloc, World.size_setCell, World.size_drew] at zw4
  have l0w4 : w.heap.size < w4.heap.size := by (first | (with_reducible exact Nat.le_refl _) | (with_reducible assumption) | omega | (simp only [World.size_alloc, World.size_setCell, World.size_drew]; omega) | (simp; omega) | (simp; done))
  have l1w4 : w.heap.size + 1 < w4.heap.size := by (first | (with_reducible exact Nat.le_refl _) | (with_reducible assumption) | omega | (simp only [World.size_alloc, World.size_setCell, World.size_drew]; omega) | (simp; omega) | (simp; done))
  have l2w4 : w.heap.size + 1 + 1 < w4.heap.size := by (first | (with_reducible exact Nat.le_refl _) | (with_reducible assumption) | omega | (simp only [World.size_alloc, World.size_setCell, World.size_drew]; omega) | (simp; omega) | (simp; done))
  have l3w4 : w1.heap.size < w4.heap.size := by (first | (with_reducible exact Nat.le_refl _) | (with_reducible assumption) | omega | (simp only [World.size_alloc, World.size_setCell, World.size_drew]; omega) | (simp; omega) | (simp; done))
  have l4w4 : w2.heap.size < w4.heap.size := by (first | (with_reducible exact Nat.le_refl _) | (with_reducible assumption) | omega | (simp only [World.size_alloc, World.size_setCell, World.size_drew]; omega) | (simp; omega) | (simp; done))
  have l5w4 : w3.heap.size < w4.heap.size := by (first | (with_reducible exact Nat.le_refl _) | (with_reducible assumption) | omega | (simp only [World.size_alloc, World.size_setCell, World.size_drew]; omega) | (simp; omega) | (simp; done))
  have n50 : ¬ w3.heap.size = w.heap.size := by omega
  have m50 : ¬ w.heap.size = w3.heap.size := by omega
  have n51 : ¬ w3.heap.size = w.heap.size + 1 := by omega
  have m51 : ¬ w.heap.size + 1 = w3.heap.size := by omega
  have n52 : ¬ w3.heap.size = w.heap.size + 1 + 1 := by omega
  have m52 : ¬ w.heap.size + 1 + 1 = w3.heap.size := by omega
  have n53 : ¬ w3.heap.size = w1.heap.size := by omega
  have m53 : ¬ w1.heap.size = w3.heap.size := by omega
  have n54 : ¬ w3.heap.size = w2.heap.size := by omega
  have m54 : ¬ w2.heap.size = w3.heap.size := by omega
  clear hb
  go_wp2_with fail
  refine (C16c.out _).mono ?_
  rintro e w5 ⟨rfl, hb⟩
  obtain ⟨k0w5, g0w5⟩ := kp hb (b := w.heap.size) (cs := #[.bool f, .int .i64 n, .int .i64 ax, .int .i64 ay]) (by (first | (with_reducible exact Nat.le_refl _) | (with_reducible assumption) | omega | (simp only [World.size_alloc, World.size_setCell, World.size_drew]; omega) | (simp; omega) | (simp; done))) (fun i => by simp [go_sem, k0w4, g0w4, l0w4, k1w4, g1w4, l1w4, k2w4, g2w4, l2w4, k3w4, g3w4, l3w4, k4w4, g4w4, l4w4, k5w4, g5w4, l5w4]) (fun i => by simp [go_sem, k0w4, g0w4, l0w4, k1w4, g1w4, l1w4, k2w4, g2w4, l2w4, k3w4, g3w4, l3w4, k4w4, g4w4, l4w4, k5w4, g5w4, l5w4])
  obtain ⟨k1w5, g1w5⟩ := kp hb (b := w.heap.size + 1) (cs := #[.bool g, .int .i64 m, .int .i64 bx, .int .i64 bz]) (by (first | (with_reducible exact Nat.le_refl _) | (with_reducible assumption) | omega | (simp only [World.size_alloc, World.size_setCell, World.size_drew]; omega) | (simp; omega) | (simp; done))) (fun i => by simp [go_sem, k0w4, g0w4, l0w4, k1w4, g1w4, l1w4, k2w4, g2w4, l2w4, k3w4, g3w4, l3w4, k4w4, g4w4, l4w4, k5w4, g5w4, l5w4]) (fun i => by simp [go_sem, k0w4, g0w4, l0w4, k1w4, g1w4, l1w4, k2w4, g2w4, l2w4, k3w4, g3w4, l3w4, k4w4, g4w4, l4w4, k5w4, g5w4, l5w4])
  obtain ⟨k2w5, g2w5⟩ := kp hb (b := w.heap.size + 1 + 1) (cs := #[.int .i64 x, .int .i64 y]) (by (first | (with_reducible exact Nat.le_refl _) | (with_reducible assumption) | omega | (simp only [World.size_alloc, World.size_setCell, World.size_drew]; omega) | (simp; omega) | (simp; done))) (fun i => by simp [go_sem, k0w4, g0w4, l0w4, k1w4, g1w4, l1w4, k2w4, g2w4, l2w4, k3w4, g3w4, l3w4, k4w4, g4w4, l4w4, k5w4, g5w4, l5w4]) (fun i => by simp [go_sem, k0w4, g0w4, l0w4, k1w4, g1w4, l1w4, k2w4, g2w4, l2w4, k3w4, g3w4, l3w4, k4w4, g4w4, l4w4, k5w4, g5w4, l5w4])
  obtain ⟨k3w5, g3w5⟩ := kp hb (b := w1.heap.size) (cs := #[.int .i64 X, .int .i64 Y]) (by (first | (with_reducible exact Nat.le_refl _) | (with_reducible assumption) | omega | (simp only [World.size_alloc, World.size_setCell, World.size_drew]; omega) | (simp; omega) | (simp; done))) (fun i => by simp [go_sem, k0w4, g0w4, l0w4, k1w4, g1w4, l1w4, k2w4, g2w4, l2w4, k3w4, g3w4, l3w4, k4w4, g4w4, l4w4, k5w4, g5w4, l5w4]) (fun i => by simp [go_sem, k0w4, g0w4, l0w4, k1w4, g1w4, l1w4, k2w4, g2w4, l2w4, k3w4, g3w4, l3w4, k4w4, g4w4, l4w4, k5w4, g5w4, l5w4])
  obtain ⟨k4w5, g4w5⟩ := kp hb (b := w2.heap.size) (cs := #[.bool f, .int .i64 BQ, .int .i64 BX, .int .i64 BY]) (by (first | (with_reducible exact Nat.le_refl _) | (with_reducible assumption) | omega | (simp only [World.size_alloc, World.size_setCell, World.size_drew]; omega) | (simp; omega) | (simp; done))) (fun i => by simp [go_sem, k0w4, g0w4, l0w4, k1w4, g1w4, l1w4, k2w4, g2w4, l2w4, k3w4, g3w4, l3w4, k4w4, g4w4, l4w4, k5w4, g5w4, l5w4]) (fun i => by simp [go_sem, k0w4, g0w4, l0w4, k1w4, g1w4, l1w4, k2w4, g2w4, l2w4, k3w4, g3w4, l3w4, k4w4, g4w4, l4w4, k5w4, g5w4, l5w4])
  obtain ⟨k5w5, g5w5⟩ := kp hb (b := w3.heap.size) (cs := #[.int .i64 x, .int .i64 y]) (by (first | (with_reducible exact Nat.le_refl _) | (with_reducible assumption) | omega | (simp only [World.size_alloc, World.size_setCell, World.size_drew]; omega) | (simp; omega) | (simp; done))) (fun i => by simp [go_sem, k0w4, g0w4, l0w4, k1w4, g1w4, l1w4, k2w4, g2w4, l2w4, k3w4, g3w4, l3w4, k4w4, g4w4, l4w4, k5w4, g5w4, l5w4]) (fun i => by simp [go_sem, k0w4, g0w4, l0w4, k1w4, g1w4, l1w4, k2w4, g2w4, l2w4, k3w4, g3w4, l3w4, k4w4, g4w4, l4w4, k5w4, g5w4, l5w4])
  obtain ⟨k6w5, g6w5⟩ := kp hb (b := w4.heap.size) (cs := #[.bool TF, .int .i64 TQ, .int .i64 TX, .int .i64 TY]) (by (first | (with_reducible exact Nat.le_refl _) | (with_reducible assumption) | omega | (simp only [World.size_alloc, World.size_setCell, World.size_drew]; omega) | (simp; omega) | (simp; done))) (fun i => by simp [go_sem, k0w4, g0w4, l0w4, k1w4, g1w4, l1w4, k2w4, g2w4, l2w4, k3w4, g3w4, l3w4, k4w4, g4w4, l4w4, k5w4, g5w4, l5w4]) (fun i => by simp [go_sem, k0w4, g0w4, l0w4, k1w4, g1w4, l1w4, k2w4, g2w4, l2w4, k3w4, g3w4, l3w4, k4w4, g4w4, l4w4, k5w4, g5w4, l5w4])
  have zw5 := hb.size
  have Bw5 := up (B := w.heap.size) (w := w) (by (repeat' (first | (with_reducible exact Below.refl _ _) | (with_reducible assumption) | (with_reducible refine Below.alloc ?_ ?_ _) | (with_reducible refine Below.drew ?_) | (with_reducible refine below_drewN ?_ _) | (with_reducible refine Below.setCell ?_ ?_ _) | (with_reducible exact Nat.le_refl _) | omega | (simp only [World.size_alloc, World.size_setCell, World.size_drew]; omega) | (simp; omega) | (simp; done)))) hb (by (first | (with_reducible exact Nat.le_refl _) | (with_reducible assumption) | omega | (simp only [World.size_alloc, World.size_setCell, World.size_drew]; omega) | (simp; omega) | (simp; done)))
  try simp only [World.size_alloc, World.size_setCell, World.size_drew] at zw5
  have l0w5 : w.heap.size < w5.heap.size := by (first | (with_reducible exact Nat.le_refl _) | (with_reducible assumption) | omega | (simp only [World.size_alloc, World.size_setCell, World.size_drew]; omega) | (simp; omega) | (simp; done))
  have l1w5 : w.heap.size + 1 < w5.heap.size := by (first | (with_reducible exact Nat.le_refl _) | (with_reducible assumption) | omega | (simp only [World.size_alloc, World.size_setCell, World.size_drew]; omega) | (simp; omega) | (simp; done))
  have l2w5 : w.heap.size + 1 + 1 < w5.heap.size := by (first | (with_reducible exact Nat.le_refl _) | (with_reducible assumption) | omega | (simp only [World.size_alloc, World.size_setCell, World.size_drew]; omega) | (simp; omega) | (simp; done))
  have l3w5 : w1.heap.size < w5.heap.size := by (first | (with_reducible exact Nat.le_refl _) | (with_reducible assumption) | omega | (simp only [World.size_alloc, World.size_setCell, World.size_drew]; omega) | (simp; omega) | (simp; done))
  have l4w5 : w2.heap.size < w5.heap.size := by (first | (with_reducible exact Nat.le_refl _) | (with_reducible assumption) | omega | (simp only [World.size_alloc, World.size_setCell, World.size_drew]; omega) | (simp; omega) | (simp; done))
  have l5w5 : w3.heap.size < w5.heap.size := by (first | (with_reducible exact Nat.le_refl _) | (with_reducible assumption) | omega | (simp only [World.size_alloc, World.size_setCell, World.size_drew]; omega) | (simp; omega) | (simp; done))
  have l6w5 : w4.heap.size < w5.heap.size := by (first | (with_reducible exact Nat.le_refl _) | (with_reducible assumption) | omega | (simp only [World.size_alloc, World.size_setCell, World.size_drew]; omega) | (simp; omega) | (simp; done))
  have n60 : ¬ w4.heap.size = w.heap.size := by omega
  have m60 : ¬ w.heap.size = w4.heap.size := by omega
  have n61 : ¬ w4.heap.size = w.heap.size + 1 := by omega
  have m61 : ¬ w.heap.size + 1 = w4.heap.size := by omega
  have n62 : ¬ w4.heap.size = w.heap.size + 1 + 1 := by omega
  have m62 : ¬ w.heap.size + 1 + 1 = w4.heap.size := by omega
  have n63 : ¬ w4.heap.size = w1.heap.size := by omega
  have m63 : ¬ w1.heap.size = w4.heap.size := by omega
  have n64 : ¬ w4.heap.size = w2.heap.size := by omega
  have m64 : ¬ w2.heap.size = w4.heap.size := by omega
  have n65 : ¬ w4.heap.size = w3.heap.size := by omega
  have m65 : ¬ w3.heap.size = w4.heap.size := by omega
  clear hb
  go_wp2_with fail
  refine (C16d.out _).mono ?_
  rintro e w6 ⟨rfl, hb⟩
  obtain ⟨k0w6, g0w6⟩ := kp hb (b := w.heap.size) (cs := #[.bool f, .int .i64 n, .int .i64 ax, .int .i64 ay]) (by (first | (with_reducible exact Nat.le_refl _) | (with_reducible assumption) | omega | (simp only [World.size_alloc, World.size_setCell, World.size_drew]; omega) | (simp; omega) | (simp; done))) (fun i => by simp [go_sem, k0w5, g0w5, l0w5, k1w5, g1w5, l1w5, k2w5, g2w5, l2w5, k3w5, g3w5, l3w5, k4w5, g4w5, l4w5, k5w5, g5w5, l5w5, k6w5, g6w5, l6w5]) (fun i => by simp [go_sem, k0w5, g0w5, l0w5, k1w5, g1w5, l1w5, k2w5, g2w5, l2w5, k3w5, g3w5, l3w5, k4w5, g4w5, l4w5, k5w5, g5w5, l5w5, k6w5, g6w5, l6w5])
  obtain ⟨k1w6, g1w6⟩ := kp hb (b := w.heap.size + 1) (cs := #[.bool g, .int .i64 m, .int .i64 bx, .int .i64 bz]) (by (first | (with_reducible exact Nat.le_refl _) | (with_reducible assumption) | omega | (simp only [World.size_alloc, World.size_setCell, World.size_drew]; omega) | (simp; omega) | (simp; done))) (fun i => by simp [go_sem, k0w5, g0w5, l0w5, k1w5, g1w5, l1w5, k2w5, g2w5, l2w5, k3w5, g3w5, l3w5, k4w5, g4w5, l4w5, k5w5, g5w5, l5w5, k6w5, g6w5, l6w5]) (fun i => by simp [go_sem, k0w5, g0w5, l0w5, k1w5, g1w5, l1w5, k2w5, g2w5, l2w5, k3w5, g3w5, l3w5, k4w5, g4w5, l4w5, k5w5, g5w5, l5w5, k6w5, g6w5, l6w5])
  obtain ⟨k2w6, g2w6⟩ := kp hb (b := w.heap.size + 1 + 1) (cs := #[.int .i64 x, .int .i64 y]) (by (first | (with_reducible exact Nat.le_refl _) | (with_reducible assumption) | omega | (simp only [World.size_alloc, World.size_setCell, World.size_drew]; omega) | (simp; omega) | (simp; done))) (fun i => by simp [go_sem, k0w5, g0w5, l0w5, k1w5, g1w5, l1w5, k2w5, g2w5, l2w5, k3w5, g3w5, l3w5, k4w5, g4w5, l4w5, k5w5, g5w5, l5w5, k6w5, g6w5, l6w5]) (fun i => by simp [go_sem, k0w5, g0w5, l0w5, k1w5, g1w5, l1w5, k2w5, g2w5, l2w5, k3w5, g3w5, l3w5, k4w5, g4w5, l4w5, k5w5, g5w5, l5w5, k6w5, g6w5, l6w5])
  obtain ⟨k3w6, g3w6⟩ := kp hb (b := w1.heap.size) (cs := #[.int .i64 X, .int .i64 Y]) (by (first | (with_reducible exact Nat.le_refl _) | (with_reducible assumption) | omega | (simp only [World.size_alloc, World.size_setCell, World.size_drew]; omega) | (simp; omega) | (simp; done))) (fun i => by simp [go_sem, k0w5, g0w5, l0w5, k1w5, g1w5, l1w5, k2w5, g2w5, l2w5, k3w5, g3w5, l3w5, k4w5, g4w5, l4w5, k5w5, g5w5, l5w5, k6w5, g6w5, l6w5]) (fun i => by simp [go_sem, k0w5, g0w5, l0w5, k1w5, g1w5, l1w5, k2w5, g2w5, l2w5, k3w5, g3w5, l3w5, k4w5, g4w5, l4w5, k5w5, g5w5, l5w5, k6w5, g6w5, l6w5])
  obtain ⟨k4w6, g4w6⟩ := kp hb (b := w2.heap.size) (cs := #[.bool f, .int .i64 BQ, .int .i64 BX, .int .i64 BY]) (by (first | (with_reducible exact Nat.le_refl _) | (with_reducible assumption) | omega | (simp only [World.size_alloc, World.size_setCell, World.size_drew]; omega) | (simp; omega) | (simp; done))) (fun i => by simp [go_sem, k0w5, g0w5, l0w5, k1w5, g1w5, l1w5, k2w5, g2w5, l2w5, k3w5, g3w5, l3w5, k4w5, g4w5, l4w5, k5w5, g5w5, l5w5, k6w5, g6w5, l6w5]) (fun i => by simp [go_sem, k0w5, g0w5, l0w5, k1w5, g1w5, l1w5, k2w5, g2w5, l2w5, k3w5, g3w5, l3w5, k4w5, g4w5, l4w5, k5w5, g5w5, l5w5, k6w5, g6w5, l6w5])
  obtain ⟨k5w6, g5w6⟩ := kp hb (b := w3.heap.size) (cs := #[.int .i64 x, .int .i64 y]) (by (first | (with_reducible exact Nat.le_refl _) | (with_reducible assumption) | omega | (simp only [World.size_alloc, World.size_setCell, World.size_drew]; omega) | (simp; omega) | (simp; done))) (fun i => by simp [go_sem, k0w5, g0w5, l0w5, k1w5, g1w5, l1w5, k2w5, g2w5, l2w5, k3w5, g3w5, l3w5, k4w5, g4w5, l4w5, k5w5, g5w5, l5w5, k6w5, g6w5, l6w5]) (fun i => by simp [go_sem, k0w5, g0w5, l0w5, k1w5, g1w5, l1w5, k2w5, g2w5, l2w5, k3w5, g3w5, l3w5, k4w5, g4w5, l4w5, k5w5, g5w5, l5w5, k6w5, g6w5, l6w5])
  obtain ⟨k6w6, g6w6⟩ := kp hb (b := w4.heap.size) (cs := #[.bool TF, .int .i64 TQ, .int .i64 TX, .int .i64 TY]) (by (first | (with_reducible exact Nat.le_refl _) | (with_reducible assumption) | omega | (simp only [World.size_alloc, World.size_setCell, World.size_drew]; omega) | (simp; omega) | (simp; done))) (fun i => by simp [go_sem, k0w5, g0w5, l0w5, k1w5, g1w5, l1w5, k2w5, g2w5, l2w5, k3w5, g3w5, l3w5, k4w5, g4w5, l4w5, k5w5, g5w5, l5w5, k6w5, g6w5, l6w5]) (fun i => by simp [go_sem, k0w5, g0w5, l0w5, k1w5, g1w5, l1w5, k2w5, g2w5, l2w5, k3w5, g3w5, l3w5, k4w5, g4w5, l4w5, k5w5, g5w5, l5w5, k6w5, g6w5, l6w5])
  obtain ⟨k7w6, g7w6⟩ := kp hb (b := w5.heap.size) (cs := #[.int .i64 X2, .int .i64 Y2]) (by (first | (with_reducible exact Nat.le_refl _) | (with_reducible assumption) | omega | (simp only [World.size_alloc, World.size_setCell, World.size_drew]; omega) | (simp; omega) | (simp; done))) (fun i => by simp [go_sem, k0w5, g0w5, l0w5, k1w5, g1w5, l1w5, k2w5, g2w5, l2w5, k3w5, g3w5, l3w5, k4w5, g4w5, l4w5, k5w5, g5w5, l5w5, k6w5, g6w5, l6w5]) (fun i => by simp [go_sem, k0w5, g0w5, l0w5, k1w5, g1w5, l1w5, k2w5, g2w5, l2w5, k3w5, g3w5, l3w5, k4w5, g4w5, l4w5, k5w5, g5w5, l5w5, k6w5, g6w5, l6w5])
  have zw6 := hb.size
  have Bw6 := up (B := w.heap.size) (w := w) (by (repeat' (first | (with_reducible exact Below.refl _ _) | (with_reducible assumption) | (with_reducible refine Below.alloc ?_ ?_ _) | (with_reducible refine Below.drew ?_) | (with_reducible refine below_drewN ?_ _) | (with_reducible refine Below.setCell ?_ ?_ _) | (with_reducible exact Nat.le_refl _) | omega | (simp only [World.size_alloc, World.size_setCell, World.size_drew]; omega) | (simp; omega) | (simp; done)))) hb (by (first | (with_reducible exact Nat.le_refl _) | (with_reducible assumption) | omega | (simp only [World.size_alloc, World.size_setCell, World.size_drew]; omega) | (simp; omega) | (simp; done)))
  try simp only [World.size_alloc, World.size_setCell, World.size_drew] at zw6
  have l0w6 : w.heap.size < w6.heap.size := by (first | (with_reducible exact Nat.le_refl _) | (with_reducible assumption) | omega | (simp only [World.size_alloc, World.size_setCell, World.size_drew]; omega) | (simp; omega) | (simp; done))
  have l1w6 : w.heap.size + 1 < w6.heap.size := by (first | (with_reducible exact Nat.le_refl _) | (with_reducible assumption) | omega | (simp only [World.size_alloc, World.size_setCell, World.size_drew]; omega) | (simp; omega) | (simp; done))
  have l2w6 : w.heap.size + 1 + 1 < w6.heap.size := by (first | (with_reducible exact Nat.le_refl _) | (with_reducible assumption) | omega | (simp only [World.size_alloc, World.size_setCell, World.size_drew]; omega) | (simp; omega) | (simp; done))
  have l3w6 : w1.heap.size < w6.heap.size := by (first | (with_reducible exact Nat.le_refl _) | (with_reducible assumption) | omega | (simp only [World.size_alloc, World.size_setCell, World.size_drew]; omega) | (simp; omega) | (simp; done))
  have l4w6 : w2.heap.size < w6.heap.size := by (first | (with_reducible exact Nat.le_refl _) | (with_reducible assumption) | omega | (simp only [World.size_alloc, World.size_setCell, World.size_drew]; omega) | (simp; omega) | (simp; done))
  have l5w6 : w3.heap.size < w6.heap.size := by (first | (with_reducible exact Nat.le_refl _) | (with_reducible assumption) | omega | (simp only [World.size_alloc, World.size_setCell, World.size_drew]; omega) | (simp; omega) | (simp; done))
  have l6w6 : w4.heap.size < w6.heap.size := by (first | (with_reducible exact Nat.le_refl _) | (with_reducible assumption) | omega | (simp only [World.size_alloc, World.size_setCell, World.size_drew]; omega) | (simp; omega) | (simp; done))
  have l7w6 : w5.heap.size < w6.heap.size := by (first | (with_reducible exact Nat.le_refl _) | (with_reducible assumption) | omega | (simp only [World.size_alloc, World.size_setCell, World.size_drew]; omega) | (simp; omega) | (simp; done))
  have n70 : ¬ w5.heap.size = w.heap.size := by omega
  have m70 : ¬ w.heap.size = w5.heap.size := by omega
  have n71 : ¬ w5.heap.size = w.heap.size + 1 := by omega
  have m71 : ¬ w.heap.size + 1 = w5.heap.size := by omega
  have n72 : ¬ w5.heap.size = w.heap.size + 1 + 1 := by omega
  have m72 : ¬ w.heap.size + 1 + 1 = w5.heap.size := by omega
  have n73 : ¬ w5.heap.size = w1.heap.size := by omega
  have m73 : ¬ w1.heap.size = w5.heap.size := by omega
  have n74 : ¬ w5.heap.size = w2.heap.size := by omega
  have m74 : ¬ w2.heap.size = w5.heap.size := by omega
  have n75 : ¬ w5.heap.size = w3.heap.size := by omega
  have m75 : ¬ w3.heap.size = w5.heap.size := by omega
  have n76 : ¬ w5.heap.size = w4.heap.size := by omega
  have m76 : ¬ w4.heap.size = w5.heap.size := by omega
  clear hb
  go_wp2_with fail
  refine (awake_any _).mono ?_
  rintro e w7 ⟨rfl, hb⟩
  have zw7 := hb.size
  have Bw7 := up (B := w.heap.size) (w := w) (by (repeat' (first | (with_reducible exact Below.refl _ _) | (with_reducible assumption) | (with_reducible refine Below.alloc ?_ ?_ _) | (with_reducible refine Below.drew ?_) | (with_reducible refine below_drewN ?_ _) | (with_reducible refine Below.setCell ?_ ?_ _) | (with_reducible exact Nat.le_refl _) | omega | (simp only [World.size_alloc, World.size_setCell, World.size_drew]; omega) | (simp; omega) | (simp; done)))) hb (by (first | (with_reducible exact Nat.le_refl _) | (with_reducible assumption) | omega | (simp only [World.size_alloc, World.size_setCell, World.size_drew]; omega) | (simp; omega) | (simp; done)))
  try simp only [World.size_alloc, World.size_setCell, World.size_drew] at zw7
  clear hb
  go_wp2_with fail
  go_ret
  exact ⟨rfl, by (repeat' (first | (with_reducible exact Below.refl _ _) | (with_reducible assumption) | (with_reducible refine Below.alloc ?_ ?_ _) | (with_reducible refine Below.drew ?_) | (with_reducible refine below_drewN ?_ _) | (with_reducible refine Below.setCell ?_ ?_ _) | (with_reducible exact Nat.le_refl _) | omega | (simp only [World.size_alloc, World.size_setCell, World.size_drew]; omega) | (simp; omega) | (simp; done)))⟩

theorem goBack_walk (f : Bool) (q ax ay : Int) (g : Bool) (p bx bz x y : Int) (w : World) :
    Calls Try.prog 6 #[.agg #[.bool f, .int .i64 q, .int .i64 ax, .int .i64 ay], .agg #[.bool g, .int .i64 p, .int .i64 bx, .int .i64 bz], .agg #[.int .i64 x, .int .i64 y]] w fun e w' => e = .returned (.bool true) ∧ Below w.heap.size w w' := by
  cases h : tdOk f q ax ay x y
  · exact goBack_bad f q ax ay g p bx bz x y w h
  · obtain ⟨n, rfl⟩ := Int.eq_ofNat_of_zero_le (turnF_in (tdOk_in h).1).1
    cases h1 : thOk n ax ay g p bx bz
    · exact goBack_then f n ax ay g p bx bz x y w h h1
    · have hp : turnF p bx bz = 0 := by
        simp only [thOk, Bool.and_eq_true, decide_eq_true_eq] at h1
        exact h1.1.2
      obtain ⟨m, rfl⟩ := Int.eq_ofNat_of_zero_le (turnF_in hp).1
      cases h2 : tdOk g m bx bz (tpx f n ax x y) (tpy f n ay x y)
      · exact goBack_turn f n ax ay g m bx bz x y w h h1 h2
      · exact goBack_all f n ax ay g m bx bz x y w h h1 h2
end Go.Proofs.Ytemnhkfedjhpiaa

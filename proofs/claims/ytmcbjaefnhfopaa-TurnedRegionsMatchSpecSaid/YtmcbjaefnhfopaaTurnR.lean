/- Turning of points, of the program and of the reference. -/
import Derived.Test.YtmcbjaefnhfopaaShapeG
import Derived.Test.YtmcbjaefnhfopaaRefI
namespace Go.Proofs.Ytmcbjaefnhfopaa
open Go.RowKit
open Reg (R4)
set_option linter.unusedSimpArgs false
set_option linter.unusedVariables false

def turnF (q x y : Int) : Int := if 0 ≤ q ∧ q ≤ 3 ∧ (okAt x && okAt y) = true then 0 else 1
theorem turnF_one {q x y : Int} (h : ¬ (0 ≤ q ∧ q ≤ 3 ∧ (okAt x && okAt y) = true)) : turnF q x y = 1 := if_neg h
theorem turnF_zero {q x y : Int} (h : 0 ≤ q ∧ q ≤ 3 ∧ (okAt x && okAt y) = true) : turnF q x y = 0 := if_pos h

theorem checkTurn_any (f : Bool) (q x y : Int) (w : World) : Calls Try.prog 54 #[.agg #[.bool f, .int .i64 q, .int .i64 x, .int .i64 y]] w fun e w' => e = .returned (.int .i64 (turnF q x y)) ∧ Below w.heap.size w w' := by
  by_cases h1 : q < 0
  · have hc := turnF_one (q := q) (x := x) (y := y) (by omega)
    have Hc := Lib.hid hc; clear hc
    go_enter Try.func54, Try.ntmps54
    go_wp2_with fail
    go_ret
    exact ⟨by rw [Hc.out]; rfl, (Below.refl _ _).alloc (Nat.le_refl _) _⟩
  · by_cases h2 : 3 < q
    · have hc := turnF_one (q := q) (x := x) (y := y) (by omega)
      have Hc := Lib.hid hc; clear hc
      go_enter Try.func54, Try.ntmps54
      go_wp2_with fail
      go_ret
      exact ⟨by rw [Hc.out]; rfl, (Below.refl _ _).alloc (Nat.le_refl _) _⟩
    · have hb0 : 0 ≤ q := by omega
      have hb3 : q ≤ 3 := by omega
      cases h3 : okAt x && okAt y
      · have hc := turnF_one (q := q) (x := x) (y := y) (by simp only [h3]; simp)
        have Hc := Lib.hid hc; clear hc
        go_enter Try.func54, Try.ntmps54
        go_wp2_with (go_at_call 71; refine (pointInRange_any _ _ _).mono ?_; rintro e w1 ⟨rfl, hb⟩)
        go_ret
        exact ⟨by rw [Hc.out]; rfl, ((Below.refl _ _).alloc (Nat.le_refl _) _).trans (hb.mono (by simp))⟩
      · have hc := turnF_zero (q := q) (x := x) (y := y) ⟨hb0, hb3, h3⟩
        have Hc := Lib.hid hc; clear hc
        go_enter Try.func54, Try.ntmps54
        go_wp2_with (go_at_call 71; refine (pointInRange_any _ _ _).mono ?_; rintro e w1 ⟨rfl, hb⟩)
        go_ret
        exact ⟨by rw [Hc.out]; rfl, ((Below.refl _ _).alloc (Nat.le_refl _) _).trans (hb.mono (by simp))⟩


def flipX (f : Bool) (x : Int) : Int := if f then -x else x
def rot : Nat → Int × Int → Int × Int
  | 0, p => p
  | n + 1, p => (-(rot n p).2, (rot n p).1)
theorem rot_le (x y : Int) (hx : -1000000 ≤ x ∧ x ≤ 1000000) (hy : -1000000 ≤ y ∧ y ≤ 1000000) (n : Nat) : -1000000 ≤ (rot n (x, y)).1 ∧ (rot n (x, y)).1 ≤ 1000000 ∧ -1000000 ≤ (rot n (x, y)).2 ∧ (rot n (x, y)).2 ≤ 1000000 := by
  induction n with
  | zero => exact ⟨hx.1, hx.2, hy.1, hy.2⟩
  | succ n ih => simp only [rot]; omega

def tpx (f : Bool) (q : Nat) (ax x y : Int) : Int := (rot q (flipX f x, y)).1 + ax
def tpy (f : Bool) (q : Nat) (ay x y : Int) : Int := (rot q (flipX f x, y)).2 + ay

theorem turn_any (f : Bool) (q : Nat) (ax ay x y : Int) (w : World) (hq : q ≤ 3) (hx : In6 x) (hy : In6 y) (hax : In6 ax) (hay : In6 ay) :
    Calls Try.prog 76 #[.agg #[.int .i64 x, .int .i64 y], .agg #[.bool f, .int .i64 q, .int .i64 ax, .int .i64 ay]] w fun e w' =>
      e = .returned (.agg #[.int .i64 (tpx f q ax x y), .int .i64 (tpy f q ay x y)]) ∧ Below w.heap.size w w' := by
  obtain ⟨hx1, hx2⟩ := hx
  obtain ⟨hy1, hy2⟩ := hy
  obtain ⟨hax1, hax2⟩ := hax
  obtain ⟨hay1, hay2⟩ := hay
  cases f
  · go_enter Try.func76, Try.ntmps76
    go_wp2_with fail
    go_loopw [13] (fun i wr => ∃ k : Nat, k ≤ q ∧ i = .int .i64 k ∧ wr = ((w.alloc (.cells #[.int .i64 (rot k (x, y)).1, .int .i64 (rot k (x, y)).2] 37)).alloc (.cells #[.bool false, .int .i64 q, .int .i64 ax, .int .i64 ay] 44)).alloc (.cells #[.int .i64 0, .int .i64 0] 37)) (fun i _ => q - (intOf i).toNat)
    case atStart => exact ⟨0, Nat.zero_le _, rfl, rfl⟩
    case round =>
      obtain ⟨k, hk, rfl, rfl⟩ := hrel
      obtain ⟨r1, r2, r3, r4⟩ := rot_le x y ⟨hx1, hx2⟩ ⟨hy1, hy2⟩ k
      by_cases hlt : k < q
      · go_wp2_with fail
        go_roundw
        case rel => exact ⟨k + 1, by omega, by go_num, rfl⟩
        case measure => simp [intOf]; omega
      · obtain rfl : k = q := by omega
        go_wp2_with fail
        refine bodyPost_ret (v := .agg #[.int .i64 ((rot k (x, y)).1 + ax), .int .i64 ((rot k (x, y)).2 + ay)]) (by simp [results, Try.results76, go_sem]) rfl ⟨rfl, ?_⟩
        exact (((Below.refl _ _).alloc (Nat.le_refl _) _).alloc (by simp) _).alloc (by simp; omega) _
  · go_enter Try.func76, Try.ntmps76
    go_wp2_with fail
    go_loopw [13] (fun i wr => ∃ k : Nat, k ≤ q ∧ i = .int .i64 k ∧ wr = ((w.alloc (.cells #[.int .i64 (rot k (-x, y)).1, .int .i64 (rot k (-x, y)).2] 37)).alloc (.cells #[.bool true, .int .i64 q, .int .i64 ax, .int .i64 ay] 44)).alloc (.cells #[.int .i64 0, .int .i64 0] 37)) (fun i _ => q - (intOf i).toNat)
    case atStart => exact ⟨0, Nat.zero_le _, rfl, rfl⟩
    case round =>
      obtain ⟨k, hk, rfl, rfl⟩ := hrel
      obtain ⟨r1, r2, r3, r4⟩ := rot_le (-x) y ⟨by omega, by omega⟩ ⟨hy1, hy2⟩ k
      by_cases hlt : k < q
      · go_wp2_with fail
        go_roundw
        case rel => exact ⟨k + 1, by omega, by go_num, rfl⟩
        case measure => simp [intOf]; omega
      · obtain rfl : k = q := by omega
        go_wp2_with fail
        refine bodyPost_ret (v := .agg #[.int .i64 ((rot k (-x, y)).1 + ax), .int .i64 ((rot k (-x, y)).2 + ay)]) (by simp [results, Try.results76, go_sem]) rfl ⟨rfl, ?_⟩
        exact (((Below.refl _ _).alloc (Nat.le_refl _) _).alloc (by simp) _).alloc (by simp; omega) _


theorem raround_any (f : Bool) (q : Nat) (ax ay x y : Int) (w : World) (hq : q ≤ 3) (hx : In6 x) (hy : In6 y) :
    Calls Try.prog 95 #[.agg #[.int .i64 x, .int .i64 y], .agg #[.bool f, .int .i64 q, .int .i64 ax, .int .i64 ay]] w fun e w' =>
      e = .returned (.agg #[.int .i64 (tpx f q 0 x y), .int .i64 (tpy f q 0 x y)]) ∧ Below w.heap.size w w' := by
  obtain ⟨hx1, hx2⟩ := hx
  obtain ⟨hy1, hy2⟩ := hy
  cases f
  · have e1 : tpx false q 0 x y = (rot q (x, y)).1 := by simp [tpx, flipX]
    have e2 : tpy false q 0 x y = (rot q (x, y)).2 := by simp [tpy, flipX]
    rw [e1, e2]
    clear e1 e2
    go_enter Try.func95, Try.ntmps95
    go_wp2_with fail
    go_loopw [13] (fun i wr => ∃ k : Nat, k ≤ q ∧ i = .int .i64 k ∧ wr = ((w.alloc (.cells #[.int .i64 (rot k (x, y)).1, .int .i64 (rot k (x, y)).2] 37)).alloc (.cells #[.bool false, .int .i64 q, .int .i64 ax, .int .i64 ay] 44)).alloc (.cells #[.int .i64 0, .int .i64 0] 37)) (fun i _ => q - (intOf i).toNat)
    case atStart => exact ⟨0, Nat.zero_le _, rfl, rfl⟩
    case round =>
      obtain ⟨k, hk, rfl, rfl⟩ := hrel
      obtain ⟨r1, r2, r3, r4⟩ := rot_le x y ⟨hx1, hx2⟩ ⟨hy1, hy2⟩ k
      by_cases hlt : k < q
      · go_wp2_with fail
        go_roundw
        case rel => exact ⟨k + 1, by omega, by go_num, rfl⟩
        case measure => simp [intOf]; omega
      · obtain rfl : k = q := by omega
        go_wp2_with fail
        refine bodyPost_ret (v := .agg #[.int .i64 ((rot k (x, y)).1), .int .i64 ((rot k (x, y)).2)]) (by simp [results, Try.results95, go_sem]) rfl ⟨rfl, ?_⟩
        exact (((Below.refl _ _).alloc (Nat.le_refl _) _).alloc (by simp) _).alloc (by simp; omega) _
  · have e1 : tpx true q 0 x y = (rot q (-x, y)).1 := by simp [tpx, flipX]
    have e2 : tpy true q 0 x y = (rot q (-x, y)).2 := by simp [tpy, flipX]
    rw [e1, e2]
    clear e1 e2
    go_enter Try.func95, Try.ntmps95
    go_wp2_with fail
    go_loopw [13] (fun i wr => ∃ k : Nat, k ≤ q ∧ i = .int .i64 k ∧ wr = ((w.alloc (.cells #[.int .i64 (rot k (-x, y)).1, .int .i64 (rot k (-x, y)).2] 37)).alloc (.cells #[.bool true, .int .i64 q, .int .i64 ax, .int .i64 ay] 44)).alloc (.cells #[.int .i64 0, .int .i64 0] 37)) (fun i _ => q - (intOf i).toNat)
    case atStart => exact ⟨0, Nat.zero_le _, rfl, rfl⟩
    case round =>
      obtain ⟨k, hk, rfl, rfl⟩ := hrel
      obtain ⟨r1, r2, r3, r4⟩ := rot_le (-x) y ⟨by omega, by omega⟩ ⟨hy1, hy2⟩ k
      by_cases hlt : k < q
      · go_wp2_with fail
        go_roundw
        case rel => exact ⟨k + 1, by omega, by go_num, rfl⟩
        case measure => simp [intOf]; omega
      · obtain rfl : k = q := by omega
        go_wp2_with fail
        refine bodyPost_ret (v := .agg #[.int .i64 ((rot k (-x, y)).1), .int .i64 ((rot k (-x, y)).2)]) (by simp [results, Try.results95, go_sem]) rfl ⟨rfl, ?_⟩
        exact (((Below.refl _ _).alloc (Nat.le_refl _) _).alloc (by simp) _).alloc (by simp; omega) _


theorem flip_le {f : Bool} {x : Int} (h : In6 x) : In6 (flipX f x) := by cases f <;> simp [flipX, In6] at * <;> omega


theorem turnPoint_any (f : Bool) (q : Nat) (ax ay x y : Int) (w : World) (hq : q ≤ 3) (hx : In6 x) (hy : In6 y) (hax : In6 ax) (hay : In6 ay) :
    Calls Try.prog 78 #[.agg #[.int .i64 x, .int .i64 y], .agg #[.bool f, .int .i64 q, .int .i64 ax, .int .i64 ay]] w fun e w' =>
      e = .returned (.agg #[.int .i64 (tpx f q ax x y), .int .i64 (tpy f q ay x y)]) ∧ Below w.heap.size w w' := by
  have e1 : tpx f q ax x y = tpx f q 0 x y + ax := by simp [tpx]
  have e2 : tpy f q ay x y = tpy f q 0 x y + ay := by simp [tpy]
  have b1 := rot_le _ y (flip_le (f := f) hx) hy q
  have hc := raround_any f q ax ay x y
  have b1 : In6 (tpx f q 0 x y) := by simp only [tpx, In6]; omega
  have b2 : In6 (tpy f q 0 x y) := by simp only [tpy, In6]; omega
  rw [e1, e2]
  clear e1 e2
  generalize tpx f q 0 x y = X at *
  generalize tpy f q 0 x y = Y at *
  have Hc := Lib.hid hc
  clear hc
  obtain ⟨hax1, hax2⟩ := hax
  obtain ⟨hay1, hay2⟩ := hay
  obtain ⟨b11, b12⟩ := b1
  obtain ⟨b21, b22⟩ := b2
  go_enter Try.func78, Try.ntmps78
  go_wp2_with fail
  refine (Hc.out _ hq hx hy).mono ?_
  rintro e w1 ⟨rfl, hb⟩
  obtain ⟨k0, g0⟩ := kp hb (b := w.heap.size) (cs := #[.int .i64 x, .int .i64 y]) (by simp; omega) (fun i => by simp [go_sem]) (fun i => by simp [go_sem])
  obtain ⟨k1, g1⟩ := kp hb (b := w.heap.size + 1) (cs := #[.bool f, .int .i64 q, .int .i64 ax, .int .i64 ay]) (by simp) (fun i => by simp [go_sem]) (fun i => by simp [go_sem])
  obtain ⟨k2, g2⟩ := kp hb (b := w.heap.size + 1 + 1) (cs := #[.int .i64 0, .int .i64 0]) (by simp) (fun i => by simp [go_sem]) (fun i => by simp [go_sem])
  have hz := hb.size
  have B1 := up (B := w.heap.size) (w := w) (by (repeat' (first | (with_reducible exact Below.refl _ _) | (with_reducible assumption) | (with_reducible refine Below.alloc ?_ ?_ _) | (with_reducible refine Below.drew ?_) | (with_reducible refine below_drewN ?_ _) | (with_reducible refine Below.setCell ?_ ?_ _) | (with_reducible exact Nat.le_refl _) | omega | (simp only [World.size_alloc, World.size_setCell, World.size_drew]; omega) | (simp; omega) | (simp; done)))) hb (by (first | (with_reducible exact Nat.le_refl _) | (with_reducible assumption) | omega | (simp only [World.size_alloc, World.size_setCell, World.size_drew]; omega) | (simp; omega) | (simp; done)))
  simp only [World.size_alloc] at hz
  go_wp2_with fail
  refine bodyPost_ret (v := .agg #[.int .i64 (X + ax), .int .i64 (Y + ay)]) (by simp [results, Try.results78, go_sem, k2]) rfl ⟨rfl, ?_⟩
  (repeat' (first | (with_reducible exact Below.refl _ _) | (with_reducible assumption) | (with_reducible refine Below.alloc ?_ ?_ _) | (with_reducible refine Below.drew ?_) | (with_reducible refine below_drewN ?_ _) | (with_reducible refine Below.setCell ?_ ?_ _) | (with_reducible exact Nat.le_refl _) | omega | (simp only [World.size_alloc, World.size_setCell, World.size_drew]; omega) | (simp; omega) | (simp; done)))


theorem turnF_or (q x y : Int) : turnF q x y = 0 ∨ turnF q x y = 1 := by unfold turnF; split <;> simp
theorem turnF_in {q x y : Int} (h : turnF q x y = 0) : 0 ≤ q ∧ q ≤ 3 ∧ In6 x ∧ In6 y := by
  unfold turnF at h
  split at h
  · rename_i hh
    simp [okAt] at hh
    exact ⟨hh.1, hh.2.1, ⟨hh.2.2.1.1, hh.2.2.1.2⟩, ⟨hh.2.2.2.1, hh.2.2.2.2⟩⟩
  · cases h


theorem within_any (n lo hi : Int) (w : World) : Calls Try.prog 64 #[.int .i64 n, .int .i64 lo, .int .i64 hi] w fun e w' => e = .returned (.bool (decide (lo ≤ n) && decide (n ≤ hi))) ∧ w = w' := by
  by_cases h1 : lo ≤ n
  · by_cases h2 : n ≤ hi
    · go_enter Try.func64, Try.ntmps64
      go_wp2
      go_ret
      exact ⟨by simp; omega, rfl⟩
    · go_enter Try.func64, Try.ntmps64
      go_wp2
      go_ret
      exact ⟨by simp; omega, rfl⟩
  · go_enter Try.func64, Try.ntmps64
    go_wp2
    go_ret
    exact ⟨by simp; omega, rfl⟩
theorem within_as (n lo hi : Int) (b : Bool) (h : (decide (lo ≤ n) && decide (n ≤ hi)) = b) (w : World) : Calls Try.prog 64 #[.int .i64 n, .int .i64 lo, .int .i64 hi] w fun e w' => e = .returned (.bool b) ∧ w = w' := h ▸ within_any n lo hi w


theorem rcheckTurn_any (f : Bool) (q x y : Int) (w : World) : Calls Try.prog 56 #[.agg #[.bool f, .int .i64 q, .int .i64 x, .int .i64 y]] w fun e w' => e = .returned (.int .i64 (turnF q x y)) ∧ Below w.heap.size w w' := by
  by_cases h1 : 0 ≤ q ∧ q ≤ 3
  · have c1 := fun w => within_as q 0 3 true (by simp; omega) w
    have c2 := fun w => isPoint_any x y w
    cases h3 : okAt x && okAt y
    · rw [turnF_one (q := q) (x := x) (y := y) (by simp only [h3]; simp)]
      rw [h3] at c2
      have C1 := Lib.hid c1
      have C2 := Lib.hid c2
      clear c1 c2 h1 h3
      go_enter Try.func56, Try.ntmps56
      go_wp2_with fail
      refine (C1.out _).mono ?_
      rintro e w1 ⟨rfl, rfl⟩
      go_wp2_with fail
      refine (C2.out _).mono ?_
      rintro e w1 ⟨rfl, hb⟩
      have B1 := up (B := w.heap.size) (w := w) (by (repeat' (first | (with_reducible exact Below.refl _ _) | (with_reducible assumption) | (with_reducible refine Below.alloc ?_ ?_ _) | (with_reducible refine Below.drew ?_) | (with_reducible refine Below.setCell ?_ ?_ _) | (with_reducible exact Nat.le_refl _) | omega | (simp only [World.size_alloc, World.size_setCell, World.size_drew]; omega) | (simp; omega) | (simp; done)))) hb (by (first | (with_reducible exact Nat.le_refl _) | (with_reducible assumption) | omega | (simp only [World.size_alloc, World.size_setCell, World.size_drew]; omega) | (simp; omega) | (simp; done)))
      go_wp2_with fail
      go_ret
      exact ⟨rfl, B1⟩
    · rw [turnF_zero (q := q) (x := x) (y := y) ⟨h1.1, h1.2, h3⟩]
      rw [h3] at c2
      have C1 := Lib.hid c1
      have C2 := Lib.hid c2
      clear c1 c2 h1 h3
      go_enter Try.func56, Try.ntmps56
      go_wp2_with fail
      refine (C1.out _).mono ?_
      rintro e w1 ⟨rfl, rfl⟩
      go_wp2_with fail
      refine (C2.out _).mono ?_
      rintro e w1 ⟨rfl, hb⟩
      have B1 := up (B := w.heap.size) (w := w) (by (repeat' (first | (with_reducible exact Below.refl _ _) | (with_reducible assumption) | (with_reducible refine Below.alloc ?_ ?_ _) | (with_reducible refine Below.drew ?_) | (with_reducible refine Below.setCell ?_ ?_ _) | (with_reducible exact Nat.le_refl _) | omega | (simp only [World.size_alloc, World.size_setCell, World.size_drew]; omega) | (simp; omega) | (simp; done)))) hb (by (first | (with_reducible exact Nat.le_refl _) | (with_reducible assumption) | omega | (simp only [World.size_alloc, World.size_setCell, World.size_drew]; omega) | (simp; omega) | (simp; done)))
      go_wp2_with fail
      go_ret
      exact ⟨rfl, B1⟩
  · have c1 := fun w => within_as q 0 3 false (by simp; omega) w
    rw [turnF_one (q := q) (x := x) (y := y) (by omega)]
    have C1 := Lib.hid c1
    clear c1 h1
    go_enter Try.func56, Try.ntmps56
    go_wp2_with fail
    refine (C1.out _).mono ?_
    rintro e w1 ⟨rfl, rfl⟩
    go_wp2_with fail
    go_ret
    exact ⟨rfl, by (repeat' (first | (with_reducible exact Below.refl _ _) | (with_reducible assumption) | (with_reducible refine Below.alloc ?_ ?_ _) | (with_reducible refine Below.drew ?_) | (with_reducible refine Below.setCell ?_ ?_ _) | (with_reducible exact Nat.le_refl _) | omega | (simp only [World.size_alloc, World.size_setCell, World.size_drew]; omega) | (simp; omega) | (simp; done)))⟩
end Go.Proofs.Ytmcbjaefnhfopaa

/- Back, of the program and of the reference, returns what bkV says. -/
import Derived.Test.YtemnhkfedjhpiaaTurnC
namespace Go.Proofs.Ytemnhkfedjhpiaa
open Go.RowKit
set_option linter.unusedSimpArgs false
set_option linter.unusedVariables false
set_option maxHeartbeats 400000 in
theorem back_any (f : Bool) (q ax ay : Int) (w : World) : Calls Try.prog 22 #[.agg #[.bool f, .int .i64 q, .int .i64 ax, .int .i64 ay]] w fun e w' =>
    e = .returned (bkV f q ax ay) ∧ Below w.heap.size w w' := by
  rcases turnF_or q ax ay with h0 | h0
  · obtain ⟨hq0, hq3, hax, hay⟩ := turnF_in h0
    obtain ⟨n, rfl⟩ := Int.eq_ofNat_of_zero_le hq0
    have hn : n ≤ 3 := by omega
    have hv : bkV f n ax ay = .tuple #[.agg #[.bool f, .int .i64 (bkQ f n), .int .i64 (bkX f n ax ay), .int .i64 (bkY f n ax ay)], .int .i64 0] := by simp only [bkV, bkOk, h0]; rfl
    rw [hv]
    have c1 := fun w => checkTurn_ok f n ax ay w h0
    cases f
    · obtain ⟨m, hm, hm3⟩ : ∃ m : Nat, bkQ false n = (m : Int) ∧ m ≤ 3 := ⟨((4 - (n : Int)) % 4).toNat, by simp only [bkQ]; simp; omega, by omega⟩
      have hm' : (-(n : Int) % 4) = (m : Int) := by simp [bkQ] at hm; omega
      simp only [bkX, bkY, hm, Int.toNat_natCast]
      have b := tp_in false m hax hay
      have c2 := fun W => turn_any false m 0 0  ax ay W (by omega) hax hay ⟨by omega, by omega⟩ ⟨by omega, by omega⟩
      generalize tpx false m 0 ax ay = X at *
      generalize tpy false m 0 ax ay = Y at *
      obtain ⟨⟨b1, b2⟩, b3, b4⟩ := b
      clear hv h0 hm
      have C1 := Lib.hid c1
      have C2 := Lib.hid c2
      clear c1 c2
      have Hm := Lib.hid hm'
      clear hm'
      go_enter Try.func22, Try.ntmps22
      go_wp2_with fail
      refine (C1.out _).mono ?_
      rintro e w1 ⟨rfl, hb⟩
      obtain ⟨k0w1, g0w1⟩ := kp hb (b := w.heap.size) (cs := #[.bool false, .int .i64 n, .int .i64 ax, .int .i64 ay]) (by (first | (with_reducible exact Nat.le_refl _) | (with_reducible assumption) | omega | (simp only [World.size_alloc, World.size_setCell, World.size_drew]; omega) | (simp; omega) | (simp; done))) (fun i => by simp [go_sem]) (fun i => by simp [go_sem])
      obtain ⟨k1w1, g1w1⟩ := kp hb (b := w.heap.size + 1) (cs := #[.bool false, .int .i64 0, .int .i64 0, .int .i64 0]) (by (first | (with_reducible exact Nat.le_refl _) | (with_reducible assumption) | omega | (simp only [World.size_alloc, World.size_setCell, World.size_drew]; omega) | (simp; omega) | (simp; done))) (fun i => by simp [go_sem]) (fun i => by simp [go_sem])
      have zw1 := hb.size
      have Bw1 := up (B := w.heap.size) (w := w) (by (repeat' (first | (with_reducible exact Below.refl _ _) | (with_reducible assumption) | (with_reducible refine Below.alloc ?_ ?_ _) | (with_reducible refine Below.drew ?_) | (with_reducible refine Below.setCell ?_ ?_ _) | (with_reducible exact Nat.le_refl _) | omega | (simp only [World.size_alloc, World.size_setCell, World.size_drew]; omega) | (simp; omega) | (simp; done)))) hb (by (first | (with_reducible exact Nat.le_refl _) | (with_reducible assumption) | omega | (simp only [World.size_alloc, World.size_setCell, World.size_drew]; omega) | (simp; omega) | (simp; done)))
      try simp only [World.size_alloc, World.size_setCell] at zw1
      have l0w1 : w.heap.size < w1.heap.size := by (first | (with_reducible exact Nat.le_refl _) | (with_reducible assumption) | omega | (simp only [World.size_alloc, World.size_setCell, World.size_drew]; omega) | (simp; omega) | (simp; done))
      have l1w1 : w.heap.size + 1 < w1.heap.size := by (first | (with_reducible exact Nat.le_refl _) | (with_reducible assumption) | omega | (simp only [World.size_alloc, World.size_setCell, World.size_drew]; omega) | (simp; omega) | (simp; done))
      clear hb
      go_wp2_with fail
      try rw [Hm.out]
      refine (C2.out _).mono ?_
      rintro e w2 ⟨rfl, hb⟩
      obtain ⟨k0w2, g0w2⟩ := kp hb (b := w.heap.size) (cs := #[.bool false, .int .i64 n, .int .i64 ax, .int .i64 ay]) (by (first | (with_reducible exact Nat.le_refl _) | (with_reducible assumption) | omega | (simp only [World.size_alloc, World.size_setCell, World.size_drew]; omega) | (simp; omega) | (simp; done))) (fun i => by simp [go_sem, k0w1, g0w1, l0w1, k1w1, g1w1, l1w1]) (fun i => by simp [go_sem, k0w1, g0w1, l0w1, k1w1, g1w1, l1w1])
      obtain ⟨k1w2, g1w2⟩ := kp hb (b := w.heap.size + 1) (cs := #[.bool false, .int .i64 0, .int .i64 0, .int .i64 0]) (by (first | (with_reducible exact Nat.le_refl _) | (with_reducible assumption) | omega | (simp only [World.size_alloc, World.size_setCell, World.size_drew]; omega) | (simp; omega) | (simp; done))) (fun i => by simp [go_sem, k0w1, g0w1, l0w1, k1w1, g1w1, l1w1]) (fun i => by simp [go_sem, k0w1, g0w1, l0w1, k1w1, g1w1, l1w1])
      obtain ⟨k2w2, g2w2⟩ := kp hb (b := w1.heap.size) (cs := #[.bool false, .int .i64 m, .int .i64 0, .int .i64 0]) (by (first | (with_reducible exact Nat.le_refl _) | (with_reducible assumption) | omega | (simp only [World.size_alloc, World.size_setCell, World.size_drew]; omega) | (simp; omega) | (simp; done))) (fun i => by simp [go_sem, k0w1, g0w1, l0w1, k1w1, g1w1, l1w1]) (fun i => by simp [go_sem, k0w1, g0w1, l0w1, k1w1, g1w1, l1w1])
      have zw2 := hb.size
      have Bw2 := up (B := w.heap.size) (w := w) (by (repeat' (first | (with_reducible exact Below.refl _ _) | (with_reducible assumption) | (with_reducible refine Below.alloc ?_ ?_ _) | (with_reducible refine Below.drew ?_) | (with_reducible refine Below.setCell ?_ ?_ _) | (with_reducible exact Nat.le_refl _) | omega | (simp only [World.size_alloc, World.size_setCell, World.size_drew]; omega) | (simp; omega) | (simp; done)))) hb (by (first | (with_reducible exact Nat.le_refl _) | (with_reducible assumption) | omega | (simp only [World.size_alloc, World.size_setCell, World.size_drew]; omega) | (simp; omega) | (simp; done)))
      try simp only [World.size_alloc, World.size_setCell] at zw2
      have l0w2 : w.heap.size < w2.heap.size := by (first | (with_reducible exact Nat.le_refl _) | (with_reducible assumption) | omega | (simp only [World.size_alloc, World.size_setCell, World.size_drew]; omega) | (simp; omega) | (simp; done))
      have l1w2 : w.heap.size + 1 < w2.heap.size := by (first | (with_reducible exact Nat.le_refl _) | (with_reducible assumption) | omega | (simp only [World.size_alloc, World.size_setCell, World.size_drew]; omega) | (simp; omega) | (simp; done))
      have l2w2 : w1.heap.size < w2.heap.size := by (first | (with_reducible exact Nat.le_refl _) | (with_reducible assumption) | omega | (simp only [World.size_alloc, World.size_setCell, World.size_drew]; omega) | (simp; omega) | (simp; done))
      have n20 : ¬ w1.heap.size = w.heap.size := by omega
      have m20 : ¬ w.heap.size = w1.heap.size := by omega
      have n21 : ¬ w1.heap.size = w.heap.size + 1 := by omega
      have m21 : ¬ w.heap.size + 1 = w1.heap.size := by omega
      clear hb
      go_wp2_with fail
      refine bodyPost_ret (v := .tuple #[.agg #[.bool false, .int .i64 m, .int .i64 (-X), .int .i64 (-Y)], .int .i64 0]) (by simp [results, Try.results22, go_sem, k1w2, l1w2, n21, m21]) rfl ⟨rfl, ?_⟩
      (repeat' (first | (with_reducible exact Below.refl _ _) | (with_reducible assumption) | (with_reducible refine Below.alloc ?_ ?_ _) | (with_reducible refine Below.drew ?_) | (with_reducible refine Below.setCell ?_ ?_ _) | (with_reducible exact Nat.le_refl _) | omega | (simp only [World.size_alloc, World.size_setCell, World.size_drew]; omega) | (simp; omega) | (simp; done)))
    · have hm : bkQ true n = (n : Int) := by simp [bkQ]
      simp only [bkX, bkY, hm, Int.toNat_natCast]
      have b := tp_in true n hax hay
      have c2 := fun W => turn_any true n 0 0  ax ay W (by omega) hax hay ⟨by omega, by omega⟩ ⟨by omega, by omega⟩
      generalize tpx true n 0 ax ay = X at *
      generalize tpy true n 0 ax ay = Y at *
      obtain ⟨⟨b1, b2⟩, b3, b4⟩ := b
      clear hv h0 hm
      have C1 := Lib.hid c1
      have C2 := Lib.hid c2
      clear c1 c2
      go_enter Try.func22, Try.ntmps22
      go_wp2_with fail
      refine (C1.out _).mono ?_
      rintro e w1 ⟨rfl, hb⟩
      obtain ⟨k0w1, g0w1⟩ := kp hb (b := w.heap.size) (cs := #[.bool true, .int .i64 n, .int .i64 ax, .int .i64 ay]) (by (first | (with_reducible exact Nat.le_refl _) | (with_reducible assumption) | omega | (simp only [World.size_alloc, World.size_setCell, World.size_drew]; omega) | (simp; omega) | (simp; done))) (fun i => by simp [go_sem]) (fun i => by simp [go_sem])
      obtain ⟨k1w1, g1w1⟩ := kp hb (b := w.heap.size + 1) (cs := #[.bool false, .int .i64 0, .int .i64 0, .int .i64 0]) (by (first | (with_reducible exact Nat.le_refl _) | (with_reducible assumption) | omega | (simp only [World.size_alloc, World.size_setCell, World.size_drew]; omega) | (simp; omega) | (simp; done))) (fun i => by simp [go_sem]) (fun i => by simp [go_sem])
      have zw1 := hb.size
      have Bw1 := up (B := w.heap.size) (w := w) (by (repeat' (first | (with_reducible exact Below.refl _ _) | (with_reducible assumption) | (with_reducible refine Below.alloc ?_ ?_ _) | (with_reducible refine Below.drew ?_) | (with_reducible refine Below.setCell ?_ ?_ _) | (with_reducible exact Nat.le_refl _) | omega | (simp only [World.size_alloc, World.size_setCell, World.size_drew]; omega) | (simp; omega) | (simp; done)))) hb (by (first | (with_reducible exact Nat.le_refl _) | (with_reducible assumption) | omega | (simp only [World.size_alloc, World.size_setCell, World.size_drew]; omega) | (simp; omega) | (simp; done)))
      try simp only [World.size_alloc, World.size_setCell] at zw1
      have l0w1 : w.heap.size < w1.heap.size := by (first | (with_reducible exact Nat.le_refl _) | (with_reducible assumption) | omega | (simp only [World.size_alloc, World.size_setCell, World.size_drew]; omega) | (simp; omega) | (simp; done))
      have l1w1 : w.heap.size + 1 < w1.heap.size := by (first | (with_reducible exact Nat.le_refl _) | (with_reducible assumption) | omega | (simp only [World.size_alloc, World.size_setCell, World.size_drew]; omega) | (simp; omega) | (simp; done))
      clear hb
      go_wp2_with fail
      refine (C2.out _).mono ?_
      rintro e w2 ⟨rfl, hb⟩
      obtain ⟨k0w2, g0w2⟩ := kp hb (b := w.heap.size) (cs := #[.bool true, .int .i64 n, .int .i64 ax, .int .i64 ay]) (by (first | (with_reducible exact Nat.le_refl _) | (with_reducible assumption) | omega | (simp only [World.size_alloc, World.size_setCell, World.size_drew]; omega) | (simp; omega) | (simp; done))) (fun i => by simp [go_sem, k0w1, g0w1, l0w1, k1w1, g1w1, l1w1]) (fun i => by simp [go_sem, k0w1, g0w1, l0w1, k1w1, g1w1, l1w1])
      obtain ⟨k1w2, g1w2⟩ := kp hb (b := w.heap.size + 1) (cs := #[.bool false, .int .i64 0, .int .i64 0, .int .i64 0]) (by (first | (with_reducible exact Nat.le_refl _) | (with_reducible assumption) | omega | (simp only [World.size_alloc, World.size_setCell, World.size_drew]; omega) | (simp; omega) | (simp; done))) (fun i => by simp [go_sem, k0w1, g0w1, l0w1, k1w1, g1w1, l1w1]) (fun i => by simp [go_sem, k0w1, g0w1, l0w1, k1w1, g1w1, l1w1])
      obtain ⟨k2w2, g2w2⟩ := kp hb (b := w1.heap.size) (cs := #[.bool true, .int .i64 n, .int .i64 0, .int .i64 0]) (by (first | (with_reducible exact Nat.le_refl _) | (with_reducible assumption) | omega | (simp only [World.size_alloc, World.size_setCell, World.size_drew]; omega) | (simp; omega) | (simp; done))) (fun i => by simp [go_sem, k0w1, g0w1, l0w1, k1w1, g1w1, l1w1]) (fun i => by simp [go_sem, k0w1, g0w1, l0w1, k1w1, g1w1, l1w1])
      have zw2 := hb.size
      have Bw2 := up (B := w.heap.size) (w := w) (by (repeat' (first | (with_reducible exact Below.refl _ _) | (with_reducible assumption) | (with_reducible refine Below.alloc ?_ ?_ _) | (with_reducible refine Below.drew ?_) | (with_reducible refine Below.setCell ?_ ?_ _) | (with_reducible exact Nat.le_refl _) | omega | (simp only [World.size_alloc, World.size_setCell, World.size_drew]; omega) | (simp; omega) | (simp; done)))) hb (by (first | (with_reducible exact Nat.le_refl _) | (with_reducible assumption) | omega | (simp only [World.size_alloc, World.size_setCell, World.size_drew]; omega) | (simp; omega) | (simp; done)))
      try simp only [World.size_alloc, World.size_setCell] at zw2
      have l0w2 : w.heap.size < w2.heap.size := by (first | (with_reducible exact Nat.le_refl _) | (with_reducible assumption) | omega | (simp only [World.size_alloc, World.size_setCell, World.size_drew]; omega) | (simp; omega) | (simp; done))
      have l1w2 : w.heap.size + 1 < w2.heap.size := by (first | (with_reducible exact Nat.le_refl _) | (with_reducible assumption) | omega | (simp only [World.size_alloc, World.size_setCell, World.size_drew]; omega) | (simp; omega) | (simp; done))
      have l2w2 : w1.heap.size < w2.heap.size := by (first | (with_reducible exact Nat.le_refl _) | (with_reducible assumption) | omega | (simp only [World.size_alloc, World.size_setCell, World.size_drew]; omega) | (simp; omega) | (simp; done))
      have n20 : ¬ w1.heap.size = w.heap.size := by omega
      have m20 : ¬ w.heap.size = w1.heap.size := by omega
      have n21 : ¬ w1.heap.size = w.heap.size + 1 := by omega
      have m21 : ¬ w.heap.size + 1 = w1.heap.size := by omega
      clear hb
      go_wp2_with fail
      refine bodyPost_ret (v := .tuple #[.agg #[.bool true, .int .i64 n, .int .i64 (-X), .int .i64 (-Y)], .int .i64 0]) (by simp [results, Try.results22, go_sem, k1w2, l1w2, n21, m21]) rfl ⟨rfl, ?_⟩
      (repeat' (first | (with_reducible exact Below.refl _ _) | (with_reducible assumption) | (with_reducible refine Below.alloc ?_ ?_ _) | (with_reducible refine Below.drew ?_) | (with_reducible refine Below.setCell ?_ ?_ _) | (with_reducible exact Nat.le_refl _) | omega | (simp only [World.size_alloc, World.size_setCell, World.size_drew]; omega) | (simp; omega) | (simp; done)))
  · have hv : bkV f q ax ay = .tuple #[.agg #[.bool false, .int .i64 0, .int .i64 0, .int .i64 0], .int .i64 1] := by simp only [bkV, bkOk, h0]; rfl
    rw [hv]
    have c1 := fun w => checkTurn_bad f q ax ay w h0
    have C1 := Lib.hid c1
    clear c1 hv h0
    go_enter Try.func22, Try.ntmps22
    go_wp2_with fail
    refine (C1.out _).mono ?_
    rintro e w1 ⟨rfl, hb⟩
    obtain ⟨k0w1, g0w1⟩ := kp hb (b := w.heap.size) (cs := #[.bool f, .int .i64 q, .int .i64 ax, .int .i64 ay]) (by (first | (with_reducible exact Nat.le_refl _) | (with_reducible assumption) | omega | (simp only [World.size_alloc, World.size_setCell, World.size_drew]; omega) | (simp; omega) | (simp; done))) (fun i => by simp [go_sem]) (fun i => by simp [go_sem])
    obtain ⟨k1w1, g1w1⟩ := kp hb (b := w.heap.size + 1) (cs := #[.bool false, .int .i64 0, .int .i64 0, .int .i64 0]) (by (first | (with_reducible exact Nat.le_refl _) | (with_reducible assumption) | omega | (simp only [World.size_alloc, World.size_setCell, World.size_drew]; omega) | (simp; omega) | (simp; done))) (fun i => by simp [go_sem]) (fun i => by simp [go_sem])
    have zw1 := hb.size
    have Bw1 := up (B := w.heap.size) (w := w) (by (repeat' (first | (with_reducible exact Below.refl _ _) | (with_reducible assumption) | (with_reducible refine Below.alloc ?_ ?_ _) | (with_reducible refine Below.drew ?_) | (with_reducible refine Below.setCell ?_ ?_ _) | (with_reducible exact Nat.le_refl _) | omega | (simp only [World.size_alloc, World.size_setCell, World.size_drew]; omega) | (simp; omega) | (simp; done)))) hb (by (first | (with_reducible exact Nat.le_refl _) | (with_reducible assumption) | omega | (simp only [World.size_alloc, World.size_setCell, World.size_drew]; omega) | (simp; omega) | (simp; done)))
    try simp only [World.size_alloc, World.size_setCell] at zw1
    have l0w1 : w.heap.size < w1.heap.size := by (first | (with_reducible exact Nat.le_refl _) | (with_reducible assumption) | omega | (simp only [World.size_alloc, World.size_setCell, World.size_drew]; omega) | (simp; omega) | (simp; done))
    have l1w1 : w.heap.size + 1 < w1.heap.size := by (first | (with_reducible exact Nat.le_refl _) | (with_reducible assumption) | omega | (simp only [World.size_alloc, World.size_setCell, World.size_drew]; omega) | (simp; omega) | (simp; done))
    clear hb
    go_wp2_with fail
    refine bodyPost_ret (v := .tuple #[.agg #[.bool false, .int .i64 0, .int .i64 0, .int .i64 0], .int .i64 1]) (by simp [results, Try.results22, go_sem, k1w1]) rfl ⟨rfl, ?_⟩
    (repeat' (first | (with_reducible exact Below.refl _ _) | (with_reducible assumption) | (with_reducible refine Below.alloc ?_ ?_ _) | (with_reducible refine Below.drew ?_) | (with_reducible refine Below.setCell ?_ ?_ _) | (with_reducible exact Nat.le_refl _) | omega | (simp only [World.size_alloc, World.size_setCell, World.size_drew]; omega) | (simp; omega) | (simp; done)))

set_option maxHeartbeats 400000 in
theorem rback_any (f : Bool) (q ax ay : Int) (w : World) : Calls Try.prog 23 #[.agg #[.bool f, .int .i64 q, .int .i64 ax, .int .i64 ay]] w fun e w' =>
    e = .returned (bkV f q ax ay) ∧ Below w.heap.size w w' := by
  rcases turnF_or q ax ay with h0 | h0
  · obtain ⟨hq0, hq3, hax, hay⟩ := turnF_in h0
    obtain ⟨n, rfl⟩ := Int.eq_ofNat_of_zero_le hq0
    have hn : n ≤ 3 := by omega
    have hv : bkV f n ax ay = .tuple #[.agg #[.bool f, .int .i64 (bkQ f n), .int .i64 (bkX f n ax ay), .int .i64 (bkY f n ax ay)], .int .i64 0] := by simp only [bkV, bkOk, h0]; rfl
    rw [hv]
    have c1 := fun w => rcheckTurn_ok f n ax ay w h0
    cases f
    · obtain ⟨m, hm, hm3⟩ : ∃ m : Nat, bkQ false n = (m : Int) ∧ m ≤ 3 := ⟨((4 - (n : Int)) % 4).toNat, by simp only [bkQ]; simp; omega, by omega⟩
      have hm' : (-(n : Int) % 4) = (m : Int) := by simp [bkQ] at hm; omega
      simp only [bkX, bkY, hm, Int.toNat_natCast]
      have b := tp_in false m hax hay
      have c2 := fun W => around_any false m 0 0  ax ay W (by omega) hax hay
      generalize tpx false m 0 ax ay = X at *
      generalize tpy false m 0 ax ay = Y at *
      obtain ⟨⟨b1, b2⟩, b3, b4⟩ := b
      clear hv h0 hm
      have C1 := Lib.hid c1
      have C2 := Lib.hid c2
      clear c1 c2
      have Hm := Lib.hid hm'
      clear hm'
      go_enter Try.func23, Try.ntmps23
      go_wp2_with fail
      refine (C1.out _).mono ?_
      rintro e w1 ⟨rfl, hb⟩
      obtain ⟨k0w1, g0w1⟩ := kp hb (b := w.heap.size) (cs := #[.bool false, .int .i64 n, .int .i64 ax, .int .i64 ay]) (by (first | (with_reducible exact Nat.le_refl _) | (with_reducible assumption) | omega | (simp only [World.size_alloc, World.size_setCell, World.size_drew]; omega) | (simp; omega) | (simp; done))) (fun i => by simp [go_sem]) (fun i => by simp [go_sem])
      obtain ⟨k1w1, g1w1⟩ := kp hb (b := w.heap.size + 1) (cs := #[.bool false, .int .i64 0, .int .i64 0, .int .i64 0]) (by (first | (with_reducible exact Nat.le_refl _) | (with_reducible assumption) | omega | (simp only [World.size_alloc, World.size_setCell, World.size_drew]; omega) | (simp; omega) | (simp; done))) (fun i => by simp [go_sem]) (fun i => by simp [go_sem])
      have zw1 := hb.size
      have Bw1 := up (B := w.heap.size) (w := w) (by (repeat' (first | (with_reducible exact Below.refl _ _) | (with_reducible assumption) | (with_reducible refine Below.alloc ?_ ?_ _) | (with_reducible refine Below.drew ?_) | (with_reducible refine Below.setCell ?_ ?_ _) | (with_reducible exact Nat.le_refl _) | omega | (simp only [World.size_alloc, World.size_setCell, World.size_drew]; omega) | (simp; omega) | (simp; done)))) hb (by (first | (with_reducible exact Nat.le_refl _) | (with_reducible assumption) | omega | (simp only [World.size_alloc, World.size_setCell, World.size_drew]; omega) | (simp; omega) | (simp; done)))
      try simp only [World.size_alloc, World.size_setCell] at zw1
      have l0w1 : w.heap.size < w1.heap.size := by (first | (with_reducible exact Nat.le_refl _) | (with_reducible assumption) | omega | (simp only [World.size_alloc, World.size_setCell, World.size_drew]; omega) | (simp; omega) | (simp; done))
      have l1w1 : w.heap.size + 1 < w1.heap.size := by (first | (with_reducible exact Nat.le_refl _) | (with_reducible assumption) | omega | (simp only [World.size_alloc, World.size_setCell, World.size_drew]; omega) | (simp; omega) | (simp; done))
      clear hb
      go_wp2_with fail
      try rw [Hm.out]
      refine (C2.out _).mono ?_
      rintro e w2 ⟨rfl, hb⟩
      obtain ⟨k0w2, g0w2⟩ := kp hb (b := w.heap.size) (cs := #[.bool false, .int .i64 n, .int .i64 ax, .int .i64 ay]) (by (first | (with_reducible exact Nat.le_refl _) | (with_reducible assumption) | omega | (simp only [World.size_alloc, World.size_setCell, World.size_drew]; omega) | (simp; omega) | (simp; done))) (fun i => by simp [go_sem, k0w1, g0w1, l0w1, k1w1, g1w1, l1w1]) (fun i => by simp [go_sem, k0w1, g0w1, l0w1, k1w1, g1w1, l1w1])
      obtain ⟨k1w2, g1w2⟩ := kp hb (b := w.heap.size + 1) (cs := #[.bool false, .int .i64 0, .int .i64 0, .int .i64 0]) (by (first | (with_reducible exact Nat.le_refl _) | (with_reducible assumption) | omega | (simp only [World.size_alloc, World.size_setCell, World.size_drew]; omega) | (simp; omega) | (simp; done))) (fun i => by simp [go_sem, k0w1, g0w1, l0w1, k1w1, g1w1, l1w1]) (fun i => by simp [go_sem, k0w1, g0w1, l0w1, k1w1, g1w1, l1w1])
      obtain ⟨k2w2, g2w2⟩ := kp hb (b := w1.heap.size) (cs := #[.bool false, .int .i64 m, .int .i64 0, .int .i64 0]) (by (first | (with_reducible exact Nat.le_refl _) | (with_reducible assumption) | omega | (simp only [World.size_alloc, World.size_setCell, World.size_drew]; omega) | (simp; omega) | (simp; done))) (fun i => by simp [go_sem, k0w1, g0w1, l0w1, k1w1, g1w1, l1w1]) (fun i => by simp [go_sem, k0w1, g0w1, l0w1, k1w1, g1w1, l1w1])
      have zw2 := hb.size
      have Bw2 := up (B := w.heap.size) (w := w) (by (repeat' (first | (with_reducible exact Below.refl _ _) | (with_reducible assumption) | (with_reducible refine Below.alloc ?_ ?_ _) | (with_reducible refine Below.drew ?_) | (with_reducible refine Below.setCell ?_ ?_ _) | (with_reducible exact Nat.le_refl _) | omega | (simp only [World.size_alloc, World.size_setCell, World.size_drew]; omega) | (simp; omega) | (simp; done)))) hb (by (first | (with_reducible exact Nat.le_refl _) | (with_reducible assumption) | omega | (simp only [World.size_alloc, World.size_setCell, World.size_drew]; omega) | (simp; omega) | (simp; done)))
      try simp only [World.size_alloc, World.size_setCell] at zw2
      have l0w2 : w.heap.size < w2.heap.size := by (first | (with_reducible exact Nat.le_refl _) | (with_reducible assumption) | omega | (simp only [World.size_alloc, World.size_setCell, World.size_drew]; omega) | (simp; omega) | (simp; done))
      have l1w2 : w.heap.size + 1 < w2.heap.size := by (first | (with_reducible exact Nat.le_refl _) | (with_reducible assumption) | omega | (simp only [World.size_alloc, World.size_setCell, World.size_drew]; omega) | (simp; omega) | (simp; done))
      have l2w2 : w1.heap.size < w2.heap.size := by (first | (with_reducible exact Nat.le_refl _) | (with_reducible assumption) | omega | (simp only [World.size_alloc, World.size_setCell, World.size_drew]; omega) | (simp; omega) | (simp; done))
      have n20 : ¬ w1.heap.size = w.heap.size := by omega
      have m20 : ¬ w.heap.size = w1.heap.size := by omega
      have n21 : ¬ w1.heap.size = w.heap.size + 1 := by omega
      have m21 : ¬ w.heap.size + 1 = w1.heap.size := by omega
      clear hb
      go_wp2_with fail
      refine bodyPost_ret (v := .tuple #[.agg #[.bool false, .int .i64 m, .int .i64 (-X), .int .i64 (-Y)], .int .i64 0]) (by simp [results, Try.results23, go_sem, k1w2, l1w2, n21, m21]) rfl ⟨rfl, ?_⟩
      (repeat' (first | (with_reducible exact Below.refl _ _) | (with_reducible assumption) | (with_reducible refine Below.alloc ?_ ?_ _) | (with_reducible refine Below.drew ?_) | (with_reducible refine Below.setCell ?_ ?_ _) | (with_reducible exact Nat.le_refl _) | omega | (simp only [World.size_alloc, World.size_setCell, World.size_drew]; omega) | (simp; omega) | (simp; done)))
    · have hm : bkQ true n = (n : Int) := by simp [bkQ]
      simp only [bkX, bkY, hm, Int.toNat_natCast]
      have b := tp_in true n hax hay
      have c2 := fun W => around_any true n 0 0  ax ay W (by omega) hax hay
      generalize tpx true n 0 ax ay = X at *
      generalize tpy true n 0 ax ay = Y at *
      obtain ⟨⟨b1, b2⟩, b3, b4⟩ := b
      clear hv h0 hm
      have C1 := Lib.hid c1
      have C2 := Lib.hid c2
      clear c1 c2
      go_enter Try.func23, Try.ntmps23
      go_wp2_with fail
      refine (C1.out _).mono ?_
      rintro e w1 ⟨rfl, hb⟩
      obtain ⟨k0w1, g0w1⟩ := kp hb (b := w.heap.size) (cs := #[.bool true, .int .i64 n, .int .i64 ax, .int .i64 ay]) (by (first | (with_reducible exact Nat.le_refl _) | (with_reducible assumption) | omega | (simp only [World.size_alloc, World.size_setCell, World.size_drew]; omega) | (simp; omega) | (simp; done))) (fun i => by simp [go_sem]) (fun i => by simp [go_sem])
      obtain ⟨k1w1, g1w1⟩ := kp hb (b := w.heap.size + 1) (cs := #[.bool false, .int .i64 0, .int .i64 0, .int .i64 0]) (by (first | (with_reducible exact Nat.le_refl _) | (with_reducible assumption) | omega | (simp only [World.size_alloc, World.size_setCell, World.size_drew]; omega) | (simp; omega) | (simp; done))) (fun i => by simp [go_sem]) (fun i => by simp [go_sem])
      have zw1 := hb.size
      have Bw1 := up (B := w.heap.size) (w := w) (by (repeat' (first | (with_reducible exact Below.refl _ _) | (with_reducible assumption) | (with_reducible refine Below.alloc ?_ ?_ _) | (with_reducible refine Below.drew ?_) | (with_reducible refine Below.setCell ?_ ?_ _) | (with_reducible exact Nat.le_refl _) | omega | (simp only [World.size_alloc, World.size_setCell, World.size_drew]; omega) | (simp; omega) | (simp; done)))) hb (by (first | (with_reducible exact Nat.le_refl _) | (with_reducible assumption) | omega | (simp only [World.size_alloc, World.size_setCell, World.size_drew]; omega) | (simp; omega) | (simp; done)))
      try simp only [World.size_alloc, World.size_setCell] at zw1
      have l0w1 : w.heap.size < w1.heap.size := by (first | (with_reducible exact Nat.le_refl _) | (with_reducible assumption) | omega | (simp only [World.size_alloc, World.size_setCell, World.size_drew]; omega) | (simp; omega) | (simp; done))
      have l1w1 : w.heap.size + 1 < w1.heap.size := by (first | (with_reducible exact Nat.le_refl _) | (with_reducible assumption) | omega | (simp only [World.size_alloc, World.size_setCell, World.size_drew]; omega) | (simp; omega) | (simp; done))
      clear hb
      go_wp2_with fail
      refine (C2.out _).mono ?_
      rintro e w2 ⟨rfl, hb⟩
      obtain ⟨k0w2, g0w2⟩ := kp hb (b := w.heap.size) (cs := #[.bool true, .int .i64 n, .int .i64 ax, .int .i64 ay]) (by (first | (with_reducible exact Nat.le_refl _) | (with_reducible assumption) | omega | (simp only [World.size_alloc, World.size_setCell, World.size_drew]; omega) | (simp; omega) | (simp; done))) (fun i => by simp [go_sem, k0w1, g0w1, l0w1, k1w1, g1w1, l1w1]) (fun i => by simp [go_sem, k0w1, g0w1, l0w1, k1w1, g1w1, l1w1])
      obtain ⟨k1w2, g1w2⟩ := kp hb (b := w.heap.size + 1) (cs := #[.bool false, .int .i64 0, .int .i64 0, .int .i64 0]) (by (first | (with_reducible exact Nat.le_refl _) | (with_reducible assumption) | omega | (simp only [World.size_alloc, World.size_setCell, World.size_drew]; omega) | (simp; omega) | (simp; done))) (fun i => by simp [go_sem, k0w1, g0w1, l0w1, k1w1, g1w1, l1w1]) (fun i => by simp [go_sem, k0w1, g0w1, l0w1, k1w1, g1w1, l1w1])
      obtain ⟨k2w2, g2w2⟩ := kp hb (b := w1.heap.size) (cs := #[.bool true, .int .i64 n, .int .i64 0, .int .i64 0]) (by (first | (with_reducible exact Nat.le_refl _) | (with_reducible assumption) | omega | (simp only [World.size_alloc, World.size_setCell, World.size_drew]; omega) | (simp; omega) | (simp; done))) (fun i => by simp [go_sem, k0w1, g0w1, l0w1, k1w1, g1w1, l1w1]) (fun i => by simp [go_sem, k0w1, g0w1, l0w1, k1w1, g1w1, l1w1])
      have zw2 := hb.size
      have Bw2 := up (B := w.heap.size) (w := w) (by (repeat' (first | (with_reducible exact Below.refl _ _) | (with_reducible assumption) | (with_reducible refine Below.alloc ?_ ?_ _) | (with_reducible refine Below.drew ?_) | (with_reducible refine Below.setCell ?_ ?_ _) | (with_reducible exact Nat.le_refl _) | omega | (simp only [World.size_alloc, World.size_setCell, World.size_drew]; omega) | (simp; omega) | (simp; done)))) hb (by (first | (with_reducible exact Nat.le_refl _) | (with_reducible assumption) | omega | (simp only [World.size_alloc, World.size_setCell, World.size_drew]; omega) | (simp; omega) | (simp; done)))
      try simp only [World.size_alloc, World.size_setCell] at zw2
      have l0w2 : w.heap.size < w2.heap.size := by (first | (with_reducible exact Nat.le_refl _) | (with_reducible assumption) | omega | (simp only [World.size_alloc, World.size_setCell, World.size_drew]; omega) | (simp; omega) | (simp; done))
      have l1w2 : w.heap.size + 1 < w2.heap.size := by (first | (with_reducible exact Nat.le_refl _) | (with_reducible assumption) | omega | (simp only [World.size_alloc, World.size_setCell, World.size_drew]; omega) | (simp; omega) | (simp; done))
      have l2w2 : w1.heap.size < w2.heap.size := by (first | (with_reducible exact Nat.le_refl _) | (with_reducible assumption) | omega | (simp only [World.size_alloc, World.size_setCell, World.size_drew]; omega) | (simp; omega) | (simp; done))
      have n20 : ¬ w1.heap.size = w.heap.size := by omega
      have m20 : ¬ w.heap.size = w1.heap.size := by omega
      have n21 : ¬ w1.heap.size = w.heap.size + 1 := by omega
      have m21 : ¬ w.heap.size + 1 = w1.heap.size := by omega
      clear hb
      go_wp2_with fail
      refine bodyPost_ret (v := .tuple #[.agg #[.bool true, .int .i64 n, .int .i64 (-X), .int .i64 (-Y)], .int .i64 0]) (by simp [results, Try.results23, go_sem, k1w2, l1w2, n21, m21]) rfl ⟨rfl, ?_⟩
      (repeat' (first | (with_reducible exact Below.refl _ _) | (with_reducible assumption) | (with_reducible refine Below.alloc ?_ ?_ _) | (with_reducible refine Below.drew ?_) | (with_reducible refine Below.setCell ?_ ?_ _) | (with_reducible exact Nat.le_refl _) | omega | (simp only [World.size_alloc, World.size_setCell, World.size_drew]; omega) | (simp; omega) | (simp; done)))
  · have hv : bkV f q ax ay = .tuple #[.agg #[.bool false, .int .i64 0, .int .i64 0, .int .i64 0], .int .i64 1] := by simp only [bkV, bkOk, h0]; rfl
    rw [hv]
    have c1 := fun w => rcheckTurn_bad f q ax ay w h0
    have C1 := Lib.hid c1
    clear c1 hv h0
    go_enter Try.func23, Try.ntmps23
    go_wp2_with fail
    refine (C1.out _).mono ?_
    rintro e w1 ⟨rfl, hb⟩
    obtain ⟨k0w1, g0w1⟩ := kp hb (b := w.heap.size) (cs := #[.bool f, .int .i64 q, .int .i64 ax, .int .i64 ay]) (by (first | (with_reducible exact Nat.le_refl _) | (with_reducible assumption) | omega | (simp only [World.size_alloc, World.size_setCell, World.size_drew]; omega) | (simp; omega) | (simp; done))) (fun i => by simp [go_sem]) (fun i => by simp [go_sem])
    obtain ⟨k1w1, g1w1⟩ := kp hb (b := w.heap.size + 1) (cs := #[.bool false, .int .i64 0, .int .i64 0, .int .i64 0]) (by (first | (with_reducible exact Nat.le_refl _) | (with_reducible assumption) | omega | (simp only [World.size_alloc, World.size_setCell, World.size_drew]; omega) | (simp; omega) | (simp; done))) (fun i => by simp [go_sem]) (fun i => by simp [go_sem])
    have zw1 := hb.size
    have Bw1 := up (B := w.heap.size) (w := w) (by (repeat' (first | (with_reducible exact Below.refl _ _) | (with_reducible assumption) | (with_reducible refine Below.alloc ?_ ?_ _) | (with_reducible refine Below.drew ?_) | (with_reducible refine Below.setCell ?_ ?_ _) | (with_reducible exact Nat.le_refl _) | omega | (simp only [World.size_alloc, World.size_setCell, World.size_drew]; omega) | (simp; omega) | (simp; done)))) hb (by (first | (with_reducible exact Nat.le_refl _) | (with_reducible assumption) | omega | (simp only [World.size_alloc, World.size_setCell, World.size_drew]; omega) | (simp; omega) | (simp; done)))
    try simp only [World.size_alloc, World.size_setCell] at zw1
    have l0w1 : w.heap.size < w1.heap.size := by (first | (with_reducible exact Nat.le_refl _) | (with_reducible assumption) | omega | (simp only [World.size_alloc, World.size_setCell, World.size_drew]; omega) | (simp; omega) | (simp; done))
    have l1w1 : w.heap.size + 1 < w1.heap.size := by (first | (with_reducible exact Nat.le_refl _) | (with_reducible assumption) | omega | (simp only [World.size_alloc, World.size_setCell, World.size_drew]; omega) | (simp; omega) | (simp; done))
    clear hb
    go_wp2_with fail
    refine bodyPost_ret (v := .tuple #[.agg #[.bool false, .int .i64 0, .int .i64 0, .int .i64 0], .int .i64 1]) (by simp [results, Try.results23, go_sem, k1w1]) rfl ⟨rfl, ?_⟩
    (repeat' (first | (with_reducible exact Below.refl _ _) | (with_reducible assumption) | (with_reducible refine Below.alloc ?_ ?_ _) | (with_reducible refine Below.drew ?_) | (with_reducible refine Below.setCell ?_ ?_ _) | (with_reducible exact Nat.le_refl _) | omega | (simp only [World.size_alloc, World.size_setCell, World.size_drew]; omega) | (simp; omega) | (simp; done)))

/-- The end of Then. -/
def thQ (g : Bool) (q p : Int) : Int := if g then (p - q + 4) % 4 else (p + q) % 4
theorem thQ_in (g : Bool) (q p : Int) : 0 ≤ thQ g q p ∧ thQ g q p ≤ 3 := by unfold thQ; split <;> omega
def thOk (q ax ay : Int) (g : Bool) (p bx bz : Int) : Bool := decide (turnF q ax ay = 0) && decide (turnF p bx bz = 0) && (okAt (tpx g p.toNat bx ax ay) && okAt (tpy g p.toNat bz ax ay))
def thV (f : Bool) (q ax ay : Int) (g : Bool) (p bx bz : Int) : Value := if thOk q ax ay g p bx bz then .tuple #[.agg #[.bool (f != g), .int .i64 (thQ g q p), .int .i64 (tpx g p.toNat bx ax ay), .int .i64 (tpy g p.toNat bz ax ay)], .int .i64 0] else .tuple #[.agg #[.bool false, .int .i64 0, .int .i64 0, .int .i64 0], .int .i64 1]
theorem thV_bad {f g : Bool} {q ax ay p bx bz : Int} (h : thOk q ax ay g p bx bz = false) : thV f q ax ay g p bx bz = .tuple #[.agg #[.bool false, .int .i64 0, .int .i64 0, .int .i64 0], .int .i64 1] := by simp [thV, h]
theorem thV_ok {f g : Bool} {q ax ay p bx bz : Int} (h : thOk q ax ay g p bx bz = true) : thV f q ax ay g p bx bz = .tuple #[.agg #[.bool (f != g), .int .i64 (thQ g q p), .int .i64 (tpx g p.toNat bx ax ay), .int .i64 (tpy g p.toNat bz ax ay)], .int .i64 0] := by simp [thV, h]

end Go.Proofs.Ytemnhkfedjhpiaa

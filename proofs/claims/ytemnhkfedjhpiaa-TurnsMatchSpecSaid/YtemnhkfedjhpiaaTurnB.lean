/- What comes of Turned, and lemmas on worlds. -/
import Derived.Test.YtemnhkfedjhpiaaTurnA
namespace Go.Proofs.Ytemnhkfedjhpiaa
open Go.RowKit
set_option linter.unusedSimpArgs false
set_option linter.unusedVariables false

theorem kp {W w1 : World} (hb : Below W.heap.size W w1) {b : Nat} {cs : Array Value} (hlt : b < W.heap.size) (h : ∀ i, W.cell? ⟨b, i, none⟩ = cs[i]?) (hf : ∀ i, W.frozen? ⟨b, i, none⟩ = false) :
    (∀ i, w1.cell? ⟨b, i, none⟩ = cs[i]?) ∧ (∀ i, w1.frozen? ⟨b, i, none⟩ = false) :=
  ⟨fun i => ((bcell hb).1 b i hlt).trans (h i), fun i => ((bcell hb).2 b i hlt).trans (hf i)⟩
theorem up {B : Nat} {w W w1 : World} (h : Below B w W) (hb : Below W.heap.size W w1) (hB : B ≤ W.heap.size) : Below B w w1 := h.trans (hb.mono hB)

theorem turnPoint_any (f : Bool) (q : Nat) (ax ay x y : Int) (w : World) (hq : q ≤ 3) (hx : In6 x) (hy : In6 y) (hax : In6 ax) (hay : In6 ay) :
    Calls Try.prog 52 #[.agg #[.int .i64 x, .int .i64 y], .agg #[.bool f, .int .i64 q, .int .i64 ax, .int .i64 ay]] w fun e w' =>
      e = .returned (.agg #[.int .i64 (tpx f q ax x y), .int .i64 (tpy f q ay x y)]) ∧ Below w.heap.size w w' := by
  have e1 : tpx f q ax x y = tpx f q 0 x y + ax := by simp [tpx]
  have e2 : tpy f q ay x y = tpy f q 0 x y + ay := by simp [tpy]
  have b1 := rot_le _ y (flip_le (f := f) hx) hy q
  have hc := around_any f q ax ay x y
  have b1 : In6 (tpx f q 0 x y) := by simp only [tpx, In6]; omega
  have b2 : In6 (tpy f q 0 x y) := by simp only [tpy, In6]; omega
  rw [e1, e2]
  clear e1 e2
  generalize tpx f q 0 x y = X at *
  generalize tpy f q 0 x y = Y at *
  have Hc := Lib.hid hc
  clear hc
  obtain ⟨hax1, hax2⟩ := hax
  obtain ⟨hay1, hay2⟩ := hay
  obtain ⟨b11, b12⟩ := b1
  obtain ⟨b21, b22⟩ := b2
  go_enter Try.func52, Try.ntmps52
  go_wp2_with fail
  refine (Hc.out _ hq hx hy).mono ?_
  rintro e w1 ⟨rfl, hb⟩
  obtain ⟨k0, g0⟩ := kp hb (b := w.heap.size) (cs := #[.int .i64 x, .int .i64 y]) (by simp; omega) (fun i => by simp [go_sem]) (fun i => by simp [go_sem])
  obtain ⟨k1, g1⟩ := kp hb (b := w.heap.size + 1) (cs := #[.bool f, .int .i64 q, .int .i64 ax, .int .i64 ay]) (by simp) (fun i => by simp [go_sem]) (fun i => by simp [go_sem])
  obtain ⟨k2, g2⟩ := kp hb (b := w.heap.size + 1 + 1) (cs := #[.int .i64 0, .int .i64 0]) (by simp) (fun i => by simp [go_sem]) (fun i => by simp [go_sem])
  have hz := hb.size
  have B1 := up (B := w.heap.size) (w := w) (by (repeat' (first | (with_reducible exact Below.refl _ _) | (with_reducible assumption) | (with_reducible refine Below.alloc ?_ ?_ _) | (with_reducible refine Below.drew ?_) | (with_reducible refine Below.setCell ?_ ?_ _) | (with_reducible exact Nat.le_refl _) | omega | (simp only [World.size_alloc, World.size_setCell, World.size_drew]; omega) | (simp; omega) | (simp; done)))) hb (by (first | (with_reducible exact Nat.le_refl _) | (with_reducible assumption) | omega | (simp only [World.size_alloc, World.size_setCell, World.size_drew]; omega) | (simp; omega) | (simp; done)))
  simp only [World.size_alloc] at hz
  go_wp2_with fail
  refine bodyPost_ret (v := .agg #[.int .i64 (X + ax), .int .i64 (Y + ay)]) (by simp [results, Try.results52, go_sem, k2]) rfl ⟨rfl, ?_⟩
  (repeat' (first | (with_reducible exact Below.refl _ _) | (with_reducible assumption) | (with_reducible refine Below.alloc ?_ ?_ _) | (with_reducible refine Below.drew ?_) | (with_reducible refine Below.setCell ?_ ?_ _) | (with_reducible exact Nat.le_refl _) | omega | (simp only [World.size_alloc, World.size_setCell, World.size_drew]; omega) | (simp; omega) | (simp; done)))

theorem checkTurn_bad (f : Bool) (q x y : Int) (w : World) (h : turnF q x y = 1) : Calls Try.prog 18 #[.agg #[.bool f, .int .i64 q, .int .i64 x, .int .i64 y]] w fun e w' => e = .returned (.int .i64 1) ∧ Below w.heap.size w w' :=
  h ▸ checkTurn_any f q x y w
theorem checkTurn_ok (f : Bool) (q x y : Int) (w : World) (h : turnF q x y = 0) : Calls Try.prog 18 #[.agg #[.bool f, .int .i64 q, .int .i64 x, .int .i64 y]] w fun e w' => e = .returned (.int .i64 0) ∧ Below w.heap.size w w' :=
  h ▸ checkTurn_any f q x y w
theorem turnF_or (q x y : Int) : turnF q x y = 0 ∨ turnF q x y = 1 := by unfold turnF; split <;> simp
theorem turnF_in {q x y : Int} (h : turnF q x y = 0) : 0 ≤ q ∧ q ≤ 3 ∧ In6 x ∧ In6 y := by
  unfold turnF at h
  split at h
  · rename_i hh
    simp [okAt] at hh
    exact ⟨hh.1, hh.2.1, ⟨hh.2.2.1.1, hh.2.2.1.2⟩, ⟨hh.2.2.2.1, hh.2.2.2.2⟩⟩
  · cases h

/-- The end of Turned: what comes of it. -/
def tdOk (f : Bool) (q ax ay x y : Int) : Bool := decide (turnF q ax ay = 0) && (okAt x && okAt y) && (okAt (tpx f q.toNat ax x y) && okAt (tpy f q.toNat ay x y))
def tdX (f : Bool) (q ax ay x y : Int) : Int := if tdOk f q ax ay x y then tpx f q.toNat ax x y else 0
def tdY (f : Bool) (q ax ay x y : Int) : Int := if tdOk f q ax ay x y then tpy f q.toNat ay x y else 0
def tdC (f : Bool) (q ax ay x y : Int) : Int := if tdOk f q ax ay x y then 0 else 1
def tdV (f : Bool) (q ax ay x y : Int) : Value := .tuple #[.agg #[.int .i64 (tdX f q ax ay x y), .int .i64 (tdY f q ax ay x y)], .int .i64 (tdC f q ax ay x y)]
theorem tdV_bad {f : Bool} {q ax ay x y : Int} (h : tdOk f q ax ay x y = false) : tdV f q ax ay x y = .tuple #[.agg #[.int .i64 0, .int .i64 0], .int .i64 1] := by simp [tdV, tdX, tdY, tdC, h]
theorem tdV_ok {f : Bool} {q ax ay x y : Int} (h : tdOk f q ax ay x y = true) : tdV f q ax ay x y = .tuple #[.agg #[.int .i64 (tpx f q.toNat ax x y), .int .i64 (tpy f q.toNat ay x y)], .int .i64 0] := by simp [tdV, tdX, tdY, tdC, h]
theorem okAt_in {x : Int} (h : okAt x = true) : In6 x := by simp [okAt] at h; exact h

end Go.Proofs.Ytemnhkfedjhpiaa

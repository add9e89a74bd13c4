/- Turning of rectangles, of the program and of the reference. -/
import Derived.Test.YtmcbjaefnhfopaaTurnR
namespace Go.Proofs.Ytmcbjaefnhfopaa
open Go.RowKit
open Reg (R4)
set_option linter.unusedSimpArgs false
set_option linter.unusedVariables false

def turnRc (f : Bool) (q : Nat) (ax ay : Int) (r : R4) : R4 := ⟨minI (tpx f q ax r.x0 r.y0) (tpx f q ax r.x1 r.y1), minI (tpy f q ay r.x0 r.y0) (tpy f q ay r.x1 r.y1), maxI (tpx f q ax r.x0 r.y0) (tpx f q ax r.x1 r.y1), maxI (tpy f q ay r.x0 r.y0) (tpy f q ay r.x1 r.y1)⟩
theorem q_cases {q : Nat} (h : q ≤ 3) : q = 0 ∨ q = 1 ∨ q = 2 ∨ q = 3 := by omega
theorem turnRc_good {f : Bool} {q : Nat} {ax ay : Int} {r : R4} (hq : q ≤ 3) (h : r.x0 < r.x1 ∧ r.y0 < r.y1) : (turnRc f q ax ay r).x0 < (turnRc f q ax ay r).x1 ∧ (turnRc f q ax ay r).y0 < (turnRc f q ax ay r).y1 := by
  rcases q_cases hq with rfl | rfl | rfl | rfl <;> cases f
  all_goals
    simp only [turnRc, tpx, tpy, rot, flipX, minI, maxI, if_true, Bool.false_eq_true, if_false]
    constructor
    all_goals
      split <;> split <;> omega
theorem tp_le {f : Bool} {q : Nat} {x y ax ay : Int} (hx : In6 x) (hy : In6 y) (hax : In6 ax) (hay : In6 ay) : -2000000 ≤ tpx f q ax x y ∧ tpx f q ax x y ≤ 2000000 ∧ -2000000 ≤ tpy f q ay x y ∧ tpy f q ay x y ≤ 2000000 := by
  have := rot_le (flipX f x) y (flip_le hx) hy q
  simp only [tpx, tpy, In6] at *
  omega

theorem kp_alloc {V w1 : World} {G : Prop} {cs : Array Value} {T : TypeId} (hb : Below (V.alloc (.cells cs T)).heap.size (V.alloc (.cells cs T)) w1) (hG : (∀ i, w1.cell? ⟨V.heap.size, i, none⟩ = cs[i]?) → (∀ i, w1.frozen? ⟨V.heap.size, i, none⟩ = false) → G) : G := by
  obtain ⟨h1, h2⟩ := kp hb (b := V.heap.size) (cs := cs) (by simp) (fun i => by simp [go_sem]) (fun i => by simp [go_sem])
  exact hG h1 h2
theorem two_set {W : World} {g : Nat} {p q a b : Value} (hc : ∀ i, W.cell? ⟨g, i, none⟩ = (#[p, q])[i]?) : ∀ i, ((W.setCell ⟨g, 0, none⟩ a).setCell ⟨g, 1, none⟩ b).cell? ⟨g, i, none⟩ = (#[a, b])[i]? :=
  one_set (one_set hc (j := 0) (v := a) (by simp)) (j := 1) (v := b) (by simp)
theorem two_far {W : World} {g h : Nat} {a b : Value} (hn : h ≠ g) (i : Nat) : ((W.setCell ⟨h, 0, none⟩ a).setCell ⟨h, 1, none⟩ b).cell? ⟨g, i, none⟩ = W.cell? ⟨g, i, none⟩ := by
  rw [World.cell?_setCell_far _ _ _ _ hn, World.cell?_setCell_far _ _ _ _ hn]
theorem kp_allocd {V w1 : World} {G : Prop} {cs : Array Value} {T : TypeId} (hb : Below (V.alloc (.cells cs T)).drew.heap.size (V.alloc (.cells cs T)).drew w1) (hG : (∀ i, w1.cell? ⟨V.heap.size, i, none⟩ = cs[i]?) → (∀ i, w1.frozen? ⟨V.heap.size, i, none⟩ = false) → G) : G := by
  obtain ⟨h1, h2⟩ := kp hb (b := V.heap.size) (cs := cs) (by simp) (fun i => by simp [go_sem]) (fun i => by simp [go_sem])
  exact hG h1 h2
theorem kp_with {W w1 : World} {G : Prop} (hb : Below W.heap.size W w1) {b : Nat} {cs : Array Value} (hlt : b < W.heap.size) (h : ∀ i, W.cell? ⟨b, i, none⟩ = cs[i]?) (hf : ∀ i, W.frozen? ⟨b, i, none⟩ = false)
    (hG : (∀ i, w1.cell? ⟨b, i, none⟩ = cs[i]?) → (∀ i, w1.frozen? ⟨b, i, none⟩ = false) → G) : G := by
  obtain ⟨h1, h2⟩ := kp hb hlt h hf
  exact hG h1 h2

set_option maxRecDepth 100000 in
set_option maxHeartbeats 2000000 in
theorem turnRect_any (f : Bool) (q : Nat) (ax ay : Int) (r : R4) (w : World) (hq : q ≤ 3) (hax : In6 ax) (hay : In6 ay) (h0 : In6 r.x0) (h1 : In6 r.y0) (h2 : In6 r.x1) (h3 : In6 r.y1) :
    Calls Try.prog 55 #[rv r, .agg #[.bool f, .int .i64 q, .int .i64 ax, .int .i64 ay]] w fun e w' => e = .returned (rv (turnRc f q ax ay r)) ∧ Below w.heap.size w w' := by
  have hmx : ∀ x y : Int, (if x < y then y else x) = maxI x y := fun _ _ => rfl
  have hmn : ∀ x y : Int, (if y < x then y else x) = minI x y := fun _ _ => rfl
  have hmx' : ∀ x y : Int, (if x < y then Value.int .i64 y else Value.int .i64 x) = Value.int .i64 (maxI x y) := fun _ _ => by unfold maxI; split <;> rfl
  have hmn' : ∀ x y : Int, (if y < x then Value.int .i64 y else Value.int .i64 x) = Value.int .i64 (minI x y) := fun _ _ => by unfold minI; split <;> rfl
  have C0 := Lib.hid (fun W => corner_any r W)
  have C1 := Lib.hid (fun W => turn_any f q ax ay r.x0 r.y0 W hq h0 h1 hax hay)
  have C2 := Lib.hid (fun W => turn_any f q ax ay r.x1 r.y1 W hq h2 h3 hax hay)
  unfold turnRc
  clear h0 h1 h2 h3
  generalize tpx f q ax r.x0 r.y0 = px at *
  generalize tpy f q ay r.x0 r.y0 = py at *
  generalize tpx f q ax r.x1 r.y1 = qx at *
  generalize tpy f q ay r.x1 r.y1 = qy at *
  obtain ⟨x0, y0, x1, y1⟩ := r
  simp only [rv] at *
  have q3 : ¬ w.heap.size + 1 + 1 = w.heap.size := by omega
  have q4 : ¬ w.heap.size + 1 = w.heap.size := by omega
  have q3' : ¬ w.heap.size = w.heap.size + 1 + 1 := by omega
  have q4' : ¬ w.heap.size = w.heap.size + 1 := by omega
  have q0 : ¬ w.heap.size + 1 + 1 + 1 = w.heap.size := by omega
  have q1 : ¬ w.heap.size + 1 + 1 + 1 = w.heap.size + 1 := by omega
  have q2 : ¬ w.heap.size + 1 + 1 + 1 = w.heap.size + 1 + 1 := by omega
  have q0' : ¬ w.heap.size = w.heap.size + 1 + 1 + 1 := by omega
  have q1' : ¬ w.heap.size + 1 = w.heap.size + 1 + 1 + 1 := by omega
  have q2' : ¬ w.heap.size + 1 + 1 = w.heap.size + 1 + 1 + 1 := by omega
  go_enter Try.func55, Try.ntmps55
  go_wp2_with fail
  go_region_held3 (fun w' => w'.cell? ⟨w.heap.size, 0, none⟩ = some (.int .i64 x0) ∧ w'.cell? ⟨w.heap.size, 1, none⟩ = some (.int .i64 y0) ∧ w'.cell? ⟨w.heap.size, 2, none⟩ = some (.int .i64 x1) ∧ w'.cell? ⟨w.heap.size, 3, none⟩ = some (.int .i64 y1) ∧ w'.cell? ⟨w.heap.size + 1, 0, none⟩ = some (.bool f) ∧ w'.cell? ⟨w.heap.size + 1, 1, none⟩ = some (.int .i64 q) ∧ w'.cell? ⟨w.heap.size + 1, 2, none⟩ = some (.int .i64 ax) ∧ w'.cell? ⟨w.heap.size + 1, 3, none⟩ = some (.int .i64 ay)) (go_keep)
    (first | (go_at_call 39; refine (C0.out _).mono ?_; rintro e v1 ⟨rfl, hb⟩; obtain ⟨k0a, g0a⟩ := kp hb (b := w.heap.size) (cs := #[.int .i64 x0, .int .i64 y0, .int .i64 x1, .int .i64 y1]) (by (first | (with_reducible exact Nat.le_refl _) | (with_reducible assumption) | omega | (simp only [World.size_alloc, World.size_setCell, World.size_drew]; omega) | (simp; omega) | (simp; done))) (fun i => by simp [go_sem]) (fun i => by simp [go_sem]); obtain ⟨k1a, g1a⟩ := kp hb (b := w.heap.size + 1) (cs := #[.bool f, .int .i64 q, .int .i64 ax, .int .i64 ay]) (by (first | (with_reducible exact Nat.le_refl _) | (with_reducible assumption) | omega | (simp only [World.size_alloc, World.size_setCell, World.size_drew]; omega) | (simp; omega) | (simp; done))) (fun i => by simp [go_sem]) (fun i => by simp [go_sem]); obtain ⟨k2a, g2a⟩ := kp hb (b := w.heap.size + 1 + 1) (cs := #[.int .i64 0, .int .i64 0, .int .i64 0, .int .i64 0]) (by (first | (with_reducible exact Nat.le_refl _) | (with_reducible assumption) | omega | (simp only [World.size_alloc, World.size_setCell, World.size_drew]; omega) | (simp; omega) | (simp; done))) (fun i => by simp [go_sem]) (fun i => by simp [go_sem]); (try ((first | (refine kp_alloc (cs := #[.int .i64 0, .int .i64 0]) hb ?_) | (refine kp_allocd (cs := #[.int .i64 0, .int .i64 0]) hb ?_)); (intro kpa gpa); (try simp only [World.size_alloc, World.size_setCell, World.size_drew] at kpa gpa))); have z1 := hb.size; have B1 := up (B := w.heap.size) (w := w) (by (repeat' (first | (with_reducible exact Below.refl _ _) | (with_reducible assumption) | (with_reducible refine Below.alloc ?_ ?_ _) | (with_reducible refine Below.drew ?_) | (with_reducible refine below_drewN ?_ _) | (with_reducible refine Below.setCell ?_ ?_ _) | (with_reducible exact Nat.le_refl _) | omega | (simp only [World.size_alloc, World.size_setCell, World.size_drew]; omega) | (simp; omega) | (simp; done)))) hb (by (first | (with_reducible exact Nat.le_refl _) | (with_reducible assumption) | omega | (simp only [World.size_alloc, World.size_setCell, World.size_drew]; omega) | (simp; omega) | (simp; done))); (try simp only [World.size_alloc, World.size_setCell, World.size_drew] at z1); have l0v1 : w.heap.size < v1.heap.size := (by omega); have n0v1 : ¬ w.heap.size = v1.heap.size := Nat.ne_of_lt l0v1; have m0v1 : ¬ v1.heap.size = w.heap.size := fun h => n0v1 h.symm; have l1v1 : w.heap.size + 1 < v1.heap.size := (by omega); have n1v1 : ¬ w.heap.size + 1 = v1.heap.size := Nat.ne_of_lt l1v1; have m1v1 : ¬ v1.heap.size = w.heap.size + 1 := fun h => n1v1 h.symm; have l2v1 : w.heap.size + 1 + 1 < v1.heap.size := (by omega); have n2v1 : ¬ w.heap.size + 1 + 1 = v1.heap.size := Nat.ne_of_lt l2v1; have m2v1 : ¬ v1.heap.size = w.heap.size + 1 + 1 := fun h => n2v1 h.symm; have sa00 := k0a 0; have sa01 := k0a 1; have sa02 := k0a 2; have sa03 := k0a 3; have sa10 := k1a 0; have sa11 := k1a 1; have sa12 := k1a 2; have sa13 := k1a 3; (try simp at sa00 sa01 sa02 sa03 sa10 sa11 sa12 sa13); clear hb) | (go_at_call 76; refine (C1.out _).mono ?_; rintro e v2 ⟨rfl, hb⟩; obtain ⟨k0b, g0b⟩ := kp hb (b := w.heap.size) (cs := #[.int .i64 x0, .int .i64 y0, .int .i64 x1, .int .i64 y1]) (by (first | (with_reducible exact Nat.le_refl _) | (with_reducible assumption) | omega | (simp only [World.size_alloc, World.size_setCell, World.size_drew]; omega) | (simp; omega) | (simp; done))) (fun i => by simp [go_sem, k0a, l0v1, l1v1, l2v1, n0v1, m0v1, n1v1, m1v1, n2v1, m2v1]) (fun i => by simp [go_sem, g0a, l0v1, l1v1, l2v1, n0v1, m0v1, n1v1, m1v1, n2v1, m2v1]); obtain ⟨k1b, g1b⟩ := kp hb (b := w.heap.size + 1) (cs := #[.bool f, .int .i64 q, .int .i64 ax, .int .i64 ay]) (by (first | (with_reducible exact Nat.le_refl _) | (with_reducible assumption) | omega | (simp only [World.size_alloc, World.size_setCell, World.size_drew]; omega) | (simp; omega) | (simp; done))) (fun i => by simp [go_sem, k1a, l0v1, l1v1, l2v1, n0v1, m0v1, n1v1, m1v1, n2v1, m2v1]) (fun i => by simp [go_sem, g1a, l0v1, l1v1, l2v1, n0v1, m0v1, n1v1, m1v1, n2v1, m2v1]); obtain ⟨k2b, g2b⟩ := kp hb (b := w.heap.size + 1 + 1) (cs := #[.int .i64 0, .int .i64 0, .int .i64 0, .int .i64 0]) (by (first | (with_reducible exact Nat.le_refl _) | (with_reducible assumption) | omega | (simp only [World.size_alloc, World.size_setCell, World.size_drew]; omega) | (simp; omega) | (simp; done))) (fun i => by simp [go_sem, k2a, l0v1, l1v1, l2v1, n0v1, m0v1, n1v1, m1v1, n2v1, m2v1]) (fun i => by simp [go_sem, g2a, l0v1, l1v1, l2v1, n0v1, m0v1, n1v1, m1v1, n2v1, m2v1]); (try (refine kp_with hb (b := w.heap.size + 1 + 1 + 1) (cs := #[.int .i64 0, .int .i64 0]) ?_ kpa gpa ?_; omega; (intro kpb gpb))); (try ((first | (refine kp_alloc (cs := #[.int .i64 0, .int .i64 0]) hb ?_) | (refine kp_allocd (cs := #[.int .i64 0, .int .i64 0]) hb ?_)); (intro kpc gpc); (try simp only [World.size_alloc, World.size_setCell, World.size_drew] at kpc gpc))); have z2 := hb.size; have B2 := up (B := w.heap.size) (w := w) (by (repeat' (first | (with_reducible exact Below.refl _ _) | (with_reducible assumption) | (with_reducible refine Below.alloc ?_ ?_ _) | (with_reducible refine Below.drew ?_) | (with_reducible refine below_drewN ?_ _) | (with_reducible refine Below.setCell ?_ ?_ _) | (with_reducible exact Nat.le_refl _) | omega | (simp only [World.size_alloc, World.size_setCell, World.size_drew]; omega) | (simp; omega) | (simp; done)))) hb (by (first | (with_reducible exact Nat.le_refl _) | (with_reducible assumption) | omega | (simp only [World.size_alloc, World.size_setCell, World.size_drew]; omega) | (simp; omega) | (simp; done))); (try simp only [World.size_alloc, World.size_setCell, World.size_drew] at z2); have l0v2 : w.heap.size < v2.heap.size := (by omega); have n0v2 : ¬ w.heap.size = v2.heap.size := Nat.ne_of_lt l0v2; have m0v2 : ¬ v2.heap.size = w.heap.size := fun h => n0v2 h.symm; have l1v2 : w.heap.size + 1 < v2.heap.size := (by omega); have n1v2 : ¬ w.heap.size + 1 = v2.heap.size := Nat.ne_of_lt l1v2; have m1v2 : ¬ v2.heap.size = w.heap.size + 1 := fun h => n1v2 h.symm; have l2v2 : w.heap.size + 1 + 1 < v2.heap.size := (by omega); have n2v2 : ¬ w.heap.size + 1 + 1 = v2.heap.size := Nat.ne_of_lt l2v2; have m2v2 : ¬ v2.heap.size = w.heap.size + 1 + 1 := fun h => n2v2 h.symm; have sb00 := k0b 0; have sb01 := k0b 1; have sb02 := k0b 2; have sb03 := k0b 3; have sb10 := k1b 0; have sb11 := k1b 1; have sb12 := k1b 2; have sb13 := k1b 3; (try simp at sb00 sb01 sb02 sb03 sb10 sb11 sb12 sb13); clear hb))
  · obtain ⟨w5, hw5⟩ : ∃ w5, w5 = v2.alloc (.cells #[.int .i64 px, .int .i64 py] 37) := ⟨_, rfl⟩
    rw [← hw5]
    have K0 : ∀ i, w5.cell? ⟨w.heap.size, i, none⟩ = (#[.int .i64 x0, .int .i64 y0, .int .i64 x1, .int .i64 y1])[i]? := fun i => by rw [hw5]; simp [go_sem, k0b, l0v2, n0v2, m0v2]
    have K1 : ∀ i, w5.cell? ⟨w.heap.size + 1, i, none⟩ = (#[.bool f, .int .i64 q, .int .i64 ax, .int .i64 ay])[i]? := fun i => by rw [hw5]; simp [go_sem, k1b, l1v2, n1v2, m1v2]
    have K2 : ∀ i, w5.cell? ⟨w.heap.size + 1 + 1, i, none⟩ = (#[.int .i64 0, .int .i64 0, .int .i64 0, .int .i64 0])[i]? := fun i => by rw [hw5]; simp [go_sem, k2b, l2v2, n2v2, m2v2]
    have G2 : ∀ i, w5.frozen? ⟨w.heap.size + 1 + 1, i, none⟩ = false := fun i => by rw [hw5]; simp [go_sem, g2b, l2v2, n2v2, m2v2]
    have KP : ∀ i, w5.cell? ⟨v2.heap.size, i, none⟩ = (#[.int .i64 px, .int .i64 py])[i]? := fun i => by rw [hw5]; simp [go_sem]
    have GP : ∀ i, w5.frozen? ⟨v2.heap.size, i, none⟩ = false := fun i => by rw [hw5]; simp [go_sem]
    have Z5 : w.heap.size + 1 + 1 + 1 ≤ w5.heap.size := by rw [hw5]; simp; omega
    have PZ : v2.heap.size < w5.heap.size := by rw [hw5]; simp
    have PN : w.heap.size + 1 + 1 < v2.heap.size := by omega
    have B5 : Below w.heap.size w w5 := by rw [hw5]; (repeat' (first | (with_reducible exact Below.refl _ _) | (with_reducible assumption) | (with_reducible refine Below.alloc ?_ ?_ _) | (with_reducible refine Below.drew ?_) | (with_reducible refine below_drewN ?_ _) | (with_reducible refine Below.setCell ?_ ?_ _) | (with_reducible exact Nat.le_refl _) | omega | (simp only [World.size_alloc, World.size_setCell, World.size_drew]; omega) | (simp; omega) | (simp; done)))
    clear hw5
    obtain ⟨P, hP⟩ : ∃ P, P = v2.heap.size := ⟨_, rfl⟩
    rw [← hP] at KP GP PZ PN ⊢
    clear hP
    have n1 : ¬ P = w.heap.size + 1 + 1 := by omega
    have n2 : ¬ w.heap.size + 1 + 1 = P := fun h => n1 h.symm
    go_wp2_with fail
    refine (C2.out _).mono ?_
    rintro e v3 ⟨rfl, hb⟩
    obtain ⟨J2, H2⟩ := kp hb (b := w.heap.size + 1 + 1) (cs := #[.int .i64 0, .int .i64 0, .int .i64 0, .int .i64 0]) (by (first | (with_reducible exact Nat.le_refl _) | (with_reducible assumption) | omega | (simp only [World.size_alloc, World.size_setCell, World.size_drew]; omega) | (simp; omega) | (simp; done))) (fun i => by simp [go_sem, K2]) (fun i => by simp [go_sem, G2])
    obtain ⟨JP, HP⟩ := kp hb (b := P) (cs := #[.int .i64 px, .int .i64 py]) (by (first | (with_reducible exact Nat.le_refl _) | (with_reducible assumption) | omega | (simp only [World.size_alloc, World.size_setCell, World.size_drew]; omega) | (simp; omega) | (simp; done))) (fun i => by simp [go_sem, KP]) (fun i => by simp [go_sem, GP])
    have z6 := hb.size
    (try simp only [World.size_alloc, World.size_setCell, World.size_drew] at z6)
    have B6 := up (B := w.heap.size) (w := w) (by (repeat' (first | (with_reducible exact Below.refl _ _) | (with_reducible assumption) | (with_reducible refine Below.alloc ?_ ?_ _) | (with_reducible refine Below.drew ?_) | (with_reducible refine below_drewN ?_ _) | (with_reducible refine Below.setCell ?_ ?_ _) | (with_reducible exact Nat.le_refl _) | omega | (simp only [World.size_alloc, World.size_setCell, World.size_drew]; omega) | (simp; omega) | (simp; done)))) hb (by (first | (with_reducible exact Nat.le_refl _) | (with_reducible assumption) | omega | (simp only [World.size_alloc, World.size_setCell, World.size_drew]; omega) | (simp; omega) | (simp; done)))
    have l1 : w.heap.size + 1 + 1 < v3.heap.size := by omega
    have l2 : P < v3.heap.size := by omega
    have n3 : ¬ w.heap.size + 1 + 1 = v3.heap.size := Nat.ne_of_lt l1
    have n4 : ¬ v3.heap.size = w.heap.size + 1 + 1 := fun h => n3 h.symm
    have n5 : ¬ P = v3.heap.size := Nat.ne_of_lt l2
    have n6 : ¬ v3.heap.size = P := fun h => n5 h.symm
    clear hb K2 G2 KP GP B5
    go_wp2_with fail
    refine bodyPost_ret (v := .agg #[.int .i64 (minI px qx), .int .i64 (minI py qy), .int .i64 (maxI px qx), .int .i64 (maxI py qy)]) ?_ rfl ⟨rfl, by (repeat' (first | (with_reducible exact Below.refl _ _) | (with_reducible assumption) | (with_reducible refine Below.alloc ?_ ?_ _) | (with_reducible refine Below.drew ?_) | (with_reducible refine below_drewN ?_ _) | (with_reducible refine Below.setCell ?_ ?_ _) | (with_reducible exact Nat.le_refl _) | omega | (simp only [World.size_alloc, World.size_setCell, World.size_drew]; omega) | (simp; omega) | (simp; done)))⟩
    have R4 := set4 (a := .int .i64 (minI px qx)) (b := .int .i64 (minI py qy)) (c := .int .i64 (maxI px qx)) (d := .int .i64 (maxI py qy)) J2
    simp [results, Try.results55, go_sem, R4, l1, n3, n4]
  · obtain ⟨w5, hw5⟩ : ∃ w5, w5 = (v2.setCell ⟨v1.heap.size, 0, none⟩ (.int .i64 px)).setCell ⟨v1.heap.size, 1, none⟩ (.int .i64 py) := ⟨_, rfl⟩
    rw [← hw5]
    have PN : w.heap.size + 1 + 1 < v1.heap.size := by omega
    have K0 : ∀ i, w5.cell? ⟨w.heap.size, i, none⟩ = (#[.int .i64 x0, .int .i64 y0, .int .i64 x1, .int .i64 y1])[i]? := fun i => by rw [hw5, two_far (by omega)]; exact k0b i
    have K1 : ∀ i, w5.cell? ⟨w.heap.size + 1, i, none⟩ = (#[.bool f, .int .i64 q, .int .i64 ax, .int .i64 ay])[i]? := fun i => by rw [hw5, two_far (by omega)]; exact k1b i
    have K2 : ∀ i, w5.cell? ⟨w.heap.size + 1 + 1, i, none⟩ = (#[.int .i64 0, .int .i64 0, .int .i64 0, .int .i64 0])[i]? := fun i => by rw [hw5, two_far (by omega)]; exact k2b i
    have G2 : ∀ i, w5.frozen? ⟨w.heap.size + 1 + 1, i, none⟩ = false := fun i => by rw [hw5]; simp [go_sem, g2b]
    have KP : ∀ i, w5.cell? ⟨v1.heap.size, i, none⟩ = (#[.int .i64 px, .int .i64 py])[i]? := fun i => by rw [hw5]; exact two_set kpc i
    have GP : ∀ i, w5.frozen? ⟨v1.heap.size, i, none⟩ = false := fun i => by rw [hw5]; simp [go_sem, gpc]
    have Z5 : w.heap.size + 1 + 1 + 1 ≤ w5.heap.size := by rw [hw5]; simp; omega
    have PZ : v1.heap.size < w5.heap.size := by rw [hw5]; simp; omega
    have B5 : Below w.heap.size w w5 := by rw [hw5]; (repeat' (first | (with_reducible exact Below.refl _ _) | (with_reducible assumption) | (with_reducible refine Below.alloc ?_ ?_ _) | (with_reducible refine Below.drew ?_) | (with_reducible refine below_drewN ?_ _) | (with_reducible refine Below.setCell ?_ ?_ _) | (with_reducible exact Nat.le_refl _) | omega | (simp only [World.size_alloc, World.size_setCell, World.size_drew]; omega) | (simp; omega) | (simp; done)))
    clear hw5
    obtain ⟨P, hP⟩ : ∃ P, P = v1.heap.size := ⟨_, rfl⟩
    rw [← hP] at KP GP PZ PN ⊢
    clear hP
    have n1 : ¬ P = w.heap.size + 1 + 1 := by omega
    have n2 : ¬ w.heap.size + 1 + 1 = P := fun h => n1 h.symm
    go_wp2_with fail
    refine (C2.out _).mono ?_
    rintro e v3 ⟨rfl, hb⟩
    obtain ⟨J2, H2⟩ := kp hb (b := w.heap.size + 1 + 1) (cs := #[.int .i64 0, .int .i64 0, .int .i64 0, .int .i64 0]) (by (first | (with_reducible exact Nat.le_refl _) | (with_reducible assumption) | omega | (simp only [World.size_alloc, World.size_setCell, World.size_drew]; omega) | (simp; omega) | (simp; done))) (fun i => by simp [go_sem, K2]) (fun i => by simp [go_sem, G2])
    obtain ⟨JP, HP⟩ := kp hb (b := P) (cs := #[.int .i64 px, .int .i64 py]) (by (first | (with_reducible exact Nat.le_refl _) | (with_reducible assumption) | omega | (simp only [World.size_alloc, World.size_setCell, World.size_drew]; omega) | (simp; omega) | (simp; done))) (fun i => by simp [go_sem, KP]) (fun i => by simp [go_sem, GP])
    have z6 := hb.size
    (try simp only [World.size_alloc, World.size_setCell, World.size_drew] at z6)
    have B6 := up (B := w.heap.size) (w := w) (by (repeat' (first | (with_reducible exact Below.refl _ _) | (with_reducible assumption) | (with_reducible refine Below.alloc ?_ ?_ _) | (with_reducible refine Below.drew ?_) | (with_reducible refine below_drewN ?_ _) | (with_reducible refine Below.setCell ?_ ?_ _) | (with_reducible exact Nat.le_refl _) | omega | (simp only [World.size_alloc, World.size_setCell, World.size_drew]; omega) | (simp; omega) | (simp; done)))) hb (by (first | (with_reducible exact Nat.le_refl _) | (with_reducible assumption) | omega | (simp only [World.size_alloc, World.size_setCell, World.size_drew]; omega) | (simp; omega) | (simp; done)))
    have l1 : w.heap.size + 1 + 1 < v3.heap.size := by omega
    have l2 : P < v3.heap.size := by omega
    have n3 : ¬ w.heap.size + 1 + 1 = v3.heap.size := Nat.ne_of_lt l1
    have n4 : ¬ v3.heap.size = w.heap.size + 1 + 1 := fun h => n3 h.symm
    have n5 : ¬ P = v3.heap.size := Nat.ne_of_lt l2
    have n6 : ¬ v3.heap.size = P := fun h => n5 h.symm
    clear hb K2 G2 KP GP B5
    go_wp2_with fail
    refine bodyPost_ret (v := .agg #[.int .i64 (minI px qx), .int .i64 (minI py qy), .int .i64 (maxI px qx), .int .i64 (maxI py qy)]) ?_ rfl ⟨rfl, by (repeat' (first | (with_reducible exact Below.refl _ _) | (with_reducible assumption) | (with_reducible refine Below.alloc ?_ ?_ _) | (with_reducible refine Below.drew ?_) | (with_reducible refine below_drewN ?_ _) | (with_reducible refine Below.setCell ?_ ?_ _) | (with_reducible exact Nat.le_refl _) | omega | (simp only [World.size_alloc, World.size_setCell, World.size_drew]; omega) | (simp; omega) | (simp; done)))⟩
    have R4 := set4 (a := .int .i64 (minI px qx)) (b := .int .i64 (minI py qy)) (c := .int .i64 (maxI px qx)) (d := .int .i64 (maxI py qy)) J2
    simp [results, Try.results55, go_sem, R4, l1, n3, n4]
  · obtain ⟨w5, hw5⟩ : ∃ w5, w5 = (v2.setCell ⟨w.heap.size + 1 + 1 + 1, 0, none⟩ (.int .i64 px)).setCell ⟨w.heap.size + 1 + 1 + 1, 1, none⟩ (.int .i64 py) := ⟨_, rfl⟩
    rw [← hw5]
    have PN : w.heap.size + 1 + 1 < w.heap.size + 1 + 1 + 1 := by omega
    have K0 : ∀ i, w5.cell? ⟨w.heap.size, i, none⟩ = (#[.int .i64 x0, .int .i64 y0, .int .i64 x1, .int .i64 y1])[i]? := fun i => by rw [hw5, two_far (by omega)]; exact k0b i
    have K1 : ∀ i, w5.cell? ⟨w.heap.size + 1, i, none⟩ = (#[.bool f, .int .i64 q, .int .i64 ax, .int .i64 ay])[i]? := fun i => by rw [hw5, two_far (by omega)]; exact k1b i
    have K2 : ∀ i, w5.cell? ⟨w.heap.size + 1 + 1, i, none⟩ = (#[.int .i64 0, .int .i64 0, .int .i64 0, .int .i64 0])[i]? := fun i => by rw [hw5, two_far (by omega)]; exact k2b i
    have G2 : ∀ i, w5.frozen? ⟨w.heap.size + 1 + 1, i, none⟩ = false := fun i => by rw [hw5]; simp [go_sem, g2b]
    have KP : ∀ i, w5.cell? ⟨w.heap.size + 1 + 1 + 1, i, none⟩ = (#[.int .i64 px, .int .i64 py])[i]? := fun i => by rw [hw5]; exact two_set kpb i
    have GP : ∀ i, w5.frozen? ⟨w.heap.size + 1 + 1 + 1, i, none⟩ = false := fun i => by rw [hw5]; simp [go_sem, gpb]
    have Z5 : w.heap.size + 1 + 1 + 1 ≤ w5.heap.size := by rw [hw5]; simp; omega
    have PZ : w.heap.size + 1 + 1 + 1 < w5.heap.size := by rw [hw5]; simp; omega
    have B5 : Below w.heap.size w w5 := by rw [hw5]; (repeat' (first | (with_reducible exact Below.refl _ _) | (with_reducible assumption) | (with_reducible refine Below.alloc ?_ ?_ _) | (with_reducible refine Below.drew ?_) | (with_reducible refine below_drewN ?_ _) | (with_reducible refine Below.setCell ?_ ?_ _) | (with_reducible exact Nat.le_refl _) | omega | (simp only [World.size_alloc, World.size_setCell, World.size_drew]; omega) | (simp; omega) | (simp; done)))
    clear hw5
    obtain ⟨P, hP⟩ : ∃ P, P = w.heap.size + 1 + 1 + 1 := ⟨_, rfl⟩
    rw [← hP] at KP GP PZ PN ⊢
    clear hP
    have n1 : ¬ P = w.heap.size + 1 + 1 := by omega
    have n2 : ¬ w.heap.size + 1 + 1 = P := fun h => n1 h.symm
    go_wp2_with fail
    refine (C2.out _).mono ?_
    rintro e v3 ⟨rfl, hb⟩
    obtain ⟨J2, H2⟩ := kp hb (b := w.heap.size + 1 + 1) (cs := #[.int .i64 0, .int .i64 0, .int .i64 0, .int .i64 0]) (by (first | (with_reducible exact Nat.le_refl _) | (with_reducible assumption) | omega | (simp only [World.size_alloc, World.size_setCell, World.size_drew]; omega) | (simp; omega) | (simp; done))) (fun i => by simp [go_sem, K2]) (fun i => by simp [go_sem, G2])
    obtain ⟨JP, HP⟩ := kp hb (b := P) (cs := #[.int .i64 px, .int .i64 py]) (by (first | (with_reducible exact Nat.le_refl _) | (with_reducible assumption) | omega | (simp only [World.size_alloc, World.size_setCell, World.size_drew]; omega) | (simp; omega) | (simp; done))) (fun i => by simp [go_sem, KP]) (fun i => by simp [go_sem, GP])
    have z6 := hb.size
    (try simp only [World.size_alloc, World.size_setCell, World.size_drew] at z6)
    have B6 := up (B := w.heap.size) (w := w) (by (repeat' (first | (with_reducible exact Below.refl _ _) | (with_reducible assumption) | (with_reducible refine Below.alloc ?_ ?_ _) | (with_reducible refine Below.drew ?_) | (with_reducible refine below_drewN ?_ _) | (with_reducible refine Below.setCell ?_ ?_ _) | (with_reducible exact Nat.le_refl _) | omega | (simp only [World.size_alloc, World.size_setCell, World.size_drew]; omega) | (simp; omega) | (simp; done)))) hb (by (first | (with_reducible exact Nat.le_refl _) | (with_reducible assumption) | omega | (simp only [World.size_alloc, World.size_setCell, World.size_drew]; omega) | (simp; omega) | (simp; done)))
    have l1 : w.heap.size + 1 + 1 < v3.heap.size := by omega
    have l2 : P < v3.heap.size := by omega
    have n3 : ¬ w.heap.size + 1 + 1 = v3.heap.size := Nat.ne_of_lt l1
    have n4 : ¬ v3.heap.size = w.heap.size + 1 + 1 := fun h => n3 h.symm
    have n5 : ¬ P = v3.heap.size := Nat.ne_of_lt l2
    have n6 : ¬ v3.heap.size = P := fun h => n5 h.symm
    clear hb K2 G2 KP GP B5
    go_wp2_with fail
    refine bodyPost_ret (v := .agg #[.int .i64 (minI px qx), .int .i64 (minI py qy), .int .i64 (maxI px qx), .int .i64 (maxI py qy)]) ?_ rfl ⟨rfl, by (repeat' (first | (with_reducible exact Below.refl _ _) | (with_reducible assumption) | (with_reducible refine Below.alloc ?_ ?_ _) | (with_reducible refine Below.drew ?_) | (with_reducible refine below_drewN ?_ _) | (with_reducible refine Below.setCell ?_ ?_ _) | (with_reducible exact Nat.le_refl _) | omega | (simp only [World.size_alloc, World.size_setCell, World.size_drew]; omega) | (simp; omega) | (simp; done)))⟩
    have R4 := set4 (a := .int .i64 (minI px qx)) (b := .int .i64 (minI py qy)) (c := .int .i64 (maxI px qx)) (d := .int .i64 (maxI py qy)) J2
    simp [results, Try.results55, go_sem, R4, l1, n3, n4]
end Go.Proofs.Ytmcbjaefnhfopaa

/- Several texts in one: GapA, GapB, GapD. -/
import Derived.Test.YtjcbngpgmgeanaaShapeG
import Derived.Test.YtjcbngpgmgeanaaGapP
import Derived.Test.YtjcbngpgmgeanaaWide
/- Distances of rectangles, of the program and of the reference. -/
namespace Go.Proofs.Ytjcbngpgmgeanaa
open Go.RowKit
open Reg (R4)
set_option linter.unusedSimpArgs false
set_option linter.unusedVariables false

/-- In range, and with squares. -/
def Rt (r : R4) : Prop := In6 r.x0 ∧ In6 r.y0 ∧ In6 r.x1 ∧ In6 r.y1 ∧ r.x0 < r.x1 ∧ r.y0 < r.y1

set_option maxRecDepth 100000 in
set_option maxHeartbeats 1000000 in
theorem far_any (a0 a1 b0 b1 : Int) (w : World) (h0 : In6 a0) (h1 : In6 a1) (h2 : In6 b0) (h3 : In6 b1) :
    Calls Try.prog 89 #[.int .i64 a0, .int .i64 a1, .int .i64 b0, .int .i64 b1] w fun e w' => e = .returned (.int .i64 (farI a0 a1 b0 b1)) ∧ w = w' := by
  obtain ⟨p0, p1⟩ := h0
  obtain ⟨p2, p3⟩ := h1
  obtain ⟨p4, p5⟩ := h2
  obtain ⟨p6, p7⟩ := h3
  obtain ⟨V, hV⟩ : ∃ V, V = farI a0 a1 b0 b1 := ⟨_, rfl⟩
  rw [← hV]
  have HV := Lib.hid hV
  clear hV
  have hV4 : (a1 - 1 < b0 ∧ b0 - (a1 - 1) < a0 - (b1 - 1) ∧ V = a0 - (b1 - 1)) ∨ (a1 - 1 < b0 ∧ ¬ b0 - (a1 - 1) < a0 - (b1 - 1) ∧ V = b0 - (a1 - 1)) ∨ (¬ a1 - 1 < b0 ∧ b1 - 1 < a0 ∧ V = a0 - (b1 - 1)) ∨ (¬ a1 - 1 < b0 ∧ ¬ b1 - 1 < a0 ∧ V = 0) := by
    rw [HV.out]
    simp only [farI]
    omega
  clear HV
  rcases hV4 with ⟨c1, c2, rfl⟩ | ⟨c1, c2, rfl⟩ | ⟨c1, c2, rfl⟩ | ⟨c1, c2, rfl⟩
  all_goals
    go_enter Try.func89, Try.ntmps89
    go_wp2_with fail
    go_ret
    exact ⟨rfl, rfl⟩

set_option maxRecDepth 100000 in
set_option maxHeartbeats 1000000 in
theorem rectDistance_any (a b : R4) (w : World) (ha : Rt a) (hb : Rt b) :
    Calls Try.prog 58 #[rv a, rv b] w fun e w' => e = .returned (.int .i64 (farR a b)) ∧ Below w.heap.size w w' := by
  have hc : farR a b = max 0 (max ((commonR a b).x0 - (commonR a b).x1 + 1) ((commonR a b).y0 - (commonR a b).y1 + 1)) := by
    simp only [Rt, In6] at ha hb
    simp only [farR, farI, commonR, maxI, minI]
    repeat' split
    all_goals omega
  have hr : -1000000 ≤ (commonR a b).x0 ∧ (commonR a b).x0 ≤ 1000000 ∧ -1000000 ≤ (commonR a b).y0 ∧ (commonR a b).y0 ≤ 1000000 ∧ -1000000 ≤ (commonR a b).x1 ∧ (commonR a b).x1 ≤ 1000000 ∧ -1000000 ≤ (commonR a b).y1 ∧ (commonR a b).y1 ≤ 1000000 := by
    simp only [Rt, In6] at ha hb
    simp only [commonR, maxI, minI]
    refine ⟨?_, ?_, ?_, ?_, ?_, ?_, ?_, ?_⟩ <;> split <;> omega
  have C1 := Lib.hid (fun W => common_any a b W)
  rw [hc]
  clear hc ha hb
  obtain ⟨V, hV⟩ : ∃ V, V = max 0 (max ((commonR a b).x0 - (commonR a b).x1 + 1) ((commonR a b).y0 - (commonR a b).y1 + 1)) := ⟨_, rfl⟩
  rw [← hV]
  have HV := Lib.hid hV
  clear hV
  generalize commonR a b = c at *
  obtain ⟨x0, y0, x1, y1⟩ := c
  simp only [rv] at *
  obtain ⟨p0, p1, p2, p3, p4, p5, p6, p7⟩ := hr
  have hV4 : (0 < x0 - x1 + 1 ∧ x0 - x1 + 1 < y0 - y1 + 1 ∧ V = y0 - y1 + 1) ∨ (0 < x0 - x1 + 1 ∧ ¬ x0 - x1 + 1 < y0 - y1 + 1 ∧ V = x0 - x1 + 1) ∨ (¬ 0 < x0 - x1 + 1 ∧ 0 < y0 - y1 + 1 ∧ V = y0 - y1 + 1) ∨ (¬ 0 < x0 - x1 + 1 ∧ ¬ 0 < y0 - y1 + 1 ∧ V = 0) := by
    rw [HV.out]
    skip
    omega
  clear HV
  rcases hV4 with ⟨c1, c2, rfl⟩ | ⟨c1, c2, rfl⟩ | ⟨c1, c2, rfl⟩ | ⟨c1, c2, rfl⟩
  all_goals
    go_enter Try.func58, Try.ntmps58
    go_wp2_with fail
    refine (C1.out _).mono ?_
    rintro e w1 ⟨rfl, hb⟩
    have z1 := hb.size
    (try simp only [World.size_alloc, World.size_setCell, World.size_drew] at z1)
    have B1 := up (B := w.heap.size) (w := w) (by (repeat' (first | (with_reducible exact Below.refl _ _) | (with_reducible assumption) | (with_reducible refine Below.alloc ?_ ?_ _) | (with_reducible refine Below.drew ?_) | (with_reducible refine below_drewN ?_ _) | (with_reducible refine Below.setCell ?_ ?_ _) | (with_reducible exact Nat.le_refl _) | omega | (simp only [World.size_alloc, World.size_setCell, World.size_drew]; omega) | (simp; omega) | (simp; done)))) hb (by (first | (with_reducible exact Nat.le_refl _) | (with_reducible assumption) | omega | (simp only [World.size_alloc, World.size_setCell, World.size_drew]; omega) | (simp; omega) | (simp; done)))
    have zz : w.heap.size ≤ w1.heap.size := by omega
    clear hb
    go_wp2_with fail
    go_ret
    exact ⟨rfl, by (repeat' (first | (with_reducible exact Below.refl _ _) | (with_reducible assumption) | (with_reducible refine Below.alloc ?_ ?_ _) | (with_reducible refine Below.drew ?_) | (with_reducible refine below_drewN ?_ _) | (with_reducible refine Below.setCell ?_ ?_ _) | (with_reducible exact Nat.le_refl _) | omega | (simp only [World.size_alloc, World.size_setCell, World.size_drew]; omega) | (simp; omega) | (simp; done)))⟩

set_option maxRecDepth 100000 in
set_option maxHeartbeats 2000000 in
theorem farRects_any (a b : R4) (w : World) (ha : Rt a) (hb : Rt b) :
    Calls Try.prog 64 #[rv a, rv b] w fun e w' => e = .returned (.int .i64 (farR a b)) ∧ Below w.heap.size w w' := by
  obtain ⟨a0, a1, a2, a3, -⟩ := ha
  obtain ⟨b0, b1, b2, b3, -⟩ := hb
  have CX := Lib.hid (fun W => far_any a.x0 a.x1 b.x0 b.x1 W a0 a2 b0 b2)
  have CY := Lib.hid (fun W => far_any a.y0 a.y1 b.y0 b.y1 W a1 a3 b1 b3)
  unfold farR
  clear a0 a1 a2 a3 b0 b1 b2 b3
  generalize farI a.x0 a.x1 b.x0 b.x1 = X at *
  generalize farI a.y0 a.y1 b.y0 b.y1 = Y at *
  obtain ⟨ax0, ay0, ax1, ay1⟩ := a
  obtain ⟨bx0, by0, bx1, by1⟩ := b
  simp only [rv] at *
  have hc : (X < Y ∧ max X Y = Y) ∨ (¬ X < Y ∧ max X Y = X) := by omega
  rcases hc with ⟨c1, c2⟩ | ⟨c1, c2⟩
  all_goals
    rw [c2]
    clear c2
    go_enter Try.func64, Try.ntmps64
    go_wp2_with fail
    go_region_held3 (fun w' => w'.cell? ⟨w.heap.size, 0, none⟩ = some (.int .i64 ax0) ∧ w'.cell? ⟨w.heap.size, 1, none⟩ = some (.int .i64 ay0) ∧ w'.cell? ⟨w.heap.size, 2, none⟩ = some (.int .i64 ax1) ∧ w'.cell? ⟨w.heap.size, 3, none⟩ = some (.int .i64 ay1) ∧ w'.cell? ⟨w.heap.size + 1, 0, none⟩ = some (.int .i64 bx0) ∧ w'.cell? ⟨w.heap.size + 1, 1, none⟩ = some (.int .i64 by0) ∧ w'.cell? ⟨w.heap.size + 1, 2, none⟩ = some (.int .i64 bx1) ∧ w'.cell? ⟨w.heap.size + 1, 3, none⟩ = some (.int .i64 by1)) (go_keep)
      (first | (go_at_call_of 89 (Value.int .i64 ax0); refine (CX.out _).mono ?_; rintro e w1 ⟨rfl, rfl⟩) | (go_at_call_of 89 (Value.int .i64 ay0); refine (CY.out _).mono ?_; rintro e w1 ⟨rfl, rfl⟩))
    all_goals
      go_wp2_with fail
      go_ret
      exact ⟨rfl, by (repeat' (first | (with_reducible exact Below.refl _ _) | (with_reducible assumption) | (with_reducible refine Below.alloc ?_ ?_ _) | (with_reducible refine Below.drew ?_) | (with_reducible refine below_drewN ?_ _) | (with_reducible refine Below.setCell ?_ ?_ _) | (with_reducible exact Nat.le_refl _) | omega | (simp only [World.size_alloc, World.size_setCell, World.size_drew]; omega) | (simp; omega) | (simp; done)))⟩

theorem rt_of {r : R4} (h : Rg r) : Rt r := by
  unfold Rg at h
  simp only [Rt, In6]
  omega
end Go.Proofs.Ytjcbngpgmgeanaa
/- The least distance of two regions, of the program. -/
namespace Go.Proofs.Ytjcbngpgmgeanaa
open Go.RowKit
open Reg (R4)
set_option linter.unusedSimpArgs false
set_option linter.unusedVariables false

theorem dists_snoc (a b : List R4) (k : Nat) (h : k < a.length) : dists (a.take (k + 1)) b = dists (a.take k) b ++ b.map (farR a[k]) := by
  unfold dists
  rw [List.take_succ_eq_append_getElem h, List.flatMap_append]
  simp only [List.flatMap_cons, List.flatMap_nil, List.append_nil]
theorem map_snocI (g : R4 → Int) (l : List R4) (k : Nat) (h : k < l.length) : (l.take (k + 1)).map g = (l.take k).map g ++ [g l[k]] := by
  rw [List.take_succ_eq_append_getElem h, List.map_append]
  rfl

set_option maxRecDepth 100000 in
set_option maxHeartbeats 2000000 in
theorem regionDistance_any (A B : Option Addr) (a b : List R4) (ca cb : Nat) (w : World) (ha : ∀ r, r ∈ a → Rt r) (hb : ∀ r, r ∈ b → Rt r) (pa : 0 < a.length) (pb : 0 < b.length) (sa : a.length ≤ 140737488355328) (sb : b.length ≤ 140737488355328) (h1 : Rd w A a) (h2 : Rd w B b) :
    Calls Try.prog 35 #[.slice A a.length ca, .slice B b.length cb] w fun e w' => e = .returned (.int .i64 (farRs a b)) ∧ Below w.heap.size w w' := by
  have HA0 := Lib.hid h1
  have HB0 := Lib.hid h2
  have CD := Lib.hid (fun x y (hx : x ∈ a) (hy : y ∈ b) W => rectDistance_any x y W (ha x hx) (hb y hy))
  obtain ⟨ba, oa, rfl, hba, hca⟩ := h1 pa
  obtain ⟨bb, ob, rfl, hbb, hcb⟩ := h2 pb
  have ea : a[0]? = some a[0] := List.getElem?_eq_getElem pa
  have eb : b[0]? = some b[0] := List.getElem?_eq_getElem pb
  obtain ⟨a0, a1, a2, a3⟩ := hca 0 _ ea
  obtain ⟨b0, b1, b2, b3⟩ := hcb 0 _ eb
  have hda : a.headD ⟨0, 0, 0, 0⟩ = a[0] := by cases a with | nil => simp at pa | cons x t => rfl
  have hdb : b.headD ⟨0, 0, 0, 0⟩ = b[0] := by cases b with | nil => simp at pb | cons x t => rfl
  unfold farRs
  rw [hda, hdb]
  have C0 := Lib.hid (fun W => CD.out a[0] b[0] (List.getElem_mem pa) (List.getElem_mem pb) W)
  have HPA := Lib.hid pa
  clear h1 h2 ha hb hca hcb ea eb hda hdb
  generalize a[0] = x0 at *
  generalize b[0] = y0 at *
  have hmn : ∀ x y : Int, (if y < x then y else x) = min x y := fun x y => by omega
  have hmn' : ∀ x y : Int, (if y < x then Value.int .i64 y else Value.int .i64 x) = Value.int .i64 (min x y) := fun x y => by
    by_cases h : y < x
    · rw [if_pos h, Int.min_eq_right (by omega)]
    · rw [if_neg h, Int.min_eq_left (by omega)]
  generalize hM : farR x0 y0 = M at *
  clear hM
  simp only [Nat.zero_mul, Nat.add_zero] at a0 a1 a2 a3 b0 b1 b2 b3
  simp only [rv] at C0
  have qa : (0 : Int) < (a.length : Int) := by omega
  have qb : (0 : Int) < (b.length : Int) := by omega
  go_enter Try.func35, Try.ntmps35
  go_wp2_with fail
  go_region_held3 (fun w' => w'.cell? ⟨ba, oa, none⟩ = some (.int .i64 x0.x0) ∧ w'.cell? ⟨ba, oa + 1, none⟩ = some (.int .i64 x0.y0) ∧ w'.cell? ⟨ba, oa + 2, none⟩ = some (.int .i64 x0.x1) ∧ w'.cell? ⟨ba, oa + 3, none⟩ = some (.int .i64 x0.y1) ∧ w'.cell? ⟨bb, ob, none⟩ = some (.int .i64 y0.x0) ∧ w'.cell? ⟨bb, ob + 1, none⟩ = some (.int .i64 y0.y0) ∧ w'.cell? ⟨bb, ob + 2, none⟩ = some (.int .i64 y0.x1) ∧ w'.cell? ⟨bb, ob + 3, none⟩ = some (.int .i64 y0.y1)) (first | go_keep | exact ⟨((bcell hb).1 _ _ hba).trans a0, ((bcell hb).1 _ _ hba).trans a1, ((bcell hb).1 _ _ hba).trans a2, ((bcell hb).1 _ _ hba).trans a3, ((bcell hb).1 _ _ hbb).trans b0, ((bcell hb).1 _ _ hbb).trans b1, ((bcell hb).1 _ _ hbb).trans b2, ((bcell hb).1 _ _ hbb).trans b3⟩)
    (first | (go_at_call 58; refine (C0.out _).mono ?_; rintro e w1 ⟨rfl, hb⟩))
  have B1 := Lib.hid hb
  have z1 := hb.size
  (try simp only [World.size_alloc, World.size_setCell, World.size_drew] at z1)
  clear hb
  have BW := Lib.hid (show Below w.heap.size w w1 from up (B := w.heap.size) (w := w) (by (repeat' (first | (with_reducible exact Below.refl _ _) | (with_reducible assumption) | (with_reducible refine Below.alloc ?_ ?_ _) | (with_reducible refine Below.drew ?_) | (with_reducible refine below_drewN ?_ _) | (with_reducible refine Below.setCell ?_ ?_ _) | (with_reducible exact Nat.le_refl _) | omega | (simp only [World.size_alloc, World.size_setCell, World.size_drew]; omega) | (simp; omega) | (simp; done)))) B1.out (by (first | (with_reducible exact Nat.le_refl _) | (with_reducible assumption) | omega | (simp only [World.size_alloc, World.size_setCell, World.size_drew]; omega) | (simp; omega) | (simp; done))))
  clear B1 a0 a1 a2 a3 b0 b1 b2 b3 C0
  go_wp2_with fail
  go_loopw [5, 19] (fun v5 i wr => ∃ k : Nat, k ≤ a.length ∧ i = .int .i64 k ∧ v5 = .int .i64 (least M (dists (a.take k) b)) ∧ Below w.heap.size w wr) (fun _ i _ => a.length - (intOf i).toNat)
  case atStart => exact ⟨0, Nat.zero_le _, rfl, rfl, BW.out⟩
  case round =>
    obtain ⟨k, hk, rfl, rfl, hbw⟩ := hrel
    have zw := hbw.size
    have hkz : (0 : Int) ≤ (k : Int) := by omega
    by_cases hlt : k < a.length
    · obtain ⟨ba', oa', e, hba', hca⟩ := HA0.out.below hbw HPA.out
      cases e
      have hi1 : a[k]? = some a[k] := List.getElem?_eq_getElem hlt
      obtain ⟨c0, c1, c2, c3⟩ := hca k _ hi1
      have HS := Lib.hid (dists_snoc a b k hlt)
      have CX := Lib.hid (fun y (hy : y ∈ b) W => CD.out a[k] y (List.getElem_mem hlt) hy W)
      clear hi1 hca
      generalize a[k] = x at *
      have hklt : (k : Int) < (a.length : Int) := by omega
      obtain ⟨w8, rfl⟩ : ∃ w8, w8 = wr := ⟨wr, rfl⟩
      obtain ⟨m0, hm0⟩ : ∃ m0, m0 = least M (dists (a.take k) b) := ⟨_, rfl⟩
      rw [← hm0]
      have HM0 := Lib.hid hm0
      clear hm0
      go_wp2_with fail
      go_loopw [5, 25] (fun v5 i wr => ∃ j : Nat, j ≤ b.length ∧ i = .int .i64 j ∧ v5 = .int .i64 (least m0 ((b.take j).map (farR x))) ∧ Below (w8.heap.size + 1) (w8.alloc (.cells #[.int .i64 x.x0, .int .i64 x.y0, .int .i64 x.x1, .int .i64 x.y1] 30)) wr) (fun _ i _ => b.length - (intOf i).toNat)
      case atStart => exact ⟨0, Nat.zero_le _, rfl, rfl, Below.refl _ _⟩
      case round =>
        obtain ⟨j, hj, rfl, rfl, hbi⟩ := hrel
        have zi := hbi.size
        simp only [World.size_alloc] at zi
        have hjz : (0 : Int) ≤ (j : Int) := by omega
        have hx : ∀ i, wr.cell? ⟨w8.heap.size, i, none⟩ = (#[.int .i64 x.x0, .int .i64 x.y0, .int .i64 x.x1, .int .i64 x.y1] : Array Value)[i]? := fun i => (hbi.cell (p := ⟨w8.heap.size, i, none⟩) (by simp)).trans (by simp [go_sem])
        have d0 := hx 0
        have d1 := hx 1
        have d2 := hx 2
        have d3 := hx 3
        simp at d0 d1 d2 d3
        clear hx
        have Hw := Lib.hid (show Below w.heap.size w wr from (hbw.alloc (by omega) _).trans (hbi.mono (by omega)))
        have lw : w8.heap.size < wr.heap.size := by omega
        have nw : ¬ w8.heap.size = wr.heap.size := Nat.ne_of_lt lw
        have nw' : ¬ wr.heap.size = w8.heap.size := fun h => nw h.symm
        by_cases hjl : j < b.length
        · obtain ⟨bb', ob', e, hbb', hcb⟩ := HB0.out.below Hw.out (by omega)
          cases e
          have hi1 : b[j]? = some b[j] := List.getElem?_eq_getElem hjl
          obtain ⟨f0, f1, f2, f3⟩ := hcb j _ hi1
          have HS2 := Lib.hid (map_snocI (farR x) b j hjl)
          have CY := Lib.hid (fun W => CX.out b[j] (List.getElem_mem hjl) W)
          clear hi1 hcb
          generalize b[j] = y at *
          simp only [rv] at CY
          have hjlt : (j : Int) < (b.length : Int) := by omega
          obtain ⟨m1, hm1⟩ : ∃ m1, m1 = least m0 ((b.take j).map (farR x)) := ⟨_, rfl⟩
          rw [← hm1]
          have HM1 := Lib.hid hm1
          clear hm1
          generalize hD : farR x y = D at *
          have HD := Lib.hid hD
          clear hD
          go_wp2_with fail
          refine (CY.out _).mono ?_
          rintro e w5 ⟨rfl, hb⟩
          have z5 := hb.size
          (try simp only [World.size_alloc, World.size_setCell, World.size_drew] at z5)
          have B5 := up (B := w8.heap.size + 1) (w := w8.alloc (.cells #[.int .i64 x.x0, .int .i64 x.y0, .int .i64 x.x1, .int .i64 x.y1] 30)) (by (repeat' (first | (with_reducible exact Below.refl _ _) | (with_reducible assumption) | (with_reducible refine Below.alloc ?_ ?_ _) | (with_reducible refine Below.drew ?_) | (with_reducible refine below_drewN ?_ _) | (with_reducible refine Below.setCell ?_ ?_ _) | (with_reducible exact Nat.le_refl _) | omega | (simp only [World.size_alloc, World.size_setCell, World.size_drew]; omega) | (simp; omega) | (simp; done)))) hb (by (first | (with_reducible exact Nat.le_refl _) | (with_reducible assumption) | omega | (simp only [World.size_alloc, World.size_setCell, World.size_drew]; omega) | (simp; omega) | (simp; done)))
          clear hb
          go_wp2_with fail
          go_roundw
          case rel => exact ⟨j + 1, by omega, by go_num, by rw [HS2.out, least_append, ← HM1.out]; rfl, B5⟩
          case measure => simp [intOf]; omega
        · obtain rfl : j = b.length := by omega
          rw [List.take_length]
          go_wp2_with fail
          go_roundw
          case rel => exact ⟨k + 1, by omega, by go_num, by rw [HS.out, least_append, ← HM0.out], Hw.out⟩
          case measure => simp [intOf]; omega
    · obtain rfl : k = a.length := by omega
      rw [List.take_length]
      go_wp2_with fail
      go_ret
      exact ⟨rfl, hbw⟩
end Go.Proofs.Ytjcbngpgmgeanaa
/- The least square of one region that is near another one, of the program. -/
namespace Go.Proofs.Ytjcbngpgmgeanaa
open Go.RowKit
open Reg (R4)
set_option linter.unusedSimpArgs false
set_option linter.unusedVariables false

theorem rd_one {w : World} {b : Nat} {r : R4} (hb : b < w.heap.size) (h : ∀ i, w.cell? ⟨b, i, none⟩ = (#[Value.int .i64 r.x0, .int .i64 r.y0, .int .i64 r.x1, .int .i64 r.y1])[i]?) : Rd w (some ⟨b, 0, none⟩) [r] := fun _ =>
  ⟨b, 0, rfl, hb, fun i s hi => by
    match i, hi with
    | 0, hi =>
      simp at hi
      subst hi
      exact ⟨h 0, h 1, h 2, h 3⟩
    | i + 1, hi => simp at hi⟩
theorem kpw {W w1 : World} {G : Prop} (hb : Below W.heap.size W w1) {b : Nat} {cs : Array Value} (hlt : b < W.heap.size) (h : ∀ i, W.cell? ⟨b, i, none⟩ = cs[i]?) (hf : ∀ i, W.frozen? ⟨b, i, none⟩ = false)
    (hG : (∀ i, w1.cell? ⟨b, i, none⟩ = cs[i]?) → (∀ i, w1.frozen? ⟨b, i, none⟩ = false) → G) : G := by
  obtain ⟨h1, h2⟩ := kp hb hlt h hf
  exact hG h1 h2
theorem ltw {a b : Nat} {G : Prop} (h : a < b) (hG : a < b → G) : G := hG h
theorem over_in (n : Int) (x y : R4) : overR x (wideA n y) = npIn n x y := by
  unfold overR commonR npIn npX npY wideA
  simp only [maxI_eq, minI_eq]
theorem common_x (n : Int) (x y : R4) : (commonR x (wideA n y)).x0 = npX n x y := by
  unfold commonR npX wideA
  simp only [maxI_eq]
theorem common_y (n : Int) (x y : R4) : (commonR x (wideA n y)).y0 = npY n x y := by
  unfold commonR npY wideA
  simp only [maxI_eq]
theorem cmp_less (px py fx fy : Int) : (orI (cmpI py fy) (cmpI px fx) < 0) ↔ (py < fy ∨ (py = fy ∧ px < fx)) := by
  unfold orI cmpI
  by_cases h1 : py < fy
  · simp [h1]
  · by_cases h2 : fy < py
    · simp [h1, h2]; omega
    · have e : py = fy := by omega
      subst e
      by_cases h3 : px < fx
      · simp [h3]
      · by_cases h4 : fx < px <;> simp [h3, h4]
theorem np_case (n : Int) (sb : Bool) (sx sy : Int) (x y : R4) : (npIn n x y = false ∧ npStep n (sb, sx, sy) x y = (sb, sx, sy)) ∨ (npIn n x y = true ∧ sb = false ∧ npStep n (sb, sx, sy) x y = (true, npX n x y, npY n x y)) ∨
    (npIn n x y = true ∧ sb = true ∧ orI (cmpI (npY n x y) sy) (cmpI (npX n x y) sx) < 0 ∧ npStep n (sb, sx, sy) x y = (true, npX n x y, npY n x y)) ∨ (npIn n x y = true ∧ sb = true ∧ ¬ orI (cmpI (npY n x y) sy) (cmpI (npX n x y) sx) < 0 ∧ npStep n (sb, sx, sy) x y = (sb, sx, sy)) := by
  rw [cmp_less]
  unfold npStep npLess
  cases npIn n x y
  · simp
  · cases sb
    · simp
    · by_cases hh : npY n x y < sy ∨ npY n x y = sy ∧ npX n x y < sx
      · refine .inr (.inr (.inl ⟨rfl, rfl, hh, ?_⟩))
        rw [if_pos ⟨rfl, by simpa using hh⟩]
      · refine .inr (.inr (.inr ⟨rfl, rfl, hh, ?_⟩))
        rw [if_neg (fun h => hh (by simpa using h.2))]
theorem set2 {W : World} {g : Nat} {p q a b : Value} (hc : ∀ i, W.cell? ⟨g, i, none⟩ = (#[p, q])[i]?) : ∀ i, ((W.setCell ⟨g, 0, none⟩ a).setCell ⟨g, 1, none⟩ b).cell? ⟨g, i, none⟩ = (#[a, b])[i]? :=
  one_set (one_set hc (j := 0) (v := a) (by simp)) (j := 1) (v := b) (by simp)
theorem set2_far {W : World} {g h : Nat} {a b : Value} (hn : h ≠ g) (i : Nat) : ((W.setCell ⟨h, 0, none⟩ a).setCell ⟨h, 1, none⟩ b).cell? ⟨g, i, none⟩ = W.cell? ⟨g, i, none⟩ := by
  rw [World.cell?_setCell_far _ _ _ _ hn, World.cell?_setCell_far _ _ _ _ hn]

/-- The blocks of the call: the result's, that of the best point, both of two cells. -/
structure FnW (w : World) (B : Nat) (fx fy : Int) (wr : World) : Prop where
  r : ∀ i, wr.cell? ⟨B, i, none⟩ = (#[Value.int .i64 0, .int .i64 0])[i]?
  rf : ∀ i, wr.frozen? ⟨B, i, none⟩ = false
  f : ∀ i, wr.cell? ⟨B + 1, i, none⟩ = (#[Value.int .i64 fx, .int .i64 fy])[i]?
  ff : ∀ i, wr.frozen? ⟨B + 1, i, none⟩ = false
  s : B + 2 ≤ wr.heap.size
  b : Below w.heap.size w wr
theorem FnW.next {w : World} {B : Nat} {fx fy : Int} {wr wr' : World} (h : FnW w B fx fy wr) (hB : w.heap.size ≤ B) (hb : Below (B + 2) wr wr') : FnW w B fx fy wr' where
  r i := (hb.cell (p := ⟨B, i, none⟩) (by show B < B + 2; omega)).trans (h.r i)
  rf i := (hb.frozen (p := ⟨B, i, none⟩) (by show B < B + 2; omega)).trans (h.rf i)
  f i := (hb.cell (p := ⟨B + 1, i, none⟩) (by show B + 1 < B + 2; omega)).trans (h.f i)
  ff i := (hb.frozen (p := ⟨B + 1, i, none⟩) (by show B + 1 < B + 2; omega)).trans (h.ff i)
  s := Nat.le_trans h.s hb.size
  b := h.b.trans (hb.mono (by omega))
theorem FnW.set {w : World} {B : Nat} {fx fy : Int} {wr : World} (h : FnW w B fx fy wr) (hB : w.heap.size ≤ B) (x y : Int) : FnW w B x y ((wr.setCell ⟨B + 1, 0, none⟩ (.int .i64 x)).setCell ⟨B + 1, 1, none⟩ (.int .i64 y)) where
  r i := (set2_far (by omega) i).trans (h.r i)
  rf i := by rw [World.frozen?_setCell, World.frozen?_setCell]; exact h.rf i
  f := set2 h.f
  ff i := by rw [World.frozen?_setCell, World.frozen?_setCell]; exact h.ff i
  s := by simpa using h.s
  b := (h.b.setCell (by simp; omega) _).setCell (by simp; omega) _

set_option maxRecDepth 100000 in
set_option maxHeartbeats 4000000 in
theorem firstNear_any (A B : Option Addr) (a b : List R4) (ca cb : Nat) (n : Int) (w : World) (ha : ∀ r, r ∈ a → Rg r) (hb : ∀ r, r ∈ b → Rg r) (sa : a.length ≤ 140737488355328) (sb : b.length ≤ 140737488355328) (n0 : 0 ≤ n) (n1 : n ≤ 100000) (h1 : Rd w A a) (h2 : Rd w B b) :
    Calls Try.prog 36 #[.slice A a.length ca, .slice B b.length cb, .int .i64 n] w fun e w' => e = .returned (.agg #[.int .i64 (npF n a b).2.1, .int .i64 (npF n a b).2.2]) ∧ Below w.heap.size w w' := by
  have HA0 := Lib.hid h1
  have HB0 := Lib.hid h2
  have CW := Lib.hid (fun y (hy : y ∈ b) W => widened_any y n W (by have := hb y hy; unfold Rg at this; omega) n0 n1)
  have CO := Lib.hid (fun x y W => overlap_any x (wideA n y) W)
  have CC := Lib.hid (fun x y W => common_any x (wideA n y) W)
  have CR := Lib.hid (fun r W => corner_any r W)
  have CP := Lib.hid (fun px py qx qy W => comparePoints_any px py qx qy W)
  clear h1 h2 ha hb
  obtain ⟨Z, hZ⟩ : ∃ Z, Z = npF n a b := ⟨_, rfl⟩
  rw [← hZ]
  have HZ := Lib.hid hZ
  clear hZ
  go_enter Try.func36, Try.ntmps36
  go_wp2_with fail
  go_loopw [8, 17] (fun v8 i wr => ∃ k : Nat, k ≤ a.length ∧ i = .int .i64 k ∧ v8 = .bool (npAll n b (false, 0, 0) (a.take k)).1 ∧ FnW w w.heap.size (npAll n b (false, 0, 0) (a.take k)).2.1 (npAll n b (false, 0, 0) (a.take k)).2.2 wr) (fun _ i _ => a.length - (intOf i).toNat)
  case atStart => exact ⟨0, Nat.zero_le _, rfl, rfl, ⟨fun i => by simp [go_sem], fun i => by simp [go_sem], fun i => by simp [go_sem, npAll], fun i => by simp [go_sem], by simp, by (repeat' (first | (with_reducible exact Below.refl _ _) | (with_reducible assumption) | (with_reducible refine Below.alloc ?_ ?_ _) | (with_reducible refine Below.drew ?_) | (with_reducible refine below_drewN ?_ _) | (with_reducible refine Below.setCell ?_ ?_ _) | (with_reducible exact Nat.le_refl _) | omega | (simp only [World.size_alloc, World.size_setCell, World.size_drew]; omega) | (simp; omega) | (simp; done)))⟩⟩
  case round =>
    obtain ⟨k, hk, rfl, rfl, hF⟩ := hrel
    have HF := Lib.hid hF
    clear hF
    have zw := HF.out.b.size
    have zs := HF.out.s
    have hkz : (0 : Int) ≤ (k : Int) := by omega
    by_cases hlt : k < a.length
    · obtain ⟨ba, oa, e, hba, hca⟩ := HA0.out.below HF.out.b (by omega)
      subst e
      have hi1 : a[k]? = some a[k] := List.getElem?_eq_getElem hlt
      obtain ⟨c0, c1, c2, c3⟩ := hca k _ hi1
      have HS := Lib.hid (npAll_snoc n b (false, 0, 0) a k hlt)
      clear hi1 hca
      generalize a[k] = x at *
      have hklt : (k : Int) < (a.length : Int) := by omega
      obtain ⟨w8, rfl⟩ : ∃ w8, w8 = wr := ⟨wr, rfl⟩
      obtain ⟨s0, hs0⟩ : ∃ s0, s0 = npAll n b (false, 0, 0) (a.take k) := ⟨_, rfl⟩
      rw [← hs0] at HF HS
      rw [← hs0]
      clear hs0
      go_wp2_with fail
      go_loopw [8, 23] (fun v8 i wr => ∃ j : Nat, j ≤ b.length ∧ i = .int .i64 j ∧ v8 = .bool (npRow n x s0 (b.take j)).1 ∧ FnW w w.heap.size (npRow n x s0 (b.take j)).2.1 (npRow n x s0 (b.take j)).2.2 wr ∧ (∀ i, wr.cell? ⟨w8.heap.size, i, none⟩ = (#[.int .i64 x.x0, .int .i64 x.y0, .int .i64 x.x1, .int .i64 x.y1] : Array Value)[i]?) ∧ (∀ i, wr.frozen? ⟨w8.heap.size, i, none⟩ = false) ∧ w8.heap.size < wr.heap.size) (fun _ i _ => b.length - (intOf i).toNat)
      case atStart => exact ⟨0, Nat.zero_le _, rfl, rfl, HF.out.next (Nat.le_refl _) (by (repeat' (first | (with_reducible exact Below.refl _ _) | (with_reducible assumption) | (with_reducible refine Below.alloc ?_ ?_ _) | (with_reducible refine Below.drew ?_) | (with_reducible refine below_drewN ?_ _) | (with_reducible refine Below.setCell ?_ ?_ _) | (with_reducible exact Nat.le_refl _) | omega | (simp only [World.size_alloc, World.size_setCell, World.size_drew]; omega) | (simp; omega) | (simp; done)))), fun i => by simp [go_sem], fun i => by simp [go_sem], by simp⟩
      case round =>
        obtain ⟨j, hj, rfl, rfl, hG, kx, fx, lx⟩ := hrel
        have HG := Lib.hid hG
        clear hG
        have zi := HG.out.b.size
        have zt := HG.out.s
        have hjz : (0 : Int) ≤ (j : Int) := by omega
        by_cases hjl : j < b.length
        · obtain ⟨bb, ob, e, hbb, hcb⟩ := HB0.out.below HG.out.b (by omega)
          subst e
          have hi1 : b[j]? = some b[j] := List.getElem?_eq_getElem hjl
          obtain ⟨d0, d1, d2, d3⟩ := hcb j _ hi1
          have HS2 := Lib.hid (npRow_snoc n x s0 b j hjl)
          have CY := Lib.hid (fun W => CW.out b[j] (List.getElem_mem hjl) W)
          clear hi1 hcb
          generalize b[j] = y at *
          have hjlt : (j : Int) < (b.length : Int) := by omega
          obtain ⟨s1, hs1⟩ : ∃ s1, s1 = npRow n x s0 (b.take j) := ⟨_, rfl⟩
          rw [← hs1] at HG HS2
          rw [← hs1]
          clear hs1
          obtain ⟨sb, sx, sy⟩ := s1
          have CO1 := Lib.hid (fun W => CO.out x y W)
          have CC1 := Lib.hid (fun W => CC.out x y W)
          rw [over_in] at CO1
          have CX := common_x n x y
          have CYY := common_y n x y
          generalize commonR x (wideA n y) = m at *
          obtain ⟨m0, m1, m2, m3⟩ := m
          simp only at CX CYY
          subst CX
          subst CYY
          generalize hQ : npStep n (sb, sx, sy) x y = Q at *
          simp only at HG
          generalize wideA n y = v at *
          have HX := Lib.hid kx
          have FX := Lib.hid fx
          have x0 := kx 0
          have x1 := kx 1
          have x2 := kx 2
          have x3 := kx 3
          simp at x0 x1 x2 x3
          clear kx fx
          have hcase := np_case n sb sx sy x y
          rw [hQ] at hcase
          clear hQ
          generalize npX n x y = px at *
          generalize npY n x y = py at *
          generalize hC : orI (cmpI py sy) (cmpI px sx) = C at *
          have CP1 := Lib.hid (fun W => CP.out px py sx sy W)
          rw [hC] at CP1
          clear hC
          have CR1 := Lib.hid (fun W => CR.out ⟨px, py, m2, m3⟩ W)
          simp only at CR1
          rcases hcase with ⟨hin, rfl⟩ | ⟨hin, rfl, rfl⟩ | ⟨hin, rfl, hless, rfl⟩ | ⟨hin, rfl, hless, rfl⟩
          all_goals
            rw [hin] at CO1
            clear hin
            go_wp2_with fail
            refine (CY.out _).mono ?_
            rintro e w1 ⟨rfl, hb⟩
            obtain ⟨kx1, fx1⟩ := kp hb (b := w8.heap.size) (cs := #[.int .i64 x.x0, .int .i64 x.y0, .int .i64 x.x1, .int .i64 x.y1]) (by (first | (with_reducible exact Nat.le_refl _) | (with_reducible assumption) | omega | (simp only [World.size_alloc, World.size_setCell, World.size_drew]; omega) | (simp; omega) | (simp; done))) (fun i => (World.cell?_alloc_lt _ _ _ lx).trans (HX.out i)) (fun i => (World.frozen?_alloc_past _ _ _ (by (first | (with_reducible exact Nat.le_refl _) | (with_reducible assumption) | omega | (simp only [World.size_alloc, World.size_setCell, World.size_drew]; omega) | (simp; omega) | (simp; done)))).trans (FX.out i))
            have F1 := Lib.hid (HG.out.next (wr' := w1) (Nat.le_refl _) (up (B := w.heap.size + 2) (by (repeat' (first | (with_reducible exact Below.refl _ _) | (with_reducible assumption) | (with_reducible refine Below.alloc ?_ ?_ _) | (with_reducible refine Below.drew ?_) | (with_reducible refine below_drewN ?_ _) | (with_reducible refine Below.setCell ?_ ?_ _) | (with_reducible exact Nat.le_refl _) | omega | (simp only [World.size_alloc, World.size_setCell, World.size_drew]; omega) | (simp; omega) | (simp; done)))) hb (by (first | (with_reducible exact Nat.le_refl _) | (with_reducible assumption) | omega | (simp only [World.size_alloc, World.size_setCell, World.size_drew]; omega) | (simp; omega) | (simp; done)))))
            have z1 := hb.size
            (try simp only [World.size_alloc, World.size_setCell, World.size_drew] at z1)
            clear hb HX FX HG x0 x1 x2 x3
            have x0 := kx1 0
            have x1 := kx1 1
            have x2 := kx1 2
            have x3 := kx1 3
            simp at x0 x1 x2 x3
            have KX1 := Lib.hid kx1
            have FX1 := Lib.hid fx1
            clear kx1 fx1
            have l1 : w8.heap.size < w1.heap.size := by omega
            have n1 : ¬ w8.heap.size = w1.heap.size := Nat.ne_of_lt l1
            have n1' : ¬ w1.heap.size = w8.heap.size := fun h => n1 h.symm
            go_wp2_with fail
            refine (CO1.out _).mono ?_
            rintro e w2 ⟨rfl, hb⟩
            obtain ⟨kx2, fx2⟩ := kp hb (b := w8.heap.size) (cs := #[.int .i64 x.x0, .int .i64 x.y0, .int .i64 x.x1, .int .i64 x.y1]) (by (first | (with_reducible exact Nat.le_refl _) | (with_reducible assumption) | omega | (simp only [World.size_alloc, World.size_setCell, World.size_drew]; omega) | (simp; omega) | (simp; done))) (fun i => (World.cell?_alloc_lt _ _ _ l1).trans (KX1.out i)) (fun i => (World.frozen?_alloc_past _ _ _ (by (first | (with_reducible exact Nat.le_refl _) | (with_reducible assumption) | omega | (simp only [World.size_alloc, World.size_setCell, World.size_drew]; omega) | (simp; omega) | (simp; done)))).trans (FX1.out i))
            obtain ⟨kv2, fv2⟩ := kp hb (b := w1.heap.size) (cs := #[.int .i64 v.x0, .int .i64 v.y0, .int .i64 v.x1, .int .i64 v.y1]) (by (first | (with_reducible exact Nat.le_refl _) | (with_reducible assumption) | omega | (simp only [World.size_alloc, World.size_setCell, World.size_drew]; omega) | (simp; omega) | (simp; done))) (fun i => by simp [go_sem]) (fun i => by simp [go_sem])
            have F2 := Lib.hid (F1.out.next (wr' := w2) (Nat.le_refl _) (up (B := w.heap.size + 2) (by (repeat' (first | (with_reducible exact Below.refl _ _) | (with_reducible assumption) | (with_reducible refine Below.alloc ?_ ?_ _) | (with_reducible refine Below.drew ?_) | (with_reducible refine below_drewN ?_ _) | (with_reducible refine Below.setCell ?_ ?_ _) | (with_reducible exact Nat.le_refl _) | omega | (simp only [World.size_alloc, World.size_setCell, World.size_drew]; omega) | (simp; omega) | (simp; done)))) hb (by (first | (with_reducible exact Nat.le_refl _) | (with_reducible assumption) | omega | (simp only [World.size_alloc, World.size_setCell, World.size_drew]; omega) | (simp; omega) | (simp; done)))))
            have z2 := hb.size
            (try simp only [World.size_alloc, World.size_setCell, World.size_drew] at z2)
            clear hb KX1 FX1 x0 x1 x2 x3 F1
            have x0 := kx2 0
            have x1 := kx2 1
            have x2 := kx2 2
            have x3 := kx2 3
            have y0 := kv2 0
            have y1 := kv2 1
            have y2 := kv2 2
            have y3 := kv2 3
            simp at x0 x1 x2 x3 y0 y1 y2 y3
            have KX2 := Lib.hid kx2
            have FX2 := Lib.hid fx2
            clear kx2 fx2 kv2 fv2
            have l2 : w8.heap.size < w2.heap.size := by omega
            have l3 : w1.heap.size < w2.heap.size := by omega
          · go_wp2_with fail
            go_roundw
            case rel => exact ⟨j + 1, by omega, by go_num, by rw [HS2.out], by rw [HS2.out]; exact F2.out, KX2.out, FX2.out, l2⟩
            case measure => simp [intOf]; omega
          all_goals
            go_wp2_with fail
            refine (CC1.out _).mono ?_
            rintro e w3 ⟨rfl, hb⟩
            obtain ⟨kx3, fx3⟩ := kp hb (b := w8.heap.size) (cs := #[.int .i64 x.x0, .int .i64 x.y0, .int .i64 x.x1, .int .i64 x.y1]) (by (first | (with_reducible exact Nat.le_refl _) | (with_reducible assumption) | omega | (simp only [World.size_alloc, World.size_setCell, World.size_drew]; omega) | (simp; omega) | (simp; done))) KX2.out FX2.out
            have F3 := Lib.hid (F2.out.next (wr' := w3) (Nat.le_refl _) (up (B := w.heap.size + 2) (by (repeat' (first | (with_reducible exact Below.refl _ _) | (with_reducible assumption) | (with_reducible refine Below.alloc ?_ ?_ _) | (with_reducible refine Below.drew ?_) | (with_reducible refine below_drewN ?_ _) | (with_reducible refine Below.setCell ?_ ?_ _) | (with_reducible exact Nat.le_refl _) | omega | (simp only [World.size_alloc, World.size_setCell, World.size_drew]; omega) | (simp; omega) | (simp; done)))) hb (by (first | (with_reducible exact Nat.le_refl _) | (with_reducible assumption) | omega | (simp only [World.size_alloc, World.size_setCell, World.size_drew]; omega) | (simp; omega) | (simp; done)))))
            have z3 := hb.size
            clear hb x0 x1 x2 x3 y0 y1 y2 y3 F2 KX2 FX2
            have KX3 := Lib.hid kx3
            have FX3 := Lib.hid fx3
            clear kx3 fx3
            go_wp2_with fail
            refine (CR1.out _).mono ?_
            rintro e w4 ⟨rfl, hb⟩
            obtain ⟨kx4, fx4⟩ := kp hb (b := w8.heap.size) (cs := #[.int .i64 x.x0, .int .i64 x.y0, .int .i64 x.x1, .int .i64 x.y1]) (by (first | (with_reducible exact Nat.le_refl _) | (with_reducible assumption) | omega | (simp only [World.size_alloc, World.size_setCell, World.size_drew]; omega) | (simp; omega) | (simp; done))) KX3.out FX3.out
            have F4 := Lib.hid (F3.out.next (wr' := w4) (Nat.le_refl _) (up (B := w.heap.size + 2) (by (repeat' (first | (with_reducible exact Below.refl _ _) | (with_reducible assumption) | (with_reducible refine Below.alloc ?_ ?_ _) | (with_reducible refine Below.drew ?_) | (with_reducible refine below_drewN ?_ _) | (with_reducible refine Below.setCell ?_ ?_ _) | (with_reducible exact Nat.le_refl _) | omega | (simp only [World.size_alloc, World.size_setCell, World.size_drew]; omega) | (simp; omega) | (simp; done)))) hb (by (first | (with_reducible exact Nat.le_refl _) | (with_reducible assumption) | omega | (simp only [World.size_alloc, World.size_setCell, World.size_drew]; omega) | (simp; omega) | (simp; done)))))
            have z4 := hb.size
            clear hb KX3 FX3 F3
            have KX4 := Lib.hid kx4
            have FX4 := Lib.hid fx4
            clear kx4 fx4
            have l4 : w8.heap.size < w4.heap.size := by omega
            have l5 : w.heap.size + 1 < w4.heap.size := by omega
            have n5 : ¬ w.heap.size + 1 = w4.heap.size := by omega
            have n6 : ¬ w4.heap.size = w.heap.size + 1 := by omega
          · have g0 := F4.out.ff 0
            have g1 := F4.out.ff 1
            have hf := F4.out.f
            have p0 := hf 0
            have p1 := hf 1
            simp at p0 p1
            clear hf
            go_wp2_with fail
            go_roundw
            case rel => exact ⟨j + 1, by omega, by go_num, by rw [HS2.out], by rw [HS2.out]; exact (F4.out.set (Nat.le_refl _) px py).next (Nat.le_refl _) ((Below.refl _ _).alloc (by (first | (with_reducible exact Nat.le_refl _) | (with_reducible assumption) | omega | (simp only [World.size_alloc, World.size_setCell, World.size_drew]; omega) | (simp; omega) | (simp; done))) _), fun i => (World.cell?_alloc_lt _ _ _ (by (first | (with_reducible exact Nat.le_refl _) | (with_reducible assumption) | omega | (simp only [World.size_alloc, World.size_setCell, World.size_drew]; omega) | (simp; omega) | (simp; done)))).trans ((set2_far (by omega) i).trans (KX4.out i)), fun i => (World.frozen?_alloc_past _ _ _ (by (first | (with_reducible exact Nat.le_refl _) | (with_reducible assumption) | omega | (simp only [World.size_alloc, World.size_setCell, World.size_drew]; omega) | (simp; omega) | (simp; done)))).trans (by rw [World.frozen?_setCell, World.frozen?_setCell]; exact FX4.out i), by (first | (with_reducible exact Nat.le_refl _) | (with_reducible assumption) | omega | (simp only [World.size_alloc, World.size_setCell, World.size_drew]; omega) | (simp; omega) | (simp; done))⟩
            case measure => simp [intOf]; omega
          all_goals
            have hf := F4.out.f
            have p0 := hf 0
            have p1 := hf 1
            simp at p0 p1
            clear hf
            go_wp2_with fail
            refine (CP1.out _).mono ?_
            rintro e w5 ⟨rfl, hb⟩
            obtain ⟨kx5, fx5⟩ := kp hb (b := w8.heap.size) (cs := #[.int .i64 x.x0, .int .i64 x.y0, .int .i64 x.x1, .int .i64 x.y1]) (by (first | (with_reducible exact Nat.le_refl _) | (with_reducible assumption) | omega | (simp only [World.size_alloc, World.size_setCell, World.size_drew]; omega) | (simp; omega) | (simp; done))) (fun i => (World.cell?_alloc_lt _ _ _ l4).trans (KX4.out i)) (fun i => (World.frozen?_alloc_past _ _ _ (by (first | (with_reducible exact Nat.le_refl _) | (with_reducible assumption) | omega | (simp only [World.size_alloc, World.size_setCell, World.size_drew]; omega) | (simp; omega) | (simp; done)))).trans (FX4.out i))
            obtain ⟨kq5, fq5⟩ := kp hb (b := w4.heap.size) (cs := #[.int .i64 px, .int .i64 py]) (by (first | (with_reducible exact Nat.le_refl _) | (with_reducible assumption) | omega | (simp only [World.size_alloc, World.size_setCell, World.size_drew]; omega) | (simp; omega) | (simp; done))) (fun i => by simp [go_sem]) (fun i => by simp [go_sem])
            have F5 := Lib.hid (F4.out.next (wr' := w5) (Nat.le_refl _) (up (B := w.heap.size + 2) (by (repeat' (first | (with_reducible exact Below.refl _ _) | (with_reducible assumption) | (with_reducible refine Below.alloc ?_ ?_ _) | (with_reducible refine Below.drew ?_) | (with_reducible refine below_drewN ?_ _) | (with_reducible refine Below.setCell ?_ ?_ _) | (with_reducible exact Nat.le_refl _) | omega | (simp only [World.size_alloc, World.size_setCell, World.size_drew]; omega) | (simp; omega) | (simp; done)))) hb (by (first | (with_reducible exact Nat.le_refl _) | (with_reducible assumption) | omega | (simp only [World.size_alloc, World.size_setCell, World.size_drew]; omega) | (simp; omega) | (simp; done)))))
            have z5 := hb.size
            (try simp only [World.size_alloc, World.size_setCell, World.size_drew] at z5)
            clear hb KX4 FX4 F4 p0 p1
            have KX5 := Lib.hid kx5
            have FX5 := Lib.hid fx5
            have q0 := kq5 0
            have q1 := kq5 1
            simp at q0 q1
            clear kx5 fx5 kq5 fq5
            have hf := F5.out.f
            have p0 := hf 0
            have p1 := hf 1
            simp at p0 p1
            have g0 := F5.out.ff 0
            have g1 := F5.out.ff 1
            clear hf
            have l6 : w8.heap.size < w5.heap.size := by omega
            have l7 : w4.heap.size < w5.heap.size := by omega
          · go_wp2_with fail
            go_roundw
            case rel => exact ⟨j + 1, by omega, by go_num, by rw [HS2.out], by rw [HS2.out]; exact F5.out.set (Nat.le_refl _) px py, fun i => (set2_far (by omega) i).trans (KX5.out i), fun i => by rw [World.frozen?_setCell, World.frozen?_setCell]; exact FX5.out i, by (first | (with_reducible exact Nat.le_refl _) | (with_reducible assumption) | omega | (simp only [World.size_alloc, World.size_setCell, World.size_drew]; omega) | (simp; omega) | (simp; done))⟩
            case measure => simp [intOf]; omega
          · go_wp2_with fail
            go_roundw
            case rel => exact ⟨j + 1, by omega, by go_num, by rw [HS2.out], by rw [HS2.out]; exact F5.out, KX5.out, FX5.out, l6⟩
            case measure => simp [intOf]; omega
        · obtain rfl : j = b.length := by omega
          rw [List.take_length] at HG
          rw [List.take_length]
          go_wp2_with fail
          go_roundw
          case rel => exact ⟨k + 1, by omega, by go_num, by rw [HS.out], by rw [HS.out]; exact HG.out⟩
          case measure => simp [intOf]; omega
    · obtain rfl : k = a.length := by omega
      rw [List.take_length] at HF
      have hz : Z = npAll n b (false, 0, 0) a := HZ.out
      rw [← hz] at HF
      clear hz HZ
      have hf := HF.out.f
      have hr := HF.out.r
      have g0 := hf 0
      have g1 := hf 1
      simp at g0 g1
      have q0 := HF.out.rf 0
      have q1 := HF.out.rf 1
      have B1 := HF.out.b
      clear hf HF
      go_wp2_with fail
      have kz := set2 (a := .int .i64 Z.2.1) (b := .int .i64 Z.2.2) hr
      exact bodyPost_ret (v := .agg #[.int .i64 Z.2.1, .int .i64 Z.2.2]) (by simp [results, Try.results36, go_sem, kz]) rfl ⟨rfl, by (repeat' (first | (with_reducible exact Below.refl _ _) | (with_reducible assumption) | (with_reducible refine Below.alloc ?_ ?_ _) | (with_reducible refine Below.drew ?_) | (with_reducible refine below_drewN ?_ _) | (with_reducible refine Below.setCell ?_ ?_ _) | (with_reducible exact Nat.le_refl _) | omega | (simp only [World.size_alloc, World.size_setCell, World.size_drew]; omega) | (simp; omega) | (simp; done)))⟩
end Go.Proofs.Ytjcbngpgmgeanaa

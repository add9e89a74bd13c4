/- The least distance of two regions, of the reference. -/
import Derived.Test.YtjcbngpgmgeanaaLeastA
namespace Go.Proofs.Ytjcbngpgmgeanaa
open Go.RowKit
open Reg (R4)
set_option linter.unusedSimpArgs false
set_option linter.unusedVariables false

set_option maxRecDepth 100000 in
set_option maxHeartbeats 2000000 in
theorem farRegions_any (A B : Option Addr) (a b : List R4) (ca cb : Nat) (w : World) (ha : ∀ r, r ∈ a → Rt r) (hb : ∀ r, r ∈ b → Rt r) (pa : 0 < a.length) (pb : 0 < b.length) (sa : a.length ≤ 140737488355328) (sb : b.length ≤ 140737488355328) (h1 : Rd w A a) (h2 : Rd w B b) :
    Calls Try.prog 40 #[.slice A a.length ca, .slice B b.length cb] w fun e w' => e = .returned (.int .i64 (farRs a b)) ∧ Below w.heap.size w w' := by
  have HA0 := Lib.hid h1
  have HB0 := Lib.hid h2
  have CD := Lib.hid (fun x y (hx : x ∈ a) (hy : y ∈ b) W => farRects_any x y W (ha x hx) (hb y hy))
  obtain ⟨ba, oa, rfl, hba, hca⟩ := h1 pa
  obtain ⟨bb, ob, rfl, hbb, hcb⟩ := h2 pb
  have ea : a[0]? = some a[0] := List.getElem?_eq_getElem pa
  have eb : b[0]? = some b[0] := List.getElem?_eq_getElem pb
  obtain ⟨a0, a1, a2, a3⟩ := hca 0 _ ea
  obtain ⟨b0, b1, b2, b3⟩ := hcb 0 _ eb
  have hda : a.headD ⟨0, 0, 0, 0⟩ = a[0] := by cases a with | nil => simp at pa | cons x t => rfl
  have hdb : b.headD ⟨0, 0, 0, 0⟩ = b[0] := by cases b with | nil => simp at pb | cons x t => rfl
  unfold farRs
  rw [hda, hdb]
  have C0 := Lib.hid (fun W => CD.out a[0] b[0] (List.getElem_mem pa) (List.getElem_mem pb) W)
  have HPA := Lib.hid pa
  clear h1 h2 ha hb hca hcb ea eb hda hdb
  generalize a[0] = x0 at *
  generalize b[0] = y0 at *
  have hmn : ∀ x y : Int, (if y < x then y else x) = min x y := fun x y => by omega
  have hmn' : ∀ x y : Int, (if y < x then Value.int .i64 y else Value.int .i64 x) = Value.int .i64 (min x y) := fun x y => by
    by_cases h : y < x
    · rw [if_pos h, Int.min_eq_right (by omega)]
    · rw [if_neg h, Int.min_eq_left (by omega)]
  generalize hM : farR x0 y0 = M at *
  clear hM
  simp only [Nat.zero_mul, Nat.add_zero] at a0 a1 a2 a3 b0 b1 b2 b3
  simp only [rv] at C0
  have qa : (0 : Int) < (a.length : Int) := by omega
  have qb : (0 : Int) < (b.length : Int) := by omega
  go_enter Try.func40, Try.ntmps40
  go_wp2_with fail
  go_region_held3 (fun w' => w'.cell? ⟨ba, oa, none⟩ = some (.int .i64 x0.x0) ∧ w'.cell? ⟨ba, oa + 1, none⟩ = some (.int .i64 x0.y0) ∧ w'.cell? ⟨ba, oa + 2, none⟩ = some (.int .i64 x0.x1) ∧ w'.cell? ⟨ba, oa + 3, none⟩ = some (.int .i64 x0.y1) ∧ w'.cell? ⟨bb, ob, none⟩ = some (.int .i64 y0.x0) ∧ w'.cell? ⟨bb, ob + 1, none⟩ = some (.int .i64 y0.y0) ∧ w'.cell? ⟨bb, ob + 2, none⟩ = some (.int .i64 y0.x1) ∧ w'.cell? ⟨bb, ob + 3, none⟩ = some (.int .i64 y0.y1)) (first | go_keep | exact ⟨((bcell hb).1 _ _ hba).trans a0, ((bcell hb).1 _ _ hba).trans a1, ((bcell hb).1 _ _ hba).trans a2, ((bcell hb).1 _ _ hba).trans a3, ((bcell hb).1 _ _ hbb).trans b0, ((bcell hb).1 _ _ hbb).trans b1, ((bcell hb).1 _ _ hbb).trans b2, ((bcell hb).1 _ _ hbb).trans b3⟩)
    (first | (go_at_call 64; refine (C0.out _).mono ?_; rintro e w1 ⟨rfl, hb⟩))
  have B1 := Lib.hid hb
  have z1 := hb.size
  (try simp only [World.size_alloc, World.size_setCell, World.size_drew] at z1)
  clear hb
  have BW := Lib.hid (show Below w.heap.size w w1 from up (B := w.heap.size) (w := w) (by (repeat' (first | (with_reducible exact Below.refl _ _) | (with_reducible assumption) | (with_reducible refine Below.alloc ?_ ?_ _) | (with_reducible refine Below.drew ?_) | (with_reducible refine below_drewN ?_ _) | (with_reducible refine Below.setCell ?_ ?_ _) | (with_reducible exact Nat.le_refl _) | omega | (simp only [World.size_alloc, World.size_setCell, World.size_drew]; omega) | (simp; omega) | (simp; done)))) B1.out (by (first | (with_reducible exact Nat.le_refl _) | (with_reducible assumption) | omega | (simp only [World.size_alloc, World.size_setCell, World.size_drew]; omega) | (simp; omega) | (simp; done))))
  clear B1 a0 a1 a2 a3 b0 b1 b2 b3 C0
  go_wp2_with fail
  go_loopw [5, 6] (fun v5 i wr => ∃ k : Nat, k ≤ a.length ∧ i = .int .i64 k ∧ v5 = .int .i64 (least M (dists (a.take k) b)) ∧ Below w.heap.size w wr) (fun _ i _ => a.length - (intOf i).toNat)
  case atStart => exact ⟨0, Nat.zero_le _, rfl, rfl, BW.out⟩
  case round =>
    obtain ⟨k, hk, rfl, rfl, hbw⟩ := hrel
    have zw := hbw.size
    have hkz : (0 : Int) ≤ (k : Int) := by omega
    by_cases hlt : k < a.length
    · have HS := Lib.hid (dists_snoc a b k hlt)
      have CX := Lib.hid (fun y (hy : y ∈ b) W => CD.out a[k] y (List.getElem_mem hlt) hy W)
      have HX := Lib.hid (show a[k]? = some a[k] from List.getElem?_eq_getElem hlt)
      generalize a[k] = x at *
      have hklt : (k : Int) < (a.length : Int) := by omega
      obtain ⟨m0, hm0⟩ : ∃ m0, m0 = least M (dists (a.take k) b) := ⟨_, rfl⟩
      rw [← hm0]
      have HM0 := Lib.hid hm0
      clear hm0
      obtain ⟨w8, rfl⟩ : ∃ w8, w8 = wr := ⟨wr, rfl⟩
      go_wp2_with fail
      go_loopw [5, 7] (fun v5 i wr => ∃ j : Nat, j ≤ b.length ∧ i = .int .i64 j ∧ v5 = .int .i64 (least m0 ((b.take j).map (farR x))) ∧ Below w.heap.size w wr) (fun _ i _ => b.length - (intOf i).toNat)
      case atStart => exact ⟨0, Nat.zero_le _, rfl, rfl, hbw⟩
      case round =>
        obtain ⟨j, hj, rfl, rfl, hbi⟩ := hrel
        have zi := hbi.size
        have hjz : (0 : Int) ≤ (j : Int) := by omega
        by_cases hjl : j < b.length
        · obtain ⟨ba', oa', e, hba', hca⟩ := HA0.out.below hbi HPA.out
          cases e
          obtain ⟨c0, c1, c2, c3⟩ := hca k _ HX.out
          obtain ⟨bb', ob', e, hbb', hcb⟩ := HB0.out.below hbi (by omega)
          cases e
          have hi1 : b[j]? = some b[j] := List.getElem?_eq_getElem hjl
          obtain ⟨f0, f1, f2, f3⟩ := hcb j _ hi1
          have HS2 := Lib.hid (map_snocI (farR x) b j hjl)
          have CY := Lib.hid (fun W => CX.out b[j] (List.getElem_mem hjl) W)
          clear hi1 hcb hca
          generalize b[j] = y at *
          simp only [rv] at CY
          have hjlt : (j : Int) < (b.length : Int) := by omega
          obtain ⟨m1, hm1⟩ : ∃ m1, m1 = least m0 ((b.take j).map (farR x)) := ⟨_, rfl⟩
          rw [← hm1]
          have HM1 := Lib.hid hm1
          clear hm1
          generalize hD : farR x y = D at *
          clear hD
          go_wp2_with fail
          go_region_held3 (fun w' => w'.cell? ⟨ba, oa + k * 4, none⟩ = some (.int .i64 x.x0) ∧ w'.cell? ⟨ba, oa + k * 4 + 1, none⟩ = some (.int .i64 x.y0) ∧ w'.cell? ⟨ba, oa + k * 4 + 2, none⟩ = some (.int .i64 x.x1) ∧ w'.cell? ⟨ba, oa + k * 4 + 3, none⟩ = some (.int .i64 x.y1) ∧ w'.cell? ⟨bb, ob + j * 4, none⟩ = some (.int .i64 y.x0) ∧ w'.cell? ⟨bb, ob + j * 4 + 1, none⟩ = some (.int .i64 y.y0) ∧ w'.cell? ⟨bb, ob + j * 4 + 2, none⟩ = some (.int .i64 y.x1) ∧ w'.cell? ⟨bb, ob + j * 4 + 3, none⟩ = some (.int .i64 y.y1)) (first | go_keep | exact ⟨((bcell hb).1 _ _ hba').trans c0, ((bcell hb).1 _ _ hba').trans c1, ((bcell hb).1 _ _ hba').trans c2, ((bcell hb).1 _ _ hba').trans c3, ((bcell hb).1 _ _ hbb').trans f0, ((bcell hb).1 _ _ hbb').trans f1, ((bcell hb).1 _ _ hbb').trans f2, ((bcell hb).1 _ _ hbb').trans f3⟩)
            (first | (go_at_call 64; refine (CY.out _).mono ?_; rintro e w5 ⟨rfl, hb⟩; have B5 := up (B := w.heap.size) (w := w) (by (repeat' (first | (with_reducible exact Below.refl _ _) | (with_reducible assumption) | (with_reducible refine Below.alloc ?_ ?_ _) | (with_reducible refine Below.drew ?_) | (with_reducible refine below_drewN ?_ _) | (with_reducible refine Below.setCell ?_ ?_ _) | (with_reducible exact Nat.le_refl _) | omega | (simp only [World.size_alloc, World.size_setCell, World.size_drew]; omega) | (simp; omega) | (simp; done)))) hb (by (first | (with_reducible exact Nat.le_refl _) | (with_reducible assumption) | omega | (simp only [World.size_alloc, World.size_setCell, World.size_drew]; omega) | (simp; omega) | (simp; done)))))
          clear hb
          go_wp2_with fail
          go_roundw
          case rel => exact ⟨j + 1, by omega, by go_num, by rw [HS2.out, least_append, ← HM1.out]; rfl, B5⟩
          case measure => simp [intOf]; omega
        · obtain rfl : j = b.length := by omega
          rw [List.take_length]
          go_wp2_with fail
          go_roundw
          case rel => exact ⟨k + 1, by omega, by go_num, by rw [HS.out, least_append, ← HM0.out], hbi⟩
          case measure => simp [intOf]; omega
    · obtain rfl : k = a.length := by omega
      rw [List.take_length]
      go_wp2_with fail
      go_ret
      exact ⟨rfl, hbw⟩
end Go.Proofs.Ytjcbngpgmgeanaa

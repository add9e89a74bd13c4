/- GapOf of the reference, whatever the world. -/
import Derived.Test.YtjcbngpgmgeanaaGapE
import Derived.Test.YtjcbngpgmgeanaaGapC
import Derived.Test.YtjcbngpgmgeanaaLeastB
namespace Go.Proofs.Ytjcbngpgmgeanaa
open Go.RowKit
open Reg (R4)
set_option linter.unusedSimpArgs false
set_option linter.unusedVariables false

/-- A gap's value. -/
abbrev gv (g : G7) : Value := .agg #[.int .i64 g.a, .int .i64 g.b, .int .i64 g.d, .int .i64 g.fx, .int .i64 g.fy, .int .i64 g.tx, .int .i64 g.ty]
theorem set7 {W : World} {g : Nat} {p q r s t u v a b c d e f h : Value} (hc : ∀ i, W.cell? ⟨g, i, none⟩ = (#[p, q, r, s, t, u, v])[i]?) :
    ∀ i, (((((((W.setCell ⟨g, 0, none⟩ a).setCell ⟨g, 1, none⟩ b).setCell ⟨g, 2, none⟩ c).setCell ⟨g, 3, none⟩ d).setCell ⟨g, 4, none⟩ e).setCell ⟨g, 5, none⟩ f).setCell ⟨g, 6, none⟩ h).cell? ⟨g, i, none⟩ = (#[a, b, c, d, e, f, h])[i]? := by
  have h0 : ∀ i, (W.setCell ⟨g, 0, none⟩ a).cell? ⟨g, i, none⟩ = (#[a, q, r, s, t, u, v])[i]? := one_set hc (j := 0) (v := a) (by simp)
  have h1 := one_set h0 (j := 1) (v := b) (by simp)
  have h1' : ∀ i, _ = (#[a, b, r, s, t, u, v])[i]? := h1
  have h2 := one_set h1' (j := 2) (v := c) (by simp)
  have h2' : ∀ i, _ = (#[a, b, c, s, t, u, v])[i]? := h2
  have h3 := one_set h2' (j := 3) (v := d) (by simp)
  have h3' : ∀ i, _ = (#[a, b, c, d, t, u, v])[i]? := h3
  have h4 := one_set h3' (j := 4) (v := e) (by simp)
  have h4' : ∀ i, _ = (#[a, b, c, d, e, u, v])[i]? := h4
  have h5 := one_set h4' (j := 5) (v := f) (by simp)
  have h5' : ∀ i, _ = (#[a, b, c, d, e, f, v])[i]? := h5
  exact one_set h5' (j := 6) (v := h) (by simp)
theorem set7_far {W : World} {g h : Nat} {a b c d e f k : Value} (hn : h ≠ g) (i : Nat) :
    (((((((W.setCell ⟨h, 0, none⟩ a).setCell ⟨h, 1, none⟩ b).setCell ⟨h, 2, none⟩ c).setCell ⟨h, 3, none⟩ d).setCell ⟨h, 4, none⟩ e).setCell ⟨h, 5, none⟩ f).setCell ⟨h, 6, none⟩ k).cell? ⟨g, i, none⟩ = W.cell? ⟨g, i, none⟩ := by
  rw [World.cell?_setCell_far _ _ _ _ hn, World.cell?_setCell_far _ _ _ _ hn, World.cell?_setCell_far _ _ _ _ hn, World.cell?_setCell_far _ _ _ _ hn, World.cell?_setCell_far _ _ _ _ hn, World.cell?_setCell_far _ _ _ _ hn, World.cell?_setCell_far _ _ _ _ hn]
set_option maxRecDepth 100000 in
set_option maxHeartbeats 4000000 in
theorem gapOf_any (A B : Option Addr) (a b : List R4) (ca cb : Nat) (w : World) (ha : ∀ r, r ∈ a → Rg r) (hb : ∀ r, r ∈ b → Rg r) (pa : 0 < a.length) (pb : 0 < b.length) (sa : a.length ≤ 140737488355328) (sb : b.length ≤ 140737488355328) (h1 : Rd w A a) (h2 : Rd w B b) :
    Calls Try.prog 41 #[.slice A a.length ca, .slice B b.length cb] w fun e w' => e = .returned (gv { gapOf 0 0 a b with a := 0, b := 0 }) ∧ Below w.heap.size w w' := by
  have HA0 := Lib.hid h1
  have HB0 := Lib.hid h2
  obtain ⟨n0, n1⟩ := farRs_bound pa pb ha hb
  have C1 := Lib.hid (fun W h1 h2 => farRegions_any A B a b ca cb W (fun r hr => rt_of (ha r hr)) (fun r hr => rt_of (hb r hr)) pa pb sa sb h1 h2)
  have C2 := Lib.hid (fun W h1 h2 => nearest_any A B a b ca cb (farRs a b) W ha hb sa sb n0 n1 h1 h2)
  have hs := sq_rg ha hb n0
  have C3 := Lib.hid (fun S W h1 h2 => nearest_any B S b [sqAt (npF (farRs a b) a b).2.1 (npF (farRs a b) a b).2.2] cb 1 (farRs a b) W hb (fun r hr => by rw [List.mem_singleton.1 hr]; exact hs) sb (by simp) n0 n1 h1 h2)
  obtain ⟨r0, r1, r2, r3⟩ := npF_range (n := farRs a b) ha hb n0
  have hg : gapOf 0 0 a b = ⟨0, 0, farRs a b - 1, (npF (farRs a b) a b).2.1, (npF (farRs a b) a b).2.2, (npF (farRs a b) b [sqAt (npF (farRs a b) a b).2.1 (npF (farRs a b) a b).2.2]).2.1, (npF (farRs a b) b [sqAt (npF (farRs a b) a b).2.1 (npF (farRs a b) a b).2.2]).2.2⟩ := rfl
  rw [hg]
  clear hg hs h1 h2 ha hb
  simp only [List.length_singleton] at C3
  generalize farRs a b = n at *
  generalize npF n b [sqAt (npF n a b).2.1 (npF n a b).2.2] = T at *
  generalize npF n a b = F at *
  obtain ⟨f0, fx, fy⟩ := F
  obtain ⟨t0, tx, ty⟩ := T
  simp only at C2 C3 r0 r1 r2 r3 ⊢
  go_enter Try.func41, Try.ntmps41
  go_wp2_with fail
  refine (C1.out _ (HA0.out.below (by (repeat' (first | (with_reducible exact Below.refl _ _) | (with_reducible assumption) | (with_reducible refine Below.alloc ?_ ?_ _) | (with_reducible refine Below.drew ?_) | (with_reducible refine below_drewN ?_ _) | (with_reducible refine Below.setCell ?_ ?_ _) | (with_reducible exact Nat.le_refl _) | omega | (simp only [World.size_alloc, World.size_setCell, World.size_drew]; omega) | (simp; omega) | (simp; done))))) (HB0.out.below (by (repeat' (first | (with_reducible exact Below.refl _ _) | (with_reducible assumption) | (with_reducible refine Below.alloc ?_ ?_ _) | (with_reducible refine Below.drew ?_) | (with_reducible refine below_drewN ?_ _) | (with_reducible refine Below.setCell ?_ ?_ _) | (with_reducible exact Nat.le_refl _) | omega | (simp only [World.size_alloc, World.size_setCell, World.size_drew]; omega) | (simp; omega) | (simp; done)))))).mono ?_
  rintro e w1 ⟨rfl, hb⟩
  have B1 := up (B := w.heap.size) (w := w) (by (repeat' (first | (with_reducible exact Below.refl _ _) | (with_reducible assumption) | (with_reducible refine Below.alloc ?_ ?_ _) | (with_reducible refine Below.drew ?_) | (with_reducible refine below_drewN ?_ _) | (with_reducible refine Below.setCell ?_ ?_ _) | (with_reducible exact Nat.le_refl _) | omega | (simp only [World.size_alloc, World.size_setCell, World.size_drew]; omega) | (simp; omega) | (simp; done)))) hb (by (first | (with_reducible exact Nat.le_refl _) | (with_reducible assumption) | omega | (simp only [World.size_alloc, World.size_setCell, World.size_drew]; omega) | (simp; omega) | (simp; done)))
  obtain ⟨k1, g1⟩ := kp hb (b := w.heap.size) (cs := #[.int .i64 0, .int .i64 0, .int .i64 0, .int .i64 0, .int .i64 0, .int .i64 0, .int .i64 0]) (by (first | (with_reducible exact Nat.le_refl _) | (with_reducible assumption) | omega | (simp only [World.size_alloc, World.size_setCell, World.size_drew]; omega) | (simp; omega) | (simp; done))) (fun i => by simp [go_sem]) (fun i => by simp [go_sem])
  have z1 := hb.size
  (try simp only [World.size_alloc, World.size_setCell, World.size_drew] at z1)
  clear hb
  have K1 := Lib.hid k1
  have G1 := Lib.hid g1
  clear k1 g1
  go_wp2_with fail
  refine (C2.out _ (HA0.out.below (by (repeat' (first | (with_reducible exact Below.refl _ _) | (with_reducible assumption) | (with_reducible refine Below.alloc ?_ ?_ _) | (with_reducible refine Below.drew ?_) | (with_reducible refine below_drewN ?_ _) | (with_reducible refine Below.setCell ?_ ?_ _) | (with_reducible exact Nat.le_refl _) | omega | (simp only [World.size_alloc, World.size_setCell, World.size_drew]; omega) | (simp; omega) | (simp; done))))) (HB0.out.below (by (repeat' (first | (with_reducible exact Below.refl _ _) | (with_reducible assumption) | (with_reducible refine Below.alloc ?_ ?_ _) | (with_reducible refine Below.drew ?_) | (with_reducible refine below_drewN ?_ _) | (with_reducible refine Below.setCell ?_ ?_ _) | (with_reducible exact Nat.le_refl _) | omega | (simp only [World.size_alloc, World.size_setCell, World.size_drew]; omega) | (simp; omega) | (simp; done)))))).mono ?_
  rintro e w2 ⟨rfl, hb⟩
  have B2 := up (B := w.heap.size) (w := w) (by (repeat' (first | (with_reducible exact Below.refl _ _) | (with_reducible assumption) | (with_reducible refine Below.alloc ?_ ?_ _) | (with_reducible refine Below.drew ?_) | (with_reducible refine below_drewN ?_ _) | (with_reducible refine Below.setCell ?_ ?_ _) | (with_reducible exact Nat.le_refl _) | omega | (simp only [World.size_alloc, World.size_setCell, World.size_drew]; omega) | (simp; omega) | (simp; done)))) hb (by (first | (with_reducible exact Nat.le_refl _) | (with_reducible assumption) | omega | (simp only [World.size_alloc, World.size_setCell, World.size_drew]; omega) | (simp; omega) | (simp; done)))
  obtain ⟨k2, g2⟩ := kp hb (b := w.heap.size) (cs := #[.int .i64 0, .int .i64 0, .int .i64 0, .int .i64 0, .int .i64 0, .int .i64 0, .int .i64 0]) (by (first | (with_reducible exact Nat.le_refl _) | (with_reducible assumption) | omega | (simp only [World.size_alloc, World.size_setCell, World.size_drew]; omega) | (simp; omega) | (simp; done))) K1.out G1.out
  have z2 := hb.size
  clear hb K1 G1
  have K2 := Lib.hid k2
  have G2 := Lib.hid g2
  clear k2 g2
  go_wp2_with fail
  refine (C3.out _ _ (HB0.out.below (by (repeat' (first | (with_reducible exact Below.refl _ _) | (with_reducible assumption) | (with_reducible refine Below.alloc ?_ ?_ _) | (with_reducible refine Below.drew ?_) | (with_reducible refine below_drewN ?_ _) | (with_reducible refine Below.setCell ?_ ?_ _) | (with_reducible exact Nat.le_refl _) | omega | (simp only [World.size_alloc, World.size_setCell, World.size_drew]; omega) | (simp; omega) | (simp; done))))) (rd_one (by (first | (with_reducible exact Nat.le_refl _) | (with_reducible assumption) | omega | (simp only [World.size_alloc, World.size_setCell, World.size_drew]; omega) | (simp; omega) | (simp; done))) (fun i => by simp [go_sem, sqAt]))).mono ?_
  rintro e w3 ⟨rfl, hb⟩
  have B3 := up (B := w.heap.size) (w := w) (by (repeat' (first | (with_reducible exact Below.refl _ _) | (with_reducible assumption) | (with_reducible refine Below.alloc ?_ ?_ _) | (with_reducible refine Below.drew ?_) | (with_reducible refine below_drewN ?_ _) | (with_reducible refine Below.setCell ?_ ?_ _) | (with_reducible exact Nat.le_refl _) | omega | (simp only [World.size_alloc, World.size_setCell, World.size_drew]; omega) | (simp; omega) | (simp; done)))) hb (by (first | (with_reducible exact Nat.le_refl _) | (with_reducible assumption) | omega | (simp only [World.size_alloc, World.size_setCell, World.size_drew]; omega) | (simp; omega) | (simp; done)))
  obtain ⟨k3, g3⟩ := kp hb (b := w.heap.size) (cs := #[.int .i64 0, .int .i64 0, .int .i64 0, .int .i64 0, .int .i64 0, .int .i64 0, .int .i64 0]) (by (first | (with_reducible exact Nat.le_refl _) | (with_reducible assumption) | omega | (simp only [World.size_alloc, World.size_setCell, World.size_drew]; omega) | (simp; omega) | (simp; done))) (fun i => (World.cell?_alloc_lt _ _ _ (by (first | (with_reducible exact Nat.le_refl _) | (with_reducible assumption) | omega | (simp only [World.size_alloc, World.size_setCell, World.size_drew]; omega) | (simp; omega) | (simp; done)))).trans ((World.cell?_alloc_lt _ _ _ (by (first | (with_reducible exact Nat.le_refl _) | (with_reducible assumption) | omega | (simp only [World.size_alloc, World.size_setCell, World.size_drew]; omega) | (simp; omega) | (simp; done)))).trans (K2.out i))) (fun i => (World.frozen?_alloc_past _ _ _ (by (first | (with_reducible exact Nat.le_refl _) | (with_reducible assumption) | omega | (simp only [World.size_alloc, World.size_setCell, World.size_drew]; omega) | (simp; omega) | (simp; done)))).trans ((World.frozen?_alloc_past _ _ _ (by (first | (with_reducible exact Nat.le_refl _) | (with_reducible assumption) | omega | (simp only [World.size_alloc, World.size_setCell, World.size_drew]; omega) | (simp; omega) | (simp; done)))).trans (G2.out i)))
  obtain ⟨q3, p3⟩ := kp hb (b := w2.heap.size) (cs := #[.int .i64 fx, .int .i64 fy]) (by (first | (with_reducible exact Nat.le_refl _) | (with_reducible assumption) | omega | (simp only [World.size_alloc, World.size_setCell, World.size_drew]; omega) | (simp; omega) | (simp; done))) (fun i => by simp [go_sem]) (fun i => by simp [go_sem])
  have z3 := hb.size
  (try simp only [World.size_alloc, World.size_setCell, World.size_drew] at z3)
  clear hb K2 G2
  have q30 := q3 0
  have q31 := q3 1
  simp at q30 q31
  clear q3 p3
  have n1 : w2.heap.size < w3.heap.size := by omega
  have n2 : w.heap.size < w3.heap.size := by omega
  go_wp2_with fail
  have kz := set7 (a := .int .i64 0) (b := .int .i64 0) (c := .int .i64 (n - 1)) (d := .int .i64 fx) (e := .int .i64 fy) (f := .int .i64 tx) (h := .int .i64 ty) k3
  exact bodyPost_ret (v := gv ⟨0, 0, n - 1, fx, fy, tx, ty⟩) (by simp [results, Try.results41, go_sem, kz, n2]) rfl ⟨rfl, by (repeat' (first | (with_reducible exact Below.refl _ _) | (with_reducible assumption) | (with_reducible refine Below.alloc ?_ ?_ _) | (with_reducible refine Below.drew ?_) | (with_reducible refine below_drewN ?_ _) | (with_reducible refine Below.setCell ?_ ?_ _) | (with_reducible exact Nat.le_refl _) | omega | (simp only [World.size_alloc, World.size_setCell, World.size_drew]; omega) | (simp; omega) | (simp; done)))⟩
end Go.Proofs.Ytjcbngpgmgeanaa

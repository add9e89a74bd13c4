/- around, Bounds and Area of package shape say what their plain counterparts say, whatever the world. -/
import Derived.Test.YtmcbjaefnhfopaaGreatShapeF
namespace Go.Proofs.YtmcbjaefnhfopaaGreat
open Go.RowKit
open Reg (R4)
set_option linter.unusedSimpArgs false
set_option linter.unusedVariables false

theorem one_set {W : World} {g j : Nat} {v : Value} {cs : Array Value} (hc : ∀ i, W.cell? ⟨g, i, none⟩ = cs[i]?) (hj : j < cs.size) : ∀ i, (W.setCell ⟨g, j, none⟩ v).cell? ⟨g, i, none⟩ = (cs.setIfInBounds j v)[i]? := by
  intro i
  by_cases h : j = i
  · subst h
    rw [World.cell?_setCell_same' _ _ _ (by rw [hc j]; simp [hj])]
    simp [hj]
  · rw [World.cell?_setCell_other _ _ _ _ (by simp [h]), hc i]
    simp [Array.getElem?_setIfInBounds, h]
theorem set4 {W : World} {g : Nat} {p q r s a b c d : Value} (hc : ∀ i, W.cell? ⟨g, i, none⟩ = (#[p, q, r, s])[i]?) : ∀ i, ((((W.setCell ⟨g, 0, none⟩ a).setCell ⟨g, 1, none⟩ b).setCell ⟨g, 2, none⟩ c).setCell ⟨g, 3, none⟩ d).cell? ⟨g, i, none⟩ = (#[a, b, c, d])[i]? :=
  one_set (one_set (one_set (one_set hc (j := 0) (v := a) (by simp)) (j := 1) (v := b) (by simp)) (j := 2) (v := c) (by simp)) (j := 3) (v := d) (by simp)
theorem set4_far {W : World} {g h : Nat} {a b c d : Value} (hn : h ≠ g) (i : Nat) : ((((W.setCell ⟨h, 0, none⟩ a).setCell ⟨h, 1, none⟩ b).setCell ⟨h, 2, none⟩ c).setCell ⟨h, 3, none⟩ d).cell? ⟨g, i, none⟩ = W.cell? ⟨g, i, none⟩ := by
  rw [World.cell?_setCell_far _ _ _ _ hn, World.cell?_setCell_far _ _ _ _ hn, World.cell?_setCell_far _ _ _ _ hn, World.cell?_setCell_far _ _ _ _ hn]

def joinR (a b : R4) : R4 := ⟨minI a.x0 b.x0, minI a.y0 b.y0, maxI a.x1 b.x1, maxI a.y1 b.y1⟩
def aroundF : R4 → List R4 → R4
  | a, [] => a
  | a, r :: t => aroundF (joinR a r) t
def aroundR : List R4 → R4
  | [] => ⟨0, 0, 0, 0⟩
  | r :: t => aroundF r (r :: t)

set_option maxRecDepth 100000 in
set_option maxHeartbeats 1000000 in
theorem around_any (A : Option Addr) (l : List R4) (c : Nat) (w : World) (hpos : 0 < l.length) (hl : l.length ≤ 140737488355328) (h : Rd w A l) :
    Calls Tryz.prog 33 #[.slice A l.length c] w fun e w' => e = .returned (rv (aroundR l)) ∧ Below w.heap.size w w' := by
  have H0 := Lib.hid h
  obtain ⟨b, off, rfl, hblt, hcs⟩ := h hpos
  have hmx : ∀ x y : Int, (if x < y then y else x) = maxI x y := fun _ _ => rfl
  have hmn : ∀ x y : Int, (if y < x then y else x) = minI x y := fun _ _ => rfl
  have hmx' : ∀ x y : Int, (if x < y then Value.int .i64 y else Value.int .i64 x) = Value.int .i64 (maxI x y) := fun _ _ => by unfold maxI; split <;> rfl
  have hmn' : ∀ x y : Int, (if y < x then Value.int .i64 y else Value.int .i64 x) = Value.int .i64 (minI x y) := fun _ _ => by unfold minI; split <;> rfl
  obtain ⟨r, t, rfl⟩ : ∃ r t, l = r :: t := by cases l with
    | nil => simp at hpos
    | cons r t => exact ⟨r, t, rfl⟩
  obtain ⟨c0, c1, c2, c3⟩ := hcs 0 r rfl
  simp only [Nat.zero_mul, Nat.add_zero] at c0 c1 c2 c3
  clear hcs
  have hll : (r :: t).length = t.length + 1 := rfl
  have hz0 : (0 : Int) < (t.length : Int) + 1 := by omega
  rw [hll] at hl ⊢
  have HLL := Lib.hid hll
  clear hll hpos
  go_enter Tryz.func33, Tryz.ntmps33
  go_wp2_with fail
  go_loopw [11] (fun i wr => ∃ (k : Nat) (a : R4), k ≤ t.length + 1 ∧ i = .int .i64 k ∧ aroundR (r :: t) = aroundF a ((r :: t).drop k) ∧ (∀ i, wr.cell? ⟨w.heap.size + 1, i, none⟩ = (#[Value.int .i64 a.x0, .int .i64 a.y0, .int .i64 a.x1, .int .i64 a.y1])[i]?) ∧ (∀ i, wr.frozen? ⟨w.heap.size + 1, i, none⟩ = false) ∧ (∀ i, wr.cell? ⟨w.heap.size, i, none⟩ = (#[Value.int .i64 0, .int .i64 0, .int .i64 0, .int .i64 0])[i]?) ∧ (∀ i, wr.frozen? ⟨w.heap.size, i, none⟩ = false) ∧ w.heap.size + 2 ≤ wr.heap.size ∧ Below w.heap.size w wr) (fun i _ => t.length + 1 - (intOf i).toNat)
  case atStart => exact ⟨0, r, by omega, rfl, rfl, fun i => by simp [go_sem], fun i => by simp [go_sem], fun i => by simp [go_sem], fun i => by simp [go_sem], by simp, by (repeat' (first | (with_reducible exact Below.refl _ _) | (with_reducible assumption) | (with_reducible refine Below.alloc ?_ ?_ _) | (with_reducible refine Below.drew ?_) | (with_reducible refine below_drewN ?_ _) | (with_reducible refine Below.setCell ?_ ?_ _) | (with_reducible exact Nat.le_refl _) | omega | (simp only [World.size_alloc, World.size_setCell, World.size_drew]; omega) | (simp; omega) | (simp; done)))⟩
  case round =>
    obtain ⟨k, a, hk, rfl, hf, ka, fa, kb, fb, hsz, hbw⟩ := hrel
    have zw := hbw.size
    have HF := Lib.hid hf
    clear hf
    have hkz : (0 : Int) ≤ (k : Int) := by omega
    have l1 : w.heap.size + 1 < wr.heap.size := by omega
    have l0 : w.heap.size < wr.heap.size := by omega
    have n1 : ¬ w.heap.size + 1 = wr.heap.size := by omega
    have n2 : ¬ wr.heap.size = w.heap.size + 1 := by omega
    have n3 : ¬ w.heap.size = wr.heap.size := by omega
    have n4 : ¬ wr.heap.size = w.heap.size := by omega
    by_cases hlt : k < t.length + 1
    · have hlt' : k < (r :: t).length := by simpa using hlt
      obtain ⟨b', off', e, hblt', hcs⟩ := (H0.out.below hbw) (by simp)
      cases e
      have hi : (r :: t)[k]? = some (r :: t)[k] := List.getElem?_eq_getElem hlt'
      obtain ⟨d0, d1, d2, d3⟩ := hcs k _ hi
      have hd : (r :: t).drop k = (r :: t)[k] :: (r :: t).drop (k + 1) := List.drop_eq_getElem_cons hlt'
      have HD := Lib.hid hd
      clear hd hi hcs
      generalize (r :: t)[k] = u at *
      have hklt : (k : Int) < (t.length : Int) + 1 := by omega
      have hn : aroundR (r :: t) = aroundF (joinR a u) ((r :: t).drop (k + 1)) := by rw [HF.out, HD.out]; rfl
      have HN := Lib.hid hn
      clear hn
      go_wp2_with fail
      go_roundw
      case rel =>
        refine ⟨k + 1, joinR a u, by omega, by go_num, HN.out, ?_, ?_, ?_, ?_, ?_, ?_⟩
        · exact fun i => (World.cell?_alloc_lt _ _ _ (by simp; omega)).trans (set4 ka i)
        · exact fun i => (World.frozen?_alloc_past _ _ _ (by simp; omega)).trans (by rw [World.frozen?_setCell, World.frozen?_setCell, World.frozen?_setCell, World.frozen?_setCell]; exact fa i)
        · exact fun i => (World.cell?_alloc_lt _ _ _ (by simp; omega)).trans ((set4_far (by simp) i).trans (kb i))
        · exact fun i => (World.frozen?_alloc_past _ _ _ (by simp; omega)).trans (by rw [World.frozen?_setCell, World.frozen?_setCell, World.frozen?_setCell, World.frozen?_setCell]; exact fb i)
        · (first | (with_reducible exact Nat.le_refl _) | (with_reducible assumption) | omega | (simp only [World.size_alloc, World.size_setCell, World.size_drew]; omega) | (simp; omega) | (simp; done))
        · (repeat' (first | (with_reducible exact Below.refl _ _) | (with_reducible assumption) | (with_reducible refine Below.alloc ?_ ?_ _) | (with_reducible refine Below.drew ?_) | (with_reducible refine below_drewN ?_ _) | (with_reducible refine Below.setCell ?_ ?_ _) | (with_reducible exact Nat.le_refl _) | omega | (simp only [World.size_alloc, World.size_setCell, World.size_drew]; omega) | (simp; omega) | (simp; done)))
      case measure => simp [intOf]; omega
    · obtain rfl : k = t.length + 1 := by omega
      have hn : aroundR (r :: t) = a := by rw [HF.out, List.drop_of_length_le (by simp)]; rfl
      have HN := Lib.hid hn
      clear hn
      go_wp2_with fail
      have kz := set4 (a := .int .i64 a.x0) (b := .int .i64 a.y0) (c := .int .i64 a.x1) (d := .int .i64 a.y1) kb
      rw [HN.out]
      exact bodyPost_ret (v := rv a) (by simp [results, Tryz.results33, go_sem, kz]) rfl ⟨rfl, by (repeat' (first | (with_reducible exact Below.refl _ _) | (with_reducible assumption) | (with_reducible refine Below.alloc ?_ ?_ _) | (with_reducible refine Below.drew ?_) | (with_reducible refine below_drewN ?_ _) | (with_reducible refine Below.setCell ?_ ?_ _) | (with_reducible exact Nat.le_refl _) | omega | (simp only [World.size_alloc, World.size_setCell, World.size_drew]; omega) | (simp; omega) | (simp; done)))⟩

/-- What Bounds says. -/
def boundsR (l : List R4) : R4 := if regF l = 0 then aroundR l else ⟨0, 0, 0, 0⟩
def boundsB (l : List R4) : Bool := decide (regF l = 0) && decide (0 < l.length)
/-- The area of rectangles. -/
def areaL (l : List R4) : Int := (l.map fun r => (r.x1 - r.x0) * (r.y1 - r.y0)).sum
theorem rect_in {l : List R4} (h : rectsF l = 0) : ∀ r, r ∈ l → In6 r.x0 ∧ In6 r.y0 ∧ In6 r.x1 ∧ In6 r.y1 ∧ r.x0 < r.x1 ∧ r.y0 < r.y1 := by
  unfold rectsF at h
  split at h
  · cases h
  · rename_i hlen
    clear hlen
    induction l with
    | nil => intro r hr; cases hr
    | cons a l ih =>
      simp only [firstBad] at h
      split at h
      · rename_i h0
        intro r hr
        rcases List.mem_cons.1 hr with rfl | hr
        · unfold rectF at h0
          split at h0
          · rename_i hk
            split at h0
            · cases h0
            · simp only [rectOk, Bool.and_eq_true] at hk
              exact ⟨okAt_in hk.1.1.1, okAt_in hk.1.1.2, okAt_in hk.1.2, okAt_in hk.2, by omega, by omega⟩
          · cases h0
        · exact ih h r hr
      · rename_i h0; exact absurd h h0
theorem regF_rects {l : List R4} (h : regF l = 0) : rectsF l = 0 := by
  unfold regF at h
  split at h
  · assumption
  · rename_i h0; exact absurd h h0
theorem mul_bound {a b : Int} (h1 : 0 ≤ a) (h2 : a ≤ 2000000) (h3 : 0 ≤ b) (h4 : b ≤ 2000000) : 0 ≤ a * b ∧ a * b ≤ 4000000000000 :=
  ⟨Int.mul_nonneg h1 h3, Int.le_trans (Int.mul_le_mul h2 h4 h3 (by omega)) (by decide)⟩
theorem area_bound {l : List R4} (h : ∀ r, r ∈ l → In6 r.x0 ∧ In6 r.y0 ∧ In6 r.x1 ∧ In6 r.y1 ∧ r.x0 < r.x1 ∧ r.y0 < r.y1) : 0 ≤ areaL l ∧ areaL l ≤ (l.length : Int) * 4000000000000 := by
  induction l with
  | nil => simp [areaL]
  | cons r l ih =>
    have h1 := ih fun u hu => h u (List.mem_cons_of_mem _ hu)
    obtain ⟨a1, a2, a3, a4, a5, a6⟩ := h r List.mem_cons_self
    have h2 := mul_bound (a := r.x1 - r.x0) (b := r.y1 - r.y0) (by omega) (by omega) (by omega) (by omega)
    simp only [areaL, List.map_cons, List.sum_cons, List.length_cons] at h1 ⊢
    omega
def areaF (l : List R4) : Int := if regF l = 0 then areaL l else 0

set_option maxRecDepth 100000 in
set_option maxHeartbeats 1000000 in
theorem area_any (A : Option Addr) (l : List R4) (c : Nat) (w : World) (hl : l.length ≤ c) (hc : c ≤ 140737488355328) (h : Rd w A l) :
    Calls Tryz.prog 12 #[.slice A l.length c] w fun e w' => e = .returned (.tuple #[.int .i64 (areaF l), .int .i64 (regF l)]) ∧ Below w.heap.size w w' := by
  have H0 := Lib.hid h
  have C1 := Lib.hid (fun W h => checkRegion_any A l c W hl hc h)
  clear h
  by_cases h0 : regF l = 0
  · have hA : areaF l = areaL l := if_pos h0
    have HR := Lib.hid (rect_in (regF_rects h0))
    obtain ⟨_, h2000⟩ := (show Reg.Good l ∧ l.length ≤ 2000 from by
      have h := regF_rects h0
      refine ⟨fun r hr => ⟨(rect_in h r hr).2.2.2.2.1, (rect_in h r hr).2.2.2.2.2⟩, ?_⟩
      unfold rectsF at h
      split at h
      · cases h
      · omega)
    rw [hA, h0]
    rw [h0] at C1
    clear h0 hA
    go_enter Tryz.func12, Tryz.ntmps12
    go_wp2_with fail
    refine (C1.out _ H0.out).mono ?_
    rintro e w1 ⟨rfl, hb⟩
    have B1 := up (B := w.heap.size) (w := w) (by (repeat' (first | (with_reducible exact Below.refl _ _) | (with_reducible assumption) | (with_reducible refine Below.alloc ?_ ?_ _) | (with_reducible refine Below.drew ?_) | (with_reducible refine below_drewN ?_ _) | (with_reducible refine Below.setCell ?_ ?_ _) | (with_reducible exact Nat.le_refl _) | omega | (simp only [World.size_alloc, World.size_setCell, World.size_drew]; omega) | (simp; omega) | (simp; done)))) hb (by (first | (with_reducible exact Nat.le_refl _) | (with_reducible assumption) | omega | (simp only [World.size_alloc, World.size_setCell, World.size_drew]; omega) | (simp; omega) | (simp; done)))
    have z1 := B1.size
    clear hb
    go_wp2_with fail
    go_loopw [5, 15] (fun v i wr => ∃ k : Nat, k ≤ l.length ∧ i = .int .i64 k ∧ v = .int .i64 (areaL (l.take k)) ∧ Below w.heap.size w wr) (fun _ i _ => l.length - (intOf i).toNat)
    case atStart => exact ⟨0, Nat.zero_le _, rfl, rfl, B1⟩
    case round =>
      obtain ⟨k, hk, rfl, rfl, hbw⟩ := hrel
      have zw := hbw.size
      have hkz : (0 : Int) ≤ (k : Int) := by omega
      have hab := area_bound (l := l.take k) (fun r hr => HR.out r (List.mem_of_mem_take hr))
      have htl : (l.take k).length ≤ 2000 := by rw [List.length_take]; omega
      obtain ⟨ha0, ha1⟩ := hab
      have ha2 : areaL (l.take k) ≤ 8000000000000000 := by omega
      clear ha1 htl
      by_cases hlt : k < l.length
      · obtain ⟨b, off, rfl, hblt, hcs⟩ := (H0.out.below hbw) (by omega)
        have hi : l[k]? = some l[k] := List.getElem?_eq_getElem hlt
        obtain ⟨c0, c1, c2, c3⟩ := hcs k _ hi
        have ht : areaL (l.take (k + 1)) = areaL (l.take k) + (l[k].x1 - l[k].x0) * (l[k].y1 - l[k].y0) := by
          rw [List.take_succ_eq_append_getElem hlt, areaL, areaL, List.map_append, List.sum_append]
          simp only [List.map_cons, List.map_nil, List.sum_cons, List.sum_nil, Int.add_zero]
        obtain ⟨r0, r1, r2, r3, r4, r5⟩ := HR.out _ (List.getElem_mem hlt)
        have hm := mul_bound (a := l[k].x1 - l[k].x0) (b := l[k].y1 - l[k].y0) (by omega) (by omega) (by omega) (by omega)
        clear hi hcs
        generalize l[k] = r at *
        have hpe : ∃ P, P = (r.x1 - r.x0) * (r.y1 - r.y0) := ⟨_, rfl⟩
        obtain ⟨P, hP⟩ := hpe
        rw [← hP] at hm ht
        have HT := Lib.hid ht
        clear ht
        obtain ⟨m0, m1⟩ := hm
        have hP2 := hP.symm
        clear hP
        generalize areaL (l.take k) = S at *
        go_wp2_with fail
        go_roundw
        case rel => exact ⟨k + 1, by omega, by go_num, by rw [HT.out], by (repeat' (first | (with_reducible exact Below.refl _ _) | (with_reducible assumption) | (with_reducible refine Below.alloc ?_ ?_ _) | (with_reducible refine Below.drew ?_) | (with_reducible refine below_drewN ?_ _) | (with_reducible refine Below.setCell ?_ ?_ _) | (with_reducible exact Nat.le_refl _) | omega | (simp only [World.size_alloc, World.size_setCell, World.size_drew]; omega) | (simp; omega) | (simp; done)))⟩
        case measure => simp [intOf]; omega
      · obtain rfl : k = l.length := by omega
        have hn : l.take l.length = l := List.take_length
        rw [hn] at ha0 ha2 ⊢
        clear hn
        go_wp2_with fail
        go_ret2
        exact ⟨rfl, hbw⟩
  · have hA : areaF l = 0 := if_neg h0
    have hd : (regF l == 0) = false := by simpa using h0
    rw [hA]
    clear h0 hA
    generalize regF l = d at *
    go_enter Tryz.func12, Tryz.ntmps12
    go_wp2_with fail
    refine (C1.out _ H0.out).mono ?_
    rintro e w1 ⟨rfl, hb⟩
    have B1 := up (B := w.heap.size) (w := w) (by (repeat' (first | (with_reducible exact Below.refl _ _) | (with_reducible assumption) | (with_reducible refine Below.alloc ?_ ?_ _) | (with_reducible refine Below.drew ?_) | (with_reducible refine below_drewN ?_ _) | (with_reducible refine Below.setCell ?_ ?_ _) | (with_reducible exact Nat.le_refl _) | omega | (simp only [World.size_alloc, World.size_setCell, World.size_drew]; omega) | (simp; omega) | (simp; done)))) hb (by (first | (with_reducible exact Nat.le_refl _) | (with_reducible assumption) | omega | (simp only [World.size_alloc, World.size_setCell, World.size_drew]; omega) | (simp; omega) | (simp; done)))
    clear hb
    go_wp2_with fail
    go_ret2
    exact ⟨rfl, B1⟩
end Go.Proofs.YtmcbjaefnhfopaaGreat

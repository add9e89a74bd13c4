/- The square of a bore, in the package and in the reference, and the law ArtSquaresMatchSpec: for every bore it returns true, and the bore reads afterwards as before. No condition. -/
import Derived.Test.YtmgcahoamcheoaaShapeA
import Derived.Test.YtmgcahoamcheoaaOpens
namespace Go.Proofs.Ytmgcahoamcheoaa
open Go.ChangeShapes Go.WideShapes Go.ChangeAt Go.RowKit
open Reg (R4)
set_option linter.unusedSimpArgs false
set_option linter.unusedVariables false

theorem isPoint_any (x y : Int) (w : World) : Calls Try.prog 13 #[.agg #[.int .i64 x, .int .i64 y]] w fun e w' => e = .returned (.bool (okAt x && okAt y)) ∧ Below w.heap.size w w' := by
  cases h1 : okAt x
  all_goals
    go_enter Try.func13, Try.ntmps13
    go_wp2_with (go_at_call 14; refine (at_any _ _).mono ?_; rintro e w' ⟨rfl, rfl⟩)
    go_ret
    exact ⟨rfl, (Below.refl _ _).alloc (Nat.le_refl _) _⟩
theorem atPoint_any (x y : Int) (w : World) : Calls Try.prog 7 #[.agg #[.int .i64 x, .int .i64 y]] w fun e w' => e = .returned (.bool (okAt x && okAt y)) ∧ Below w.heap.size w w' := by
  by_cases h1 : -1000000 ≤ x
  · by_cases h2 : x ≤ 1000000
    · by_cases h3 : -1000000 ≤ y
      · by_cases h4 : y ≤ 1000000
        all_goals
          go_enter Try.func7, Try.ntmps7
          go_wp2_with fail
          go_ret
          exact ⟨by simp [okAt]; omega, by (repeat' (first | (with_reducible exact Below.refl _ _) | (with_reducible assumption) | (with_reducible refine Below.alloc ?_ ?_ _) | (with_reducible refine Below.drew ?_) | (with_reducible refine below_drewN ?_ _) | (with_reducible refine Below.setCell ?_ ?_ _) | (with_reducible exact Nat.le_refl _) | omega | (simp only [World.size_alloc, World.size_setCell, World.size_drew]; omega) | (simp; omega) | (simp; done)))⟩
      · go_enter Try.func7, Try.ntmps7
        go_wp2_with fail
        go_ret
        exact ⟨by simp [okAt]; omega, by (repeat' (first | (with_reducible exact Below.refl _ _) | (with_reducible assumption) | (with_reducible refine Below.alloc ?_ ?_ _) | (with_reducible refine Below.drew ?_) | (with_reducible refine below_drewN ?_ _) | (with_reducible refine Below.setCell ?_ ?_ _) | (with_reducible exact Nat.le_refl _) | omega | (simp only [World.size_alloc, World.size_setCell, World.size_drew]; omega) | (simp; omega) | (simp; done)))⟩
    · go_enter Try.func7, Try.ntmps7
      go_wp2_with fail
      go_ret
      exact ⟨by simp [okAt]; omega, by (repeat' (first | (with_reducible exact Below.refl _ _) | (with_reducible assumption) | (with_reducible refine Below.alloc ?_ ?_ _) | (with_reducible refine Below.drew ?_) | (with_reducible refine below_drewN ?_ _) | (with_reducible refine Below.setCell ?_ ?_ _) | (with_reducible exact Nat.le_refl _) | omega | (simp only [World.size_alloc, World.size_setCell, World.size_drew]; omega) | (simp; omega) | (simp; done)))⟩
  · go_enter Try.func7, Try.ntmps7
    go_wp2_with fail
    go_ret
    exact ⟨by simp [okAt]; omega, by (repeat' (first | (with_reducible exact Below.refl _ _) | (with_reducible assumption) | (with_reducible refine Below.alloc ?_ ?_ _) | (with_reducible refine Below.drew ?_) | (with_reducible refine below_drewN ?_ _) | (with_reducible refine Below.setCell ?_ ?_ _) | (with_reducible exact Nat.le_refl _) | omega | (simp only [World.size_alloc, World.size_setCell, World.size_drew]; omega) | (simp; omega) | (simp; done)))⟩
theorem withinR_any (n a b : Int) (w : World) : Calls Try.prog 12 #[.int .i64 n, .int .i64 a, .int .i64 b] w fun e w' => e = .returned (.bool (decide (a ≤ n) && decide (n ≤ b))) ∧ w = w' := by
  by_cases h1 : a ≤ n
  · by_cases h2 : n ≤ b
    all_goals
      go_enter Try.func12, Try.ntmps12
      go_wp2_with fail
      go_ret
      exact ⟨by simp; omega, rfl⟩
  · go_enter Try.func12, Try.ntmps12
    go_wp2_with fail
    go_ret
    exact ⟨by simp; omega, rfl⟩

theorem one_set {W : World} {g j : Nat} {v : Value} {cs : Array Value} (hc : ∀ i, W.cell? ⟨g, i, none⟩ = cs[i]?) (hj : j < cs.size) : ∀ i, (W.setCell ⟨g, j, none⟩ v).cell? ⟨g, i, none⟩ = (cs.setIfInBounds j v)[i]? := by
  intro i
  by_cases h : j = i
  · subst h
    rw [World.cell?_setCell_same' _ _ _ (by rw [hc j]; simp [hj])]
    simp [hj]
  · rw [World.cell?_setCell_other _ _ _ _ (by simp [h]), hc i]
    simp [Array.getElem?_setIfInBounds, h]
theorem set4 {W : World} {g : Nat} {p q r s a b c d : Value} (hc : ∀ i, W.cell? ⟨g, i, none⟩ = (#[p, q, r, s])[i]?) : ∀ i, ((((W.setCell ⟨g, 0, none⟩ a).setCell ⟨g, 1, none⟩ b).setCell ⟨g, 2, none⟩ c).setCell ⟨g, 3, none⟩ d).cell? ⟨g, i, none⟩ = (#[a, b, c, d])[i]? :=
  one_set (one_set (one_set (one_set hc (j := 0) (v := a) (by simp)) (j := 1) (v := b) (by simp)) (j := 2) (v := c) (by simp)) (j := 3) (v := d) (by simp)
theorem set4_far {W : World} {g h : Nat} {a b c d : Value} (hn : h ≠ g) (i : Nat) : ((((W.setCell ⟨h, 0, none⟩ a).setCell ⟨h, 1, none⟩ b).setCell ⟨h, 2, none⟩ c).setCell ⟨h, 3, none⟩ d).cell? ⟨g, i, none⟩ = W.cell? ⟨g, i, none⟩ := by
  rw [World.cell?_setCell_far _ _ _ _ hn, World.cell?_setCell_far _ _ _ _ hn, World.cell?_setCell_far _ _ _ _ hn, World.cell?_setCell_far _ _ _ _ hn]

theorem cells_bore : Try.prog.cellsOf 25 = 6 := by kernel_rfl
theorem cells_bool : Try.prog.cellsOf 4 = 1 := by kernel_rfl
section
variable {H : Type} {enc : TypeId × Value → H} {w : World} {base : Nat} {spare : Nat → Bool} {held : Bool} {r : Reach} {b0 : Nat} {v : Value} {d : DataW H} {p : List MemPlace}
theorem open_bore (hv : Value.okWide Try.prog w r b0 25 v) (h : DataW.Trod enc Try.prog w base spare held 25 v d p) : ∃ (x y s f t : Int) (p : Bool), v = .agg #[.int .i64 x, .int .i64 y, .int .i64 s, .int .i64 f, .int .i64 t, .bool p] := by
  obtain ⟨cs, rfl, hsz⟩ := okWide_struct Try.underlying25 hv
  obtain ⟨l⟩ := cs
  obtain ⟨fuel, hf⟩ := h
  obtain ⟨xs, n, _, hx, hl, hlen, hg⟩ := DataW.trod_struct Try.underlying25 hf
  rw [cells_bore] at hl
  simp only [Value.cells] at hl hg
  match l, hl with
  | [c0, c1, c2, c3, c4, c5], _ =>
    have g0 := hg 0 _ rfl
    have g1 := hg 1 _ rfl
    have g2 := hg 2 _ rfl
    have g3 := hg 3 _ rfl
    have g4 := hg 4 _ rfl
    have i0 : 0 < xs.length := by rw [hlen]; decide
    have i1 : 1 < xs.length := by rw [hlen]; decide
    have i2 : 2 < xs.length := by rw [hlen]; decide
    have i3 : 3 < xs.length := by rw [hlen]; decide
    have i4 : 4 < xs.length := by rw [hlen]; decide
    rw [List.getElem?_eq_getElem i0] at g0
    rw [List.getElem?_eq_getElem i1] at g1
    rw [List.getElem?_eq_getElem i2] at g2
    rw [List.getElem?_eq_getElem i3] at g3
    rw [List.getElem?_eq_getElem i4] at g4
    simp [cells_int, cells_bool, cells_point] at g0 g1 g2 g3 g4
    obtain ⟨a, b, e0⟩ := point_cells g0
    obtain ⟨s, e1, _⟩ := DataW.trod_int Try.underlying3 g1
    obtain ⟨f, e2, _⟩ := DataW.trod_int Try.underlying3 g2
    obtain ⟨t, e3, _⟩ := DataW.trod_int Try.underlying3 g3
    obtain ⟨q, e4, _⟩ := DataW.trod_bool Try.underlying4 g4
    simp at e0 e1 e2 e3 e4
    obtain ⟨e0, e5⟩ := e0
    subst e0 e1 e2 e3 e4 e5
    exact ⟨a, b, s, f, t, q, rfl⟩
end
/-- A bore's value. -/
abbrev boreV (x y s f t : Int) (p : Bool) : Value := .agg #[.int .i64 x, .int .i64 y, .int .i64 s, .int .i64 f, .int .i64 t, .bool p]
def sqR (x y s : Int) : R4 := ⟨x - s.tdiv 2, y - s.tdiv 2, x - s.tdiv 2 + s, y - s.tdiv 2 + s⟩
def sqIn (x y s : Int) : Bool := decide (1 ≤ s) && decide (s ≤ 10000) && (okAt x && okAt y)
def sqOk (x y s : Int) : Bool := sqIn x y s && rectOk (sqR x y s)
def sqV (x y s : Int) : R4 := if sqOk x y s then sqR x y s else ⟨0, 0, 0, 0⟩
def sqF (x y s : Int) : Int := if sqOk x y s then 0 else 1
theorem sq_half {s : Int} (h1 : 1 ≤ s) (h2 : s ≤ 10000) : 0 ≤ s.tdiv 2 ∧ s.tdiv 2 ≤ 5000 := by
  rw [Int.tdiv_eq_ediv_of_nonneg (by omega)]
  omega

set_option maxRecDepth 100000 in
set_option maxHeartbeats 4000000 in
theorem square_any (x y s f t : Int) (p : Bool) (w : World) : Calls Try.prog 4 #[boreV x y s f t p] w fun e w' => e = .returned (.tuple #[rv (sqV x y s), .int .i64 (sqF x y s)]) ∧ Below w.heap.size w w' := by
  unfold boreV rv
  cases hi : sqIn x y s
  · have e1 : sqV x y s = ⟨0, 0, 0, 0⟩ := by unfold sqV sqOk; rw [hi]; rfl
    have e2 : sqF x y s = 1 := by unfold sqF sqOk; rw [hi]; rfl
    rw [e1, e2]
    clear e1 e2
    by_cases h1 : s < 1
    · clear hi
      go_enter Try.func4, Try.ntmps4
      go_wp2_with fail
      exact bodyPost_ret (v := .tuple #[rv ⟨0, 0, 0, 0⟩, .int .i64 1]) (by simp [results, Try.results4, go_sem]) rfl ⟨rfl, by (repeat' (first | (with_reducible exact Below.refl _ _) | (with_reducible assumption) | (with_reducible refine Below.alloc ?_ ?_ _) | (with_reducible refine Below.drew ?_) | (with_reducible refine below_drewN ?_ _) | (with_reducible refine Below.setCell ?_ ?_ _) | (with_reducible exact Nat.le_refl _) | omega | (simp only [World.size_alloc, World.size_setCell, World.size_drew]; omega) | (simp; omega) | (simp; done)))⟩
    · by_cases h2 : 10000 < s
      · clear hi
        go_enter Try.func4, Try.ntmps4
        go_wp2_with fail
        exact bodyPost_ret (v := .tuple #[rv ⟨0, 0, 0, 0⟩, .int .i64 1]) (by simp [results, Try.results4, go_sem]) rfl ⟨rfl, by (repeat' (first | (with_reducible exact Below.refl _ _) | (with_reducible assumption) | (with_reducible refine Below.alloc ?_ ?_ _) | (with_reducible refine Below.drew ?_) | (with_reducible refine below_drewN ?_ _) | (with_reducible refine Below.setCell ?_ ?_ _) | (with_reducible exact Nat.le_refl _) | omega | (simp only [World.size_alloc, World.size_setCell, World.size_drew]; omega) | (simp; omega) | (simp; done)))⟩
      · have h3 : (okAt x && okAt y) = false := by
          have h4 : decide (1 ≤ s) = true := decide_eq_true (by omega)
          have h5 : decide (s ≤ 10000) = true := decide_eq_true (by omega)
          unfold sqIn at hi
          rw [h4, h5] at hi
          exact hi
        have C1 := Lib.hid (fun W => atPoint_any x y W)
        rw [h3] at C1
        clear hi h3
        go_enter Try.func4, Try.ntmps4
        go_wp2_with fail
        refine (C1.out _).mono ?_
        rintro e w1 ⟨rfl, hb⟩
        obtain ⟨kq, fq⟩ := kp hb (b := w.heap.size + 1) (cs := #[Value.int .i64 0, Value.int .i64 0, Value.int .i64 0, Value.int .i64 0]) (by (first | (with_reducible exact Nat.le_refl _) | (with_reducible assumption) | omega | (simp only [World.size_alloc, World.size_setCell, World.size_drew]; omega) | (simp; omega) | (simp; done))) (fun i => by simp [go_sem]) (fun i => by simp [go_sem])
        have z1 := hb.size
        (try simp only [World.size_alloc, World.size_setCell, World.size_drew] at z1)
        have B1 := up (B := w.heap.size) (w := w) (by (repeat' (first | (with_reducible exact Below.refl _ _) | (with_reducible assumption) | (with_reducible refine Below.alloc ?_ ?_ _) | (with_reducible refine Below.drew ?_) | (with_reducible refine below_drewN ?_ _) | (with_reducible refine Below.setCell ?_ ?_ _) | (with_reducible exact Nat.le_refl _) | omega | (simp only [World.size_alloc, World.size_setCell, World.size_drew]; omega) | (simp; omega) | (simp; done)))) hb (by (first | (with_reducible exact Nat.le_refl _) | (with_reducible assumption) | omega | (simp only [World.size_alloc, World.size_setCell, World.size_drew]; omega) | (simp; omega) | (simp; done)))
        clear hb
        go_wp2_with fail
        have kz := set4 (a := .int .i64 0) (b := .int .i64 0) (c := .int .i64 0) (d := .int .i64 0) kq
        exact bodyPost_ret (v := .tuple #[rv ⟨0, 0, 0, 0⟩, .int .i64 1]) (by simp [results, Try.results4, go_sem, kz]) rfl ⟨rfl, by (repeat' (first | (with_reducible exact Below.refl _ _) | (with_reducible assumption) | (with_reducible refine Below.alloc ?_ ?_ _) | (with_reducible refine Below.drew ?_) | (with_reducible refine below_drewN ?_ _) | (with_reducible refine Below.setCell ?_ ?_ _) | (with_reducible exact Nat.le_refl _) | omega | (simp only [World.size_alloc, World.size_setCell, World.size_drew]; omega) | (simp; omega) | (simp; done)))⟩
  · obtain ⟨h1, h2, hp⟩ : 1 ≤ s ∧ s ≤ 10000 ∧ (okAt x && okAt y) = true := by
      unfold sqIn at hi
      rw [Bool.and_eq_true, Bool.and_eq_true, decide_eq_true_eq, decide_eq_true_eq] at hi
      exact ⟨hi.1.1, hi.1.2, hi.2⟩
    have hxy := hp
    rw [Bool.and_eq_true] at hxy
    have hx := okAt_in hxy.1
    have hy := okAt_in hxy.2
    obtain ⟨d1, d2⟩ := sq_half h1 h2
    have y0 : IntKind.i64.wrap (s.tdiv 2) = s.tdiv 2 := IntWalk.i64_in _ (by omega)
    have y1 : IntKind.i64.wrap (x - s.tdiv 2) = x - s.tdiv 2 := IntWalk.i64_in _ (by omega)
    have y2 : IntKind.i64.wrap (y - s.tdiv 2) = y - s.tdiv 2 := IntWalk.i64_in _ (by omega)
    have y3 : IntKind.i64.wrap (x - s.tdiv 2 + s) = x - s.tdiv 2 + s := IntWalk.i64_in _ (by omega)
    have y4 : IntKind.i64.wrap (y - s.tdiv 2 + s) = y - s.tdiv 2 + s := IntWalk.i64_in _ (by omega)
    have n1 : ¬ s < 1 := by omega
    have n2 : ¬ 10000 < s := by omega
    have C1 := Lib.hid (fun W => atPoint_any x y W)
    rw [hp] at C1
    have C2 := Lib.hid (fun A W h => checkRects_any A [sqR x y s] 1 W (by simp) h)
    have hne : ¬ ((sqR x y s).x1 ≤ (sqR x y s).x0 ∨ (sqR x y s).y1 ≤ (sqR x y s).y0) := by
      unfold sqR
      simp only
      omega
    have hrf : rectsF [sqR x y s] = if rectOk (sqR x y s) then 0 else 1 := by
      unfold rectsF
      rw [if_neg (by simp)]
      simp only [firstBad, rectF, if_neg hne]
      cases rectOk (sqR x y s) <;> rfl
    rw [hrf] at C2
    unfold sqV sqF sqOk
    rw [hi, Bool.true_and]
    clear hi hp hxy hx hy hne hrf
    unfold sqR at *
    obtain ⟨h, eh⟩ : ∃ h, s.tdiv 2 = h := ⟨_, rfl⟩
    rw [eh] at d1 d2 y0 y1 y2 y3 y4 C2 ⊢
    obtain ⟨a, ea⟩ : ∃ a, x - h = a := ⟨_, rfl⟩
    obtain ⟨b, eb⟩ : ∃ b, y - h = b := ⟨_, rfl⟩
    rw [ea] at y1 y3 C2 ⊢
    rw [eb] at y2 y4 C2 ⊢
    cases hr : rectOk ⟨a, b, a + s, b + s⟩
    · rw [hr] at C2
      simp only [Bool.false_eq_true, if_false, if_true] at C2 ⊢
      go_enter Try.func4, Try.ntmps4
      go_wp2_with fail
      refine (C1.out _).mono ?_
      rintro e w1 ⟨rfl, hb⟩
      obtain ⟨kb, fb⟩ := kp hb (b := w.heap.size) (cs := #[Value.int .i64 x, Value.int .i64 y, Value.int .i64 s, Value.int .i64 f, Value.int .i64 t, Value.bool p]) (by (first | (with_reducible exact Nat.le_refl _) | (with_reducible assumption) | omega | (simp only [World.size_alloc, World.size_setCell, World.size_drew]; omega) | (simp; omega) | (simp; done))) (fun i => by simp [go_sem]) (fun i => by simp [go_sem])
      obtain ⟨kq, fq⟩ := kp hb (b := w.heap.size + 1) (cs := #[Value.int .i64 0, Value.int .i64 0, Value.int .i64 0, Value.int .i64 0]) (by (first | (with_reducible exact Nat.le_refl _) | (with_reducible assumption) | omega | (simp only [World.size_alloc, World.size_setCell, World.size_drew]; omega) | (simp; omega) | (simp; done))) (fun i => by simp [go_sem]) (fun i => by simp [go_sem])
      have z1 := hb.size
      (try simp only [World.size_alloc, World.size_setCell, World.size_drew] at z1)
      have B1 := up (B := w.heap.size) (w := w) (by (repeat' (first | (with_reducible exact Below.refl _ _) | (with_reducible assumption) | (with_reducible refine Below.alloc ?_ ?_ _) | (with_reducible refine Below.drew ?_) | (with_reducible refine below_drewN ?_ _) | (with_reducible refine Below.setCell ?_ ?_ _) | (with_reducible exact Nat.le_refl _) | omega | (simp only [World.size_alloc, World.size_setCell, World.size_drew]; omega) | (simp; omega) | (simp; done)))) hb (by (first | (with_reducible exact Nat.le_refl _) | (with_reducible assumption) | omega | (simp only [World.size_alloc, World.size_setCell, World.size_drew]; omega) | (simp; omega) | (simp; done)))
      clear hb
      have k0 := kb 0
      have k1 := kb 1
      have k2 := kb 2
      simp only [List.getElem?_toArray, List.getElem?_cons_zero, List.getElem?_cons_succ] at k0 k1 k2
      go_wp2_with fail
      go_quiet (fail)
      generalize hd : w1.drewN _ = w2
      have K0 : w2.cell? ⟨w.heap.size, 0, none⟩ = some (.int .i64 x) := by rw [← hd]; exact k0
      have K1 : w2.cell? ⟨w.heap.size, 1, none⟩ = some (.int .i64 y) := by rw [← hd]; exact k1
      have K2 : w2.cell? ⟨w.heap.size, 2, none⟩ = some (.int .i64 s) := by rw [← hd]; exact k2
      have Kq : ∀ i, w2.cell? ⟨w.heap.size + 1, i, none⟩ = (#[Value.int .i64 0, .int .i64 0, .int .i64 0, .int .i64 0])[i]? := fun i => by rw [← hd]; exact kq i
      have Fq : ∀ i, w2.frozen? ⟨w.heap.size + 1, i, none⟩ = false := fun i => by rw [← hd]; exact fq i
      have B2 : Below w.heap.size w w2 := by rw [← hd]; exact below_drewN B1 _
      have z2 : w.heap.size + 1 + 1 ≤ w2.heap.size := by rw [← hd]; simpa using z1
      clear hd k0 k1 k2 kq fq B1 z1 kb fb
      go_wp2_with fail
      refine (C2.out _ _ ?_).mono ?_
      · intro _
        refine ⟨_, _, rfl, by (first | (with_reducible exact Nat.le_refl _) | (with_reducible assumption) | omega | (simp only [World.size_alloc, World.size_setCell, World.size_drew]; omega) | (simp; omega) | (simp; done)), fun i r hi => ?_⟩
        match i, hi with
        | 0, hi =>
          simp at hi; subst hi
          refine ⟨?_, ?_, ?_, ?_⟩ <;> simp [go_sem]
        | i + 1, hi => simp at hi
      rintro e w3 ⟨rfl, hb⟩
      obtain ⟨kq, fq⟩ := kp (up (B := w2.heap.size) (w := w2) (by (repeat' (first | (with_reducible exact Below.refl _ _) | (with_reducible assumption) | (with_reducible refine Below.alloc ?_ ?_ _) | (with_reducible refine Below.drew ?_) | (with_reducible refine below_drewN ?_ _) | (with_reducible refine Below.setCell ?_ ?_ _) | (with_reducible exact Nat.le_refl _) | omega | (simp only [World.size_alloc, World.size_setCell, World.size_drew]; omega) | (simp; omega) | (simp; done)))) hb (by (first | (with_reducible exact Nat.le_refl _) | (with_reducible assumption) | omega | (simp only [World.size_alloc, World.size_setCell, World.size_drew]; omega) | (simp; omega) | (simp; done)))) (b := w.heap.size + 1) (by omega) Kq Fq
      obtain ⟨kr, -⟩ := kp hb (b := w2.heap.size) (cs := #[Value.int .i64 a, Value.int .i64 b, Value.int .i64 (a + s), Value.int .i64 (b + s)]) (by (first | (with_reducible exact Nat.le_refl _) | (with_reducible assumption) | omega | (simp only [World.size_alloc, World.size_setCell, World.size_drew]; omega) | (simp; omega) | (simp; done))) (fun i => by simp [go_sem]) (fun i => by simp [go_sem])
      have z3 := hb.size
      (try simp only [World.size_alloc, World.size_setCell, World.size_drew] at z3)
      have B3 := up (B := w.heap.size) (w := w) (by (repeat' (first | (with_reducible exact Below.refl _ _) | (with_reducible assumption) | (with_reducible refine Below.alloc ?_ ?_ _) | (with_reducible refine Below.drew ?_) | (with_reducible refine below_drewN ?_ _) | (with_reducible refine Below.setCell ?_ ?_ _) | (with_reducible exact Nat.le_refl _) | omega | (simp only [World.size_alloc, World.size_setCell, World.size_drew]; omega) | (simp; omega) | (simp; done)))) hb (by (first | (with_reducible exact Nat.le_refl _) | (with_reducible assumption) | omega | (simp only [World.size_alloc, World.size_setCell, World.size_drew]; omega) | (simp; omega) | (simp; done)))
      clear hb
      go_wp2_with fail
      have kz := set4 (a := .int .i64 0) (b := .int .i64 0) (c := .int .i64 0) (d := .int .i64 0) kq
      exact bodyPost_ret (v := .tuple #[rv ⟨0, 0, 0, 0⟩, .int .i64 1]) (by simp [results, Try.results4, go_sem, kz]) rfl ⟨rfl, by (repeat' (first | (with_reducible exact Below.refl _ _) | (with_reducible assumption) | (with_reducible refine Below.alloc ?_ ?_ _) | (with_reducible refine Below.drew ?_) | (with_reducible refine below_drewN ?_ _) | (with_reducible refine Below.setCell ?_ ?_ _) | (with_reducible exact Nat.le_refl _) | omega | (simp only [World.size_alloc, World.size_setCell, World.size_drew]; omega) | (simp; omega) | (simp; done)))⟩
    · rw [hr] at C2
      simp only [Bool.false_eq_true, if_false, if_true] at C2 ⊢
      go_enter Try.func4, Try.ntmps4
      go_wp2_with fail
      refine (C1.out _).mono ?_
      rintro e w1 ⟨rfl, hb⟩
      obtain ⟨kb, fb⟩ := kp hb (b := w.heap.size) (cs := #[Value.int .i64 x, Value.int .i64 y, Value.int .i64 s, Value.int .i64 f, Value.int .i64 t, Value.bool p]) (by (first | (with_reducible exact Nat.le_refl _) | (with_reducible assumption) | omega | (simp only [World.size_alloc, World.size_setCell, World.size_drew]; omega) | (simp; omega) | (simp; done))) (fun i => by simp [go_sem]) (fun i => by simp [go_sem])
      obtain ⟨kq, fq⟩ := kp hb (b := w.heap.size + 1) (cs := #[Value.int .i64 0, Value.int .i64 0, Value.int .i64 0, Value.int .i64 0]) (by (first | (with_reducible exact Nat.le_refl _) | (with_reducible assumption) | omega | (simp only [World.size_alloc, World.size_setCell, World.size_drew]; omega) | (simp; omega) | (simp; done))) (fun i => by simp [go_sem]) (fun i => by simp [go_sem])
      have z1 := hb.size
      (try simp only [World.size_alloc, World.size_setCell, World.size_drew] at z1)
      have B1 := up (B := w.heap.size) (w := w) (by (repeat' (first | (with_reducible exact Below.refl _ _) | (with_reducible assumption) | (with_reducible refine Below.alloc ?_ ?_ _) | (with_reducible refine Below.drew ?_) | (with_reducible refine below_drewN ?_ _) | (with_reducible refine Below.setCell ?_ ?_ _) | (with_reducible exact Nat.le_refl _) | omega | (simp only [World.size_alloc, World.size_setCell, World.size_drew]; omega) | (simp; omega) | (simp; done)))) hb (by (first | (with_reducible exact Nat.le_refl _) | (with_reducible assumption) | omega | (simp only [World.size_alloc, World.size_setCell, World.size_drew]; omega) | (simp; omega) | (simp; done)))
      clear hb
      have k0 := kb 0
      have k1 := kb 1
      have k2 := kb 2
      simp only [List.getElem?_toArray, List.getElem?_cons_zero, List.getElem?_cons_succ] at k0 k1 k2
      go_wp2_with fail
      go_quiet (fail)
      generalize hd : w1.drewN _ = w2
      have K0 : w2.cell? ⟨w.heap.size, 0, none⟩ = some (.int .i64 x) := by rw [← hd]; exact k0
      have K1 : w2.cell? ⟨w.heap.size, 1, none⟩ = some (.int .i64 y) := by rw [← hd]; exact k1
      have K2 : w2.cell? ⟨w.heap.size, 2, none⟩ = some (.int .i64 s) := by rw [← hd]; exact k2
      have Kq : ∀ i, w2.cell? ⟨w.heap.size + 1, i, none⟩ = (#[Value.int .i64 0, .int .i64 0, .int .i64 0, .int .i64 0])[i]? := fun i => by rw [← hd]; exact kq i
      have Fq : ∀ i, w2.frozen? ⟨w.heap.size + 1, i, none⟩ = false := fun i => by rw [← hd]; exact fq i
      have B2 : Below w.heap.size w w2 := by rw [← hd]; exact below_drewN B1 _
      have z2 : w.heap.size + 1 + 1 ≤ w2.heap.size := by rw [← hd]; simpa using z1
      clear hd k0 k1 k2 kq fq B1 z1 kb fb
      go_wp2_with fail
      refine (C2.out _ _ ?_).mono ?_
      · intro _
        refine ⟨_, _, rfl, by (first | (with_reducible exact Nat.le_refl _) | (with_reducible assumption) | omega | (simp only [World.size_alloc, World.size_setCell, World.size_drew]; omega) | (simp; omega) | (simp; done)), fun i r hi => ?_⟩
        match i, hi with
        | 0, hi =>
          simp at hi; subst hi
          refine ⟨?_, ?_, ?_, ?_⟩ <;> simp [go_sem]
        | i + 1, hi => simp at hi
      rintro e w3 ⟨rfl, hb⟩
      obtain ⟨kq, fq⟩ := kp (up (B := w2.heap.size) (w := w2) (by (repeat' (first | (with_reducible exact Below.refl _ _) | (with_reducible assumption) | (with_reducible refine Below.alloc ?_ ?_ _) | (with_reducible refine Below.drew ?_) | (with_reducible refine below_drewN ?_ _) | (with_reducible refine Below.setCell ?_ ?_ _) | (with_reducible exact Nat.le_refl _) | omega | (simp only [World.size_alloc, World.size_setCell, World.size_drew]; omega) | (simp; omega) | (simp; done)))) hb (by (first | (with_reducible exact Nat.le_refl _) | (with_reducible assumption) | omega | (simp only [World.size_alloc, World.size_setCell, World.size_drew]; omega) | (simp; omega) | (simp; done)))) (b := w.heap.size + 1) (by omega) Kq Fq
      obtain ⟨kr, -⟩ := kp hb (b := w2.heap.size) (cs := #[Value.int .i64 a, Value.int .i64 b, Value.int .i64 (a + s), Value.int .i64 (b + s)]) (by (first | (with_reducible exact Nat.le_refl _) | (with_reducible assumption) | omega | (simp only [World.size_alloc, World.size_setCell, World.size_drew]; omega) | (simp; omega) | (simp; done))) (fun i => by simp [go_sem]) (fun i => by simp [go_sem])
      have z3 := hb.size
      (try simp only [World.size_alloc, World.size_setCell, World.size_drew] at z3)
      have B3 := up (B := w.heap.size) (w := w) (by (repeat' (first | (with_reducible exact Below.refl _ _) | (with_reducible assumption) | (with_reducible refine Below.alloc ?_ ?_ _) | (with_reducible refine Below.drew ?_) | (with_reducible refine below_drewN ?_ _) | (with_reducible refine Below.setCell ?_ ?_ _) | (with_reducible exact Nat.le_refl _) | omega | (simp only [World.size_alloc, World.size_setCell, World.size_drew]; omega) | (simp; omega) | (simp; done)))) hb (by (first | (with_reducible exact Nat.le_refl _) | (with_reducible assumption) | omega | (simp only [World.size_alloc, World.size_setCell, World.size_drew]; omega) | (simp; omega) | (simp; done)))
      clear hb
      go_wp2_with fail
      have kz := set4 (a := .int .i64 a) (b := .int .i64 b) (c := .int .i64 (a + s)) (d := .int .i64 (b + s)) kq
      exact bodyPost_ret (v := .tuple #[rv ⟨a, b, a + s, b + s⟩, .int .i64 0]) (by simp [results, Try.results4, go_sem, kz]) rfl ⟨rfl, by (repeat' (first | (with_reducible exact Below.refl _ _) | (with_reducible assumption) | (with_reducible refine Below.alloc ?_ ?_ _) | (with_reducible refine Below.drew ?_) | (with_reducible refine below_drewN ?_ _) | (with_reducible refine Below.setCell ?_ ?_ _) | (with_reducible exact Nat.le_refl _) | omega | (simp only [World.size_alloc, World.size_setCell, World.size_drew]; omega) | (simp; omega) | (simp; done)))⟩
set_option maxRecDepth 100000 in
set_option maxHeartbeats 4000000 in
theorem squareOf_any (x y s f t : Int) (p : Bool) (w : World) (h1 : 1 ≤ s) (h2 : s ≤ 10000) (hx : In6 x) (hy : In6 y) : Calls Try.prog 10 #[boreV x y s f t p] w fun e w' => e = .returned (rv (sqR x y s)) ∧ Below w.heap.size w w' := by
  unfold boreV rv
  obtain ⟨d1, d2⟩ := sq_half h1 h2
  have y0 : IntKind.i64.wrap (s.tdiv 2) = s.tdiv 2 := IntWalk.i64_in _ (by omega)
  have y1 : IntKind.i64.wrap (x - s.tdiv 2) = x - s.tdiv 2 := IntWalk.i64_in _ (by omega)
  have y2 : IntKind.i64.wrap (y - s.tdiv 2) = y - s.tdiv 2 := IntWalk.i64_in _ (by omega)
  have y3 : IntKind.i64.wrap (x - s.tdiv 2 + s) = x - s.tdiv 2 + s := IntWalk.i64_in _ (by omega)
  have y4 : IntKind.i64.wrap (y - s.tdiv 2 + s) = y - s.tdiv 2 + s := IntWalk.i64_in _ (by omega)
  clear hx hy
  unfold sqR at *
  obtain ⟨h, eh⟩ : ∃ h, s.tdiv 2 = h := ⟨_, rfl⟩
  rw [eh] at d1 d2 y0 y1 y2 y3 y4 ⊢
  obtain ⟨a, ea⟩ : ∃ a, x - h = a := ⟨_, rfl⟩
  obtain ⟨b, eb⟩ : ∃ b, y - h = b := ⟨_, rfl⟩
  rw [ea] at y1 y3 ⊢
  rw [eb] at y2 y4 ⊢
  simp only
  go_enter Try.func10, Try.ntmps10
  go_wp2_with fail
  go_quiet (fail)
  generalize hd : World.drewN _ _ = w2
  have K0 : w2.cell? ⟨w.heap.size, 0, none⟩ = some (.int .i64 x) := by rw [← hd]; simp [go_sem]
  have K1 : w2.cell? ⟨w.heap.size, 1, none⟩ = some (.int .i64 y) := by rw [← hd]; simp [go_sem]
  have K2 : w2.cell? ⟨w.heap.size, 2, none⟩ = some (.int .i64 s) := by rw [← hd]; simp [go_sem]
  have Kq : ∀ i, w2.cell? ⟨w.heap.size + 1, i, none⟩ = (#[Value.int .i64 0, .int .i64 0, .int .i64 0, .int .i64 0])[i]? := fun i => by rw [← hd]; simp [go_sem]
  have Fq : ∀ i, w2.frozen? ⟨w.heap.size + 1, i, none⟩ = false := fun i => by rw [← hd]; simp [go_sem]
  have B2 : Below w.heap.size w w2 := by rw [← hd]; exact below_drewN (by (repeat' (first | (with_reducible exact Below.refl _ _) | (with_reducible assumption) | (with_reducible refine Below.alloc ?_ ?_ _) | (with_reducible refine Below.drew ?_) | (with_reducible refine below_drewN ?_ _) | (with_reducible refine Below.setCell ?_ ?_ _) | (with_reducible exact Nat.le_refl _) | omega | (simp only [World.size_alloc, World.size_setCell, World.size_drew]; omega) | (simp; omega) | (simp; done)))) _
  have z2 : w.heap.size + 1 + 1 ≤ w2.heap.size := by rw [← hd]; simp
  clear hd
  go_wp2_with fail
  have kz := set4 (a := .int .i64 a) (b := .int .i64 b) (c := .int .i64 (a + s)) (d := .int .i64 (b + s)) Kq
  exact bodyPost_ret (v := rv ⟨a, b, a + s, b + s⟩) (by simp [results, Try.results10, go_sem, kz]) rfl ⟨rfl, by (repeat' (first | (with_reducible exact Below.refl _ _) | (with_reducible assumption) | (with_reducible refine Below.alloc ?_ ?_ _) | (with_reducible refine Below.drew ?_) | (with_reducible refine below_drewN ?_ _) | (with_reducible refine Below.setCell ?_ ?_ _) | (with_reducible exact Nat.le_refl _) | omega | (simp only [World.size_alloc, World.size_setCell, World.size_drew]; omega) | (simp; omega) | (simp; done)))⟩
set_option maxRecDepth 100000 in
set_option maxHeartbeats 4000000 in
theorem checkSquare_any (x y s f t : Int) (p : Bool) (w : World) : Calls Try.prog 9 #[boreV x y s f t p] w fun e w' => e = .returned (.int .i64 (sqF x y s)) ∧ Below w.heap.size w w' := by
  have C0 := Lib.hid (fun W => withinR_any s 1 10000 W)
  have C1 := Lib.hid (fun W => isPoint_any x y W)
  unfold sqF sqOk
  have hsi : sqIn x y s = (decide (1 ≤ s) && decide (s ≤ 10000) && (okAt x && okAt y)) := rfl
  cases hw : (decide (1 ≤ s) && decide (s ≤ 10000))
  · rw [hsi, hw, Bool.false_and, Bool.false_and]
    rw [hw] at C0
    clear hw hsi
    unfold boreV
    simp only [Bool.false_eq_true, if_false]
    go_enter Try.func9, Try.ntmps9
    go_wp2_with fail
    refine (C0.out _).mono ?_
    rintro e w1 ⟨rfl, rfl⟩
    go_wp2_with fail
    go_ret
    exact ⟨rfl, by (repeat' (first | (with_reducible exact Below.refl _ _) | (with_reducible assumption) | (with_reducible refine Below.alloc ?_ ?_ _) | (with_reducible refine Below.drew ?_) | (with_reducible refine below_drewN ?_ _) | (with_reducible refine Below.setCell ?_ ?_ _) | (with_reducible exact Nat.le_refl _) | omega | (simp only [World.size_alloc, World.size_setCell, World.size_drew]; omega) | (simp; omega) | (simp; done)))⟩
  · cases hp : (okAt x && okAt y)
    · rw [hsi, hw, hp, Bool.and_false, Bool.false_and]
      rw [hw] at C0
      rw [hp] at C1
      clear hw hsi hp
      unfold boreV
      simp only [Bool.false_eq_true, if_false]
      go_enter Try.func9, Try.ntmps9
      go_wp2_with fail
      refine (C0.out _).mono ?_
      rintro e w1 ⟨rfl, rfl⟩
      go_wp2_with fail
      refine (C1.out _).mono ?_
      rintro e w2 ⟨rfl, hb⟩
      have B2 := up (B := w.heap.size) (w := w) (by (repeat' (first | (with_reducible exact Below.refl _ _) | (with_reducible assumption) | (with_reducible refine Below.alloc ?_ ?_ _) | (with_reducible refine Below.drew ?_) | (with_reducible refine below_drewN ?_ _) | (with_reducible refine Below.setCell ?_ ?_ _) | (with_reducible exact Nat.le_refl _) | omega | (simp only [World.size_alloc, World.size_setCell, World.size_drew]; omega) | (simp; omega) | (simp; done)))) hb (by (first | (with_reducible exact Nat.le_refl _) | (with_reducible assumption) | omega | (simp only [World.size_alloc, World.size_setCell, World.size_drew]; omega) | (simp; omega) | (simp; done)))
      clear hb
      go_wp2_with fail
      go_ret
      exact ⟨rfl, B2⟩
    · rw [hsi, hw, hp, Bool.and_true, Bool.true_and]
      obtain ⟨h1, h2⟩ : 1 ≤ s ∧ s ≤ 10000 := by simpa using hw
      obtain ⟨p1, p2⟩ := Bool.and_eq_true _ _ ▸ hp
      have C2 := Lib.hid (fun W => squareOf_any x y s f t p W h1 h2 (okAt_in p1) (okAt_in p2))
      rw [hw] at C0
      rw [hp] at C1
      clear hw hsi hp h1 h2 p1 p2
      unfold boreV at *
      generalize sqR x y s = q at *
      obtain ⟨a, b, c, d⟩ := q
      have D0 := Lib.hid (fun W => at_any a W)
      have D1 := Lib.hid (fun W => at_any b W)
      have D2 := Lib.hid (fun W => at_any c W)
      have D3 := Lib.hid (fun W => at_any d W)
      unfold rectOk
      simp only
      generalize okAt a = o0 at *
      generalize okAt b = o1 at *
      generalize okAt c = o2 at *
      generalize okAt d = o3 at *
      go_enter Try.func9, Try.ntmps9
      go_wp2_with fail
      refine (C0.out _).mono ?_
      rintro e w1 ⟨rfl, rfl⟩
      go_wp2_with fail
      refine (C1.out _).mono ?_
      rintro e w2 ⟨rfl, hb⟩
      obtain ⟨kb, fb⟩ := kp hb (b := w.heap.size) (cs := #[Value.int .i64 x, Value.int .i64 y, Value.int .i64 s, Value.int .i64 f, Value.int .i64 t, Value.bool p]) (by (first | (with_reducible exact Nat.le_refl _) | (with_reducible assumption) | omega | (simp only [World.size_alloc, World.size_setCell, World.size_drew]; omega) | (simp; omega) | (simp; done))) (fun i => by simp [go_sem]) (fun i => by simp [go_sem])
      have l0 := kb 0
      have l1 := kb 1
      have l2 := kb 2
      have l3 := kb 3
      have l4 := kb 4
      have l5 := kb 5
      simp only [List.getElem?_toArray, List.getElem?_cons_zero, List.getElem?_cons_succ] at l0 l1 l2 l3 l4 l5
      have B2 := up (B := w.heap.size) (w := w) (by (repeat' (first | (with_reducible exact Below.refl _ _) | (with_reducible assumption) | (with_reducible refine Below.alloc ?_ ?_ _) | (with_reducible refine Below.drew ?_) | (with_reducible refine below_drewN ?_ _) | (with_reducible refine Below.setCell ?_ ?_ _) | (with_reducible exact Nat.le_refl _) | omega | (simp only [World.size_alloc, World.size_setCell, World.size_drew]; omega) | (simp; omega) | (simp; done)))) hb (by (first | (with_reducible exact Nat.le_refl _) | (with_reducible assumption) | omega | (simp only [World.size_alloc, World.size_setCell, World.size_drew]; omega) | (simp; omega) | (simp; done)))
      clear hb kb fb
      go_wp2_with fail
      refine (C2.out _).mono ?_
      rintro e w3 ⟨rfl, hb⟩
      have B3 := up (B := w.heap.size) (w := w) B2 hb B2.size
      have z3 := B3.size
      clear hb l0 l1 l2 l3 l4 l5
      have hc : o0 = false ∨ (o0 = true ∧ o1 = false) ∨ (o0 = true ∧ o1 = true ∧ o2 = false) ∨ (o0 = true ∧ o1 = true ∧ o2 = true ∧ o3 = false) ∨ (o0 = true ∧ o1 = true ∧ o2 = true ∧ o3 = true) := by
        cases o0 <;> cases o1 <;> cases o2 <;> cases o3 <;> simp
      rcases hc with rfl | ⟨rfl, rfl⟩ | ⟨rfl, rfl, rfl⟩ | ⟨rfl, rfl, rfl, rfl⟩ | ⟨rfl, rfl, rfl, rfl⟩
      all_goals
        go_wp2_with (go_at_call 14; (first | refine (D0.out _).mono ?_ | refine (D1.out _).mono ?_ | refine (D2.out _).mono ?_ | refine (D3.out _).mono ?_); rintro e w' ⟨rfl, rfl⟩)
        go_ret
        exact ⟨rfl, by (repeat' (first | (with_reducible exact Below.refl _ _) | (with_reducible assumption) | (with_reducible refine Below.alloc ?_ ?_ _) | (with_reducible refine Below.drew ?_) | (with_reducible refine below_drewN ?_ _) | (with_reducible refine Below.setCell ?_ ?_ _) | (with_reducible exact Nat.le_refl _) | omega | (simp only [World.size_alloc, World.size_setCell, World.size_drew]; omega) | (simp; omega) | (simp; done)))⟩
set_option maxRecDepth 100000 in
set_option maxHeartbeats 4000000 in
theorem rsquare_any (x y s f t : Int) (p : Bool) (w : World) : Calls Try.prog 5 #[boreV x y s f t p] w fun e w' => e = .returned (.tuple #[rv (sqV x y s), .int .i64 (sqF x y s)]) ∧ Below w.heap.size w w' := by
  have C0 := Lib.hid (fun W => checkSquare_any x y s f t p W)
  unfold boreV rv at *
  cases hk : sqOk x y s
  · have e1 : sqV x y s = ⟨0, 0, 0, 0⟩ := by unfold sqV; rw [hk]; rfl
    have e2 : sqF x y s = 1 := by unfold sqF; rw [hk]; rfl
    rw [e1, e2]
    rw [e2] at C0
    clear e1 e2 hk
    go_enter Try.func5, Try.ntmps5
    go_wp2_with fail
    refine (C0.out _).mono ?_
    rintro e w1 ⟨rfl, hb⟩
    obtain ⟨kq, fq⟩ := kp hb (b := w.heap.size + 1) (cs := #[Value.int .i64 0, Value.int .i64 0, Value.int .i64 0, Value.int .i64 0]) (by (first | (with_reducible exact Nat.le_refl _) | (with_reducible assumption) | omega | (simp only [World.size_alloc, World.size_setCell, World.size_drew]; omega) | (simp; omega) | (simp; done))) (fun i => by simp [go_sem]) (fun i => by simp [go_sem])
    have B1 := up (B := w.heap.size) (w := w) (by (repeat' (first | (with_reducible exact Below.refl _ _) | (with_reducible assumption) | (with_reducible refine Below.alloc ?_ ?_ _) | (with_reducible refine Below.drew ?_) | (with_reducible refine below_drewN ?_ _) | (with_reducible refine Below.setCell ?_ ?_ _) | (with_reducible exact Nat.le_refl _) | omega | (simp only [World.size_alloc, World.size_setCell, World.size_drew]; omega) | (simp; omega) | (simp; done)))) hb (by (first | (with_reducible exact Nat.le_refl _) | (with_reducible assumption) | omega | (simp only [World.size_alloc, World.size_setCell, World.size_drew]; omega) | (simp; omega) | (simp; done)))
    clear hb
    go_wp2_with fail
    have kz := set4 (a := .int .i64 0) (b := .int .i64 0) (c := .int .i64 0) (d := .int .i64 0) kq
    exact bodyPost_ret (v := .tuple #[rv ⟨0, 0, 0, 0⟩, .int .i64 1]) (by simp [results, Try.results5, go_sem, kz]) rfl ⟨rfl, by (repeat' (first | (with_reducible exact Below.refl _ _) | (with_reducible assumption) | (with_reducible refine Below.alloc ?_ ?_ _) | (with_reducible refine Below.drew ?_) | (with_reducible refine below_drewN ?_ _) | (with_reducible refine Below.setCell ?_ ?_ _) | (with_reducible exact Nat.le_refl _) | omega | (simp only [World.size_alloc, World.size_setCell, World.size_drew]; omega) | (simp; omega) | (simp; done)))⟩
  · have e1 : sqV x y s = sqR x y s := by unfold sqV; rw [hk]; rfl
    have e2 : sqF x y s = 0 := by unfold sqF; rw [hk]; rfl
    rw [e1, e2]
    rw [e2] at C0
    unfold sqOk sqIn at hk
    simp only [Bool.and_eq_true, decide_eq_true_eq] at hk
    have C2 := Lib.hid (fun W => squareOf_any x y s f t p W hk.1.1.1 hk.1.1.2 (okAt_in hk.1.2.1) (okAt_in hk.1.2.2))
    clear e1 e2 hk
    unfold boreV rv at C2
    generalize sqR x y s = q at *
    go_enter Try.func5, Try.ntmps5
    go_wp2_with fail
    refine (C0.out _).mono ?_
    rintro e w1 ⟨rfl, hb⟩
    obtain ⟨kb, fb⟩ := kp hb (b := w.heap.size) (cs := #[Value.int .i64 x, Value.int .i64 y, Value.int .i64 s, Value.int .i64 f, Value.int .i64 t, Value.bool p]) (by (first | (with_reducible exact Nat.le_refl _) | (with_reducible assumption) | omega | (simp only [World.size_alloc, World.size_setCell, World.size_drew]; omega) | (simp; omega) | (simp; done))) (fun i => by simp [go_sem]) (fun i => by simp [go_sem])
    obtain ⟨kq, fq⟩ := kp hb (b := w.heap.size + 1) (cs := #[Value.int .i64 0, Value.int .i64 0, Value.int .i64 0, Value.int .i64 0]) (by (first | (with_reducible exact Nat.le_refl _) | (with_reducible assumption) | omega | (simp only [World.size_alloc, World.size_setCell, World.size_drew]; omega) | (simp; omega) | (simp; done))) (fun i => by simp [go_sem]) (fun i => by simp [go_sem])
    have l0 := kb 0
    have l1 := kb 1
    have l2 := kb 2
    have l3 := kb 3
    have l4 := kb 4
    have l5 := kb 5
    simp only [List.getElem?_toArray, List.getElem?_cons_zero, List.getElem?_cons_succ] at l0 l1 l2 l3 l4 l5
    have z1 := hb.size
    (try simp only [World.size_alloc, World.size_setCell, World.size_drew] at z1)
    have B1 := up (B := w.heap.size) (w := w) (by (repeat' (first | (with_reducible exact Below.refl _ _) | (with_reducible assumption) | (with_reducible refine Below.alloc ?_ ?_ _) | (with_reducible refine Below.drew ?_) | (with_reducible refine below_drewN ?_ _) | (with_reducible refine Below.setCell ?_ ?_ _) | (with_reducible exact Nat.le_refl _) | omega | (simp only [World.size_alloc, World.size_setCell, World.size_drew]; omega) | (simp; omega) | (simp; done)))) hb (by (first | (with_reducible exact Nat.le_refl _) | (with_reducible assumption) | omega | (simp only [World.size_alloc, World.size_setCell, World.size_drew]; omega) | (simp; omega) | (simp; done)))
    clear hb kb fb
    go_wp2_with fail
    refine (C2.out _).mono ?_
    rintro e w2 ⟨rfl, hb⟩
    obtain ⟨kq2, fq2⟩ := kp hb (b := w.heap.size + 1) (by omega) kq fq
    have B2 := up (B := w.heap.size) (w := w) B1 hb B1.size
    clear hb kq fq l0 l1 l2 l3 l4 l5
    go_wp2_with fail
    have kz := set4 (a := .int .i64 q.x0) (b := .int .i64 q.y0) (c := .int .i64 q.x1) (d := .int .i64 q.y1) kq2
    exact bodyPost_ret (v := .tuple #[rv q, .int .i64 0]) (by simp [results, Try.results5, go_sem, kz]) rfl ⟨rfl, by (repeat' (first | (with_reducible exact Below.refl _ _) | (with_reducible assumption) | (with_reducible refine Below.alloc ?_ ?_ _) | (with_reducible refine Below.drew ?_) | (with_reducible refine below_drewN ?_ _) | (with_reducible refine Below.setCell ?_ ?_ _) | (with_reducible exact Nat.le_refl _) | omega | (simp only [World.size_alloc, World.size_setCell, World.size_drew]; omega) | (simp; omega) | (simp; done)))⟩
theorem awake_any (w : World) : Calls Try.prog 6 #[] w fun e w' => e = .returned (.bool true) ∧ Below w.heap.size w w' := by
  have C1 := Lib.hid (fun W => show Calls Try.prog 4 #[.agg #[.int .i64 0, .int .i64 0, .int .i64 2, .int .i64 0, .int .i64 0, .bool false]] W fun e w' => e = .returned (.tuple #[.agg #[.int .i64 (-1), .int .i64 (-1), .int .i64 1, .int .i64 1], .int .i64 0]) ∧ Below W.heap.size W w' from square_any 0 0 2 0 0 false W)
  go_enter Try.func6, Try.ntmps6
  go_wp2_with fail
  refine (C1.out _).mono ?_
  rintro e w1 ⟨rfl, hb⟩
  have B1 := up (B := w.heap.size) (w := w) (by (repeat' (first | (with_reducible exact Below.refl _ _) | (with_reducible assumption) | (with_reducible refine Below.alloc ?_ ?_ _) | (with_reducible refine Below.drew ?_) | (with_reducible refine below_drewN ?_ _) | (with_reducible refine Below.setCell ?_ ?_ _) | (with_reducible exact Nat.le_refl _) | omega | (simp only [World.size_alloc, World.size_setCell, World.size_drew]; omega) | (simp; omega) | (simp; done)))) hb (by (first | (with_reducible exact Nat.le_refl _) | (with_reducible assumption) | omega | (simp only [World.size_alloc, World.size_setCell, World.size_drew]; omega) | (simp; omega) | (simp; done)))
  clear hb
  go_wp2_with fail
  go_ret
  exact ⟨rfl, B1.alloc B1.size _⟩
set_option maxRecDepth 100000 in
set_option maxHeartbeats 4000000 in
theorem squares_walk (x y s f t : Int) (p : Bool) (w : World) : Calls Try.prog 3 #[boreV x y s f t p] w fun e w' => e = .returned (.bool true) ∧ Below w.heap.size w w' := by
  have C1 := Lib.hid (fun W => square_any x y s f t p W)
  have C2 := Lib.hid (fun W => rsquare_any x y s f t p W)
  have C3 := Lib.hid (fun W => awake_any W)
  unfold boreV rv at *
  generalize sqV x y s = q at *
  generalize sqF x y s = d at *
  go_enter Try.func3, Try.ntmps3
  go_wp2_with fail
  refine (C1.out _).mono ?_
  rintro e w1 ⟨rfl, hb⟩
  obtain ⟨kb, fb⟩ := kp hb (b := w.heap.size) (cs := #[Value.int .i64 x, Value.int .i64 y, Value.int .i64 s, Value.int .i64 f, Value.int .i64 t, Value.bool p]) (by (first | (with_reducible exact Nat.le_refl _) | (with_reducible assumption) | omega | (simp only [World.size_alloc, World.size_setCell, World.size_drew]; omega) | (simp; omega) | (simp; done))) (fun i => by simp [go_sem]) (fun i => by simp [go_sem])
  have l0 := kb 0
  have l1 := kb 1
  have l2 := kb 2
  have l3 := kb 3
  have l4 := kb 4
  have l5 := kb 5
  simp only [List.getElem?_toArray, List.getElem?_cons_zero, List.getElem?_cons_succ] at l0 l1 l2 l3 l4 l5
  have z1 := hb.size
  (try simp only [World.size_alloc, World.size_setCell, World.size_drew] at z1)
  have B1 := up (B := w.heap.size) (w := w) (by (repeat' (first | (with_reducible exact Below.refl _ _) | (with_reducible assumption) | (with_reducible refine Below.alloc ?_ ?_ _) | (with_reducible refine Below.drew ?_) | (with_reducible refine below_drewN ?_ _) | (with_reducible refine Below.setCell ?_ ?_ _) | (with_reducible exact Nat.le_refl _) | omega | (simp only [World.size_alloc, World.size_setCell, World.size_drew]; omega) | (simp; omega) | (simp; done)))) hb (by (first | (with_reducible exact Nat.le_refl _) | (with_reducible assumption) | omega | (simp only [World.size_alloc, World.size_setCell, World.size_drew]; omega) | (simp; omega) | (simp; done)))
  have n1 : ¬ w.heap.size = w1.heap.size := by omega
  have n2 : ¬ w1.heap.size = w.heap.size := by omega
  have n3 : w.heap.size < w1.heap.size := by omega
  clear hb kb fb
  go_wp2_with fail
  refine (C2.out _).mono ?_
  rintro e w2 ⟨rfl, hb⟩
  obtain ⟨kq, fq⟩ := kp hb (b := w1.heap.size) (cs := #[Value.int .i64 q.x0, Value.int .i64 q.y0, Value.int .i64 q.x1, Value.int .i64 q.y1]) (by (first | (with_reducible exact Nat.le_refl _) | (with_reducible assumption) | omega | (simp only [World.size_alloc, World.size_setCell, World.size_drew]; omega) | (simp; omega) | (simp; done))) (fun i => by simp [go_sem]) (fun i => by simp [go_sem])
  have z2 := hb.size
  (try simp only [World.size_alloc, World.size_setCell, World.size_drew] at z2)
  have B2 := up (B := w.heap.size) (w := w) (by (repeat' (first | (with_reducible exact Below.refl _ _) | (with_reducible assumption) | (with_reducible refine Below.alloc ?_ ?_ _) | (with_reducible refine Below.drew ?_) | (with_reducible refine below_drewN ?_ _) | (with_reducible refine Below.setCell ?_ ?_ _) | (with_reducible exact Nat.le_refl _) | omega | (simp only [World.size_alloc, World.size_setCell, World.size_drew]; omega) | (simp; omega) | (simp; done)))) hb (by (first | (with_reducible exact Nat.le_refl _) | (with_reducible assumption) | omega | (simp only [World.size_alloc, World.size_setCell, World.size_drew]; omega) | (simp; omega) | (simp; done)))
  clear hb l0 l1 l2 l3 l4 l5
  have n4 : ¬ w1.heap.size = w2.heap.size := by omega
  have n5 : ¬ w2.heap.size = w1.heap.size := by omega
  have n6 : w1.heap.size < w2.heap.size := by omega
  have l0 := kq 0
  have l1 := kq 1
  have l2 := kq 2
  have l3 := kq 3
  simp only [List.getElem?_toArray, List.getElem?_cons_zero, List.getElem?_cons_succ] at l0 l1 l2 l3
  clear kq fq
  go_wp2_with (go_at_call 6; refine (C3.out _).mono ?_; rintro e w3 ⟨rfl, hb⟩; have B3 := up (B := w.heap.size) (w := w) (by (repeat' (first | (with_reducible exact Below.refl _ _) | (with_reducible assumption) | (with_reducible refine Below.alloc ?_ ?_ _) | (with_reducible refine Below.drew ?_) | (with_reducible refine below_drewN ?_ _) | (with_reducible refine Below.setCell ?_ ?_ _) | (with_reducible exact Nat.le_refl _) | omega | (simp only [World.size_alloc, World.size_setCell, World.size_drew]; omega) | (simp; omega) | (simp; done)))) hb (by (first | (with_reducible exact Nat.le_refl _) | (with_reducible assumption) | omega | (simp only [World.size_alloc, World.size_setCell, World.size_drew]; omega) | (simp; omega) | (simp; done))); clear hb)
  go_ret
  exact ⟨rfl, by (repeat' (first | (with_reducible exact Below.refl _ _) | (with_reducible assumption) | (with_reducible refine Below.alloc ?_ ?_ _) | (with_reducible refine Below.drew ?_) | (with_reducible refine below_drewN ?_ _) | (with_reducible refine Below.setCell ?_ ?_ _) | (with_reducible exact Nat.le_refl _) | omega | (simp only [World.size_alloc, World.size_setCell, World.size_drew]; omega) | (simp; omega) | (simp; done)))⟩

set_option maxRecDepth 100000 in
theorem artSquaresMatchSpec_lifted (os : Os) (started : os.Started) (H : Type) (enc : TypeId × Value → H) :
    ReturnsInHanded {} Try.checked os 3 .any (Rows.artSquaresMatchSpecSpec.pre6 enc Try.prog Try.f3 Rows.artSquaresMatchSpecRow.domain false) (Rows.artSquaresMatchSpecSpec.post enc Try.prog Try.f3 false true false false) := by
  refine returnsInHanded_of_change_sized (C := Try.checked) own started (by kernel_rfl) Try.func3
    (ChangeSpec.witness6 (enc := enc) (C := Try.checked) false ⟨#[], #[.agg #[.int .i64 0, .int .i64 0, .int .i64 0, .int .i64 0, .int .i64 0, .bool false]], []⟩ 8 (by kernel_rfl) (by kernel_rfl) (by kernel_rfl) (by kernel_rfl)) ?_
  intro W base args ds gs before hval0 hW hcnd hsz0 _
  have hval : ∀ (j : Nat) t v, Try.f3.params[j]? = some t → args[j]? = some v → Value.okWide Try.prog W .any base t v := hval0
  have hsz : (DataW.weightsEach Try.prog (Try.f3.params.toList ++ Rows.artSquaresMatchSpecSpec.plain.varTypes Try.prog) (ds ++ gs)).all (· ≤ reachBytes) = true := hsz0
  have hW' := hW
  obtain ⟨p, q, hA0, hV, rfl, hfz, hnd⟩ := hW
  have hA : DataW.TrodAll enc Try.prog W 0 (fun _ => true) true Try.f3.params.toList args.toList ds p := hA0
  rw [Try.params3] at hA hval hsz
  obtain ⟨v0, vs0, d0, ds0, p0, q0, hargs, rfl, rfl, h0, r0⟩ := trodAll_cons hA
  obtain ⟨rfl, rfl, rfl⟩ := trodAll_nil r0
  obtain rfl : args = #[v0] := by cases args; simp_all
  obtain ⟨rfl, rfl⟩ := trodVars_none hV
  have k0 := h0
  have lt0 : ∀ x ∈ p0, x.block < W.heap.size := by obtain ⟨m, hm⟩ := k0; exact DataW.trod_lt m _ _ _ hm
  obtain ⟨x0, y0, s0, f0, t0, g0, rfl⟩ := open_bore (hval 0 25 v0 rfl rfl) h0
  clear hA0 hval0 hsz0
  refine (squares_walk x0 y0 s0 f0 t0 g0 W ).mono fun e W' ⟨he, bel⟩ => ?_
  subst he
  exact ⟨_, rfl, _, _, _, [], _, [], hW', trodAll_mk1 (shut_bool Try.underlying4 _), (trodAll_cons_mk (Below.trod laidOut (by kernel_rfl) (of_decide_eq_true (by kernel_rfl)) k0 bel lt0) trodAll_mk0), rfl, bel.frame _, fun h => by cases h⟩

set_option maxRecDepth 100000 in
theorem artSquaresMatchSpec_holds : Rows.ArtSquaresMatchSpecSaid :=
  OpenClaim.holds_of_wide 3 Try.f3 rfl rfl rfl rfl rfl rfl rfl ⟨rfl, rfl, rfl, rfl, rfl⟩ rfl rfl rfl rfl rfl (by kernel_rfl) Try.func3 (by kernel_rfl)
    (of_decide_eq_true (by kernel_rfl)) (by unfold Func.isWrapper; rw [if_neg (by decide +kernel)]; exact ⟨rfl, rfl⟩)
    (fun os started H enc _ => artSquaresMatchSpec_lifted os started H enc)
end Go.Proofs.Ytmgcahoamcheoaa

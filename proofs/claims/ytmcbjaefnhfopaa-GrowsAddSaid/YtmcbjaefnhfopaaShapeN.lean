/- Has and Area of package shape, of a slice with whatever room. -/
import Derived.Test.YtmcbjaefnhfopaaShapeG
import Derived.Test.YtmcbjaefnhfopaaShapeM
namespace Go.Proofs.Ytmcbjaefnhfopaa
open Go.RowKit
open Reg (R4)
set_option linter.unusedSimpArgs false
set_option linter.unusedVariables false

set_option maxRecDepth 100000 in
set_option maxHeartbeats 1000000 in
theorem has_anyM (A : Option Addr) (l : List R4) (c : Nat) (x y : Int) (w : World) (hl : l.length ≤ c) (hc : c ≤ maxLen) (hl2 : l.length ≤ 140737488355328) (h : Rd w A l) :
    Calls Try.prog 48 #[.slice A l.length c, .agg #[.int .i64 x, .int .i64 y]] w fun e w' => e = .returned (.tuple #[.bool (hasF l x y).1, .int .i64 (hasF l x y).2]) ∧ Below w.heap.size w w' := by
  have H0 := Lib.hid h
  have C1 := Lib.hid (fun W h => checkRegion_anyM A l c W hl (by simpa [maxLen] using hc) hl2 h)
  clear h
  by_cases h0 : regF l = 0
  · have hf : hasF l x y = if okAt x && okAt y then (hasB l x y, 0) else (false, 1) := if_pos h0
    rw [h0] at C1
    clear h0
    cases hp : (okAt x && okAt y)
    · rw [hp] at hf
      have C2 := Lib.hid (show ∀ W, Calls Try.prog 71 #[.agg #[.int .i64 x, .int .i64 y]] W fun e w' => e = .returned (.bool false) ∧ Below W.heap.size W w' from fun W => hp ▸ pointInRange_any x y W)
      rw [show hasF l x y = (false, 1) from hf]
      clear hf hp
      go_enter Try.func48, Try.ntmps48
      go_wp2_with fail
      refine (C1.out _ (H0.out.below (by (repeat' (first | (with_reducible exact Below.refl _ _) | (with_reducible assumption) | (with_reducible refine Below.alloc ?_ ?_ _) | (with_reducible refine Below.drew ?_) | (with_reducible refine below_drewN ?_ _) | (with_reducible refine Below.setCell ?_ ?_ _) | (with_reducible exact Nat.le_refl _) | omega | (simp only [World.size_alloc, World.size_setCell, World.size_drew]; omega) | (simp; omega) | (simp; done)))))).mono ?_
      rintro e w1 ⟨rfl, hb⟩
      obtain ⟨kq, fq⟩ := kp hb (b := w.heap.size) (cs := #[Value.int .i64 x, Value.int .i64 y]) (by (first | (with_reducible exact Nat.le_refl _) | (with_reducible assumption) | omega | (simp only [World.size_alloc, World.size_setCell, World.size_drew]; omega) | (simp; omega) | (simp; done))) (fun i => by simp [go_sem]) (fun i => by simp [go_sem])
      have z1 := hb.size
      (try simp only [World.size_alloc, World.size_setCell, World.size_drew] at z1)
      have B1 := up (B := w.heap.size) (w := w) (by (repeat' (first | (with_reducible exact Below.refl _ _) | (with_reducible assumption) | (with_reducible refine Below.alloc ?_ ?_ _) | (with_reducible refine Below.drew ?_) | (with_reducible refine below_drewN ?_ _) | (with_reducible refine Below.setCell ?_ ?_ _) | (with_reducible exact Nat.le_refl _) | omega | (simp only [World.size_alloc, World.size_setCell, World.size_drew]; omega) | (simp; omega) | (simp; done)))) hb (by (first | (with_reducible exact Nat.le_refl _) | (with_reducible assumption) | omega | (simp only [World.size_alloc, World.size_setCell, World.size_drew]; omega) | (simp; omega) | (simp; done)))
      clear hb
      go_wp2_with fail
      refine (C2.out _).mono ?_
      rintro e w2 ⟨rfl, hb⟩
      have B2 := up (B := w.heap.size) (w := w) (by (repeat' (first | (with_reducible exact Below.refl _ _) | (with_reducible assumption) | (with_reducible refine Below.alloc ?_ ?_ _) | (with_reducible refine Below.drew ?_) | (with_reducible refine below_drewN ?_ _) | (with_reducible refine Below.setCell ?_ ?_ _) | (with_reducible exact Nat.le_refl _) | omega | (simp only [World.size_alloc, World.size_setCell, World.size_drew]; omega) | (simp; omega) | (simp; done)))) hb (by (first | (with_reducible exact Nat.le_refl _) | (with_reducible assumption) | omega | (simp only [World.size_alloc, World.size_setCell, World.size_drew]; omega) | (simp; omega) | (simp; done)))
      clear hb
      go_wp2_with fail
      go_ret2
      exact ⟨rfl, B2⟩
    · rw [hp] at hf
      rw [Bool.and_eq_true] at hp
      have hx6 := okAt_in hp.1
      have hy6 := okAt_in hp.2
      have C2 := Lib.hid (show ∀ W, Calls Try.prog 71 #[.agg #[.int .i64 x, .int .i64 y]] W fun e w' => e = .returned (.bool true) ∧ Below W.heap.size W w' from fun W => by
        have := pointInRange_any x y W
        rw [hp.1, hp.2] at this
        exact this)
      have C3 := Lib.hid (fun W => squareAt_any x y hx6 hy6 W)
      rw [show hasF l x y = (hasB l x y, 0) from hf]
      clear hf hp hx6 hy6
      go_enter Try.func48, Try.ntmps48
      go_wp2_with fail
      refine (C1.out _ (H0.out.below (by (repeat' (first | (with_reducible exact Below.refl _ _) | (with_reducible assumption) | (with_reducible refine Below.alloc ?_ ?_ _) | (with_reducible refine Below.drew ?_) | (with_reducible refine below_drewN ?_ _) | (with_reducible refine Below.setCell ?_ ?_ _) | (with_reducible exact Nat.le_refl _) | omega | (simp only [World.size_alloc, World.size_setCell, World.size_drew]; omega) | (simp; omega) | (simp; done)))))).mono ?_
      rintro e w1 ⟨rfl, hb⟩
      obtain ⟨kq, fq⟩ := kp hb (b := w.heap.size) (cs := #[Value.int .i64 x, Value.int .i64 y]) (by (first | (with_reducible exact Nat.le_refl _) | (with_reducible assumption) | omega | (simp only [World.size_alloc, World.size_setCell, World.size_drew]; omega) | (simp; omega) | (simp; done))) (fun i => by simp [go_sem]) (fun i => by simp [go_sem])
      have z1 := hb.size
      (try simp only [World.size_alloc, World.size_setCell, World.size_drew] at z1)
      have B1 := up (B := w.heap.size) (w := w) (by (repeat' (first | (with_reducible exact Below.refl _ _) | (with_reducible assumption) | (with_reducible refine Below.alloc ?_ ?_ _) | (with_reducible refine Below.drew ?_) | (with_reducible refine below_drewN ?_ _) | (with_reducible refine Below.setCell ?_ ?_ _) | (with_reducible exact Nat.le_refl _) | omega | (simp only [World.size_alloc, World.size_setCell, World.size_drew]; omega) | (simp; omega) | (simp; done)))) hb (by (first | (with_reducible exact Nat.le_refl _) | (with_reducible assumption) | omega | (simp only [World.size_alloc, World.size_setCell, World.size_drew]; omega) | (simp; omega) | (simp; done)))
      clear hb
      go_wp2_with fail
      refine (C2.out _).mono ?_
      rintro e w2 ⟨rfl, hb⟩
      obtain ⟨kq2, fq2⟩ := kp hb (b := w.heap.size) (cs := #[Value.int .i64 x, Value.int .i64 y]) (by (first | (with_reducible exact Nat.le_refl _) | (with_reducible assumption) | omega | (simp only [World.size_alloc, World.size_setCell, World.size_drew]; omega) | (simp; omega) | (simp; done))) kq fq
      have z2 := hb.size
      have B2 := up (B := w.heap.size) (w := w) (by (repeat' (first | (with_reducible exact Below.refl _ _) | (with_reducible assumption) | (with_reducible refine Below.alloc ?_ ?_ _) | (with_reducible refine Below.drew ?_) | (with_reducible refine below_drewN ?_ _) | (with_reducible refine Below.setCell ?_ ?_ _) | (with_reducible exact Nat.le_refl _) | omega | (simp only [World.size_alloc, World.size_setCell, World.size_drew]; omega) | (simp; omega) | (simp; done)))) hb (by (first | (with_reducible exact Nat.le_refl _) | (with_reducible assumption) | omega | (simp only [World.size_alloc, World.size_setCell, World.size_drew]; omega) | (simp; omega) | (simp; done)))
      clear hb kq fq
      go_wp2_with fail
      go_loopw [19] (fun i wr => ∃ k : Nat, k ≤ l.length ∧ i = .int .i64 k ∧ hasB l x y = hasB (l.drop k) x y ∧ Below w2.heap.size w2 wr) (fun i _ => l.length - (intOf i).toNat)
      case atStart => exact ⟨0, Nat.zero_le _, rfl, rfl, Below.refl _ _⟩
      case round =>
        obtain ⟨k, hk, rfl, hf, hbw⟩ := hrel
        have zw := hbw.size
        have HF := Lib.hid hf
        clear hf
        have Hw := Lib.hid (show Below w.heap.size w wr from B2.trans (hbw.mono (by omega)))
        have hkz : (0 : Int) ≤ (k : Int) := by omega
        by_cases hlt : k < l.length
        · obtain ⟨b, off, rfl, hblt, hcs⟩ := (H0.out.below Hw.out) (by omega)
          have hi : l[k]? = some l[k] := List.getElem?_eq_getElem hlt
          obtain ⟨c0, c1, c2, c3⟩ := hcs k _ hi
          have hd : l.drop k = l[k] :: l.drop (k + 1) := List.drop_eq_getElem_cons hlt
          have HD := Lib.hid hd
          clear hd hi hcs
          generalize l[k] = r at *
          have hklt : (k : Int) < (l.length : Int) := by omega
          have KQ := Lib.hid (show ∀ i, wr.cell? ⟨w.heap.size, i, none⟩ = (#[Value.int .i64 x, Value.int .i64 y])[i]? from fun i => ((bcell hbw).1 _ i (by omega)).trans (kq2 i))
          have p0 := KQ.out 0
          have p1 := KQ.out 1
          simp only [List.getElem?_toArray, List.getElem?_cons_zero, List.getElem?_cons_succ] at p0 p1
          cases ho : overR r ⟨x, y, x + 1, y + 1⟩
          · have C4 := Lib.hid (show ∀ W, Calls Try.prog 72 #[.agg #[.int .i64 r.x0, .int .i64 r.y0, .int .i64 r.x1, .int .i64 r.y1], .agg #[.int .i64 x, .int .i64 y, .int .i64 (x + 1), .int .i64 (y + 1)]] W fun e w' => e = .returned (.bool false) ∧ Below W.heap.size W w' from fun W => ho ▸ overlap_any r ⟨x, y, x + 1, y + 1⟩ W)
            have hn : hasB l x y = hasB (l.drop (k + 1)) x y := by rw [HF.out, HD.out]; simp [hasB, ho]
            have HN := Lib.hid hn
            clear hn ho
            go_wp2_with fail
            go_region_held3 (fun w' => w'.cell? ⟨w.heap.size, 0, none⟩ = some (.int .i64 x) ∧ w'.cell? ⟨w.heap.size, 1, none⟩ = some (.int .i64 y) ∧ w'.cell? ⟨wr.heap.size, 0, none⟩ = some (.int .i64 r.x0) ∧ w'.cell? ⟨wr.heap.size, 1, none⟩ = some (.int .i64 r.y0) ∧ w'.cell? ⟨wr.heap.size, 2, none⟩ = some (.int .i64 r.x1) ∧ w'.cell? ⟨wr.heap.size, 3, none⟩ = some (.int .i64 r.y1)) (go_keep)
              (first | (go_at_call 73; refine (C3.out _).mono ?_; rintro e wc ⟨rfl, hb⟩; have qc := kc hb w.heap.size (by (first | (with_reducible exact Nat.le_refl _) | (with_reducible assumption) | omega | (simp only [World.size_alloc, World.size_setCell, World.size_drew]; omega) | (simp; omega) | (simp; done))); have qd := kc hb wr.heap.size (by (first | (with_reducible exact Nat.le_refl _) | (with_reducible assumption) | omega | (simp only [World.size_alloc, World.size_setCell, World.size_drew]; omega) | (simp; omega) | (simp; done))); have zc := hb.size; (try simp only [World.size_alloc, World.size_setCell, World.size_drew] at zc); have Bc := up (B := w2.heap.size) (w := w2) (by (repeat' (first | (with_reducible exact Below.refl _ _) | (with_reducible assumption) | (with_reducible refine Below.alloc ?_ ?_ _) | (with_reducible refine Below.drew ?_) | (with_reducible refine below_drewN ?_ _) | (with_reducible refine Below.setCell ?_ ?_ _) | (with_reducible exact Nat.le_refl _) | omega | (simp only [World.size_alloc, World.size_setCell, World.size_drew]; omega) | (simp; omega) | (simp; done)))) hb (by (first | (with_reducible exact Nat.le_refl _) | (with_reducible assumption) | omega | (simp only [World.size_alloc, World.size_setCell, World.size_drew]; omega) | (simp; omega) | (simp; done))); clear hb) | (go_at_call 72; refine (C4.out _).mono ?_; rintro e wc2 ⟨rfl, hb⟩; have qc2 := kc hb w.heap.size (by (first | (with_reducible exact Nat.le_refl _) | (with_reducible assumption) | omega | (simp only [World.size_alloc, World.size_setCell, World.size_drew]; omega) | (simp; omega) | (simp; done))); have qd2 := kc hb wr.heap.size (by (first | (with_reducible exact Nat.le_refl _) | (with_reducible assumption) | omega | (simp only [World.size_alloc, World.size_setCell, World.size_drew]; omega) | (simp; omega) | (simp; done))); have zc2 := hb.size; (try simp only [World.size_alloc, World.size_setCell, World.size_drew] at zc2); have Bc2 := up (B := w2.heap.size) (w := w2) (by (repeat' (first | (with_reducible exact Below.refl _ _) | (with_reducible assumption) | (with_reducible refine Below.alloc ?_ ?_ _) | (with_reducible refine Below.drew ?_) | (with_reducible refine below_drewN ?_ _) | (with_reducible refine Below.setCell ?_ ?_ _) | (with_reducible exact Nat.le_refl _) | omega | (simp only [World.size_alloc, World.size_setCell, World.size_drew]; omega) | (simp; omega) | (simp; done)))) hb (by (first | (with_reducible exact Nat.le_refl _) | (with_reducible assumption) | omega | (simp only [World.size_alloc, World.size_setCell, World.size_drew]; omega) | (simp; omega) | (simp; done))); clear hb))
            go_wp2_with fail
            go_roundw
            case rel => exact ⟨k + 1, by omega, by go_num, HN.out, Bc2⟩
            case measure => simp [intOf]; omega
          · have C4 := Lib.hid (show ∀ W, Calls Try.prog 72 #[.agg #[.int .i64 r.x0, .int .i64 r.y0, .int .i64 r.x1, .int .i64 r.y1], .agg #[.int .i64 x, .int .i64 y, .int .i64 (x + 1), .int .i64 (y + 1)]] W fun e w' => e = .returned (.bool true) ∧ Below W.heap.size W w' from fun W => ho ▸ overlap_any r ⟨x, y, x + 1, y + 1⟩ W)
            have hn : hasB l x y = true := by rw [HF.out, HD.out]; simp [hasB, ho]
            have HN := Lib.hid hn
            clear hn ho
            go_wp2_with fail
            go_region_held3 (fun w' => w'.cell? ⟨w.heap.size, 0, none⟩ = some (.int .i64 x) ∧ w'.cell? ⟨w.heap.size, 1, none⟩ = some (.int .i64 y) ∧ w'.cell? ⟨wr.heap.size, 0, none⟩ = some (.int .i64 r.x0) ∧ w'.cell? ⟨wr.heap.size, 1, none⟩ = some (.int .i64 r.y0) ∧ w'.cell? ⟨wr.heap.size, 2, none⟩ = some (.int .i64 r.x1) ∧ w'.cell? ⟨wr.heap.size, 3, none⟩ = some (.int .i64 r.y1)) (go_keep)
              (first | (go_at_call 73; refine (C3.out _).mono ?_; rintro e wc ⟨rfl, hb⟩; have qc := kc hb w.heap.size (by (first | (with_reducible exact Nat.le_refl _) | (with_reducible assumption) | omega | (simp only [World.size_alloc, World.size_setCell, World.size_drew]; omega) | (simp; omega) | (simp; done))); have qd := kc hb wr.heap.size (by (first | (with_reducible exact Nat.le_refl _) | (with_reducible assumption) | omega | (simp only [World.size_alloc, World.size_setCell, World.size_drew]; omega) | (simp; omega) | (simp; done))); have zc := hb.size; (try simp only [World.size_alloc, World.size_setCell, World.size_drew] at zc); have Bc := up (B := w2.heap.size) (w := w2) (by (repeat' (first | (with_reducible exact Below.refl _ _) | (with_reducible assumption) | (with_reducible refine Below.alloc ?_ ?_ _) | (with_reducible refine Below.drew ?_) | (with_reducible refine below_drewN ?_ _) | (with_reducible refine Below.setCell ?_ ?_ _) | (with_reducible exact Nat.le_refl _) | omega | (simp only [World.size_alloc, World.size_setCell, World.size_drew]; omega) | (simp; omega) | (simp; done)))) hb (by (first | (with_reducible exact Nat.le_refl _) | (with_reducible assumption) | omega | (simp only [World.size_alloc, World.size_setCell, World.size_drew]; omega) | (simp; omega) | (simp; done))); clear hb) | (go_at_call 72; refine (C4.out _).mono ?_; rintro e wc2 ⟨rfl, hb⟩; have qc2 := kc hb w.heap.size (by (first | (with_reducible exact Nat.le_refl _) | (with_reducible assumption) | omega | (simp only [World.size_alloc, World.size_setCell, World.size_drew]; omega) | (simp; omega) | (simp; done))); have qd2 := kc hb wr.heap.size (by (first | (with_reducible exact Nat.le_refl _) | (with_reducible assumption) | omega | (simp only [World.size_alloc, World.size_setCell, World.size_drew]; omega) | (simp; omega) | (simp; done))); have zc2 := hb.size; (try simp only [World.size_alloc, World.size_setCell, World.size_drew] at zc2); have Bc2 := up (B := w2.heap.size) (w := w2) (by (repeat' (first | (with_reducible exact Below.refl _ _) | (with_reducible assumption) | (with_reducible refine Below.alloc ?_ ?_ _) | (with_reducible refine Below.drew ?_) | (with_reducible refine below_drewN ?_ _) | (with_reducible refine Below.setCell ?_ ?_ _) | (with_reducible exact Nat.le_refl _) | omega | (simp only [World.size_alloc, World.size_setCell, World.size_drew]; omega) | (simp; omega) | (simp; done)))) hb (by (first | (with_reducible exact Nat.le_refl _) | (with_reducible assumption) | omega | (simp only [World.size_alloc, World.size_setCell, World.size_drew]; omega) | (simp; omega) | (simp; done))); clear hb))
            go_wp2_with fail
            go_ret2
            exact ⟨by rw [HN.out]; rfl, B2.trans (Bc2.mono (by omega))⟩
        · obtain rfl : k = l.length := by omega
          have hn : hasB l x y = false := by rw [HF.out, List.drop_length]; rfl
          have HN := Lib.hid hn
          clear hn
          go_wp2_with fail
          go_ret2
          exact ⟨by rw [HN.out]; rfl, Hw.out⟩
  · rw [show hasF l x y = (false, regF l) from if_neg h0]
    have hd : (regF l == 0) = false := by simpa using h0
    clear h0
    generalize regF l = d at *
    go_enter Try.func48, Try.ntmps48
    go_wp2_with fail
    refine (C1.out _ (H0.out.below (by (repeat' (first | (with_reducible exact Below.refl _ _) | (with_reducible assumption) | (with_reducible refine Below.alloc ?_ ?_ _) | (with_reducible refine Below.drew ?_) | (with_reducible refine below_drewN ?_ _) | (with_reducible refine Below.setCell ?_ ?_ _) | (with_reducible exact Nat.le_refl _) | omega | (simp only [World.size_alloc, World.size_setCell, World.size_drew]; omega) | (simp; omega) | (simp; done)))))).mono ?_
    rintro e w1 ⟨rfl, hb⟩
    have B1 := up (B := w.heap.size) (w := w) (by (repeat' (first | (with_reducible exact Below.refl _ _) | (with_reducible assumption) | (with_reducible refine Below.alloc ?_ ?_ _) | (with_reducible refine Below.drew ?_) | (with_reducible refine below_drewN ?_ _) | (with_reducible refine Below.setCell ?_ ?_ _) | (with_reducible exact Nat.le_refl _) | omega | (simp only [World.size_alloc, World.size_setCell, World.size_drew]; omega) | (simp; omega) | (simp; done)))) hb (by (first | (with_reducible exact Nat.le_refl _) | (with_reducible assumption) | omega | (simp only [World.size_alloc, World.size_setCell, World.size_drew]; omega) | (simp; omega) | (simp; done)))
    clear hb
    go_wp2_with fail
    go_ret2
    exact ⟨rfl, B1⟩
set_option maxRecDepth 100000 in
set_option maxHeartbeats 1000000 in
theorem area_anyM (A : Option Addr) (l : List R4) (c : Nat) (w : World) (hl : l.length ≤ c) (hc : c ≤ maxLen) (hl2 : l.length ≤ 140737488355328) (h : Rd w A l) :
    Calls Try.prog 43 #[.slice A l.length c] w fun e w' => e = .returned (.tuple #[.int .i64 (areaF l), .int .i64 (regF l)]) ∧ Below w.heap.size w w' := by
  have H0 := Lib.hid h
  have C1 := Lib.hid (fun W h => checkRegion_anyM A l c W hl (by simpa [maxLen] using hc) hl2 h)
  clear h
  by_cases h0 : regF l = 0
  · have hA : areaF l = areaL l := if_pos h0
    have HR := Lib.hid (rect_in (regF_rects h0))
    obtain ⟨_, h2000⟩ := (show Reg.Good l ∧ l.length ≤ 2000 from by
      have h := regF_rects h0
      refine ⟨fun r hr => ⟨(rect_in h r hr).2.2.2.2.1, (rect_in h r hr).2.2.2.2.2⟩, ?_⟩
      unfold rectsF at h
      split at h
      · cases h
      · omega)
    rw [hA, h0]
    rw [h0] at C1
    clear h0 hA
    go_enter Try.func43, Try.ntmps43
    go_wp2_with fail
    refine (C1.out _ H0.out).mono ?_
    rintro e w1 ⟨rfl, hb⟩
    have B1 := up (B := w.heap.size) (w := w) (by (repeat' (first | (with_reducible exact Below.refl _ _) | (with_reducible assumption) | (with_reducible refine Below.alloc ?_ ?_ _) | (with_reducible refine Below.drew ?_) | (with_reducible refine below_drewN ?_ _) | (with_reducible refine Below.setCell ?_ ?_ _) | (with_reducible exact Nat.le_refl _) | omega | (simp only [World.size_alloc, World.size_setCell, World.size_drew]; omega) | (simp; omega) | (simp; done)))) hb (by (first | (with_reducible exact Nat.le_refl _) | (with_reducible assumption) | omega | (simp only [World.size_alloc, World.size_setCell, World.size_drew]; omega) | (simp; omega) | (simp; done)))
    have z1 := B1.size
    clear hb
    go_wp2_with fail
    go_loopw [5, 15] (fun v i wr => ∃ k : Nat, k ≤ l.length ∧ i = .int .i64 k ∧ v = .int .i64 (areaL (l.take k)) ∧ Below w.heap.size w wr) (fun _ i _ => l.length - (intOf i).toNat)
    case atStart => exact ⟨0, Nat.zero_le _, rfl, rfl, B1⟩
    case round =>
      obtain ⟨k, hk, rfl, rfl, hbw⟩ := hrel
      have zw := hbw.size
      have hkz : (0 : Int) ≤ (k : Int) := by omega
      have hab := area_bound (l := l.take k) (fun r hr => HR.out r (List.mem_of_mem_take hr))
      have htl : (l.take k).length ≤ 2000 := by rw [List.length_take]; omega
      obtain ⟨ha0, ha1⟩ := hab
      have ha2 : areaL (l.take k) ≤ 8000000000000000 := by omega
      clear ha1 htl
      by_cases hlt : k < l.length
      · obtain ⟨b, off, rfl, hblt, hcs⟩ := (H0.out.below hbw) (by omega)
        have hi : l[k]? = some l[k] := List.getElem?_eq_getElem hlt
        obtain ⟨c0, c1, c2, c3⟩ := hcs k _ hi
        have ht : areaL (l.take (k + 1)) = areaL (l.take k) + (l[k].x1 - l[k].x0) * (l[k].y1 - l[k].y0) := by
          rw [List.take_succ_eq_append_getElem hlt, areaL, areaL, List.map_append, List.sum_append]
          simp only [List.map_cons, List.map_nil, List.sum_cons, List.sum_nil, Int.add_zero]
        obtain ⟨r0, r1, r2, r3, r4, r5⟩ := HR.out _ (List.getElem_mem hlt)
        have hm := mul_bound (a := l[k].x1 - l[k].x0) (b := l[k].y1 - l[k].y0) (by omega) (by omega) (by omega) (by omega)
        clear hi hcs
        generalize l[k] = r at *
        have hpe : ∃ P, P = (r.x1 - r.x0) * (r.y1 - r.y0) := ⟨_, rfl⟩
        obtain ⟨P, hP⟩ := hpe
        rw [← hP] at hm ht
        have HT := Lib.hid ht
        clear ht
        obtain ⟨m0, m1⟩ := hm
        have hP2 := hP.symm
        clear hP
        generalize areaL (l.take k) = S at *
        go_wp2_with fail
        go_roundw
        case rel => exact ⟨k + 1, by omega, by go_num, by rw [HT.out], by (repeat' (first | (with_reducible exact Below.refl _ _) | (with_reducible assumption) | (with_reducible refine Below.alloc ?_ ?_ _) | (with_reducible refine Below.drew ?_) | (with_reducible refine below_drewN ?_ _) | (with_reducible refine Below.setCell ?_ ?_ _) | (with_reducible exact Nat.le_refl _) | omega | (simp only [World.size_alloc, World.size_setCell, World.size_drew]; omega) | (simp; omega) | (simp; done)))⟩
        case measure => simp [intOf]; omega
      · obtain rfl : k = l.length := by omega
        have hn : l.take l.length = l := List.take_length
        rw [hn] at ha0 ha2 ⊢
        clear hn
        go_wp2_with fail
        go_ret2
        exact ⟨rfl, hbw⟩
  · have hA : areaF l = 0 := if_neg h0
    have hd : (regF l == 0) = false := by simpa using h0
    rw [hA]
    clear h0 hA
    generalize regF l = d at *
    go_enter Try.func43, Try.ntmps43
    go_wp2_with fail
    refine (C1.out _ H0.out).mono ?_
    rintro e w1 ⟨rfl, hb⟩
    have B1 := up (B := w.heap.size) (w := w) (by (repeat' (first | (with_reducible exact Below.refl _ _) | (with_reducible assumption) | (with_reducible refine Below.alloc ?_ ?_ _) | (with_reducible refine Below.drew ?_) | (with_reducible refine below_drewN ?_ _) | (with_reducible refine Below.setCell ?_ ?_ _) | (with_reducible exact Nat.le_refl _) | omega | (simp only [World.size_alloc, World.size_setCell, World.size_drew]; omega) | (simp; omega) | (simp; done)))) hb (by (first | (with_reducible exact Nat.le_refl _) | (with_reducible assumption) | omega | (simp only [World.size_alloc, World.size_setCell, World.size_drew]; omega) | (simp; omega) | (simp; done)))
    clear hb
    go_wp2_with fail
    go_ret2
    exact ⟨rfl, B1⟩
end Go.Proofs.Ytmcbjaefnhfopaa

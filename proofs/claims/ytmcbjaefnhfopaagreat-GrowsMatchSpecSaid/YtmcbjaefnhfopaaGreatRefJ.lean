/- The reference's Bounds, whatever the world. -/
import Derived.Test.YtmcbjaefnhfopaaGreatRefI
import Derived.Test.YtmcbjaefnhfopaaGreatRegInv
namespace Go.Proofs.YtmcbjaefnhfopaaGreat
open Go.RowKit
open Reg (R4 Span Band)
set_option linter.unusedSimpArgs false
set_option linter.unusedVariables false

/-- The world while the corners are set, one behind the other. -/
def BndW (w wr : World) (b : Nat) (a m : R4) (L : Nat → Bool) (w' : World) : Prop :=
  (∀ i, w'.cell? ⟨w.heap.size + 1, i, none⟩ = (#[Value.int .i64 (if L 33 then m.x0 else a.x0), .int .i64 (if L 35 then m.y0 else a.y0), .int .i64 (if L 37 then m.x1 else a.x1), .int .i64 (if L 39 then m.y1 else a.y1)])[i]?) ∧
  (∀ i, w'.frozen? ⟨w.heap.size + 1, i, none⟩ = false) ∧ (∀ i, w'.cell? ⟨w.heap.size, i, none⟩ = (#[Value.int .i64 0, .int .i64 0, .int .i64 0, .int .i64 0])[i]?) ∧ (∀ i, w'.frozen? ⟨w.heap.size, i, none⟩ = false) ∧
  (∀ o, w'.cell? ⟨b, o, none⟩ = wr.cell? ⟨b, o, none⟩) ∧ w.heap.size + 2 ≤ w'.heap.size ∧ Below w.heap.size w w'
theorem BndW.upd {w wr w' : World} {b : Nat} {a m : R4} {L : Nat → Bool} (h : BndW w wr b a m L w') {i : Nat} (h1 : ¬ 33 = i) (h2 : ¬ 35 = i) (h3 : ¬ 37 = i) (h4 : ¬ 39 = i) : BndW w wr b a m (upd L i) w' := by
  unfold BndW at *
  simp only [_root_.Go.Proofs.YtmcbjaefnhfopaaGreat.upd, h1, h2, h3, h4, if_false]
  exact h
theorem BndW.set {w wr w' : World} {b : Nat} {a m : R4} {L L' : Nat → Bool} (h : BndW w wr b a m L w') {j : Nat} (v : Value) (hj : j < 4) (hb : ¬ w.heap.size + 1 = b)
    (he : #[Value.int .i64 (if L' 33 then m.x0 else a.x0), .int .i64 (if L' 35 then m.y0 else a.y0), .int .i64 (if L' 37 then m.x1 else a.x1), .int .i64 (if L' 39 then m.y1 else a.y1)] = (#[Value.int .i64 (if L 33 then m.x0 else a.x0), .int .i64 (if L 35 then m.y0 else a.y0), .int .i64 (if L 37 then m.x1 else a.x1), .int .i64 (if L 39 then m.y1 else a.y1)]).setIfInBounds j v) :
    BndW w wr b a m L' (w'.setCell ⟨w.heap.size + 1, j, none⟩ v) := by
  obtain ⟨h1, h2, h3, h4, h5, h6, h7⟩ := h
  refine ⟨?_, fun i => by rw [World.frozen?_setCell]; exact h2 i, fun i => (World.cell?_setCell_far _ _ _ _ (by simp)).trans (h3 i), fun i => by rw [World.frozen?_setCell]; exact h4 i, fun o => (World.cell?_setCell_far _ _ _ _ hb).trans (h5 o), by simpa using h6, ?_⟩
  · rw [he]; exact one_set h1 (by simpa using hj)
  · exact h7.setCell (by simp) _

set_option maxRecDepth 100000 in
set_option maxHeartbeats 0 in
theorem boundsOf_any (A : Option Addr) (l : List R4) (c : Nat) (w : World) (hpos : 0 < l.length) (hl : l.length ≤ 140737488355328) (h : Rd w A l) :
    Calls Tryz.prog 61 #[.slice A l.length c] w fun e w' => e = .returned (rv (aroundR l)) ∧ Below w.heap.size w w' := by
  have H0 := Lib.hid h
  obtain ⟨b, off, rfl, hblt, hcs⟩ := h hpos
  have hmx : ∀ x y : Int, (if x < y then y else x) = maxI x y := fun _ _ => rfl
  have hmn : ∀ x y : Int, (if y < x then y else x) = minI x y := fun _ _ => rfl
  have hmx' : ∀ x y : Int, (if x < y then Value.int .i64 y else Value.int .i64 x) = Value.int .i64 (maxI x y) := fun _ _ => by unfold maxI; split <;> rfl
  have hmn' : ∀ x y : Int, (if y < x then Value.int .i64 y else Value.int .i64 x) = Value.int .i64 (minI x y) := fun _ _ => by unfold minI; split <;> rfl
  obtain ⟨r, t, rfl⟩ : ∃ r t, l = r :: t := by cases l with
    | nil => simp at hpos
    | cons r t => exact ⟨r, t, rfl⟩
  obtain ⟨c0, c1, c2, c3⟩ := hcs 0 r rfl
  simp only [Nat.zero_mul, Nat.add_zero] at c0 c1 c2 c3
  clear hcs
  have hll : (r :: t).length = t.length + 1 := rfl
  have hz0 : (0 : Int) < (t.length : Int) + 1 := by omega
  rw [hll] at hl ⊢
  have HLL := Lib.hid hll
  clear hll hpos
  go_enter Tryz.func61, Tryz.ntmps61
  go_wp2_with fail
  go_loopw [4] (fun i wr => ∃ (k : Nat) (a : R4), k ≤ t.length + 1 ∧ i = .int .i64 k ∧ aroundR (r :: t) = aroundF a ((r :: t).drop k) ∧ (∀ i, wr.cell? ⟨w.heap.size + 1, i, none⟩ = (#[Value.int .i64 a.x0, .int .i64 a.y0, .int .i64 a.x1, .int .i64 a.y1])[i]?) ∧ (∀ i, wr.frozen? ⟨w.heap.size + 1, i, none⟩ = false) ∧ (∀ i, wr.cell? ⟨w.heap.size, i, none⟩ = (#[Value.int .i64 0, .int .i64 0, .int .i64 0, .int .i64 0])[i]?) ∧ (∀ i, wr.frozen? ⟨w.heap.size, i, none⟩ = false) ∧ w.heap.size + 2 ≤ wr.heap.size ∧ Below w.heap.size w wr) (fun i _ => t.length + 1 - (intOf i).toNat)
  case atStart => exact ⟨0, r, by omega, rfl, rfl, fun i => by simp [go_sem], fun i => by simp [go_sem], fun i => by simp [go_sem], fun i => by simp [go_sem], by simp, by (repeat' (first | (with_reducible exact Below.refl _ _) | (with_reducible assumption) | (with_reducible refine Below.alloc ?_ ?_ _) | (with_reducible refine Below.drew ?_) | (with_reducible refine below_drewN ?_ _) | (with_reducible refine Below.setCell ?_ ?_ _) | (with_reducible exact Nat.le_refl _) | omega | (simp only [World.size_alloc, World.size_setCell, World.size_drew]; omega) | (simp; omega) | (simp; done)))⟩
  case round =>
    obtain ⟨k, a, hk, rfl, hf, ka, fa, kb, fb, hsz, hbw⟩ := hrel
    have zw := hbw.size
    have HF := Lib.hid hf
    clear hf
    have hkz : (0 : Int) ≤ (k : Int) := by omega
    have l1 : w.heap.size + 1 < wr.heap.size := by omega
    have l0 : w.heap.size < wr.heap.size := by omega
    by_cases hlt : k < t.length + 1
    · have hlt' : k < (r :: t).length := by simpa using hlt
      obtain ⟨b', off', e, hblt', hcs⟩ := (H0.out.below hbw) (by simp)
      cases e
      have hi : (r :: t)[k]? = some (r :: t)[k] := List.getElem?_eq_getElem hlt'
      obtain ⟨d0, d1, d2, d3⟩ := hcs k _ hi
      have hd : (r :: t).drop k = (r :: t)[k] :: (r :: t).drop (k + 1) := List.drop_eq_getElem_cons hlt'
      have HD := Lib.hid hd
      clear hd hi hcs
      generalize (r :: t)[k] = u at *
      have hklt : (k : Int) < (t.length : Int) + 1 := by omega
      have hn : aroundR (r :: t) = aroundF (joinR a u) ((r :: t).drop (k + 1)) := by rw [HF.out, HD.out]; rfl
      have HN := Lib.hid hn
      clear hn
      have p0 : wr.cell? ⟨w.heap.size + 1, 0, none⟩ = some (.int .i64 a.x0) := by rw [ka]; rfl
      have p1 : wr.cell? ⟨w.heap.size + 1, 1, none⟩ = some (.int .i64 a.y0) := by rw [ka]; rfl
      have p2 : wr.cell? ⟨w.heap.size + 1, 2, none⟩ = some (.int .i64 a.x1) := by rw [ka]; rfl
      have p3 : wr.cell? ⟨w.heap.size + 1, 3, none⟩ = some (.int .i64 a.y1) := by rw [ka]; rfl
      have KA := Lib.hid ka
      have KB := Lib.hid kb
      have FB := Lib.hid fb
      have FA := Lib.hid fa
      have f0 := fa 0
      have f1 := fa 1
      have f2 := fa 2
      have f3 := fa 3
      clear ka kb fb fa h c0 c1 c2 c3 hsz
      have nb1 : ¬ b = w.heap.size + 1 := by omega
      have nb2 : ¬ w.heap.size + 1 = b := by omega
      go_wp2_with fail
      refine region_steps (l := [(14, .pointer (some ⟨w.heap.size + 1, 0, none⟩)), (15, .int .i64 (a.x0)), (16, .slice (some ⟨b, off, none⟩) (t.length + 1) c), (17, .int .i64 (k)), (18, .pointer (some ⟨b, off + k * 4, none⟩)), (19, .pointer (some ⟨b, off + k * 4, none⟩)), (20, .int .i64 (u.x0)), (21, .int .i64 (minI a.x0 u.x0)), (22, .pointer (some ⟨w.heap.size + 1, 1, none⟩)), (23, .int .i64 (a.y0)), (24, .slice (some ⟨b, off, none⟩) (t.length + 1) c), (25, .int .i64 (k)), (26, .pointer (some ⟨b, off + k * 4, none⟩)), (27, .pointer (some ⟨b, off + k * 4 + 1, none⟩)), (28, .int .i64 (u.y0)), (29, .int .i64 (minI a.y0 u.y0)), (30, .pointer (some ⟨w.heap.size + 1, 2, none⟩)), (31, .int .i64 (a.x1)), (32, .slice (some ⟨b, off, none⟩) (t.length + 1) c), (33, .int .i64 (k)), (34, .pointer (some ⟨b, off + k * 4, none⟩)), (35, .pointer (some ⟨b, off + k * 4 + 2, none⟩)), (36, .int .i64 (u.x1)), (37, .int .i64 (maxI a.x1 u.x1)), (38, .pointer (some ⟨w.heap.size + 1, 3, none⟩)), (39, .int .i64 (a.y1)), (40, .slice (some ⟨b, off, none⟩) (t.length + 1) c), (41, .int .i64 (k)), (42, .pointer (some ⟨b, off + k * 4, none⟩)), (43, .pointer (some ⟨b, off + k * 4 + 3, none⟩)), (44, .int .i64 (u.y1)), (45, .int .i64 (maxI a.y1 u.y1)), (46, .pointer (some ⟨w.heap.size + 1, 0, none⟩)), (47, .pointer (some ⟨w.heap.size + 1, 1, none⟩)), (48, .pointer (some ⟨w.heap.size + 1, 2, none⟩)), (49, .pointer (some ⟨w.heap.size + 1, 3, none⟩))]) (BndW w wr b a (joinR a u)) (by kernel_rfl) (by kernel_rfl) (by kernel_rfl) ?_ ?_
      · exact ⟨fun i => by simpa using KA.out i, fun i => by simpa using FA.out i, fun i => by simpa using KB.out i, fun i => by simpa using FB.out i, fun o => by simp, by simp; omega, hbw.drew⟩
      intro aF haF
      simp only [putL, Act.put, List.setIfInBounds_toArray, List.set_cons_zero, List.set_cons_succ] at haF
      subst haF
      refine ⟨⟨?_, ?_, ?_, ?_, ?_, ?_, ?_, ?_, ?_, ?_, ?_, ?_, ?_, ?_, ?_, ?_, ?_, ?_, ?_, ?_, ?_, ?_, ?_, ?_, ?_, ?_, ?_, ?_, ?_, ?_, ?_, ?_, ?_, ?_, ?_, ?_, ?_, ?_, ?_, ?_, trivial⟩, ?_⟩
      -- 0
      · intro L W hcl hun hdep hW
        refine ⟨rfl, ?_⟩
        exact ⟨rfl, (hW.upd (i := 0) (by decide) (by decide) (by decide) (by decide))⟩
      -- 1
      · intro L W hcl hun hdep hW
        refine ⟨rfl, ?_⟩
        have hL : L 33 = false := hcl.not (k := 33) (i := 1) rfl (by kernel_rfl) hun
        have hc : W.cell? ⟨w.heap.size + 1, 0, none⟩ = some (.int .i64 a.x0) := by rw [hW.1]; simp [hL]
        have hU := (hW.upd (i := 1) (by decide) (by decide) (by decide) (by decide))
        simp [go_sem, upTo, hc]
        exact hU
      -- 2
      · intro L W hcl hun hdep hW
        refine ⟨rfl, ?_⟩
        exact ⟨rfl, (hW.upd (i := 2) (by decide) (by decide) (by decide) (by decide))⟩
      -- 3
      · intro L W hcl hun hdep hW
        refine ⟨rfl, ?_⟩
        exact ⟨rfl, (hW.upd (i := 3) (by decide) (by decide) (by decide) (by decide))⟩
      -- 4
      · intro L W hcl hun hdep hW
        refine ⟨rfl, ?_⟩
        have hU := (hW.upd (i := 4) (by decide) (by decide) (by decide) (by decide))
        simp [go_sem, upTo, hklt, hkz, hlt]
        exact hU
      -- 5
      · intro L W hcl hun hdep hW
        refine ⟨rfl, ?_⟩
        exact ⟨rfl, (hW.upd (i := 5) (by decide) (by decide) (by decide) (by decide))⟩
      -- 6
      · intro L W hcl hun hdep hW
        refine ⟨rfl, ?_⟩
        have hc : W.cell? ⟨b, off + k * 4, none⟩ = some (.int .i64 u.x0) := (hW.2.2.2.2.1 _).trans d0
        have hU := (hW.upd (i := 6) (by decide) (by decide) (by decide) (by decide))
        simp [go_sem, upTo, hc]
        exact hU
      -- 7
      · intro L W hcl hun hdep hW
        refine ⟨rfl, ?_⟩
        have hU := (hW.upd (i := 7) (by decide) (by decide) (by decide) (by decide))
        simp [go_sem, upTo, hmx, hmn, hmx', hmn']
        exact hU
      -- 8
      · intro L W hcl hun hdep hW
        refine ⟨rfl, ?_⟩
        exact ⟨rfl, (hW.upd (i := 8) (by decide) (by decide) (by decide) (by decide))⟩
      -- 9
      · intro L W hcl hun hdep hW
        refine ⟨rfl, ?_⟩
        have hL : L 35 = false := hcl.not (k := 35) (i := 9) rfl (by kernel_rfl) hun
        have hc : W.cell? ⟨w.heap.size + 1, 1, none⟩ = some (.int .i64 a.y0) := by rw [hW.1]; simp [hL]
        have hU := (hW.upd (i := 9) (by decide) (by decide) (by decide) (by decide))
        simp [go_sem, upTo, hc]
        exact hU
      -- 10
      · intro L W hcl hun hdep hW
        refine ⟨rfl, ?_⟩
        exact ⟨rfl, (hW.upd (i := 10) (by decide) (by decide) (by decide) (by decide))⟩
      -- 11
      · intro L W hcl hun hdep hW
        refine ⟨rfl, ?_⟩
        exact ⟨rfl, (hW.upd (i := 11) (by decide) (by decide) (by decide) (by decide))⟩
      -- 12
      · intro L W hcl hun hdep hW
        refine ⟨rfl, ?_⟩
        have hU := (hW.upd (i := 12) (by decide) (by decide) (by decide) (by decide))
        simp [go_sem, upTo, hklt, hkz, hlt]
        exact hU
      -- 13
      · intro L W hcl hun hdep hW
        refine ⟨rfl, ?_⟩
        exact ⟨rfl, (hW.upd (i := 13) (by decide) (by decide) (by decide) (by decide))⟩
      -- 14
      · intro L W hcl hun hdep hW
        refine ⟨rfl, ?_⟩
        have hc : W.cell? ⟨b, off + k * 4 + 1, none⟩ = some (.int .i64 u.y0) := (hW.2.2.2.2.1 _).trans d1
        have hU := (hW.upd (i := 14) (by decide) (by decide) (by decide) (by decide))
        simp [go_sem, upTo, hc]
        exact hU
      -- 15
      · intro L W hcl hun hdep hW
        refine ⟨rfl, ?_⟩
        have hU := (hW.upd (i := 15) (by decide) (by decide) (by decide) (by decide))
        simp [go_sem, upTo, hmx, hmn, hmx', hmn']
        exact hU
      -- 16
      · intro L W hcl hun hdep hW
        refine ⟨rfl, ?_⟩
        exact ⟨rfl, (hW.upd (i := 16) (by decide) (by decide) (by decide) (by decide))⟩
      -- 17
      · intro L W hcl hun hdep hW
        refine ⟨rfl, ?_⟩
        have hL : L 37 = false := hcl.not (k := 37) (i := 17) rfl (by kernel_rfl) hun
        have hc : W.cell? ⟨w.heap.size + 1, 2, none⟩ = some (.int .i64 a.x1) := by rw [hW.1]; simp [hL]
        have hU := (hW.upd (i := 17) (by decide) (by decide) (by decide) (by decide))
        simp [go_sem, upTo, hc]
        exact hU
      -- 18
      · intro L W hcl hun hdep hW
        refine ⟨rfl, ?_⟩
        exact ⟨rfl, (hW.upd (i := 18) (by decide) (by decide) (by decide) (by decide))⟩
      -- 19
      · intro L W hcl hun hdep hW
        refine ⟨rfl, ?_⟩
        exact ⟨rfl, (hW.upd (i := 19) (by decide) (by decide) (by decide) (by decide))⟩
      -- 20
      · intro L W hcl hun hdep hW
        refine ⟨rfl, ?_⟩
        have hU := (hW.upd (i := 20) (by decide) (by decide) (by decide) (by decide))
        simp [go_sem, upTo, hklt, hkz, hlt]
        exact hU
      -- 21
      · intro L W hcl hun hdep hW
        refine ⟨rfl, ?_⟩
        exact ⟨rfl, (hW.upd (i := 21) (by decide) (by decide) (by decide) (by decide))⟩
      -- 22
      · intro L W hcl hun hdep hW
        refine ⟨rfl, ?_⟩
        have hc : W.cell? ⟨b, off + k * 4 + 2, none⟩ = some (.int .i64 u.x1) := (hW.2.2.2.2.1 _).trans d2
        have hU := (hW.upd (i := 22) (by decide) (by decide) (by decide) (by decide))
        simp [go_sem, upTo, hc]
        exact hU
      -- 23
      · intro L W hcl hun hdep hW
        refine ⟨rfl, ?_⟩
        have hU := (hW.upd (i := 23) (by decide) (by decide) (by decide) (by decide))
        simp [go_sem, upTo, hmx, hmn, hmx', hmn']
        exact hU
      -- 24
      · intro L W hcl hun hdep hW
        refine ⟨rfl, ?_⟩
        exact ⟨rfl, (hW.upd (i := 24) (by decide) (by decide) (by decide) (by decide))⟩
      -- 25
      · intro L W hcl hun hdep hW
        refine ⟨rfl, ?_⟩
        have hL : L 39 = false := hcl.not (k := 39) (i := 25) rfl (by kernel_rfl) hun
        have hc : W.cell? ⟨w.heap.size + 1, 3, none⟩ = some (.int .i64 a.y1) := by rw [hW.1]; simp [hL]
        have hU := (hW.upd (i := 25) (by decide) (by decide) (by decide) (by decide))
        simp [go_sem, upTo, hc]
        exact hU
      -- 26
      · intro L W hcl hun hdep hW
        refine ⟨rfl, ?_⟩
        exact ⟨rfl, (hW.upd (i := 26) (by decide) (by decide) (by decide) (by decide))⟩
      -- 27
      · intro L W hcl hun hdep hW
        refine ⟨rfl, ?_⟩
        exact ⟨rfl, (hW.upd (i := 27) (by decide) (by decide) (by decide) (by decide))⟩
      -- 28
      · intro L W hcl hun hdep hW
        refine ⟨rfl, ?_⟩
        have hU := (hW.upd (i := 28) (by decide) (by decide) (by decide) (by decide))
        simp [go_sem, upTo, hklt, hkz, hlt]
        exact hU
      -- 29
      · intro L W hcl hun hdep hW
        refine ⟨rfl, ?_⟩
        exact ⟨rfl, (hW.upd (i := 29) (by decide) (by decide) (by decide) (by decide))⟩
      -- 30
      · intro L W hcl hun hdep hW
        refine ⟨rfl, ?_⟩
        have hc : W.cell? ⟨b, off + k * 4 + 3, none⟩ = some (.int .i64 u.y1) := (hW.2.2.2.2.1 _).trans d3
        have hU := (hW.upd (i := 30) (by decide) (by decide) (by decide) (by decide))
        simp [go_sem, upTo, hc]
        exact hU
      -- 31
      · intro L W hcl hun hdep hW
        refine ⟨rfl, ?_⟩
        have hU := (hW.upd (i := 31) (by decide) (by decide) (by decide) (by decide))
        simp [go_sem, upTo, hmx, hmn, hmx', hmn']
        exact hU
      -- 32
      · intro L W hcl hun hdep hW
        refine ⟨rfl, ?_⟩
        exact ⟨rfl, (hW.upd (i := 32) (by decide) (by decide) (by decide) (by decide))⟩
      -- 33
      · intro L W hcl hun hdep hW
        refine ⟨rfl, ?_⟩
        have hc : ∃ v, W.cell? ⟨w.heap.size + 1, 0, none⟩ = some v := ⟨_, hW.1 0⟩
        obtain ⟨v0, hc⟩ := hc
        have hf := hW.2.1 0
        have hU := hW.set (L' := upd L 33) (j := 0) (.int .i64 (minI a.x0 u.x0)) (by decide) nb2 (by simp [upd, joinR])
        simp [go_sem, upTo, hc, hf]
        exact hU
      -- 34
      · intro L W hcl hun hdep hW
        refine ⟨rfl, ?_⟩
        exact ⟨rfl, (hW.upd (i := 34) (by decide) (by decide) (by decide) (by decide))⟩
      -- 35
      · intro L W hcl hun hdep hW
        refine ⟨rfl, ?_⟩
        have hc : ∃ v, W.cell? ⟨w.heap.size + 1, 1, none⟩ = some v := ⟨_, hW.1 1⟩
        obtain ⟨v0, hc⟩ := hc
        have hf := hW.2.1 1
        have hU := hW.set (L' := upd L 35) (j := 1) (.int .i64 (minI a.y0 u.y0)) (by decide) nb2 (by simp [upd, joinR])
        simp [go_sem, upTo, hc, hf]
        exact hU
      -- 36
      · intro L W hcl hun hdep hW
        refine ⟨rfl, ?_⟩
        exact ⟨rfl, (hW.upd (i := 36) (by decide) (by decide) (by decide) (by decide))⟩
      -- 37
      · intro L W hcl hun hdep hW
        refine ⟨rfl, ?_⟩
        have hc : ∃ v, W.cell? ⟨w.heap.size + 1, 2, none⟩ = some v := ⟨_, hW.1 2⟩
        obtain ⟨v0, hc⟩ := hc
        have hf := hW.2.1 2
        have hU := hW.set (L' := upd L 37) (j := 2) (.int .i64 (maxI a.x1 u.x1)) (by decide) nb2 (by simp [upd, joinR])
        simp [go_sem, upTo, hc, hf]
        exact hU
      -- 38
      · intro L W hcl hun hdep hW
        refine ⟨rfl, ?_⟩
        exact ⟨rfl, (hW.upd (i := 38) (by decide) (by decide) (by decide) (by decide))⟩
      -- 39
      · intro L W hcl hun hdep hW
        refine ⟨rfl, ?_⟩
        have hc : ∃ v, W.cell? ⟨w.heap.size + 1, 3, none⟩ = some v := ⟨_, hW.1 3⟩
        obtain ⟨v0, hc⟩ := hc
        have hf := hW.2.1 3
        have hU := hW.set (L' := upd L 39) (j := 3) (.int .i64 (maxI a.y1 u.y1)) (by decide) nb2 (by simp [upd, joinR])
        simp [go_sem, upTo, hc, hf]
        exact hU
      intro L W hall hW
      have e33 := hall 33 (by decide)
      have e35 := hall 35 (by decide)
      have e37 := hall 37 (by decide)
      have e39 := hall 39 (by decide)
      clear hall
      obtain ⟨q1, q2, q3, q4, q5, q6, q7⟩ := hW
      simp only [e33, e35, e37, e39, if_true] at q1
      have Q1 := Lib.hid q1
      have Q2 := Lib.hid q2
      have Q3 := Lib.hid q3
      have Q4 := Lib.hid q4
      clear q1 q2 q3 q4 q5 p0 p1 p2 p3 d0 d1 d2 d3 f0 f1 f2 f3 e33 e35 e37 e39 L
      go_wp2_with fail
      go_roundw
      case rel =>
        exact ⟨k + 1, joinR a u, by omega, by go_num, HN.out, Q1.out, Q2.out, Q3.out, Q4.out, q6, q7⟩
      case measure => simp [intOf]; omega
    · obtain rfl : k = t.length + 1 := by omega
      have hn : aroundR (r :: t) = a := by rw [HF.out, List.drop_of_length_le (by simp)]; rfl
      have HN := Lib.hid hn
      clear hn
      go_wp2_with fail
      have kz := set4 (a := .int .i64 a.x0) (b := .int .i64 a.y0) (c := .int .i64 a.x1) (d := .int .i64 a.y1) kb
      rw [HN.out]
      exact bodyPost_ret (v := rv a) (by simp [results, Tryz.results61, go_sem, kz]) rfl ⟨rfl, by (repeat' (first | (with_reducible exact Below.refl _ _) | (with_reducible assumption) | (with_reducible refine Below.alloc ?_ ?_ _) | (with_reducible refine Below.drew ?_) | (with_reducible refine below_drewN ?_ _) | (with_reducible refine Below.setCell ?_ ?_ _) | (with_reducible exact Nat.le_refl _) | omega | (simp only [World.size_alloc, World.size_setCell, World.size_drew]; omega) | (simp; omega) | (simp; done)))⟩
end Go.Proofs.YtmcbjaefnhfopaaGreat

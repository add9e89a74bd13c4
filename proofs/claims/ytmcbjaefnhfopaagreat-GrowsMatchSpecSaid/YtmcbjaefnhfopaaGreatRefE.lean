/- The reference's CheckRects and before, whatever the world. -/
import Derived.Test.YtmcbjaefnhfopaaGreatShapeE
namespace Go.Proofs.YtmcbjaefnhfopaaGreat
open Go.RowKit
open Reg (R4 Span)
set_option linter.unusedSimpArgs false
set_option linter.unusedVariables false

theorem before_any (p u : R4) (w : World) : Calls Tryz.prog 50 #[.agg #[.int .i64 p.x0, .int .i64 p.y0, .int .i64 p.x1, .int .i64 p.y1], .agg #[.int .i64 u.x0, .int .i64 u.y0, .int .i64 u.x1, .int .i64 u.y1]] w fun e w' =>
    e = .returned (.bool (lessYX p u)) ∧ Below w.heap.size w w' := by
  by_cases h : p.y0 < u.y0
  · have hn : lessYX p u = true := by simp [lessYX, h]
    rw [hn]
    clear hn
    go_enter Tryz.func50, Tryz.ntmps50
    go_wp2_with fail
    go_ret
    exact ⟨rfl, by (repeat' (first | (with_reducible exact Below.refl _ _) | (with_reducible assumption) | (with_reducible refine Below.alloc ?_ ?_ _) | (with_reducible refine Below.drew ?_) | (with_reducible refine below_drewN ?_ _) | (with_reducible refine Below.setCell ?_ ?_ _) | (with_reducible exact Nat.le_refl _) | omega | (simp only [World.size_alloc, World.size_setCell, World.size_drew]; omega) | (simp; omega) | (simp; done)))⟩
  · by_cases h2 : p.y0 = u.y0
    · have hb : (p.y0 == u.y0) = true := by simpa using h2
      by_cases h3 : p.x0 < u.x0
      · have hn : lessYX p u = true := by simp [lessYX, h2, h3]
        rw [hn]
        clear hn h2
        go_enter Tryz.func50, Tryz.ntmps50
        go_wp2_with fail
        go_ret
        exact ⟨rfl, by (repeat' (first | (with_reducible exact Below.refl _ _) | (with_reducible assumption) | (with_reducible refine Below.alloc ?_ ?_ _) | (with_reducible refine Below.drew ?_) | (with_reducible refine below_drewN ?_ _) | (with_reducible refine Below.setCell ?_ ?_ _) | (with_reducible exact Nat.le_refl _) | omega | (simp only [World.size_alloc, World.size_setCell, World.size_drew]; omega) | (simp; omega) | (simp; done)))⟩
      · have hn : lessYX p u = false := by simp [lessYX, h2, h3]
        rw [hn]
        clear hn h2
        go_enter Tryz.func50, Tryz.ntmps50
        go_wp2_with fail
        go_ret
        exact ⟨rfl, by (repeat' (first | (with_reducible exact Below.refl _ _) | (with_reducible assumption) | (with_reducible refine Below.alloc ?_ ?_ _) | (with_reducible refine Below.drew ?_) | (with_reducible refine below_drewN ?_ _) | (with_reducible refine Below.setCell ?_ ?_ _) | (with_reducible exact Nat.le_refl _) | omega | (simp only [World.size_alloc, World.size_setCell, World.size_drew]; omega) | (simp; omega) | (simp; done)))⟩
    · have hb : (p.y0 == u.y0) = false := by simpa using h2
      have hn : lessYX p u = false := by simp [lessYX, h, h2]
      rw [hn]
      clear hn h2
      go_enter Tryz.func50, Tryz.ntmps50
      go_wp2_with fail
      go_ret
      exact ⟨rfl, by (repeat' (first | (with_reducible exact Below.refl _ _) | (with_reducible assumption) | (with_reducible refine Below.alloc ?_ ?_ _) | (with_reducible refine Below.drew ?_) | (with_reducible refine below_drewN ?_ _) | (with_reducible refine Below.setCell ?_ ?_ _) | (with_reducible exact Nat.le_refl _) | omega | (simp only [World.size_alloc, World.size_setCell, World.size_drew]; omega) | (simp; omega) | (simp; done)))⟩

set_option maxHeartbeats 1000000 in
theorem rcheckRects_any (A : Option Addr) (l : List R4) (c : Nat) (w : World) (hl : l.length ≤ 140737488355328) (h : Rd w A l) :
    Calls Tryz.prog 49 #[.slice A l.length c] w fun e w' => e = .returned (.int .i64 (rectsF l)) ∧ Below w.heap.size w w' := by
  by_cases hlen : 2000 < l.length
  · rw [show rectsF l = 2 from if_pos hlen]
    clear h
    go_enter Tryz.func49, Tryz.ntmps49
    go_wp2_with fail
    go_ret
    exact ⟨rfl, by (repeat' (first | (with_reducible exact Below.refl _ _) | (with_reducible assumption) | (with_reducible refine Below.alloc ?_ ?_ _) | (with_reducible refine Below.drew ?_) | (with_reducible refine below_drewN ?_ _) | (with_reducible refine Below.setCell ?_ ?_ _) | (with_reducible exact Nat.le_refl _) | omega | (simp only [World.size_alloc, World.size_setCell, World.size_drew]; omega) | (simp; omega) | (simp; done)))⟩
  · rw [show rectsF l = firstBad l from if_neg hlen]
    have H := Lib.hid h
    clear h
    go_enter Tryz.func49, Tryz.ntmps49
    go_wp2_with fail
    go_loopw [3] (fun i wr => ∃ k : Nat, k ≤ l.length ∧ i = .int .i64 k ∧ firstBad l = firstBad (l.drop k) ∧ Below w.heap.size w wr) (fun i _ => l.length - (intOf i).toNat)
    case atStart => exact ⟨0, Nat.zero_le _, rfl, rfl, Below.refl _ _⟩
    case round =>
      obtain ⟨k, hk, rfl, hf, hbw⟩ := hrel
      have zw := hbw.size
      have HF := Lib.hid hf
      clear hf
      by_cases hlt : k < l.length
      · obtain ⟨b, off, rfl, hblt, hcs⟩ := (H.out.below hbw) (by omega)
        have hi : l[k]? = some l[k] := List.getElem?_eq_getElem hlt
        obtain ⟨c0, c1, c2, c3⟩ := hcs k _ hi
        have hd : l.drop k = l[k] :: l.drop (k + 1) := List.drop_eq_getElem_cons hlt
        have HD := Lib.hid hd
        clear hd hi hcs
        generalize l[k] = r at *
        obtain ⟨x0, y0, x1, y1⟩ := r
        simp only at c0 c1 c2 c3
        have hkz : (0 : Int) ≤ (k : Int) := by omega
        have hklt : (k : Int) < (l.length : Int) := by omega
        have hbad : ∀ d : Int, rectF ⟨x0, y0, x1, y1⟩ = d → d ≠ 0 → firstBad l = d := fun d hd h0 => by
          rw [HF.out, HD.out]
          simp only [firstBad]
          rw [hd, if_neg h0]
        have HBAD := Lib.hid hbad
        clear hbad
        cases h0 : okAt x0
        · have HE := Lib.hid (HBAD.out 1 (by simp [rectF, rectOk, h0]) (by decide))
          go_wp2_with fail
          refine (at_as _ _ h0 _).mono ?_
          rintro e w' ⟨rfl, rfl⟩
          go_wp2_with fail
          go_ret
          exact ⟨by rw [HE.out]; rfl, by (repeat' (first | (with_reducible exact Below.refl _ _) | (with_reducible assumption) | (with_reducible refine Below.alloc ?_ ?_ _) | (with_reducible refine Below.drew ?_) | (with_reducible refine below_drewN ?_ _) | (with_reducible refine Below.setCell ?_ ?_ _) | (with_reducible exact Nat.le_refl _) | omega | (simp only [World.size_alloc, World.size_setCell, World.size_drew]; omega) | (simp; omega) | (simp; done)))⟩
        · cases h1 : okAt y0
          · have HE := Lib.hid (HBAD.out 1 (by simp [rectF, rectOk, h0, h1]) (by decide))
            go_wp2_with fail
            refine (at_as _ _ h0 _).mono ?_
            rintro e w' ⟨rfl, rfl⟩
            go_wp2_with fail
            refine (at_as _ _ h1 _).mono ?_
            rintro e w' ⟨rfl, rfl⟩
            go_wp2_with fail
            go_ret
            exact ⟨by rw [HE.out]; rfl, by (repeat' (first | (with_reducible exact Below.refl _ _) | (with_reducible assumption) | (with_reducible refine Below.alloc ?_ ?_ _) | (with_reducible refine Below.drew ?_) | (with_reducible refine below_drewN ?_ _) | (with_reducible refine Below.setCell ?_ ?_ _) | (with_reducible exact Nat.le_refl _) | omega | (simp only [World.size_alloc, World.size_setCell, World.size_drew]; omega) | (simp; omega) | (simp; done)))⟩
          · cases h2 : okAt x1
            · have HE := Lib.hid (HBAD.out 1 (by simp [rectF, rectOk, h0, h1, h2]) (by decide))
              go_wp2_with fail
              refine (at_as _ _ h0 _).mono ?_
              rintro e w' ⟨rfl, rfl⟩
              go_wp2_with fail
              refine (at_as _ _ h1 _).mono ?_
              rintro e w' ⟨rfl, rfl⟩
              go_wp2_with fail
              refine (at_as _ _ h2 _).mono ?_
              rintro e w' ⟨rfl, rfl⟩
              go_wp2_with fail
              go_ret
              exact ⟨by rw [HE.out]; rfl, by (repeat' (first | (with_reducible exact Below.refl _ _) | (with_reducible assumption) | (with_reducible refine Below.alloc ?_ ?_ _) | (with_reducible refine Below.drew ?_) | (with_reducible refine below_drewN ?_ _) | (with_reducible refine Below.setCell ?_ ?_ _) | (with_reducible exact Nat.le_refl _) | omega | (simp only [World.size_alloc, World.size_setCell, World.size_drew]; omega) | (simp; omega) | (simp; done)))⟩
            · cases h3 : okAt y1
              · have HE := Lib.hid (HBAD.out 1 (by simp [rectF, rectOk, h0, h1, h2, h3]) (by decide))
                go_wp2_with fail
                refine (at_as _ _ h0 _).mono ?_
                rintro e w' ⟨rfl, rfl⟩
                go_wp2_with fail
                refine (at_as _ _ h1 _).mono ?_
                rintro e w' ⟨rfl, rfl⟩
                go_wp2_with fail
                refine (at_as _ _ h2 _).mono ?_
                rintro e w' ⟨rfl, rfl⟩
                go_wp2_with fail
                refine (at_as _ _ h3 _).mono ?_
                rintro e w' ⟨rfl, rfl⟩
                go_wp2_with fail
                go_ret
                exact ⟨by rw [HE.out]; rfl, by (repeat' (first | (with_reducible exact Below.refl _ _) | (with_reducible assumption) | (with_reducible refine Below.alloc ?_ ?_ _) | (with_reducible refine Below.drew ?_) | (with_reducible refine below_drewN ?_ _) | (with_reducible refine Below.setCell ?_ ?_ _) | (with_reducible exact Nat.le_refl _) | omega | (simp only [World.size_alloc, World.size_setCell, World.size_drew]; omega) | (simp; omega) | (simp; done)))⟩
              · by_cases hx : x1 ≤ x0
                · have HE := Lib.hid (HBAD.out 13 (by simp [rectF, rectOk, h0, h1, h2, h3, hx]) (by decide))
                  go_wp2_with fail
                  refine (at_as _ _ h0 _).mono ?_
                  rintro e w' ⟨rfl, rfl⟩
                  go_wp2_with fail
                  refine (at_as _ _ h1 _).mono ?_
                  rintro e w' ⟨rfl, rfl⟩
                  go_wp2_with fail
                  refine (at_as _ _ h2 _).mono ?_
                  rintro e w' ⟨rfl, rfl⟩
                  go_wp2_with fail
                  refine (at_as _ _ h3 _).mono ?_
                  rintro e w' ⟨rfl, rfl⟩
                  go_wp2_with fail
                  go_ret
                  exact ⟨by rw [HE.out]; rfl, by (repeat' (first | (with_reducible exact Below.refl _ _) | (with_reducible assumption) | (with_reducible refine Below.alloc ?_ ?_ _) | (with_reducible refine Below.drew ?_) | (with_reducible refine below_drewN ?_ _) | (with_reducible refine Below.setCell ?_ ?_ _) | (with_reducible exact Nat.le_refl _) | omega | (simp only [World.size_alloc, World.size_setCell, World.size_drew]; omega) | (simp; omega) | (simp; done)))⟩
                · by_cases hy : y1 ≤ y0
                  · have HE := Lib.hid (HBAD.out 13 (by simp [rectF, rectOk, h0, h1, h2, h3, hy]) (by decide))
                    go_wp2_with fail
                    refine (at_as _ _ h0 _).mono ?_
                    rintro e w' ⟨rfl, rfl⟩
                    go_wp2_with fail
                    refine (at_as _ _ h1 _).mono ?_
                    rintro e w' ⟨rfl, rfl⟩
                    go_wp2_with fail
                    refine (at_as _ _ h2 _).mono ?_
                    rintro e w' ⟨rfl, rfl⟩
                    go_wp2_with fail
                    refine (at_as _ _ h3 _).mono ?_
                    rintro e w' ⟨rfl, rfl⟩
                    go_wp2_with fail
                    go_ret
                    exact ⟨by rw [HE.out]; rfl, by (repeat' (first | (with_reducible exact Below.refl _ _) | (with_reducible assumption) | (with_reducible refine Below.alloc ?_ ?_ _) | (with_reducible refine Below.drew ?_) | (with_reducible refine below_drewN ?_ _) | (with_reducible refine Below.setCell ?_ ?_ _) | (with_reducible exact Nat.le_refl _) | omega | (simp only [World.size_alloc, World.size_setCell, World.size_drew]; omega) | (simp; omega) | (simp; done)))⟩
                  · have hz : rectF ⟨x0, y0, x1, y1⟩ = 0 := by simp [rectF, rectOk, h0, h1, h2, h3]; omega
                    have hnext : firstBad l = firstBad (l.drop (k + 1)) := by
                      rw [HF.out, HD.out]
                      simp only [firstBad]
                      rw [if_pos hz]
                    have HN := Lib.hid hnext
                    clear hnext hz
                    go_wp2_with fail
                    refine (at_as _ _ h0 _).mono ?_
                    rintro e w' ⟨rfl, rfl⟩
                    go_wp2_with fail
                    refine (at_as _ _ h1 _).mono ?_
                    rintro e w' ⟨rfl, rfl⟩
                    go_wp2_with fail
                    refine (at_as _ _ h2 _).mono ?_
                    rintro e w' ⟨rfl, rfl⟩
                    go_wp2_with fail
                    refine (at_as _ _ h3 _).mono ?_
                    rintro e w' ⟨rfl, rfl⟩
                    go_wp2_with fail
                    go_roundw
                    case rel => exact ⟨k + 1, by omega, by go_num, HN.out, by (repeat' (first | (with_reducible exact Below.refl _ _) | (with_reducible assumption) | (with_reducible refine Below.alloc ?_ ?_ _) | (with_reducible refine Below.drew ?_) | (with_reducible refine below_drewN ?_ _) | (with_reducible refine Below.setCell ?_ ?_ _) | (with_reducible exact Nat.le_refl _) | omega | (simp only [World.size_alloc, World.size_setCell, World.size_drew]; omega) | (simp; omega) | (simp; done)))⟩
                    case measure => simp [intOf]; omega
      · obtain rfl : k = l.length := by omega
        have hend : firstBad l = 0 := by
          rw [HF.out, List.drop_length]
          rfl
        have HE := Lib.hid hend
        clear hend
        go_wp2_with fail
        go_ret
        exact ⟨by rw [HE.out]; rfl, hbw⟩

set_option maxHeartbeats 400000 in
theorem sameRects_any (A B : Option Addr) (l m : List R4) (c d : Nat) (w : World) (hl : l.length ≤ 140737488355328) (hm : m.length ≤ 140737488355328) (hA : Rd w A l) (hB : Rd w B m) :
    Calls Tryz.prog 51 #[.slice A l.length c, .slice B m.length d] w fun e w' => e = .returned (.bool (decide (l = m))) ∧ Below w.heap.size w w' := by
  by_cases hlen : l.length = m.length
  · have HA := Lib.hid hA
    have HB := Lib.hid hB
    have hlb : ((l.length : Int) != (m.length : Int)) = false := by simp [hlen]
    have HL := Lib.hid hlen
    clear hA hB hlen
    go_enter Tryz.func51, Tryz.ntmps51
    go_wp2_with fail
    go_loopw [5] (fun i wr => ∃ k : Nat, k ≤ l.length ∧ i = .int .i64 k ∧ l.take k = m.take k ∧ Below w.heap.size w wr) (fun i _ => l.length - (intOf i).toNat)
    case atStart => exact ⟨0, Nat.zero_le _, rfl, rfl, Below.refl _ _⟩
    case round =>
      obtain ⟨k, hk, rfl, hf, hbw⟩ := hrel
      have zw := hbw.size
      have HF := Lib.hid hf
      clear hf
      have hbo := (bcell hbw).1
      by_cases hlt : k < l.length
      · obtain ⟨b, off, rfl, hblt, hcs⟩ := HA.out (by omega)
        obtain ⟨b2, off2, rfl, hblt2, hcs2⟩ := HB.out (by have := HL.out; omega)
        have hlt2 : k < m.length := by have := HL.out; omega
        have hi : l[k]? = some l[k] := List.getElem?_eq_getElem hlt
        have hi2 : m[k]? = some m[k] := List.getElem?_eq_getElem hlt2
        have hu := hcs k _ hi
        have hu2 := hcs2 k _ hi2
        have ht : l.take (k + 1) = l.take k ++ [l[k]] := List.take_succ_eq_append_getElem hlt
        have ht2 : m.take (k + 1) = m.take k ++ [m[k]] := List.take_succ_eq_append_getElem hlt2
        have HI := Lib.hid hi
        have HI2 := Lib.hid hi2
        have HT := Lib.hid ht
        have HT2 := Lib.hid ht2
        clear ht ht2 hi hi2 hcs hcs2
        generalize l[k] = r at *
        generalize m[k] = u at *
        obtain ⟨r0, r1, r2, r3⟩ := r
        obtain ⟨u0, u1, u2, u3⟩ := u
        have c0 := (hbo b _ hblt).trans hu.1
        have c1 := (hbo b _ hblt).trans hu.2.1
        have c2 := (hbo b _ hblt).trans hu.2.2.1
        have c3 := (hbo b _ hblt).trans hu.2.2.2
        have d0 := (hbo b2 _ hblt2).trans hu2.1
        have d1 := (hbo b2 _ hblt2).trans hu2.2.1
        have d2 := (hbo b2 _ hblt2).trans hu2.2.2.1
        have d3 := (hbo b2 _ hblt2).trans hu2.2.2.2
        clear hu hu2 hbo
        simp only at c0 c1 c2 c3 d0 d1 d2 d3
        have hkz : (0 : Int) ≤ (k : Int) := by omega
        have hkz1 : (k : Int) < (l.length : Int) := by omega
        have hkz2 : (k : Int) < (m.length : Int) := by omega
        by_cases hs : r0 = u0 ∧ r1 = u1 ∧ r2 = u2 ∧ r3 = u3
        · obtain ⟨rfl, rfl, rfl, rfl⟩ := hs
          have hn : l.take (k + 1) = m.take (k + 1) := by rw [HT.out, HT2.out, HF.out]
          have HN := Lib.hid hn
          clear hn
          go_wp2_with fail
          go_quiet (fail)
          go_wp2_with fail
          go_roundw
          case rel => exact ⟨k + 1, by omega, by go_num, HN.out, by (repeat' (first | (with_reducible exact Below.refl _ _) | (with_reducible assumption) | (with_reducible refine Below.alloc ?_ ?_ _) | (with_reducible refine Below.drew ?_) | (with_reducible refine below_drewN ?_ _) | (with_reducible refine Below.setCell ?_ ?_ _) | (with_reducible exact Nat.le_refl _) | omega | (simp only [World.size_alloc, World.size_setCell, World.size_drew]; omega) | (simp; omega) | (simp; done)))⟩
          case measure => simp [intOf]; omega
        · have hn : decide (l = m) = false := by
            rw [decide_eq_false_iff_not]
            intro he
            have h1' := HI.out
            rw [he, HI2.out] at h1'
            injection h1' with h1'
            injection h1' with a1 a2 a3 a4
            exact hs ⟨a1.symm, a2.symm, a3.symm, a4.symm⟩
          have HN := Lib.hid hn
          clear hn
          have hor : (r0 == u0) = false ∨ ((r0 == u0) = true ∧ (r1 == u1) = false) ∨ ((r0 == u0) = true ∧ (r1 == u1) = true ∧ (r2 == u2) = false) ∨ ((r0 == u0) = true ∧ (r1 == u1) = true ∧ (r2 == u2) = true ∧ (r3 == u3) = false) := by
            by_cases a0 : r0 = u0 <;> by_cases a1 : r1 = u1 <;> by_cases a2 : r2 = u2 <;> by_cases a3 : r3 = u3 <;> simp_all
          clear hs
          rcases hor with e0 | ⟨e0, e1⟩ | ⟨e0, e1, e2⟩ | ⟨e0, e1, e2, e3⟩
          · go_wp2_with fail
            go_quiet (fail)
            go_wp2_with fail
            go_ret
            exact ⟨by rw [HN.out]; rfl, by (repeat' (first | (with_reducible exact Below.refl _ _) | (with_reducible assumption) | (with_reducible refine Below.alloc ?_ ?_ _) | (with_reducible refine Below.drew ?_) | (with_reducible refine below_drewN ?_ _) | (with_reducible refine Below.setCell ?_ ?_ _) | (with_reducible exact Nat.le_refl _) | omega | (simp only [World.size_alloc, World.size_setCell, World.size_drew]; omega) | (simp; omega) | (simp; done)))⟩
          · go_wp2_with fail
            go_quiet (fail)
            go_wp2_with fail
            go_ret
            exact ⟨by rw [HN.out]; rfl, by (repeat' (first | (with_reducible exact Below.refl _ _) | (with_reducible assumption) | (with_reducible refine Below.alloc ?_ ?_ _) | (with_reducible refine Below.drew ?_) | (with_reducible refine below_drewN ?_ _) | (with_reducible refine Below.setCell ?_ ?_ _) | (with_reducible exact Nat.le_refl _) | omega | (simp only [World.size_alloc, World.size_setCell, World.size_drew]; omega) | (simp; omega) | (simp; done)))⟩
          · go_wp2_with fail
            go_quiet (fail)
            go_wp2_with fail
            go_ret
            exact ⟨by rw [HN.out]; rfl, by (repeat' (first | (with_reducible exact Below.refl _ _) | (with_reducible assumption) | (with_reducible refine Below.alloc ?_ ?_ _) | (with_reducible refine Below.drew ?_) | (with_reducible refine below_drewN ?_ _) | (with_reducible refine Below.setCell ?_ ?_ _) | (with_reducible exact Nat.le_refl _) | omega | (simp only [World.size_alloc, World.size_setCell, World.size_drew]; omega) | (simp; omega) | (simp; done)))⟩
          · go_wp2_with fail
            go_quiet (fail)
            go_wp2_with fail
            go_ret
            exact ⟨by rw [HN.out]; rfl, by (repeat' (first | (with_reducible exact Below.refl _ _) | (with_reducible assumption) | (with_reducible refine Below.alloc ?_ ?_ _) | (with_reducible refine Below.drew ?_) | (with_reducible refine below_drewN ?_ _) | (with_reducible refine Below.setCell ?_ ?_ _) | (with_reducible exact Nat.le_refl _) | omega | (simp only [World.size_alloc, World.size_setCell, World.size_drew]; omega) | (simp; omega) | (simp; done)))⟩
      · obtain rfl : k = l.length := by omega
        have hn : decide (l = m) = true := by
          rw [decide_eq_true_eq]
          have := HF.out
          rw [List.take_length, HL.out, List.take_length] at this
          exact this
        have HN := Lib.hid hn
        clear hn hbo
        go_wp2_with fail
        go_ret
        exact ⟨by rw [HN.out]; rfl, by (repeat' (first | (with_reducible exact Below.refl _ _) | (with_reducible assumption) | (with_reducible refine Below.alloc ?_ ?_ _) | (with_reducible refine Below.drew ?_) | (with_reducible refine below_drewN ?_ _) | (with_reducible refine Below.setCell ?_ ?_ _) | (with_reducible exact Nat.le_refl _) | omega | (simp only [World.size_alloc, World.size_setCell, World.size_drew]; omega) | (simp; omega) | (simp; done)))⟩
  · have hlb : ((l.length : Int) != (m.length : Int)) = true := bne_iff_ne.2 (by omega)
    have hn : decide (l = m) = false := by
      rw [decide_eq_false_iff_not]
      intro he
      exact hlen (by rw [he])
    have HN := Lib.hid hn
    clear hn hlen hA hB
    go_enter Tryz.func51, Tryz.ntmps51
    go_wp2_with fail
    go_ret
    exact ⟨by rw [HN.out]; rfl, by (repeat' (first | (with_reducible exact Below.refl _ _) | (with_reducible assumption) | (with_reducible refine Below.alloc ?_ ?_ _) | (with_reducible refine Below.drew ?_) | (with_reducible refine below_drewN ?_ _) | (with_reducible refine Below.setCell ?_ ?_ _) | (with_reducible exact Nat.le_refl _) | omega | (simp only [World.size_alloc, World.size_setCell, World.size_drew]; omega) | (simp; omega) | (simp; done)))⟩
end Go.Proofs.YtmcbjaefnhfopaaGreat

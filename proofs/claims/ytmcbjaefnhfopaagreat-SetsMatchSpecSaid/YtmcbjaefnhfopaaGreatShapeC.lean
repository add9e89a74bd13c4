/- bandLength, evenBand, mayFollow and canonical of package shape say what their plain counterparts say, whatever the world. -/
import Derived.Test.YtmcbjaefnhfopaaGreatShapeB
namespace Go.Proofs.YtmcbjaefnhfopaaGreat
open Go.RowKit
open Reg (R4)
set_option linter.unusedSimpArgs false
set_option linter.unusedVariables false

theorem Rd.at_ {w : World} {A : Option Addr} {l : List R4} (h : Rd w A l) (hn : 0 < l.length) : ∃ b off, A = some ⟨b, off, none⟩ ∧ b < w.heap.size ∧ ∀ i r, l[i]? = some r →
    w.cell? ⟨b, off + i * 4, none⟩ = some (.int .i64 r.x0) ∧ w.cell? ⟨b, off + i * 4 + 1, none⟩ = some (.int .i64 r.y0) ∧ w.cell? ⟨b, off + i * 4 + 2, none⟩ = some (.int .i64 r.x1) ∧ w.cell? ⟨b, off + i * 4 + 3, none⟩ = some (.int .i64 r.y1) := h hn
def tw (y : Int) (l : List R4) : Nat := (l.takeWhile fun u => decide (u.y0 = y)).length
theorem tw_cons_eq {y : Int} {u : R4} {l : List R4} (h : u.y0 = y) : tw y (u :: l) = tw y l + 1 := by simp [tw, h]
theorem tw_cons_ne {y : Int} {u : R4} {l : List R4} (h : ¬ u.y0 = y) : tw y (u :: l) = 0 := by simp [tw, h]

theorem bandLength_any (A : Option Addr) (r : R4) (t : List R4) (c : Nat) (w : World) (hl : (r :: t).length ≤ 140737488355328) (h : Rd w A (r :: t)) :
    Calls Tryz.prog 69 #[.slice A (t.length + 1) c] w fun e w' => e = .returned (.int .i64 (Reg.bandLen (r :: t))) ∧ Below w.heap.size w w' := by
  obtain ⟨b, off, rfl, hblt, hcs⟩ := h (by simp)
  obtain ⟨x0, x1, x2, x3⟩ := hcs 0 r rfl
  have HC := Lib.hid hcs
  clear hcs h
  simp only [Nat.zero_mul, Nat.add_zero] at x0 x1 x2 x3
  have hl' : t.length + 1 ≤ 140737488355328 := by simpa using hl
  go_enter Tryz.func69, Tryz.ntmps69
  go_wp2_with fail
  go_loopw [3] (fun i wr => ∃ k : Nat, 1 ≤ k ∧ k ≤ t.length + 1 ∧ i = .int .i64 k ∧ Reg.bandLen (r :: t) = k + tw r.y0 ((r :: t).drop k) ∧ Below w.heap.size w wr) (fun i _ => t.length + 1 - (intOf i).toNat)
  case atStart => exact ⟨1, by omega, by omega, rfl, rfl, Below.refl _ _⟩
  case round =>
    obtain ⟨k, hk1, hk, rfl, hf, hbw⟩ := hrel
    have zw := hbw.size
    have HF := Lib.hid hf
    clear hf
    have hbo := (bcell hbw).1
    have y1 := (hbo b (off + 1) hblt).trans x1
    by_cases hlt : k < t.length + 1
    · have hlt' : k < (r :: t).length := by simpa using hlt
      have hi : (r :: t)[k]? = some (r :: t)[k] := List.getElem?_eq_getElem hlt'
      have hd : (r :: t).drop k = (r :: t)[k] :: (r :: t).drop (k + 1) := List.drop_eq_getElem_cons hlt'
      have HD := Lib.hid hd
      have hu := HC.out k _ hi
      generalize (r :: t)[k] = u at *
      have c1 := (hbo b _ hblt).trans hu.2.1
      clear hu hi hd hbo
      have hlz : (k : Int) < (t.length : Int) + 1 := by omega
      have hkz : (0 : Int) ≤ (k : Int) := by omega
      by_cases hy : u.y0 = r.y0
      · have hyb : (u.y0 == r.y0) = true := by simpa using hy
        have hn : Reg.bandLen (r :: t) = k + 1 + tw r.y0 ((r :: t).drop (k + 1)) := by rw [HF.out, HD.out, tw_cons_eq hy]; omega
        have HN := Lib.hid hn
        clear hn hy
        go_wp2_with fail
        go_quiet (fail)
        go_wp2_with fail
        go_roundw
        case rel => exact ⟨k + 1, by omega, by omega, by go_num, HN.out, by (repeat' (first | (with_reducible exact Below.refl _ _) | (with_reducible assumption) | (with_reducible refine Below.alloc ?_ ?_ _) | (with_reducible refine Below.drew ?_) | (with_reducible refine below_drewN ?_ _) | (with_reducible refine Below.setCell ?_ ?_ _) | (with_reducible exact Nat.le_refl _) | omega | (simp only [World.size_alloc, World.size_setCell, World.size_drew]; omega) | (simp; omega) | (simp; done)))⟩
        case measure => simp [intOf]; omega
      · have hyb : (u.y0 == r.y0) = false := by simpa using hy
        have hn : Reg.bandLen (r :: t) = k := by rw [HF.out, HD.out, tw_cons_ne hy]; omega
        have HN := Lib.hid hn
        clear hn hy
        go_wp2_with fail
        go_quiet (fail)
        go_wp2_with fail
        go_ret
        exact ⟨by rw [HN.out]; rfl, by (repeat' (first | (with_reducible exact Below.refl _ _) | (with_reducible assumption) | (with_reducible refine Below.alloc ?_ ?_ _) | (with_reducible refine Below.drew ?_) | (with_reducible refine below_drewN ?_ _) | (with_reducible refine Below.setCell ?_ ?_ _) | (with_reducible exact Nat.le_refl _) | omega | (simp only [World.size_alloc, World.size_setCell, World.size_drew]; omega) | (simp; omega) | (simp; done)))⟩
    · obtain rfl : k = t.length + 1 := by omega
      have hn : Reg.bandLen (r :: t) = t.length + 1 := by rw [HF.out]; simp [tw]
      have HN := Lib.hid hn
      clear hn hbo
      go_wp2_with fail
      go_quiet (fail)
      go_wp2_with fail
      go_ret
      exact ⟨by rw [HN.out]; rfl, by (repeat' (first | (with_reducible exact Below.refl _ _) | (with_reducible assumption) | (with_reducible refine Below.alloc ?_ ?_ _) | (with_reducible refine Below.drew ?_) | (with_reducible refine below_drewN ?_ _) | (with_reducible refine Below.setCell ?_ ?_ _) | (with_reducible exact Nat.le_refl _) | omega | (simp only [World.size_alloc, World.size_setCell, World.size_drew]; omega) | (simp; omega) | (simp; done)))⟩

theorem evenBand_any (A : Option Addr) (r : R4) (t : List R4) (c : Nat) (w : World) (hl : (r :: t).length ≤ 140737488355328) (h : Rd w A (r :: t)) :
    Calls Tryz.prog 70 #[.slice A (t.length + 1) c] w fun e w' => e = .returned (.bool (Reg.evenB (r :: t))) ∧ Below w.heap.size w w' := by
  obtain ⟨b, off, rfl, hblt, hcs⟩ := h (by simp)
  obtain ⟨x0, x1, x2, x3⟩ := hcs 0 r rfl
  have HC := Lib.hid hcs
  clear hcs h
  simp only [Nat.zero_mul, Nat.add_zero] at x0 x1 x2 x3
  have hl' : t.length + 1 ≤ 140737488355328 := by simpa using hl
  go_enter Tryz.func70, Tryz.ntmps70
  go_wp2_with fail
  go_loopw [3] (fun i wr => ∃ (k : Nat) (p : R4), k < t.length + 1 ∧ i = .int .i64 ((k : Int) + 1) ∧ (r :: t)[k]? = some p ∧ Reg.evenB (r :: t) = Reg.evenFrom r.y1 p ((r :: t).drop (k + 1)) ∧ Below w.heap.size w wr) (fun i _ => t.length + 2 - (intOf i).toNat)
  case atStart => exact ⟨0, r, by omega, rfl, rfl, rfl, Below.refl _ _⟩
  case round =>
    obtain ⟨k, p, hk, rfl, hp, hf, hbw⟩ := hrel
    have zw := hbw.size
    have HF := Lib.hid hf
    clear hf
    have hbo := (bcell hbw).1
    have y3 := (hbo b (off + 3) hblt).trans x3
    have hpc := HC.out k _ hp
    have p2 := (hbo b _ hblt).trans hpc.2.2.1
    clear hpc hp
    have hkz : (0 : Int) ≤ (k : Int) := by omega
    by_cases hlt : k + 1 < t.length + 1
    · have hlt' : k + 1 < (r :: t).length := by simpa using hlt
      have hi : (r :: t)[k + 1]? = some (r :: t)[k + 1] := List.getElem?_eq_getElem hlt'
      have hd : (r :: t).drop (k + 1) = (r :: t)[k + 1] :: (r :: t).drop (k + 1 + 1) := List.drop_eq_getElem_cons hlt'
      have HD := Lib.hid hd
      have HI := Lib.hid hi
      have hu := HC.out (k + 1) _ hi
      generalize (r :: t)[k + 1] = u at *
      have c0 := (hbo b _ hblt).trans hu.1
      have c3 := (hbo b _ hblt).trans hu.2.2.2
      clear hu hi hd hbo
      have hlz : (k : Int) + 1 < (t.length : Int) + 1 := by omega
      have hlz2 : (k : Int) < (t.length : Int) + 1 := by omega
      have hkz1 : (0 : Int) ≤ (k : Int) + 1 := by omega
      by_cases hy : u.y1 = r.y1
      · have hyb : (u.y1 != r.y1) = false := by simpa using hy
        by_cases hx : p.x1 < u.x0
        · have hn : Reg.evenB (r :: t) = Reg.evenFrom r.y1 u ((r :: t).drop (k + 1 + 1)) := by rw [HF.out, HD.out]; simp [Reg.evenFrom, hy, hx]
          have HN := Lib.hid hn
          clear hn hy
          go_wp2_with fail
          go_quiet (fail)
          go_wp2_with fail
          go_roundw
          case rel => exact ⟨k + 1, u, by omega, by go_num, HI.out, HN.out, by (repeat' (first | (with_reducible exact Below.refl _ _) | (with_reducible assumption) | (with_reducible refine Below.alloc ?_ ?_ _) | (with_reducible refine Below.drew ?_) | (with_reducible refine below_drewN ?_ _) | (with_reducible refine Below.setCell ?_ ?_ _) | (with_reducible exact Nat.le_refl _) | omega | (simp only [World.size_alloc, World.size_setCell, World.size_drew]; omega) | (simp; omega) | (simp; done)))⟩
          case measure => simp [intOf]; omega
        · have hn : Reg.evenB (r :: t) = false := by rw [HF.out, HD.out]; simp [Reg.evenFrom, hx]
          have HN := Lib.hid hn
          clear hn hy
          go_wp2_with fail
          go_quiet (fail)
          go_wp2_with fail
          go_ret
          exact ⟨by rw [HN.out]; rfl, by (repeat' (first | (with_reducible exact Below.refl _ _) | (with_reducible assumption) | (with_reducible refine Below.alloc ?_ ?_ _) | (with_reducible refine Below.drew ?_) | (with_reducible refine below_drewN ?_ _) | (with_reducible refine Below.setCell ?_ ?_ _) | (with_reducible exact Nat.le_refl _) | omega | (simp only [World.size_alloc, World.size_setCell, World.size_drew]; omega) | (simp; omega) | (simp; done)))⟩
      · have hyb : (u.y1 != r.y1) = true := by simpa using hy
        have hn : Reg.evenB (r :: t) = false := by rw [HF.out, HD.out]; simp [Reg.evenFrom, hy]
        have HN := Lib.hid hn
        clear hn hy
        go_wp2_with fail
        go_quiet (fail)
        go_wp2_with fail
        go_ret
        exact ⟨by rw [HN.out]; rfl, by (repeat' (first | (with_reducible exact Below.refl _ _) | (with_reducible assumption) | (with_reducible refine Below.alloc ?_ ?_ _) | (with_reducible refine Below.drew ?_) | (with_reducible refine below_drewN ?_ _) | (with_reducible refine Below.setCell ?_ ?_ _) | (with_reducible exact Nat.le_refl _) | omega | (simp only [World.size_alloc, World.size_setCell, World.size_drew]; omega) | (simp; omega) | (simp; done)))⟩
    · obtain rfl : k = t.length := by omega
      have hn : Reg.evenB (r :: t) = true := by rw [HF.out]; simp [Reg.evenFrom]
      have HN := Lib.hid hn
      clear hn hbo
      go_wp2_with fail
      go_ret
      exact ⟨by rw [HN.out]; rfl, by (repeat' (first | (with_reducible exact Below.refl _ _) | (with_reducible assumption) | (with_reducible refine Below.alloc ?_ ?_ _) | (with_reducible refine Below.drew ?_) | (with_reducible refine below_drewN ?_ _) | (with_reducible refine Below.setCell ?_ ?_ _) | (with_reducible exact Nat.le_refl _) | omega | (simp only [World.size_alloc, World.size_setCell, World.size_drew]; omega) | (simp; omega) | (simp; done)))⟩
end Go.Proofs.YtmcbjaefnhfopaaGreat

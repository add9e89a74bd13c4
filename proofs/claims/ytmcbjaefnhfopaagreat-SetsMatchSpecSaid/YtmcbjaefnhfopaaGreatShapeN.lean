/- Has and Area of package shape, of a slice with whatever room. -/
import Derived.Test.YtmcbjaefnhfopaaGreatShapeG
import Derived.Test.YtmcbjaefnhfopaaGreatShapeM
namespace Go.Proofs.YtmcbjaefnhfopaaGreat
open Go.RowKit
open Reg (R4)
set_option linter.unusedSimpArgs false
set_option linter.unusedVariables false

set_option maxRecDepth 100000 in
set_option maxHeartbeats 1000000 in
theorem area_anyM (A : Option Addr) (l : List R4) (c : Nat) (w : World) (hl : l.length ≤ c) (hc : c ≤ maxLen) (hl2 : l.length ≤ 140737488355328) (h : Rd w A l) :
    Calls Tryz.prog 12 #[.slice A l.length c] w fun e w' => e = .returned (.tuple #[.int .i64 (areaF l), .int .i64 (regF l)]) ∧ Below w.heap.size w w' := by
  have H0 := Lib.hid h
  have C1 := Lib.hid (fun W h => checkRegion_anyM A l c W hl (by simpa [maxLen] using hc) hl2 h)
  clear h
  by_cases h0 : regF l = 0
  · have hA : areaF l = areaL l := if_pos h0
    have HR := Lib.hid (rect_in (regF_rects h0))
    obtain ⟨_, h2000⟩ := (show Reg.Good l ∧ l.length ≤ 2000 from by
      have h := regF_rects h0
      refine ⟨fun r hr => ⟨(rect_in h r hr).2.2.2.2.1, (rect_in h r hr).2.2.2.2.2⟩, ?_⟩
      unfold rectsF at h
      split at h
      · cases h
      · omega)
    rw [hA, h0]
    rw [h0] at C1
    clear h0 hA
    go_enter Tryz.func12, Tryz.ntmps12
    go_wp2_with fail
    refine (C1.out _ H0.out).mono ?_
    rintro e w1 ⟨rfl, hb⟩
    have B1 := up (B := w.heap.size) (w := w) (by (repeat' (first | (with_reducible exact Below.refl _ _) | (with_reducible assumption) | (with_reducible refine Below.alloc ?_ ?_ _) | (with_reducible refine Below.drew ?_) | (with_reducible refine below_drewN ?_ _) | (with_reducible refine Below.setCell ?_ ?_ _) | (with_reducible exact Nat.le_refl _) | omega | (simp only [World.size_alloc, World.size_setCell, World.size_drew]; omega) | (simp; omega) | (simp; done)))) hb (by (first | (with_reducible exact Nat.le_refl _) | (with_reducible assumption) | omega | (simp only [World.size_alloc, World.size_setCell, World.size_drew]; omega) | (simp; omega) | (simp; done)))
    have z1 := B1.size
    clear hb
    go_wp2_with fail
    go_loopw [5, 15] (fun v i wr => ∃ k : Nat, k ≤ l.length ∧ i = .int .i64 k ∧ v = .int .i64 (areaL (l.take k)) ∧ Below w.heap.size w wr) (fun _ i _ => l.length - (intOf i).toNat)
    case atStart => exact ⟨0, Nat.zero_le _, rfl, rfl, B1⟩
    case round =>
      obtain ⟨k, hk, rfl, rfl, hbw⟩ := hrel
      have zw := hbw.size
      have hkz : (0 : Int) ≤ (k : Int) := by omega
      have hab := area_bound (l := l.take k) (fun r hr => HR.out r (List.mem_of_mem_take hr))
      have htl : (l.take k).length ≤ 2000 := by rw [List.length_take]; omega
      obtain ⟨ha0, ha1⟩ := hab
      have ha2 : areaL (l.take k) ≤ 8000000000000000 := by omega
      clear ha1 htl
      by_cases hlt : k < l.length
      · obtain ⟨b, off, rfl, hblt, hcs⟩ := (H0.out.below hbw) (by omega)
        have hi : l[k]? = some l[k] := List.getElem?_eq_getElem hlt
        obtain ⟨c0, c1, c2, c3⟩ := hcs k _ hi
        have ht : areaL (l.take (k + 1)) = areaL (l.take k) + (l[k].x1 - l[k].x0) * (l[k].y1 - l[k].y0) := by
          rw [List.take_succ_eq_append_getElem hlt, areaL, areaL, List.map_append, List.sum_append]
          simp only [List.map_cons, List.map_nil, List.sum_cons, List.sum_nil, Int.add_zero]
        obtain ⟨r0, r1, r2, r3, r4, r5⟩ := HR.out _ (List.getElem_mem hlt)
        have hm := mul_bound (a := l[k].x1 - l[k].x0) (b := l[k].y1 - l[k].y0) (by omega) (by omega) (by omega) (by omega)
        clear hi hcs
        generalize l[k] = r at *
        have hpe : ∃ P, P = (r.x1 - r.x0) * (r.y1 - r.y0) := ⟨_, rfl⟩
        obtain ⟨P, hP⟩ := hpe
        rw [← hP] at hm ht
        have HT := Lib.hid ht
        clear ht
        obtain ⟨m0, m1⟩ := hm
        have hP2 := hP.symm
        clear hP
        generalize areaL (l.take k) = S at *
        go_wp2_with fail
        go_roundw
        case rel => exact ⟨k + 1, by omega, by go_num, by rw [HT.out], by (repeat' (first | (with_reducible exact Below.refl _ _) | (with_reducible assumption) | (with_reducible refine Below.alloc ?_ ?_ _) | (with_reducible refine Below.drew ?_) | (with_reducible refine below_drewN ?_ _) | (with_reducible refine Below.setCell ?_ ?_ _) | (with_reducible exact Nat.le_refl _) | omega | (simp only [World.size_alloc, World.size_setCell, World.size_drew]; omega) | (simp; omega) | (simp; done)))⟩
        case measure => simp [intOf]; omega
      · obtain rfl : k = l.length := by omega
        have hn : l.take l.length = l := List.take_length
        rw [hn] at ha0 ha2 ⊢
        clear hn
        go_wp2_with fail
        go_ret2
        exact ⟨rfl, hbw⟩
  · have hA : areaF l = 0 := if_neg h0
    have hd : (regF l == 0) = false := by simpa using h0
    rw [hA]
    clear h0 hA
    generalize regF l = d at *
    go_enter Tryz.func12, Tryz.ntmps12
    go_wp2_with fail
    refine (C1.out _ H0.out).mono ?_
    rintro e w1 ⟨rfl, hb⟩
    have B1 := up (B := w.heap.size) (w := w) (by (repeat' (first | (with_reducible exact Below.refl _ _) | (with_reducible assumption) | (with_reducible refine Below.alloc ?_ ?_ _) | (with_reducible refine Below.drew ?_) | (with_reducible refine below_drewN ?_ _) | (with_reducible refine Below.setCell ?_ ?_ _) | (with_reducible exact Nat.le_refl _) | omega | (simp only [World.size_alloc, World.size_setCell, World.size_drew]; omega) | (simp; omega) | (simp; done)))) hb (by (first | (with_reducible exact Nat.le_refl _) | (with_reducible assumption) | omega | (simp only [World.size_alloc, World.size_setCell, World.size_drew]; omega) | (simp; omega) | (simp; done)))
    clear hb
    go_wp2_with fail
    go_ret2
    exact ⟨rfl, B1⟩
end Go.Proofs.YtmcbjaefnhfopaaGreat

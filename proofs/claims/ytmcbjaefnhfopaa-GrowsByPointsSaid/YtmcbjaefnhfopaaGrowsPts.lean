/- The law GrowsByPoints: for every slice of rectangles, every number and every point, a square is in what was grown just if some square of the region is at most so far away, and in what was shrunk just if all squares so far away are in the region. -/
import Derived.Test.YtmcbjaefnhfopaaInside
import Derived.Test.YtmcbjaefnhfopaaAwake
import Derived.Test.YtmcbjaefnhfopaaOpens
namespace Go.Proofs.Ytmcbjaefnhfopaa
open Go.ChangeShapes Go.WideShapes Go.ChangeAt Go.RowKit
open Reg (R4 inR Kept)
set_option linter.unusedSimpArgs false
set_option linter.unusedVariables false

theorem rd_new (W : World) (r : R4) (T : TypeId) : Rd (W.alloc (.cells #[.int .i64 r.x0, .int .i64 r.y0, .int .i64 r.x1, .int .i64 r.y1] T)) (some ⟨W.heap.size, 0, none⟩) [r] := by
  intro _
  refine ⟨_, _, rfl, by simp, fun i s hi => ?_⟩
  match i, hi with
  | 0, hi =>
    simp at hi; subst hi
    refine ⟨?_, ?_, ?_, ?_⟩ <;> simp [go_sem]
  | i + 1, hi => simp at hi

set_option maxRecDepth 100000 in
set_option maxHeartbeats 4000000 in
theorem growsByPoints_walk (A : Option Addr) (l : List R4) (c : Nat) (n x y : Int) (w : World) (hl : l.length ≤ c) (rc : c ≤ 140737488355328) (h : Rd w A l) :
    Calls Try.prog 8 #[.slice A l.length c, .int .i64 n, .agg #[.int .i64 x, .int .i64 y]] w fun e w' => e = .returned (.bool true) ∧ Below w.heap.size w w' := by
  have rc' : c ≤ maxLen := by simp only [maxLen]; omega
  have H0 := Lib.hid h
  have C1 := Lib.hid (fun W h => grow_any A l c n W hl rc' (by omega) h)
  have C2 := Lib.hid (fun W h => shrink_any A l c n W hl rc' (by omega) h)
  have CW := Lib.hid (fun W => awake_any W)
  unfold GotRF at C1 C2
  clear h
  by_cases f1 : gwF l n = 0
  · by_cases f2 : shF l n = 0
    · obtain ⟨l0, n0, n1, -⟩ := gw_ok f1
      by_cases hx : okAt x = true ∧ okAt y = true
      · obtain ⟨hx, hy⟩ := hx
        obtain ⟨x0, x1⟩ := okAt_in hx
        obtain ⟨y0, y1⟩ := okAt_in hy
        have CK := Lib.hid (fun A' W h => checkRegion_anyM A' [sqR n x y] 1 W (by simp) (by omega) (by simp) h)
        by_cases hf : regF [sqR n x y] = 0
        · obtain ⟨e0, e1, e2⟩ := grows_pts f1 f2 hx hy hf
          have CB := Lib.hid (fun A' W h1 h2 => bothR_any A' A [sqR n x y] l 1 c W (by simp) hl (by simp only [maxLen]; omega) rc' (by simp) (by omega) h1 h2)
          unfold GotRF at CB
          rw [e0] at CB
          rw [hf] at CK
          rw [f1] at C1
          rw [f2] at C2
          have CU := Lib.hid (fun AU cu W hl hc h => lhas_any AU (gwL l n) cu x y W hl hc (by have := gwL_len l n; omega) h)
          have CS := Lib.hid (fun AU cu W hl hc h => lhas_any AU (shL l n) cu x y W hl hc (by have := shL_len l n; omega) h)
          have CI := Lib.hid (fun A' W h1 h2 => linside_any A' A [sqR n x y] l 1 c W (by simp) hl (by simp only [maxLen]; omega) rc' (by simp) (by omega) h1 h2)
          rw [e1] at CU
          rw [e2] at CS
          clear e0 e1 e2 f1 f2 hf hx hy l0
          simp only [List.length_singleton] at CK CB CI
          have hsq : [sqR n x y] = [⟨x - n, y - n, x + n + 1, y + n + 1⟩] := rfl
          rw [hsq] at CK CB CI CU CS
          clear hsq
          generalize gwL l n = U at *
          generalize shL l n = S at *
          generalize insV [⟨x - n, y - n, x + n + 1, y + n + 1⟩] l = bi at *
          generalize stL andK [⟨x - n, y - n, x + n + 1, y + n + 1⟩] l = NB at *
          have hnb : NB = [] ∨ ((0 : Int) < (NB.length : Int) ∧ decide (0 < NB.length) = true) := by
            cases NB with
            | nil => exact .inl rfl
            | cons a t => right; exact ⟨by simp only [List.length_cons]; omega, by simp⟩
          rcases hnb with rfl | ⟨hpos, hdec⟩
          · rw [show decide (0 < ([] : List R4).length) = false from rfl] at CU
            simp only [List.length_nil] at CB
            cases bi
            all_goals
              go_enter Try.func8, Try.ntmps8
              go_wp2_with fail
              refine (C1.out _ (H0.out.below (by (repeat' (first | (with_reducible exact Below.refl _ _) | (with_reducible assumption) | (with_reducible refine Below.alloc ?_ ?_ _) | (with_reducible refine Below.drew ?_) | (with_reducible refine below_drewN ?_ _) | (with_reducible refine Below.setCell ?_ ?_ _) | (with_reducible exact Nat.le_refl _) | omega | (simp only [World.size_alloc, World.size_setCell, World.size_drew]; omega) | (simp; omega) | (simp; done)))))).mono ?_
              rintro e w1 ⟨v1, rfl, ho, hb⟩
              obtain ⟨A1, c1, rfl, hl1, hc1, hr1, -⟩ := rd_own ho
              have P1 := Lib.hid ((H0.out.below (by (repeat' (first | (with_reducible exact Below.refl _ _) | (with_reducible assumption) | (with_reducible refine Below.alloc ?_ ?_ _) | (with_reducible refine Below.drew ?_) | (with_reducible refine below_drewN ?_ _) | (with_reducible refine Below.setCell ?_ ?_ _) | (with_reducible exact Nat.le_refl _) | omega | (simp only [World.size_alloc, World.size_setCell, World.size_drew]; omega) | (simp; omega) | (simp; done))))).below hb)
              have R1 := Lib.hid hr1
              obtain ⟨kq, fq⟩ := kp hb (b := w.heap.size) (cs := #[Value.int .i64 x, Value.int .i64 y]) (by (first | (with_reducible exact Nat.le_refl _) | (with_reducible assumption) | omega | (simp only [World.size_alloc, World.size_setCell, World.size_drew]; omega) | (simp; omega) | (simp; done))) (fun i => by simp [go_sem]) (fun i => by simp [go_sem])
              have z1 := hb.size
              (try simp only [World.size_alloc, World.size_setCell, World.size_drew] at z1)
              have B1 := Lib.hid (up (B := w.heap.size) (w := w) (by (repeat' (first | (with_reducible exact Below.refl _ _) | (with_reducible assumption) | (with_reducible refine Below.alloc ?_ ?_ _) | (with_reducible refine Below.drew ?_) | (with_reducible refine below_drewN ?_ _) | (with_reducible refine Below.setCell ?_ ?_ _) | (with_reducible exact Nat.le_refl _) | omega | (simp only [World.size_alloc, World.size_setCell, World.size_drew]; omega) | (simp; omega) | (simp; done)))) hb (by (first | (with_reducible exact Nat.le_refl _) | (with_reducible assumption) | omega | (simp only [World.size_alloc, World.size_setCell, World.size_drew]; omega) | (simp; omega) | (simp; done))))
              clear ho hr1 hb
              go_wp2_with fail
              refine (C2.out w1 P1.out).mono ?_
              rintro e w2 ⟨v2, rfl, ho, hb⟩
              obtain ⟨A2, c2, rfl, hl2, hc2, hr2, -⟩ := rd_own ho
              have Q1 := Lib.hid (P1.out.below hb)
              have R2 := Lib.hid (R1.out.below hb)
              have S2 := Lib.hid hr2
              obtain ⟨kq2, fq2⟩ := kp hb (b := w.heap.size) (cs := #[Value.int .i64 x, Value.int .i64 y]) (by omega) kq fq
              have z2 := hb.size
              have lq : w.heap.size < w2.heap.size := by omega
              have nq : ¬ w.heap.size = w2.heap.size := Nat.ne_of_lt lq
              have nq' : ¬ w2.heap.size = w.heap.size := fun h => nq h.symm
              have B2 := B1.out.trans (hb.mono B1.out.size)
              clear ho hr2 hb kq fq P1 R1 B1
              go_wp2_with fail
              have WA := Lib.hid ((Below.refl w2.heap.size w2).alloc (Nat.le_refl _) (.cells #[.int .i64 (x - n), .int .i64 (y - n), .int .i64 (x + n + 1), .int .i64 (y + n + 1)] 29))
              have RS2 := Lib.hid (rd_new w2 ⟨x - n, y - n, x + n + 1, y + n + 1⟩ 29)
              have Q2 := Lib.hid (Q1.out.below WA.out)
              have R2' := Lib.hid (R2.out.below WA.out)
              have S2' := Lib.hid (S2.out.below WA.out)
              refine (CK.out (some ⟨w2.heap.size, 0, none⟩) _ RS2.out).mono ?_
              rintro e w3 ⟨rfl, hb⟩
              have Q3 := Lib.hid (Q2.out.below hb)
              have R3 := Lib.hid (R2'.out.below hb)
              have S3 := Lib.hid (S2'.out.below hb)
              have RS3 := Lib.hid (RS2.out.below hb)
              obtain ⟨kq3, fq3⟩ := kp hb (b := w.heap.size) (cs := #[Value.int .i64 x, Value.int .i64 y]) (by (first | (with_reducible exact Nat.le_refl _) | (with_reducible assumption) | omega | (simp only [World.size_alloc, World.size_setCell, World.size_drew]; omega) | (simp; omega) | (simp; done))) (fun i => by simp [go_sem, kq2, lq, nq, nq']) (fun i => by simp [go_sem, fq2, lq, nq, nq'])
              have z3 := hb.size
              (try simp only [World.size_alloc, World.size_setCell, World.size_drew] at z3)
              have B3 := Lib.hid (up (B := w.heap.size) (w := w) (by (repeat' (first | (with_reducible exact Below.refl _ _) | (with_reducible assumption) | (with_reducible refine Below.alloc ?_ ?_ _) | (with_reducible refine Below.drew ?_) | (with_reducible refine below_drewN ?_ _) | (with_reducible refine Below.setCell ?_ ?_ _) | (with_reducible exact Nat.le_refl _) | omega | (simp only [World.size_alloc, World.size_setCell, World.size_drew]; omega) | (simp; omega) | (simp; done)))) hb (by (first | (with_reducible exact Nat.le_refl _) | (with_reducible assumption) | omega | (simp only [World.size_alloc, World.size_setCell, World.size_drew]; omega) | (simp; omega) | (simp; done))))
              clear hb kq2 fq2 Q1 Q2 R2 R2' S2 S2' RS2 WA B2
              go_wp2_with fail
              refine (CB.out (some ⟨w2.heap.size, 0, none⟩) w3 RS3.out Q3.out).mono ?_
              rintro e w4 ⟨v4, rfl, ho, hb⟩
              obtain ⟨A4, c4, rfl, -⟩ := rd_own ho
              have Q4 := Lib.hid (Q3.out.below hb)
              have R4 := Lib.hid (R3.out.below hb)
              have S4 := Lib.hid (S3.out.below hb)
              have RS4 := Lib.hid (RS3.out.below hb)
              obtain ⟨kq4, fq4⟩ := kp hb (b := w.heap.size) (cs := #[Value.int .i64 x, Value.int .i64 y]) (by omega) kq3 fq3
              have z4 := hb.size
              have B4 := Lib.hid (B3.out.trans (hb.mono B3.out.size))
              clear ho hb kq3 fq3 Q3 R3 S3 RS3 B3
              have y0' := kq4 0
              have y1' := kq4 1
              simp at y0' y1'
              go_wp2_with fail
              refine (CU.out A1 c1 w4 hl1 hc1 R4.out).mono ?_
              rintro e w5 ⟨rfl, hb⟩
              have Q5 := Lib.hid (Q4.out.below hb)
              have S5 := Lib.hid (S4.out.below hb)
              have RS5 := Lib.hid (RS4.out.below hb)
              have u0 := (hb.cell (p := ⟨w.heap.size, 0, none⟩) (by simp; omega)).trans y0'
              have u1 := (hb.cell (p := ⟨w.heap.size, 1, none⟩) (by simp; omega)).trans y1'
              have z5 := hb.size
              have B5 := Lib.hid (B4.out.trans (hb.mono B4.out.size))
              clear hb Q4 R4 S4 RS4 B4 kq4 fq4 y0' y1'
              go_wp2_with fail
              refine (CS.out A2 c2 w5 hl2 hc2 S5.out).mono ?_
              rintro e w6 ⟨rfl, hb⟩
              have Q6 := Lib.hid (Q5.out.below hb)
              have RS6 := Lib.hid (RS5.out.below hb)
              have B6 := Lib.hid (B5.out.trans (hb.mono B5.out.size))
              clear hb Q5 RS5 B5 u0 u1
              go_wp2_with fail
              refine (CI.out (some ⟨w2.heap.size, 0, none⟩) w6 RS6.out Q6.out).mono ?_
              rintro e w7 ⟨rfl, hb⟩
              have B7 := Lib.hid (B6.out.trans (hb.mono B6.out.size))
              clear hb
              go_wp2_with fail
              refine (CW.out _).mono ?_
              rintro e w9 ⟨rfl, hb⟩
              have B9 := Lib.hid (B7.out.trans (hb.mono B7.out.size))
              clear hb
              go_wp2_with fail
              go_ret
              exact ⟨rfl, B9.out⟩
          · rw [hdec] at CU
            clear hdec
            cases bi
            all_goals
              go_enter Try.func8, Try.ntmps8
              go_wp2_with fail
              refine (C1.out _ (H0.out.below (by (repeat' (first | (with_reducible exact Below.refl _ _) | (with_reducible assumption) | (with_reducible refine Below.alloc ?_ ?_ _) | (with_reducible refine Below.drew ?_) | (with_reducible refine below_drewN ?_ _) | (with_reducible refine Below.setCell ?_ ?_ _) | (with_reducible exact Nat.le_refl _) | omega | (simp only [World.size_alloc, World.size_setCell, World.size_drew]; omega) | (simp; omega) | (simp; done)))))).mono ?_
              rintro e w1 ⟨v1, rfl, ho, hb⟩
              obtain ⟨A1, c1, rfl, hl1, hc1, hr1, -⟩ := rd_own ho
              have P1 := Lib.hid ((H0.out.below (by (repeat' (first | (with_reducible exact Below.refl _ _) | (with_reducible assumption) | (with_reducible refine Below.alloc ?_ ?_ _) | (with_reducible refine Below.drew ?_) | (with_reducible refine below_drewN ?_ _) | (with_reducible refine Below.setCell ?_ ?_ _) | (with_reducible exact Nat.le_refl _) | omega | (simp only [World.size_alloc, World.size_setCell, World.size_drew]; omega) | (simp; omega) | (simp; done))))).below hb)
              have R1 := Lib.hid hr1
              obtain ⟨kq, fq⟩ := kp hb (b := w.heap.size) (cs := #[Value.int .i64 x, Value.int .i64 y]) (by (first | (with_reducible exact Nat.le_refl _) | (with_reducible assumption) | omega | (simp only [World.size_alloc, World.size_setCell, World.size_drew]; omega) | (simp; omega) | (simp; done))) (fun i => by simp [go_sem]) (fun i => by simp [go_sem])
              have z1 := hb.size
              (try simp only [World.size_alloc, World.size_setCell, World.size_drew] at z1)
              have B1 := Lib.hid (up (B := w.heap.size) (w := w) (by (repeat' (first | (with_reducible exact Below.refl _ _) | (with_reducible assumption) | (with_reducible refine Below.alloc ?_ ?_ _) | (with_reducible refine Below.drew ?_) | (with_reducible refine below_drewN ?_ _) | (with_reducible refine Below.setCell ?_ ?_ _) | (with_reducible exact Nat.le_refl _) | omega | (simp only [World.size_alloc, World.size_setCell, World.size_drew]; omega) | (simp; omega) | (simp; done)))) hb (by (first | (with_reducible exact Nat.le_refl _) | (with_reducible assumption) | omega | (simp only [World.size_alloc, World.size_setCell, World.size_drew]; omega) | (simp; omega) | (simp; done))))
              clear ho hr1 hb
              go_wp2_with fail
              refine (C2.out w1 P1.out).mono ?_
              rintro e w2 ⟨v2, rfl, ho, hb⟩
              obtain ⟨A2, c2, rfl, hl2, hc2, hr2, -⟩ := rd_own ho
              have Q1 := Lib.hid (P1.out.below hb)
              have R2 := Lib.hid (R1.out.below hb)
              have S2 := Lib.hid hr2
              obtain ⟨kq2, fq2⟩ := kp hb (b := w.heap.size) (cs := #[Value.int .i64 x, Value.int .i64 y]) (by omega) kq fq
              have z2 := hb.size
              have lq : w.heap.size < w2.heap.size := by omega
              have nq : ¬ w.heap.size = w2.heap.size := Nat.ne_of_lt lq
              have nq' : ¬ w2.heap.size = w.heap.size := fun h => nq h.symm
              have B2 := B1.out.trans (hb.mono B1.out.size)
              clear ho hr2 hb kq fq P1 R1 B1
              go_wp2_with fail
              have WA := Lib.hid ((Below.refl w2.heap.size w2).alloc (Nat.le_refl _) (.cells #[.int .i64 (x - n), .int .i64 (y - n), .int .i64 (x + n + 1), .int .i64 (y + n + 1)] 29))
              have RS2 := Lib.hid (rd_new w2 ⟨x - n, y - n, x + n + 1, y + n + 1⟩ 29)
              have Q2 := Lib.hid (Q1.out.below WA.out)
              have R2' := Lib.hid (R2.out.below WA.out)
              have S2' := Lib.hid (S2.out.below WA.out)
              refine (CK.out (some ⟨w2.heap.size, 0, none⟩) _ RS2.out).mono ?_
              rintro e w3 ⟨rfl, hb⟩
              have Q3 := Lib.hid (Q2.out.below hb)
              have R3 := Lib.hid (R2'.out.below hb)
              have S3 := Lib.hid (S2'.out.below hb)
              have RS3 := Lib.hid (RS2.out.below hb)
              obtain ⟨kq3, fq3⟩ := kp hb (b := w.heap.size) (cs := #[Value.int .i64 x, Value.int .i64 y]) (by (first | (with_reducible exact Nat.le_refl _) | (with_reducible assumption) | omega | (simp only [World.size_alloc, World.size_setCell, World.size_drew]; omega) | (simp; omega) | (simp; done))) (fun i => by simp [go_sem, kq2, lq, nq, nq']) (fun i => by simp [go_sem, fq2, lq, nq, nq'])
              have z3 := hb.size
              (try simp only [World.size_alloc, World.size_setCell, World.size_drew] at z3)
              have B3 := Lib.hid (up (B := w.heap.size) (w := w) (by (repeat' (first | (with_reducible exact Below.refl _ _) | (with_reducible assumption) | (with_reducible refine Below.alloc ?_ ?_ _) | (with_reducible refine Below.drew ?_) | (with_reducible refine below_drewN ?_ _) | (with_reducible refine Below.setCell ?_ ?_ _) | (with_reducible exact Nat.le_refl _) | omega | (simp only [World.size_alloc, World.size_setCell, World.size_drew]; omega) | (simp; omega) | (simp; done)))) hb (by (first | (with_reducible exact Nat.le_refl _) | (with_reducible assumption) | omega | (simp only [World.size_alloc, World.size_setCell, World.size_drew]; omega) | (simp; omega) | (simp; done))))
              clear hb kq2 fq2 Q1 Q2 R2 R2' S2 S2' RS2 WA B2
              go_wp2_with fail
              refine (CB.out (some ⟨w2.heap.size, 0, none⟩) w3 RS3.out Q3.out).mono ?_
              rintro e w4 ⟨v4, rfl, ho, hb⟩
              obtain ⟨A4, c4, rfl, -⟩ := rd_own ho
              have Q4 := Lib.hid (Q3.out.below hb)
              have R4 := Lib.hid (R3.out.below hb)
              have S4 := Lib.hid (S3.out.below hb)
              have RS4 := Lib.hid (RS3.out.below hb)
              obtain ⟨kq4, fq4⟩ := kp hb (b := w.heap.size) (cs := #[Value.int .i64 x, Value.int .i64 y]) (by omega) kq3 fq3
              have z4 := hb.size
              have B4 := Lib.hid (B3.out.trans (hb.mono B3.out.size))
              clear ho hb kq3 fq3 Q3 R3 S3 RS3 B3
              have y0' := kq4 0
              have y1' := kq4 1
              simp at y0' y1'
              go_wp2_with fail
              refine (CU.out A1 c1 w4 hl1 hc1 R4.out).mono ?_
              rintro e w5 ⟨rfl, hb⟩
              have Q5 := Lib.hid (Q4.out.below hb)
              have S5 := Lib.hid (S4.out.below hb)
              have RS5 := Lib.hid (RS4.out.below hb)
              have u0 := (hb.cell (p := ⟨w.heap.size, 0, none⟩) (by simp; omega)).trans y0'
              have u1 := (hb.cell (p := ⟨w.heap.size, 1, none⟩) (by simp; omega)).trans y1'
              have z5 := hb.size
              have B5 := Lib.hid (B4.out.trans (hb.mono B4.out.size))
              clear hb Q4 R4 S4 RS4 B4 kq4 fq4 y0' y1'
              go_wp2_with fail
              refine (CS.out A2 c2 w5 hl2 hc2 S5.out).mono ?_
              rintro e w6 ⟨rfl, hb⟩
              have Q6 := Lib.hid (Q5.out.below hb)
              have RS6 := Lib.hid (RS5.out.below hb)
              have B6 := Lib.hid (B5.out.trans (hb.mono B5.out.size))
              clear hb Q5 RS5 B5 u0 u1
              go_wp2_with fail
              refine (CI.out (some ⟨w2.heap.size, 0, none⟩) w6 RS6.out Q6.out).mono ?_
              rintro e w7 ⟨rfl, hb⟩
              have B7 := Lib.hid (B6.out.trans (hb.mono B6.out.size))
              clear hb
              go_wp2_with fail
              refine (CW.out _).mono ?_
              rintro e w9 ⟨rfl, hb⟩
              have B9 := Lib.hid (B7.out.trans (hb.mono B7.out.size))
              clear hb
              go_wp2_with fail
              go_ret
              exact ⟨rfl, B9.out⟩
        · rw [f1] at C1
          rw [f2] at C2
          clear f1 f2 hx hy l0
          have hd : (regF [sqR n x y] == 0) = false := by simpa using hf
          have hd' : (regF [sqR n x y] != 0) = true := by simpa using hf
          simp only [List.length_singleton] at CK
          have hsq : [sqR n x y] = [⟨x - n, y - n, x + n + 1, y + n + 1⟩] := rfl
          rw [hsq] at CK hd hd'
          clear hf hsq
          generalize regF [⟨x - n, y - n, x + n + 1, y + n + 1⟩] = F at *
          generalize gwL l n = U at *
          generalize shL l n = S at *
          go_enter Try.func8, Try.ntmps8
          go_wp2_with fail
          refine (C1.out _ (H0.out.below (by (repeat' (first | (with_reducible exact Below.refl _ _) | (with_reducible assumption) | (with_reducible refine Below.alloc ?_ ?_ _) | (with_reducible refine Below.drew ?_) | (with_reducible refine below_drewN ?_ _) | (with_reducible refine Below.setCell ?_ ?_ _) | (with_reducible exact Nat.le_refl _) | omega | (simp only [World.size_alloc, World.size_setCell, World.size_drew]; omega) | (simp; omega) | (simp; done)))))).mono ?_
          rintro e w1 ⟨v1, rfl, ho, hb⟩
          obtain ⟨A1, c1, rfl, hl1, hc1, hr1, -⟩ := rd_own ho
          have P1 := Lib.hid ((H0.out.below (by (repeat' (first | (with_reducible exact Below.refl _ _) | (with_reducible assumption) | (with_reducible refine Below.alloc ?_ ?_ _) | (with_reducible refine Below.drew ?_) | (with_reducible refine below_drewN ?_ _) | (with_reducible refine Below.setCell ?_ ?_ _) | (with_reducible exact Nat.le_refl _) | omega | (simp only [World.size_alloc, World.size_setCell, World.size_drew]; omega) | (simp; omega) | (simp; done))))).below hb)
          have R1 := Lib.hid hr1
          obtain ⟨kq, fq⟩ := kp hb (b := w.heap.size) (cs := #[Value.int .i64 x, Value.int .i64 y]) (by (first | (with_reducible exact Nat.le_refl _) | (with_reducible assumption) | omega | (simp only [World.size_alloc, World.size_setCell, World.size_drew]; omega) | (simp; omega) | (simp; done))) (fun i => by simp [go_sem]) (fun i => by simp [go_sem])
          have z1 := hb.size
          (try simp only [World.size_alloc, World.size_setCell, World.size_drew] at z1)
          have B1 := Lib.hid (up (B := w.heap.size) (w := w) (by (repeat' (first | (with_reducible exact Below.refl _ _) | (with_reducible assumption) | (with_reducible refine Below.alloc ?_ ?_ _) | (with_reducible refine Below.drew ?_) | (with_reducible refine below_drewN ?_ _) | (with_reducible refine Below.setCell ?_ ?_ _) | (with_reducible exact Nat.le_refl _) | omega | (simp only [World.size_alloc, World.size_setCell, World.size_drew]; omega) | (simp; omega) | (simp; done)))) hb (by (first | (with_reducible exact Nat.le_refl _) | (with_reducible assumption) | omega | (simp only [World.size_alloc, World.size_setCell, World.size_drew]; omega) | (simp; omega) | (simp; done))))
          clear ho hr1 hb
          go_wp2_with fail
          refine (C2.out w1 P1.out).mono ?_
          rintro e w2 ⟨v2, rfl, ho, hb⟩
          obtain ⟨A2, c2, rfl, hl2, hc2, hr2, -⟩ := rd_own ho
          have Q1 := Lib.hid (P1.out.below hb)
          have R2 := Lib.hid (R1.out.below hb)
          have S2 := Lib.hid hr2
          obtain ⟨kq2, fq2⟩ := kp hb (b := w.heap.size) (cs := #[Value.int .i64 x, Value.int .i64 y]) (by omega) kq fq
          have z2 := hb.size
          have lq : w.heap.size < w2.heap.size := by omega
          have nq : ¬ w.heap.size = w2.heap.size := Nat.ne_of_lt lq
          have nq' : ¬ w2.heap.size = w.heap.size := fun h => nq h.symm
          have B2 := B1.out.trans (hb.mono B1.out.size)
          clear ho hr2 hb kq fq P1 R1 B1
          go_wp2_with fail
          refine (CK.out (some ⟨w2.heap.size, 0, none⟩) _ (rd_new w2 ⟨x - n, y - n, x + n + 1, y + n + 1⟩ 29)).mono ?_
          rintro e w3 ⟨rfl, hb⟩
          have B3 := Lib.hid (up (B := w.heap.size) (w := w) (by (repeat' (first | (with_reducible exact Below.refl _ _) | (with_reducible assumption) | (with_reducible refine Below.alloc ?_ ?_ _) | (with_reducible refine Below.drew ?_) | (with_reducible refine below_drewN ?_ _) | (with_reducible refine Below.setCell ?_ ?_ _) | (with_reducible exact Nat.le_refl _) | omega | (simp only [World.size_alloc, World.size_setCell, World.size_drew]; omega) | (simp; omega) | (simp; done)))) hb (by (first | (with_reducible exact Nat.le_refl _) | (with_reducible assumption) | omega | (simp only [World.size_alloc, World.size_setCell, World.size_drew]; omega) | (simp; omega) | (simp; done))))
          clear hb
          go_wp2_with fail
          refine (CW.out _).mono ?_
          rintro e w9 ⟨rfl, hb⟩
          have B9 := Lib.hid (B3.out.trans (hb.mono B3.out.size))
          clear hb
          go_wp2_with fail
          go_ret
          exact ⟨rfl, B9.out⟩
      · have hout : x < -1000000 ∨ (¬ x < -1000000 ∧ 1000000 < x) ∨ (¬ x < -1000000 ∧ ¬ 1000000 < x ∧ y < -1000000) ∨ (¬ x < -1000000 ∧ ¬ 1000000 < x ∧ ¬ y < -1000000 ∧ 1000000 < y) := by
          simp only [okAt, Bool.and_eq_true, decide_eq_true_eq] at hx
          omega
        rw [f1] at C1
        rw [f2] at C2
        clear f1 f2 hx l0
        generalize gwL l n = U at *
        generalize shL l n = S at *
        rcases hout with o1 | ⟨o1, o2⟩ | ⟨o1, o2, o3⟩ | ⟨o1, o2, o3, o4⟩
        all_goals
          go_enter Try.func8, Try.ntmps8
          go_wp2_with fail
          refine (C1.out _ (H0.out.below (by (repeat' (first | (with_reducible exact Below.refl _ _) | (with_reducible assumption) | (with_reducible refine Below.alloc ?_ ?_ _) | (with_reducible refine Below.drew ?_) | (with_reducible refine below_drewN ?_ _) | (with_reducible refine Below.setCell ?_ ?_ _) | (with_reducible exact Nat.le_refl _) | omega | (simp only [World.size_alloc, World.size_setCell, World.size_drew]; omega) | (simp; omega) | (simp; done)))))).mono ?_
          rintro e w1 ⟨v1, rfl, ho, hb⟩
          obtain ⟨A1, c1, rfl, hl1, hc1, hr1, -⟩ := rd_own ho
          have P1 := Lib.hid ((H0.out.below (by (repeat' (first | (with_reducible exact Below.refl _ _) | (with_reducible assumption) | (with_reducible refine Below.alloc ?_ ?_ _) | (with_reducible refine Below.drew ?_) | (with_reducible refine below_drewN ?_ _) | (with_reducible refine Below.setCell ?_ ?_ _) | (with_reducible exact Nat.le_refl _) | omega | (simp only [World.size_alloc, World.size_setCell, World.size_drew]; omega) | (simp; omega) | (simp; done))))).below hb)
          have R1 := Lib.hid hr1
          obtain ⟨kq, fq⟩ := kp hb (b := w.heap.size) (cs := #[Value.int .i64 x, Value.int .i64 y]) (by (first | (with_reducible exact Nat.le_refl _) | (with_reducible assumption) | omega | (simp only [World.size_alloc, World.size_setCell, World.size_drew]; omega) | (simp; omega) | (simp; done))) (fun i => by simp [go_sem]) (fun i => by simp [go_sem])
          have z1 := hb.size
          (try simp only [World.size_alloc, World.size_setCell, World.size_drew] at z1)
          have B1 := Lib.hid (up (B := w.heap.size) (w := w) (by (repeat' (first | (with_reducible exact Below.refl _ _) | (with_reducible assumption) | (with_reducible refine Below.alloc ?_ ?_ _) | (with_reducible refine Below.drew ?_) | (with_reducible refine below_drewN ?_ _) | (with_reducible refine Below.setCell ?_ ?_ _) | (with_reducible exact Nat.le_refl _) | omega | (simp only [World.size_alloc, World.size_setCell, World.size_drew]; omega) | (simp; omega) | (simp; done)))) hb (by (first | (with_reducible exact Nat.le_refl _) | (with_reducible assumption) | omega | (simp only [World.size_alloc, World.size_setCell, World.size_drew]; omega) | (simp; omega) | (simp; done))))
          clear ho hr1 hb
          go_wp2_with fail
          refine (C2.out w1 P1.out).mono ?_
          rintro e w2 ⟨v2, rfl, ho, hb⟩
          obtain ⟨A2, c2, rfl, hl2, hc2, hr2, -⟩ := rd_own ho
          have Q1 := Lib.hid (P1.out.below hb)
          have R2 := Lib.hid (R1.out.below hb)
          have S2 := Lib.hid hr2
          obtain ⟨kq2, fq2⟩ := kp hb (b := w.heap.size) (cs := #[Value.int .i64 x, Value.int .i64 y]) (by omega) kq fq
          have z2 := hb.size
          have lq : w.heap.size < w2.heap.size := by omega
          have nq : ¬ w.heap.size = w2.heap.size := Nat.ne_of_lt lq
          have nq' : ¬ w2.heap.size = w.heap.size := fun h => nq h.symm
          have B2 := B1.out.trans (hb.mono B1.out.size)
          clear ho hr2 hb kq fq P1 R1 B1
          go_wp2_with fail
          refine (CW.out _).mono ?_
          rintro e w9 ⟨rfl, hb⟩
          have B9 := Lib.hid (up (B := w.heap.size) (w := w) (by (repeat' (first | (with_reducible exact Below.refl _ _) | (with_reducible assumption) | (with_reducible refine Below.alloc ?_ ?_ _) | (with_reducible refine Below.drew ?_) | (with_reducible refine below_drewN ?_ _) | (with_reducible refine Below.setCell ?_ ?_ _) | (with_reducible exact Nat.le_refl _) | omega | (simp only [World.size_alloc, World.size_setCell, World.size_drew]; omega) | (simp; omega) | (simp; done)))) hb (by (first | (with_reducible exact Nat.le_refl _) | (with_reducible assumption) | omega | (simp only [World.size_alloc, World.size_setCell, World.size_drew]; omega) | (simp; omega) | (simp; done))))
          clear hb
          go_wp2_with fail
          go_ret
          exact ⟨rfl, B9.out⟩
    · rw [f1] at C1
      rw [shL_bad f2] at C2
      have hd : (shF l n == 0) = false := by simpa using f2
      have hd' : (shF l n != 0) = true := by simpa using f2
      clear f1 f2
      generalize gwL l n = U at *
      generalize shF l n = F at *
      simp only [List.length_nil] at C2
      go_enter Try.func8, Try.ntmps8
      go_wp2_with fail
      refine (C1.out _ (H0.out.below (by (repeat' (first | (with_reducible exact Below.refl _ _) | (with_reducible assumption) | (with_reducible refine Below.alloc ?_ ?_ _) | (with_reducible refine Below.drew ?_) | (with_reducible refine below_drewN ?_ _) | (with_reducible refine Below.setCell ?_ ?_ _) | (with_reducible exact Nat.le_refl _) | omega | (simp only [World.size_alloc, World.size_setCell, World.size_drew]; omega) | (simp; omega) | (simp; done)))))).mono ?_
      rintro e w1 ⟨v1, rfl, ho, hb⟩
      obtain ⟨A1, c1, rfl, hl1, hc1, hr1, -⟩ := rd_own ho
      have P1 := Lib.hid ((H0.out.below (by (repeat' (first | (with_reducible exact Below.refl _ _) | (with_reducible assumption) | (with_reducible refine Below.alloc ?_ ?_ _) | (with_reducible refine Below.drew ?_) | (with_reducible refine below_drewN ?_ _) | (with_reducible refine Below.setCell ?_ ?_ _) | (with_reducible exact Nat.le_refl _) | omega | (simp only [World.size_alloc, World.size_setCell, World.size_drew]; omega) | (simp; omega) | (simp; done))))).below hb)
      have R1 := Lib.hid hr1
      obtain ⟨kq, fq⟩ := kp hb (b := w.heap.size) (cs := #[Value.int .i64 x, Value.int .i64 y]) (by (first | (with_reducible exact Nat.le_refl _) | (with_reducible assumption) | omega | (simp only [World.size_alloc, World.size_setCell, World.size_drew]; omega) | (simp; omega) | (simp; done))) (fun i => by simp [go_sem]) (fun i => by simp [go_sem])
      have z1 := hb.size
      (try simp only [World.size_alloc, World.size_setCell, World.size_drew] at z1)
      have B1 := Lib.hid (up (B := w.heap.size) (w := w) (by (repeat' (first | (with_reducible exact Below.refl _ _) | (with_reducible assumption) | (with_reducible refine Below.alloc ?_ ?_ _) | (with_reducible refine Below.drew ?_) | (with_reducible refine below_drewN ?_ _) | (with_reducible refine Below.setCell ?_ ?_ _) | (with_reducible exact Nat.le_refl _) | omega | (simp only [World.size_alloc, World.size_setCell, World.size_drew]; omega) | (simp; omega) | (simp; done)))) hb (by (first | (with_reducible exact Nat.le_refl _) | (with_reducible assumption) | omega | (simp only [World.size_alloc, World.size_setCell, World.size_drew]; omega) | (simp; omega) | (simp; done))))
      clear ho hr1 hb
      go_wp2_with fail
      refine (C2.out w1 P1.out).mono ?_
      rintro e w2 ⟨v2, rfl, ho, hb⟩
      obtain ⟨A2, c2, rfl, hl2, hc2, hr2, -⟩ := rd_own ho
      have Q1 := Lib.hid (P1.out.below hb)
      have R2 := Lib.hid (R1.out.below hb)
      have S2 := Lib.hid hr2
      obtain ⟨kq2, fq2⟩ := kp hb (b := w.heap.size) (cs := #[Value.int .i64 x, Value.int .i64 y]) (by omega) kq fq
      have z2 := hb.size
      have lq : w.heap.size < w2.heap.size := by omega
      have nq : ¬ w.heap.size = w2.heap.size := Nat.ne_of_lt lq
      have nq' : ¬ w2.heap.size = w.heap.size := fun h => nq h.symm
      have B2 := B1.out.trans (hb.mono B1.out.size)
      clear ho hr2 hb kq fq P1 R1 B1
      go_wp2_with fail
      refine (CW.out _).mono ?_
      rintro e w9 ⟨rfl, hb⟩
      have B9 := Lib.hid (up (B := w.heap.size) (w := w) (by (repeat' (first | (with_reducible exact Below.refl _ _) | (with_reducible assumption) | (with_reducible refine Below.alloc ?_ ?_ _) | (with_reducible refine Below.drew ?_) | (with_reducible refine below_drewN ?_ _) | (with_reducible refine Below.setCell ?_ ?_ _) | (with_reducible exact Nat.le_refl _) | omega | (simp only [World.size_alloc, World.size_setCell, World.size_drew]; omega) | (simp; omega) | (simp; done)))) hb (by (first | (with_reducible exact Nat.le_refl _) | (with_reducible assumption) | omega | (simp only [World.size_alloc, World.size_setCell, World.size_drew]; omega) | (simp; omega) | (simp; done))))
      clear hb
      go_wp2_with fail
      go_ret
      exact ⟨rfl, B9.out⟩
  · rw [gwL_bad f1] at C1
    have hd : (gwF l n == 0) = false := by simpa using f1
    have hd' : (gwF l n != 0) = true := by simpa using f1
    clear f1
    simp only [List.length_nil] at C1
    generalize gwF l n = F at *
    by_cases f2 : shF l n = 0
    · rw [f2] at C2
      clear f2
      generalize shL l n = S at *
      go_enter Try.func8, Try.ntmps8
      go_wp2_with fail
      refine (C1.out _ (H0.out.below (by (repeat' (first | (with_reducible exact Below.refl _ _) | (with_reducible assumption) | (with_reducible refine Below.alloc ?_ ?_ _) | (with_reducible refine Below.drew ?_) | (with_reducible refine below_drewN ?_ _) | (with_reducible refine Below.setCell ?_ ?_ _) | (with_reducible exact Nat.le_refl _) | omega | (simp only [World.size_alloc, World.size_setCell, World.size_drew]; omega) | (simp; omega) | (simp; done)))))).mono ?_
      rintro e w1 ⟨v1, rfl, ho, hb⟩
      obtain ⟨A1, c1, rfl, hl1, hc1, hr1, -⟩ := rd_own ho
      have P1 := Lib.hid ((H0.out.below (by (repeat' (first | (with_reducible exact Below.refl _ _) | (with_reducible assumption) | (with_reducible refine Below.alloc ?_ ?_ _) | (with_reducible refine Below.drew ?_) | (with_reducible refine below_drewN ?_ _) | (with_reducible refine Below.setCell ?_ ?_ _) | (with_reducible exact Nat.le_refl _) | omega | (simp only [World.size_alloc, World.size_setCell, World.size_drew]; omega) | (simp; omega) | (simp; done))))).below hb)
      have R1 := Lib.hid hr1
      obtain ⟨kq, fq⟩ := kp hb (b := w.heap.size) (cs := #[Value.int .i64 x, Value.int .i64 y]) (by (first | (with_reducible exact Nat.le_refl _) | (with_reducible assumption) | omega | (simp only [World.size_alloc, World.size_setCell, World.size_drew]; omega) | (simp; omega) | (simp; done))) (fun i => by simp [go_sem]) (fun i => by simp [go_sem])
      have z1 := hb.size
      (try simp only [World.size_alloc, World.size_setCell, World.size_drew] at z1)
      have B1 := Lib.hid (up (B := w.heap.size) (w := w) (by (repeat' (first | (with_reducible exact Below.refl _ _) | (with_reducible assumption) | (with_reducible refine Below.alloc ?_ ?_ _) | (with_reducible refine Below.drew ?_) | (with_reducible refine below_drewN ?_ _) | (with_reducible refine Below.setCell ?_ ?_ _) | (with_reducible exact Nat.le_refl _) | omega | (simp only [World.size_alloc, World.size_setCell, World.size_drew]; omega) | (simp; omega) | (simp; done)))) hb (by (first | (with_reducible exact Nat.le_refl _) | (with_reducible assumption) | omega | (simp only [World.size_alloc, World.size_setCell, World.size_drew]; omega) | (simp; omega) | (simp; done))))
      clear ho hr1 hb
      go_wp2_with fail
      refine (C2.out w1 P1.out).mono ?_
      rintro e w2 ⟨v2, rfl, ho, hb⟩
      obtain ⟨A2, c2, rfl, hl2, hc2, hr2, -⟩ := rd_own ho
      have Q1 := Lib.hid (P1.out.below hb)
      have R2 := Lib.hid (R1.out.below hb)
      have S2 := Lib.hid hr2
      obtain ⟨kq2, fq2⟩ := kp hb (b := w.heap.size) (cs := #[Value.int .i64 x, Value.int .i64 y]) (by omega) kq fq
      have z2 := hb.size
      have lq : w.heap.size < w2.heap.size := by omega
      have nq : ¬ w.heap.size = w2.heap.size := Nat.ne_of_lt lq
      have nq' : ¬ w2.heap.size = w.heap.size := fun h => nq h.symm
      have B2 := B1.out.trans (hb.mono B1.out.size)
      clear ho hr2 hb kq fq P1 R1 B1
      go_wp2_with fail
      refine (CW.out _).mono ?_
      rintro e w9 ⟨rfl, hb⟩
      have B9 := Lib.hid (up (B := w.heap.size) (w := w) (by (repeat' (first | (with_reducible exact Below.refl _ _) | (with_reducible assumption) | (with_reducible refine Below.alloc ?_ ?_ _) | (with_reducible refine Below.drew ?_) | (with_reducible refine below_drewN ?_ _) | (with_reducible refine Below.setCell ?_ ?_ _) | (with_reducible exact Nat.le_refl _) | omega | (simp only [World.size_alloc, World.size_setCell, World.size_drew]; omega) | (simp; omega) | (simp; done)))) hb (by (first | (with_reducible exact Nat.le_refl _) | (with_reducible assumption) | omega | (simp only [World.size_alloc, World.size_setCell, World.size_drew]; omega) | (simp; omega) | (simp; done))))
      clear hb
      go_wp2_with fail
      go_ret
      exact ⟨rfl, B9.out⟩
    · rw [shL_bad f2] at C2
      have hd2 : (shF l n == 0) = false := by simpa using f2
      have hd2' : (shF l n != 0) = true := by simpa using f2
      clear f2
      simp only [List.length_nil] at C2
      generalize shF l n = F2 at *
      go_enter Try.func8, Try.ntmps8
      go_wp2_with fail
      refine (C1.out _ (H0.out.below (by (repeat' (first | (with_reducible exact Below.refl _ _) | (with_reducible assumption) | (with_reducible refine Below.alloc ?_ ?_ _) | (with_reducible refine Below.drew ?_) | (with_reducible refine below_drewN ?_ _) | (with_reducible refine Below.setCell ?_ ?_ _) | (with_reducible exact Nat.le_refl _) | omega | (simp only [World.size_alloc, World.size_setCell, World.size_drew]; omega) | (simp; omega) | (simp; done)))))).mono ?_
      rintro e w1 ⟨v1, rfl, ho, hb⟩
      obtain ⟨A1, c1, rfl, hl1, hc1, hr1, -⟩ := rd_own ho
      have P1 := Lib.hid ((H0.out.below (by (repeat' (first | (with_reducible exact Below.refl _ _) | (with_reducible assumption) | (with_reducible refine Below.alloc ?_ ?_ _) | (with_reducible refine Below.drew ?_) | (with_reducible refine below_drewN ?_ _) | (with_reducible refine Below.setCell ?_ ?_ _) | (with_reducible exact Nat.le_refl _) | omega | (simp only [World.size_alloc, World.size_setCell, World.size_drew]; omega) | (simp; omega) | (simp; done))))).below hb)
      have R1 := Lib.hid hr1
      obtain ⟨kq, fq⟩ := kp hb (b := w.heap.size) (cs := #[Value.int .i64 x, Value.int .i64 y]) (by (first | (with_reducible exact Nat.le_refl _) | (with_reducible assumption) | omega | (simp only [World.size_alloc, World.size_setCell, World.size_drew]; omega) | (simp; omega) | (simp; done))) (fun i => by simp [go_sem]) (fun i => by simp [go_sem])
      have z1 := hb.size
      (try simp only [World.size_alloc, World.size_setCell, World.size_drew] at z1)
      have B1 := Lib.hid (up (B := w.heap.size) (w := w) (by (repeat' (first | (with_reducible exact Below.refl _ _) | (with_reducible assumption) | (with_reducible refine Below.alloc ?_ ?_ _) | (with_reducible refine Below.drew ?_) | (with_reducible refine below_drewN ?_ _) | (with_reducible refine Below.setCell ?_ ?_ _) | (with_reducible exact Nat.le_refl _) | omega | (simp only [World.size_alloc, World.size_setCell, World.size_drew]; omega) | (simp; omega) | (simp; done)))) hb (by (first | (with_reducible exact Nat.le_refl _) | (with_reducible assumption) | omega | (simp only [World.size_alloc, World.size_setCell, World.size_drew]; omega) | (simp; omega) | (simp; done))))
      clear ho hr1 hb
      go_wp2_with fail
      refine (C2.out w1 P1.out).mono ?_
      rintro e w2 ⟨v2, rfl, ho, hb⟩
      obtain ⟨A2, c2, rfl, hl2, hc2, hr2, -⟩ := rd_own ho
      have Q1 := Lib.hid (P1.out.below hb)
      have R2 := Lib.hid (R1.out.below hb)
      have S2 := Lib.hid hr2
      obtain ⟨kq2, fq2⟩ := kp hb (b := w.heap.size) (cs := #[Value.int .i64 x, Value.int .i64 y]) (by omega) kq fq
      have z2 := hb.size
      have lq : w.heap.size < w2.heap.size := by omega
      have nq : ¬ w.heap.size = w2.heap.size := Nat.ne_of_lt lq
      have nq' : ¬ w2.heap.size = w.heap.size := fun h => nq h.symm
      have B2 := B1.out.trans (hb.mono B1.out.size)
      clear ho hr2 hb kq fq P1 R1 B1
      go_wp2_with fail
      refine (CW.out _).mono ?_
      rintro e w9 ⟨rfl, hb⟩
      have B9 := Lib.hid (up (B := w.heap.size) (w := w) (by (repeat' (first | (with_reducible exact Below.refl _ _) | (with_reducible assumption) | (with_reducible refine Below.alloc ?_ ?_ _) | (with_reducible refine Below.drew ?_) | (with_reducible refine below_drewN ?_ _) | (with_reducible refine Below.setCell ?_ ?_ _) | (with_reducible exact Nat.le_refl _) | omega | (simp only [World.size_alloc, World.size_setCell, World.size_drew]; omega) | (simp; omega) | (simp; done)))) hb (by (first | (with_reducible exact Nat.le_refl _) | (with_reducible assumption) | omega | (simp only [World.size_alloc, World.size_setCell, World.size_drew]; omega) | (simp; omega) | (simp; done))))
      clear hb
      go_wp2_with fail
      go_ret
      exact ⟨rfl, B9.out⟩

set_option maxRecDepth 100000 in
theorem growsByPoints_lifted (os : Os) (started : os.Started) (H : Type) (enc : TypeId × Value → H) :
    ReturnsInHanded {} Try.checked os 8 .any (Rows.growsByPointsSpec.pre6 enc Try.prog Try.f8 Rows.growsByPointsRow.domain false) (Rows.growsByPointsSpec.post enc Try.prog Try.f8 false true false false) := by
  refine returnsInHanded_of_change_sized (C := Try.checked) own started (by kernel_rfl) Try.func8
    (ChangeSpec.witness6 (enc := enc) (C := Try.checked) false ⟨#[], #[.slice none 0 0, .int .i64 0, .agg #[.int .i64 0, .int .i64 0]], []⟩ 8 (by kernel_rfl) (by kernel_rfl) (by kernel_rfl) (by kernel_rfl)) ?_
  intro W base args ds gs before hval0 hW hcnd hsz0 _
  have hval : ∀ (j : Nat) t v, Try.f8.params[j]? = some t → args[j]? = some v → Value.okWide Try.prog W .any base t v := hval0
  have hsz : (DataW.weightsEach Try.prog (Try.f8.params.toList ++ Rows.growsByPointsSpec.plain.varTypes Try.prog) (ds ++ gs)).all (· ≤ reachBytes) = true := hsz0
  have hW' := hW
  obtain ⟨p, q, hA0, hV, rfl, hfz, hnd⟩ := hW
  have hA : DataW.TrodAll enc Try.prog W 0 (fun _ => true) true Try.f8.params.toList args.toList ds p := hA0
  rw [Try.params8] at hA hval hsz
  obtain ⟨v0, vs0, d0, ds0, p0, q0, hargs, rfl, rfl, h0, r0⟩ := trodAll_cons hA
  obtain ⟨v1, vs1, d1, ds1, p1, q1, rfl, rfl, rfl, h1, r1⟩ := trodAll_cons r0
  obtain ⟨v2, vs2, d2, ds2, p2, q2, rfl, rfl, rfl, h2, r2⟩ := trodAll_cons r1
  obtain ⟨rfl, rfl, rfl⟩ := trodAll_nil r2
  obtain rfl : args = #[v0, v1, v2] := by cases args; simp_all
  obtain ⟨rfl, rfl⟩ := trodVars_none hV
  have k0 := h0
  have lt0 : ∀ x ∈ p0, x.block < W.heap.size := by obtain ⟨m, hm⟩ := k0; exact DataW.trod_lt m _ _ _ hm
  obtain ⟨A0, l0, c0, rfl, hl0, hr0, hc0⟩ := open_rects (hval 0 22 v0 rfl rfl) h0
  have hb0 := rects_room hsz (j := 0) rfl rfl hc0
  have k1 := h1
  have lt1 : ∀ x ∈ p1, x.block < W.heap.size := by obtain ⟨m, hm⟩ := k1; exact DataW.trod_lt m _ _ _ hm
  obtain ⟨x1, rfl, hw1⟩ := open_int h1 (hval 1 3 v1 rfl rfl)
  have k2 := h2
  have lt2 : ∀ x ∈ p2, x.block < W.heap.size := by obtain ⟨m, hm⟩ := k2; exact DataW.trod_lt m _ _ _ hm
  obtain ⟨x2, y2, rfl⟩ := open_point (hval 2 37 v2 rfl rfl) h2
  clear hA0 hval0 hsz0
  refine (growsByPoints_walk A0 l0 c0 x1 x2 y2 W hl0 hb0 hr0).mono fun e W' ⟨he, bel⟩ => ?_
  subst he
  exact ⟨_, rfl, _, _, _, [], _, [], hW', trodAll_mk1 (shut_bool Try.underlying4 _), (trodAll_cons_mk (Below.trod laidOut (by kernel_rfl) (of_decide_eq_true (by kernel_rfl)) k0 bel lt0) (trodAll_cons_mk (Below.trod laidOut (by kernel_rfl) (of_decide_eq_true (by kernel_rfl)) k1 bel lt1) (trodAll_cons_mk (Below.trod laidOut (by kernel_rfl) (of_decide_eq_true (by kernel_rfl)) k2 bel lt2) trodAll_mk0))), rfl, bel.frame _, fun h => by cases h⟩

set_option maxRecDepth 100000 in
theorem growsByPoints_holds : Rows.GrowsByPointsSaid :=
  OpenClaim.holds_of_wide 8 Try.f8 rfl rfl rfl rfl rfl rfl rfl ⟨rfl, rfl, rfl, rfl, rfl⟩ rfl rfl rfl rfl rfl (by kernel_rfl) Try.func8 (by kernel_rfl)
    (of_decide_eq_true (by kernel_rfl)) (by unfold Func.isWrapper; rw [if_neg (by decide +kernel)]; exact ⟨rfl, rfl⟩)
    (fun os started H enc _ => growsByPoints_lifted os started H enc)
end Go.Proofs.Ytmcbjaefnhfopaa

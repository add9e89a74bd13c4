/- The law GrowsAdd: for every slice of rectangles and every two numbers, to grow by one number and then by another one is to grow by both; what is opened lies within the region, and this within what is closed. -/
import Derived.Test.YtmcbjaefnhfopaaOpened
import Derived.Test.YtmcbjaefnhfopaaInside
import Derived.Test.YtmcbjaefnhfopaaAwake
import Derived.Test.YtmcbjaefnhfopaaOpens
namespace Go.Proofs.Ytmcbjaefnhfopaa
open Go.ChangeShapes Go.WideShapes Go.ChangeAt Go.RowKit
open Reg (R4 inR Kept)
set_option linter.unusedSimpArgs false
set_option linter.unusedVariables false

set_option maxRecDepth 100000 in
set_option maxHeartbeats 4000000 in
theorem growsAdd_bad (A : Option Addr) (l : List R4) (c : Nat) (n m : Int) (w : World) (hl : l.length ≤ c) (rc : c ≤ 140737488355328) (h : Rd w A l) (hF : ¬ gwF l n = 0) :
    Calls Try.prog 7 #[.slice A l.length c, .int .i64 n, .int .i64 m] w fun e w' => e = .returned (.bool true) ∧ Below w.heap.size w w' := by
  have rc' : c ≤ maxLen := by simp only [maxLen]; omega
  have H0 := Lib.hid h
  have C1 := Lib.hid (fun W h => grow_any A l c n W hl rc' (by omega) h)
  have CW := Lib.hid (fun W => awake_any W)
  unfold GotRF at C1
  rw [gwL_bad hF] at C1
  have hd : (gwF l n == 0) = false := by simpa using hF
  have hd' : (gwF l n != 0) = true := by simpa using hF
  clear h hF
  simp only [List.length_nil] at C1
  generalize gwF l n = F at *
  go_enter Try.func7, Try.ntmps7
  go_wp2_with fail
  refine (C1.out _ H0.out).mono ?_
  rintro e w1 ⟨v1, rfl, ho, hb⟩
  obtain ⟨A1, c1, rfl, -⟩ := rd_own ho
  have B1 := Lib.hid hb
  clear ho hb
  go_wp2_with fail
  refine (CW.out _).mono ?_
  rintro e w9 ⟨rfl, hb⟩
  have B9 := Lib.hid (B1.out.trans (hb.mono B1.out.size))
  clear hb
  go_wp2_with fail
  go_ret
  exact ⟨rfl, B9.out⟩

set_option maxRecDepth 100000 in
set_option maxHeartbeats 4000000 in
theorem growsAdd_ok (A : Option Addr) (l : List R4) (c : Nat) (n m : Int) (w : World) (hl : l.length ≤ c) (rc : c ≤ 140737488355328) (h : Rd w A l) (hF : gwF l n = 0) :
    Calls Try.prog 7 #[.slice A l.length c, .int .i64 n, .int .i64 m] w fun e w' => e = .returned (.bool true) ∧ Below w.heap.size w w' := by
  have rc' : c ≤ maxLen := by simp only [maxLen]; omega
  have H0 := Lib.hid h
  have C1 := Lib.hid (fun W h => grow_any A l c n W hl rc' (by omega) h)
  have CW := Lib.hid (fun W => awake_any W)
  obtain ⟨l0, n0, n1, -⟩ := gw_ok hF
  have hX := gwL_len l n
  have hO := opL_len l n
  have hC := clL_len l n
  have C2 := Lib.hid (fun A' c' W hl hc h => grow_any A' (gwL l n) c' m W hl hc (by omega) h)
  have C3 := Lib.hid (fun W h => opened_any A l c n W hl rc' (by omega) h)
  have C4 := Lib.hid (fun W h => closed_any A l c n W hl rc' (by omega) h)
  have CI := Lib.hid (fun A' c' W hl' hc' h1 h2 => linside_any A' A (opL l n) l c' c W hl' hl hc' rc' (by omega) (by omega) h1 h2)
  have CJ := Lib.hid (fun A' c' W hl' hc' h1 h2 => linside_any A A' l (clL l n) c c' W hl hl' rc' hc' (by omega) (by omega) h1 h2)
  have hY := gwL_len (gwL l n) m
  have hm : gwF (gwL l n) m = 0 → 0 ≤ m ∧ m ≤ 100000 := fun h => ⟨(gw_ok h).2.1, (gw_ok h).2.2.1⟩
  have HA := Lib.hid (fun h1 h2 => grow_add (l := l) (n := n) (m := m) hF h1 h2)
  have HI := Lib.hid (fun h => opened_in (l := l) (n := n) h)
  have HJ := Lib.hid (fun h => in_closed (l := l) (n := n) h)
  have C5 := Lib.hid (fun W h => grow_any A l c (n + m) W hl rc' (by omega) h)
  rw [hF] at C1
  unfold GotRF at C1 C2 C3 C4 C5
  clear h l0 hF
  have hor : ((gwF (gwL l n) m = 0 ∧ n + m ≤ 100000 ∧ 0 ≤ m ∧ m ≤ 100000) ∨ (gwF (gwL l n) m = 0 ∧ 100000 < n + m ∧ 0 ≤ m ∧ m ≤ 100000)) ∨ ¬ gwF (gwL l n) m = 0 := by
    by_cases h : gwF (gwL l n) m = 0
    · have := hm h
      by_cases h2 : n + m ≤ 100000
      · exact .inl (.inl ⟨h, h2, this⟩)
      · exact .inl (.inr ⟨h, by omega, this⟩)
    · exact .inr h
  clear hm
  have hop : (opF l n = 0 ∧ insV (opL l n) l = true) ∨ ((opF l n == 0) = false ∧ (opF l n != 0) = true) := by
    by_cases h : opF l n = 0
    · exact .inl ⟨h, HI.out h⟩
    · exact .inr ⟨by simpa using h, by simpa using h⟩
  have hcl : (clF l n = 0 ∧ insV l (clL l n) = true) ∨ ((clF l n == 0) = false ∧ (clF l n != 0) = true) := by
    by_cases h : clF l n = 0
    · exact .inl ⟨h, HJ.out h⟩
    · exact .inr ⟨by simpa using h, by simpa using h⟩
  clear HI HJ
  have CE := Lib.hid (fun A1 A2 c1 c2 W h1 h2 => equal_any A1 A2 (gwL (gwL l n) m) (gwL (gwL l n) m) c1 c2 W (by omega) (by omega) h1 h2)
  rw [show decide (gwL (gwL l n) m = gwL (gwL l n) m) = true from by simp] at CE
  have hz : gwF (gwL l n) m = 0 ∧ n + m ≤ 100000 → gwF l (n + m) = 0 ∧ gwL l (n + m) = gwL (gwL l n) m := fun h => HA.out h.1 h.2
  clear HA
  generalize insV (opL l n) l = bo at *
  generalize insV l (clL l n) = bc at *
  generalize gwL (gwL l n) m = Y at *
  generalize gwF (gwL l n) m = FY at *
  generalize gwL l n = X at *
  generalize gwL l (n + m) = Z at *
  generalize gwF l (n + m) = FZ at *
  generalize opL l n = O at *
  generalize opF l n = fo at *
  generalize clL l n = K at *
  generalize clF l n = fk at *
  rcases hor with (⟨rfl, q1, q2, q3⟩ | ⟨rfl, q1, q2, q3⟩) | hne
  · obtain ⟨rfl, rfl⟩ := hz ⟨rfl, q1⟩
    clear hz
    go_enter Try.func7, Try.ntmps7
    go_wp2_with fail
    refine (C1.out _ H0.out).mono ?_
    rintro e w1 ⟨v1, rfl, ho, hb⟩
    obtain ⟨A1, c1, rfl, hl1, hc1, hr1, -⟩ := rd_own ho
    have P1 := Lib.hid (H0.out.below hb)
    have R1 := Lib.hid hr1
    have B1 := Lib.hid hb
    clear ho hr1 hb
    go_wp2_with fail
    refine (C2.out A1 c1 w1 hl1 hc1 R1.out).mono ?_
    rintro e w2 ⟨v2, rfl, ho, hb⟩
    obtain ⟨A2, c2, rfl, hl2, hc2, hr2, -⟩ := rd_own ho
    have P2 := Lib.hid (P1.out.below hb)
    have R2 := Lib.hid hr2
    have B2 := Lib.hid (B1.out.trans (hb.mono B1.out.size))
    clear ho hr2 hb P1 R1 B1
    go_wp2_with fail
    refine (C5.out w2 P2.out).mono ?_
    rintro e w3 ⟨v3, rfl, ho, hb⟩
    obtain ⟨A3, c3, rfl, hl3, hc3, hr3, -⟩ := rd_own ho
    have P3 := Lib.hid (P2.out.below hb)
    have R3 := Lib.hid (R2.out.below hb)
    have S3 := Lib.hid hr3
    have B3 := Lib.hid (B2.out.trans (hb.mono B2.out.size))
    clear ho hr3 hb P2 R2 B2
    go_wp2_with fail
    refine (CE.out A2 A3 c2 c3 w3 R3.out S3.out).mono ?_
    rintro e w4 ⟨rfl, hb⟩
    have P4 := Lib.hid (P3.out.below hb)
    have B4 := Lib.hid (B3.out.trans (hb.mono B3.out.size))
    clear hb P3 B3 R3 S3
    go_wp2_with fail
    refine (C3.out w4 P4.out).mono ?_
    rintro e w5 ⟨v5, rfl, ho, hb⟩
    obtain ⟨A5, c5, rfl, hl5, hc5, hr5, -⟩ := rd_own ho
    have P5 := Lib.hid (P4.out.below hb)
    have R5 := Lib.hid hr5
    have B5 := Lib.hid (B4.out.trans (hb.mono B4.out.size))
    clear ho hr5 hb
    go_wp2_with fail
    refine (C4.out w5 P5.out).mono ?_
    rintro e w6 ⟨v6, rfl, ho, hb⟩
    obtain ⟨A6, c6, rfl, hl6, hc6, hr6, -⟩ := rd_own ho
    have P6 := Lib.hid (P5.out.below hb)
    have R6 := Lib.hid (R5.out.below hb)
    have S6 := Lib.hid hr6
    have B6 := Lib.hid (B5.out.trans (hb.mono B5.out.size))
    clear ho hr6 hb P5 R5 B5
    rcases hop with ⟨rfl, rfl⟩ | ⟨o1, o2⟩ <;> rcases hcl with ⟨rfl, rfl⟩ | ⟨k1, k2⟩
    · go_wp2_with fail
      refine (CI.out A5 c5 w6 hl5 hc5 R6.out P6.out).mono ?_
      rintro e w7 ⟨rfl, hb⟩
      have P7 := Lib.hid (P6.out.below hb)
      have S7 := Lib.hid (S6.out.below hb)
      have B7 := Lib.hid (B6.out.trans (hb.mono B6.out.size))
      clear hb
      go_wp2_with fail
      refine (CJ.out A6 c6 w7 hl6 hc6 P7.out S7.out).mono ?_
      rintro e w8 ⟨rfl, hb⟩
      have B8 := Lib.hid (B7.out.trans (hb.mono B7.out.size))
      clear hb
      go_wp2_with fail
      refine (CW.out _).mono ?_
      rintro e w9 ⟨rfl, hb⟩
      have B9 := Lib.hid (B8.out.trans (hb.mono B8.out.size))
      clear hb
      go_wp2_with fail
      go_ret
      exact ⟨rfl, B9.out⟩
    · go_wp2_with fail
      refine (CI.out A5 c5 w6 hl5 hc5 R6.out P6.out).mono ?_
      rintro e w7 ⟨rfl, hb⟩
      have B7 := Lib.hid (B6.out.trans (hb.mono B6.out.size))
      clear hb
      go_wp2_with fail
      refine (CW.out _).mono ?_
      rintro e w9 ⟨rfl, hb⟩
      have B9 := Lib.hid (B7.out.trans (hb.mono B7.out.size))
      clear hb
      go_wp2_with fail
      go_ret
      exact ⟨rfl, B9.out⟩
    · go_wp2_with fail
      refine (CJ.out A6 c6 w6 hl6 hc6 P6.out S6.out).mono ?_
      rintro e w7 ⟨rfl, hb⟩
      have B7 := Lib.hid (B6.out.trans (hb.mono B6.out.size))
      clear hb
      go_wp2_with fail
      refine (CW.out _).mono ?_
      rintro e w9 ⟨rfl, hb⟩
      have B9 := Lib.hid (B7.out.trans (hb.mono B7.out.size))
      clear hb
      go_wp2_with fail
      go_ret
      exact ⟨rfl, B9.out⟩
    · go_wp2_with fail
      refine (CW.out _).mono ?_
      rintro e w9 ⟨rfl, hb⟩
      have B9 := Lib.hid (B6.out.trans (hb.mono B6.out.size))
      clear hb
      go_wp2_with fail
      go_ret
      exact ⟨rfl, B9.out⟩
  · clear hz
    go_enter Try.func7, Try.ntmps7
    go_wp2_with fail
    refine (C1.out _ H0.out).mono ?_
    rintro e w1 ⟨v1, rfl, ho, hb⟩
    obtain ⟨A1, c1, rfl, hl1, hc1, hr1, -⟩ := rd_own ho
    have P1 := Lib.hid (H0.out.below hb)
    have R1 := Lib.hid hr1
    have B1 := Lib.hid hb
    clear ho hr1 hb
    go_wp2_with fail
    refine (C2.out A1 c1 w1 hl1 hc1 R1.out).mono ?_
    rintro e w2 ⟨v2, rfl, ho, hb⟩
    obtain ⟨A2, c2, rfl, hl2, hc2, hr2, -⟩ := rd_own ho
    have P2 := Lib.hid (P1.out.below hb)
    have R2 := Lib.hid hr2
    have B2 := Lib.hid (B1.out.trans (hb.mono B1.out.size))
    clear ho hr2 hb P1 R1 B1
    go_wp2_with fail
    refine (C3.out w2 P2.out).mono ?_
    rintro e w5 ⟨v5, rfl, ho, hb⟩
    obtain ⟨A5, c5, rfl, hl5, hc5, hr5, -⟩ := rd_own ho
    have P5 := Lib.hid (P2.out.below hb)
    have R5 := Lib.hid hr5
    have B5 := Lib.hid (B2.out.trans (hb.mono B2.out.size))
    clear ho hr5 hb
    go_wp2_with fail
    refine (C4.out w5 P5.out).mono ?_
    rintro e w6 ⟨v6, rfl, ho, hb⟩
    obtain ⟨A6, c6, rfl, hl6, hc6, hr6, -⟩ := rd_own ho
    have P6 := Lib.hid (P5.out.below hb)
    have R6 := Lib.hid (R5.out.below hb)
    have S6 := Lib.hid hr6
    have B6 := Lib.hid (B5.out.trans (hb.mono B5.out.size))
    clear ho hr6 hb P5 R5 B5
    rcases hop with ⟨rfl, rfl⟩ | ⟨o1, o2⟩ <;> rcases hcl with ⟨rfl, rfl⟩ | ⟨k1, k2⟩
    · go_wp2_with fail
      refine (CI.out A5 c5 w6 hl5 hc5 R6.out P6.out).mono ?_
      rintro e w7 ⟨rfl, hb⟩
      have P7 := Lib.hid (P6.out.below hb)
      have S7 := Lib.hid (S6.out.below hb)
      have B7 := Lib.hid (B6.out.trans (hb.mono B6.out.size))
      clear hb
      go_wp2_with fail
      refine (CJ.out A6 c6 w7 hl6 hc6 P7.out S7.out).mono ?_
      rintro e w8 ⟨rfl, hb⟩
      have B8 := Lib.hid (B7.out.trans (hb.mono B7.out.size))
      clear hb
      go_wp2_with fail
      refine (CW.out _).mono ?_
      rintro e w9 ⟨rfl, hb⟩
      have B9 := Lib.hid (B8.out.trans (hb.mono B8.out.size))
      clear hb
      go_wp2_with fail
      go_ret
      exact ⟨rfl, B9.out⟩
    · go_wp2_with fail
      refine (CI.out A5 c5 w6 hl5 hc5 R6.out P6.out).mono ?_
      rintro e w7 ⟨rfl, hb⟩
      have B7 := Lib.hid (B6.out.trans (hb.mono B6.out.size))
      clear hb
      go_wp2_with fail
      refine (CW.out _).mono ?_
      rintro e w9 ⟨rfl, hb⟩
      have B9 := Lib.hid (B7.out.trans (hb.mono B7.out.size))
      clear hb
      go_wp2_with fail
      go_ret
      exact ⟨rfl, B9.out⟩
    · go_wp2_with fail
      refine (CJ.out A6 c6 w6 hl6 hc6 P6.out S6.out).mono ?_
      rintro e w7 ⟨rfl, hb⟩
      have B7 := Lib.hid (B6.out.trans (hb.mono B6.out.size))
      clear hb
      go_wp2_with fail
      refine (CW.out _).mono ?_
      rintro e w9 ⟨rfl, hb⟩
      have B9 := Lib.hid (B7.out.trans (hb.mono B7.out.size))
      clear hb
      go_wp2_with fail
      go_ret
      exact ⟨rfl, B9.out⟩
    · go_wp2_with fail
      refine (CW.out _).mono ?_
      rintro e w9 ⟨rfl, hb⟩
      have B9 := Lib.hid (B6.out.trans (hb.mono B6.out.size))
      clear hb
      go_wp2_with fail
      go_ret
      exact ⟨rfl, B9.out⟩
  · have hd : (FY == 0) = false := by simpa using hne
    have hd' : (FY != 0) = true := by simpa using hne
    clear hz hne
    go_enter Try.func7, Try.ntmps7
    go_wp2_with fail
    refine (C1.out _ H0.out).mono ?_
    rintro e w1 ⟨v1, rfl, ho, hb⟩
    obtain ⟨A1, c1, rfl, hl1, hc1, hr1, -⟩ := rd_own ho
    have P1 := Lib.hid (H0.out.below hb)
    have R1 := Lib.hid hr1
    have B1 := Lib.hid hb
    clear ho hr1 hb
    go_wp2_with fail
    refine (C2.out A1 c1 w1 hl1 hc1 R1.out).mono ?_
    rintro e w2 ⟨v2, rfl, ho, hb⟩
    obtain ⟨A2, c2, rfl, hl2, hc2, hr2, -⟩ := rd_own ho
    have P2 := Lib.hid (P1.out.below hb)
    have R2 := Lib.hid hr2
    have B2 := Lib.hid (B1.out.trans (hb.mono B1.out.size))
    clear ho hr2 hb P1 R1 B1
    go_wp2_with fail
    refine (C3.out w2 P2.out).mono ?_
    rintro e w5 ⟨v5, rfl, ho, hb⟩
    obtain ⟨A5, c5, rfl, hl5, hc5, hr5, -⟩ := rd_own ho
    have P5 := Lib.hid (P2.out.below hb)
    have R5 := Lib.hid hr5
    have B5 := Lib.hid (B2.out.trans (hb.mono B2.out.size))
    clear ho hr5 hb
    go_wp2_with fail
    refine (C4.out w5 P5.out).mono ?_
    rintro e w6 ⟨v6, rfl, ho, hb⟩
    obtain ⟨A6, c6, rfl, hl6, hc6, hr6, -⟩ := rd_own ho
    have P6 := Lib.hid (P5.out.below hb)
    have R6 := Lib.hid (R5.out.below hb)
    have S6 := Lib.hid hr6
    have B6 := Lib.hid (B5.out.trans (hb.mono B5.out.size))
    clear ho hr6 hb P5 R5 B5
    rcases hop with ⟨rfl, rfl⟩ | ⟨o1, o2⟩ <;> rcases hcl with ⟨rfl, rfl⟩ | ⟨k1, k2⟩
    · go_wp2_with fail
      refine (CI.out A5 c5 w6 hl5 hc5 R6.out P6.out).mono ?_
      rintro e w7 ⟨rfl, hb⟩
      have P7 := Lib.hid (P6.out.below hb)
      have S7 := Lib.hid (S6.out.below hb)
      have B7 := Lib.hid (B6.out.trans (hb.mono B6.out.size))
      clear hb
      go_wp2_with fail
      refine (CJ.out A6 c6 w7 hl6 hc6 P7.out S7.out).mono ?_
      rintro e w8 ⟨rfl, hb⟩
      have B8 := Lib.hid (B7.out.trans (hb.mono B7.out.size))
      clear hb
      go_wp2_with fail
      refine (CW.out _).mono ?_
      rintro e w9 ⟨rfl, hb⟩
      have B9 := Lib.hid (B8.out.trans (hb.mono B8.out.size))
      clear hb
      go_wp2_with fail
      go_ret
      exact ⟨rfl, B9.out⟩
    · go_wp2_with fail
      refine (CI.out A5 c5 w6 hl5 hc5 R6.out P6.out).mono ?_
      rintro e w7 ⟨rfl, hb⟩
      have B7 := Lib.hid (B6.out.trans (hb.mono B6.out.size))
      clear hb
      go_wp2_with fail
      refine (CW.out _).mono ?_
      rintro e w9 ⟨rfl, hb⟩
      have B9 := Lib.hid (B7.out.trans (hb.mono B7.out.size))
      clear hb
      go_wp2_with fail
      go_ret
      exact ⟨rfl, B9.out⟩
    · go_wp2_with fail
      refine (CJ.out A6 c6 w6 hl6 hc6 P6.out S6.out).mono ?_
      rintro e w7 ⟨rfl, hb⟩
      have B7 := Lib.hid (B6.out.trans (hb.mono B6.out.size))
      clear hb
      go_wp2_with fail
      refine (CW.out _).mono ?_
      rintro e w9 ⟨rfl, hb⟩
      have B9 := Lib.hid (B7.out.trans (hb.mono B7.out.size))
      clear hb
      go_wp2_with fail
      go_ret
      exact ⟨rfl, B9.out⟩
    · go_wp2_with fail
      refine (CW.out _).mono ?_
      rintro e w9 ⟨rfl, hb⟩
      have B9 := Lib.hid (B6.out.trans (hb.mono B6.out.size))
      clear hb
      go_wp2_with fail
      go_ret
      exact ⟨rfl, B9.out⟩

theorem growsAdd_walk (A : Option Addr) (l : List R4) (c : Nat) (n m : Int) (w : World) (hl : l.length ≤ c) (rc : c ≤ 140737488355328) (h : Rd w A l) :
    Calls Try.prog 7 #[.slice A l.length c, .int .i64 n, .int .i64 m] w fun e w' => e = .returned (.bool true) ∧ Below w.heap.size w w' := by
  by_cases hF : gwF l n = 0
  · exact growsAdd_ok A l c n m w hl rc h hF
  · exact growsAdd_bad A l c n m w hl rc h hF

set_option maxRecDepth 100000 in
theorem growsAdd_lifted (os : Os) (started : os.Started) (H : Type) (enc : TypeId × Value → H) :
    ReturnsInHanded {} Try.checked os 7 .any (Rows.growsAddSpec.pre6 enc Try.prog Try.f7 Rows.growsAddRow.domain false) (Rows.growsAddSpec.post enc Try.prog Try.f7 false true false false) := by
  refine returnsInHanded_of_change_sized (C := Try.checked) own started (by kernel_rfl) Try.func7
    (ChangeSpec.witness6 (enc := enc) (C := Try.checked) false ⟨#[], #[.slice none 0 0, .int .i64 0, .int .i64 0], []⟩ 8 (by kernel_rfl) (by kernel_rfl) (by kernel_rfl) (by kernel_rfl)) ?_
  intro W base args ds gs before hval0 hW hcnd hsz0 _
  have hval : ∀ (j : Nat) t v, Try.f7.params[j]? = some t → args[j]? = some v → Value.okWide Try.prog W .any base t v := hval0
  have hsz : (DataW.weightsEach Try.prog (Try.f7.params.toList ++ Rows.growsAddSpec.plain.varTypes Try.prog) (ds ++ gs)).all (· ≤ reachBytes) = true := hsz0
  have hW' := hW
  obtain ⟨p, q, hA0, hV, rfl, hfz, hnd⟩ := hW
  have hA : DataW.TrodAll enc Try.prog W 0 (fun _ => true) true Try.f7.params.toList args.toList ds p := hA0
  rw [Try.params7] at hA hval hsz
  obtain ⟨v0, vs0, d0, ds0, p0, q0, hargs, rfl, rfl, h0, r0⟩ := trodAll_cons hA
  obtain ⟨v1, vs1, d1, ds1, p1, q1, rfl, rfl, rfl, h1, r1⟩ := trodAll_cons r0
  obtain ⟨v2, vs2, d2, ds2, p2, q2, rfl, rfl, rfl, h2, r2⟩ := trodAll_cons r1
  obtain ⟨rfl, rfl, rfl⟩ := trodAll_nil r2
  obtain rfl : args = #[v0, v1, v2] := by cases args; simp_all
  obtain ⟨rfl, rfl⟩ := trodVars_none hV
  have k0 := h0
  have lt0 : ∀ x ∈ p0, x.block < W.heap.size := by obtain ⟨m, hm⟩ := k0; exact DataW.trod_lt m _ _ _ hm
  obtain ⟨A0, l0, c0, rfl, hl0, hr0, hc0⟩ := open_rects (hval 0 22 v0 rfl rfl) h0
  have hb0 := rects_room hsz (j := 0) rfl rfl hc0
  have k1 := h1
  have lt1 : ∀ x ∈ p1, x.block < W.heap.size := by obtain ⟨m, hm⟩ := k1; exact DataW.trod_lt m _ _ _ hm
  obtain ⟨x1, rfl, hw1⟩ := open_int h1 (hval 1 3 v1 rfl rfl)
  have k2 := h2
  have lt2 : ∀ x ∈ p2, x.block < W.heap.size := by obtain ⟨m, hm⟩ := k2; exact DataW.trod_lt m _ _ _ hm
  obtain ⟨x2, rfl, hw2⟩ := open_int h2 (hval 2 3 v2 rfl rfl)
  clear hA0 hval0 hsz0
  refine (growsAdd_walk A0 l0 c0 x1 x2 W hl0 hb0 hr0).mono fun e W' ⟨he, bel⟩ => ?_
  subst he
  exact ⟨_, rfl, _, _, _, [], _, [], hW', trodAll_mk1 (shut_bool Try.underlying4 _), (trodAll_cons_mk (Below.trod laidOut (by kernel_rfl) (of_decide_eq_true (by kernel_rfl)) k0 bel lt0) (trodAll_cons_mk (Below.trod laidOut (by kernel_rfl) (of_decide_eq_true (by kernel_rfl)) k1 bel lt1) (trodAll_cons_mk (Below.trod laidOut (by kernel_rfl) (of_decide_eq_true (by kernel_rfl)) k2 bel lt2) trodAll_mk0))), rfl, bel.frame _, fun h => by cases h⟩

set_option maxRecDepth 100000 in
theorem growsAdd_holds : Rows.GrowsAddSaid :=
  OpenClaim.holds_of_wide 7 Try.f7 rfl rfl rfl rfl rfl rfl rfl ⟨rfl, rfl, rfl, rfl, rfl⟩ rfl rfl rfl rfl rfl (by kernel_rfl) Try.func7 (by kernel_rfl)
    (of_decide_eq_true (by kernel_rfl)) (by unfold Func.isWrapper; rw [if_neg (by decide +kernel)]; exact ⟨rfl, rfl⟩)
    (fun os started H enc _ => growsAdd_lifted os started H enc)
end Go.Proofs.Ytmcbjaefnhfopaa

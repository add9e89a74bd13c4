/- Opened and Closed of package shape, whatever the world. -/
import Derived.Test.YtmcbjaefnhfopaaGrowOk
namespace Go.Proofs.Ytmcbjaefnhfopaa
open Go.RowKit Go.Shelf
open Reg (R4 inR canonL sweepL Kept)
set_option linter.unusedSimpArgs false
set_option linter.unusedVariables false

set_option maxRecDepth 100000 in
set_option maxHeartbeats 1000000 in
theorem opened_any (A : Option Addr) (l : List R4) (c : Nat) (n : Int) (w : World) (hl : l.length ≤ c) (hc : c ≤ maxLen) (hl2 : l.length ≤ 140737488355328) (h : Rd w A l) :
    Calls Try.prog 26 #[.slice A l.length c, .int .i64 n] w (GotRF w (opL l n) (opF l n)) := by
  have C1 := Lib.hid (shrink_any A l c n w hl hc hl2 h)
  have C2 := Lib.hid (fun A' c' W hl hc h => grow_any A' (shL l n) c' n W hl hc (by have := shL_len l n; omega) h)
  unfold GotRF opL opF at *
  clear h
  by_cases h0 : shF l n = 0
  · rw [if_pos h0, if_pos h0]
    rw [h0] at C1
    clear h0
    generalize gwL (shL l n) n = G at *
    generalize gwF (shL l n) n = F at *
    generalize shL l n = S at *
    go_enter Try.func26, Try.ntmps26
    go_wp2_with fail
    refine C1.out.mono ?_
    rintro e w1 ⟨v, rfl, ho, hb⟩
    obtain ⟨A1, c1, rfl, hl1, hc1, hr1, -⟩ := rd_own ho
    have R1 := Lib.hid hr1
    have B1 := Lib.hid hb
    clear ho hr1 hb
    go_wp2_with fail
    refine (C2.out A1 c1 w1 hl1 hc1 R1.out).mono ?_
    rintro e w2 ⟨v2, rfl, ho, hb⟩
    have O2 := Lib.hid (own_mono ho B1.out.size)
    have B2 := Lib.hid (B1.out.trans (hb.mono B1.out.size))
    clear ho hb
    go_wp2_with fail
    go_ret2
    exact ⟨v2, rfl, O2.out, B2.out⟩
  · rw [if_neg h0, if_neg h0]
    rw [shL_bad h0] at C1
    have hd : (shF l n == 0) = false := by simpa using h0
    have hd' : (shF l n != 0) = true := by simpa using h0
    clear h0 C2
    generalize shF l n = F at *
    simp only [List.length_nil] at C1
    go_enter Try.func26, Try.ntmps26
    go_wp2_with fail
    refine C1.out.mono ?_
    rintro e w1 ⟨v, rfl, ho, hb⟩
    have B1 := Lib.hid hb
    clear ho hb
    go_wp2_with fail
    go_ret2
    exact ⟨_, rfl, own_nilR _ _ _ _, B1.out⟩

set_option maxRecDepth 100000 in
set_option maxHeartbeats 1000000 in
theorem closed_any (A : Option Addr) (l : List R4) (c : Nat) (n : Int) (w : World) (hl : l.length ≤ c) (hc : c ≤ maxLen) (hl2 : l.length ≤ 140737488355328) (h : Rd w A l) :
    Calls Try.prog 27 #[.slice A l.length c, .int .i64 n] w (GotRF w (clL l n) (clF l n)) := by
  have C1 := Lib.hid (grow_any A l c n w hl hc hl2 h)
  have C2 := Lib.hid (fun A' c' W hl hc h => shrink_any A' (gwL l n) c' n W hl hc (by have := gwL_len l n; omega) h)
  unfold GotRF clL clF at *
  clear h
  by_cases h0 : gwF l n = 0
  · rw [if_pos h0, if_pos h0]
    rw [h0] at C1
    clear h0
    generalize shL (gwL l n) n = G at *
    generalize shF (gwL l n) n = F at *
    generalize gwL l n = S at *
    go_enter Try.func27, Try.ntmps27
    go_wp2_with fail
    refine C1.out.mono ?_
    rintro e w1 ⟨v, rfl, ho, hb⟩
    obtain ⟨A1, c1, rfl, hl1, hc1, hr1, -⟩ := rd_own ho
    have R1 := Lib.hid hr1
    have B1 := Lib.hid hb
    clear ho hr1 hb
    go_wp2_with fail
    refine (C2.out A1 c1 w1 hl1 hc1 R1.out).mono ?_
    rintro e w2 ⟨v2, rfl, ho, hb⟩
    have O2 := Lib.hid (own_mono ho B1.out.size)
    have B2 := Lib.hid (B1.out.trans (hb.mono B1.out.size))
    clear ho hb
    go_wp2_with fail
    go_ret2
    exact ⟨v2, rfl, O2.out, B2.out⟩
  · rw [if_neg h0, if_neg h0]
    rw [gwL_bad h0] at C1
    have hd : (gwF l n == 0) = false := by simpa using h0
    have hd' : (gwF l n != 0) = true := by simpa using h0
    clear h0 C2
    generalize gwF l n = F at *
    simp only [List.length_nil] at C1
    go_enter Try.func27, Try.ntmps27
    go_wp2_with fail
    refine C1.out.mono ?_
    rintro e w1 ⟨v, rfl, ho, hb⟩
    have B1 := Lib.hid hb
    clear ho hb
    go_wp2_with fail
    go_ret2
    exact ⟨_, rfl, own_nilR _ _ _ _, B1.out⟩
end Go.Proofs.Ytmcbjaefnhfopaa

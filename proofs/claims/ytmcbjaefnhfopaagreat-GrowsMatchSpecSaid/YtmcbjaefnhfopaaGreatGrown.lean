/- covered, widened and checkGrow of package shape, whatever the world. -/
import Derived.Test.YtmcbjaefnhfopaaGreatPile
import Derived.Test.YtmcbjaefnhfopaaGreatSets
namespace Go.Proofs.YtmcbjaefnhfopaaGreat
open Go.RowKit Go.Shelf
open Reg (R4 sweepL canonL inFirstK)
set_option linter.unusedSimpArgs false
set_option linter.unusedVariables false

/-- A function that gives rectangles of its own. -/
def GotOwn (w : World) (l : List R4) (e : Ending) (w' : World) : Prop := ∃ v, e = .returned v ∧ w'.ownsRow w.heap.size 28 4 v l.length (cR l) ∧ Below w.heap.size w w'
theorem canon_big {l : List R4} (hl : l.length ≤ 100000) : (canonL l).length ≤ 20000000000 := by
  have h := canonL_len l
  have : 2 * l.length * l.length ≤ 200000 * 100000 := Nat.mul_le_mul (by omega) hl
  omega

set_option maxRecDepth 100000 in
set_option maxHeartbeats 1000000 in
theorem covered_any (A : Option Addr) (l : List R4) (c : Nat) (w : World) (hl : l.length ≤ 100000) (hg : Reg.Good l) (h : Rd w A l) :
    Calls Tryz.prog 56 #[.slice A l.length c] w (GotOwn w (canonL l)) := by
  have hb := canon_big hl
  have C1 := Lib.hid (sweep_any inFirstK 37 eg_inFirst (fun a b W => inFirst_any a b W) rfl A none l [] c 0 9223372036854775807 w (by omega) (by simp; omega) hg (fun r hr => by simp at hr) h (fun hp => absurd hp (by simp)))
  rw [Reg.sweep_first hg] at C1
  simp only [List.length_nil] at C1
  have hz : ((canonL l).length : Int) ≤ 9223372036854775807 := by omega
  rw [decide_eq_true hz] at C1
  unfold GotOwn
  clear h hg hb
  generalize canonL l = L at *
  go_enter Tryz.func56, Tryz.ntmps56
  go_wp2_with fail
  refine C1.out.mono ?_
  rintro e w1 ⟨v, rfl, hb, ho, -⟩
  have O1 := Lib.hid (ho hz)
  have B1 := Lib.hid hb
  clear hb ho
  go_wp2_with fail
  go_ret
  exact ⟨v, rfl, O1.out, B1.out⟩

def chG (l : List R4) (n : Int) : Int := if regF l = 0 then (if n < 0 ∨ 100000 < n then 1 else 0) else regF l
set_option maxRecDepth 100000 in
set_option maxHeartbeats 1000000 in
theorem checkGrow_any (A : Option Addr) (l : List R4) (c : Nat) (n : Int) (w : World) (hl : l.length ≤ c) (hc : c ≤ maxLen) (hl2 : l.length ≤ 140737488355328) (h : Rd w A l) :
    Calls Tryz.prog 31 #[.slice A l.length c, .int .i64 n] w fun e w' => e = .returned (.int .i64 (chG l n)) ∧ Below w.heap.size w w' := by
  have C1 := Lib.hid (checkRegion_anyM A l c w hl (by simpa [maxLen] using hc) hl2 h)
  clear h
  unfold chG
  by_cases h0 : regF l = 0
  · rw [if_pos h0]
    rw [h0] at C1
    clear h0
    by_cases h1 : n < 0
    · rw [if_pos (.inl h1)]
      go_enter Tryz.func31, Tryz.ntmps31
      go_wp2_with fail
      refine C1.out.mono ?_
      rintro e w1 ⟨rfl, hb⟩
      have B1 := Lib.hid hb
      clear hb
      go_wp2_with fail
      go_ret
      exact ⟨rfl, B1.out⟩
    · by_cases h2 : 100000 < n
      · rw [if_pos (.inr h2)]
        go_enter Tryz.func31, Tryz.ntmps31
        go_wp2_with fail
        refine C1.out.mono ?_
        rintro e w1 ⟨rfl, hb⟩
        have B1 := Lib.hid hb
        clear hb
        go_wp2_with fail
        go_ret
        exact ⟨rfl, B1.out⟩
      · rw [if_neg (by omega)]
        go_enter Tryz.func31, Tryz.ntmps31
        go_wp2_with fail
        refine C1.out.mono ?_
        rintro e w1 ⟨rfl, hb⟩
        have B1 := Lib.hid hb
        clear hb
        go_wp2_with fail
        go_ret
        exact ⟨rfl, B1.out⟩
  · rw [if_neg h0]
    have hd : (regF l == 0) = false := by simpa using h0
    have hd' : (regF l != 0) = true := by simpa using h0
    clear h0
    generalize regF l = F at *
    go_enter Tryz.func31, Tryz.ntmps31
    go_wp2_with fail
    refine C1.out.mono ?_
    rintro e w1 ⟨rfl, hb⟩
    have B1 := Lib.hid hb
    clear hb
    go_wp2_with fail
    go_ret
    exact ⟨rfl, B1.out⟩
end Go.Proofs.YtmcbjaefnhfopaaGreat

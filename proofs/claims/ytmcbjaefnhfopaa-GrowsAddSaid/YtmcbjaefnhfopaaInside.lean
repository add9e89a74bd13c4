/- The law's own inside: whether one region lies within another one. -/
import Derived.Test.YtmcbjaefnhfopaaGrowOk
namespace Go.Proofs.Ytmcbjaefnhfopaa
open Go.ChangeShapes Go.WideShapes Go.ChangeAt Go.RowKit
open Reg (R4 inR Kept)
set_option linter.unusedSimpArgs false
set_option linter.unusedVariables false

set_option maxRecDepth 100000 in
set_option maxHeartbeats 1000000 in
theorem linside_any (A B : Option Addr) (a b : List R4) (ca cb : Nat) (w : World) (la : a.length ≤ ca) (lb : b.length ≤ cb) (ra : ca ≤ maxLen) (rb : cb ≤ maxLen) (sa : a.length ≤ 140737488355328) (sb : b.length ≤ 140737488355328) (h1 : Rd w A a) (h2 : Rd w B b) :
    Calls Try.prog 28 #[.slice A a.length ca, .slice B b.length cb] w fun e w' => e = .returned (.bool (insV a b)) ∧ Below w.heap.size w w' := by
  have C3 := Lib.hid (minus_any A B a b ca cb w la lb ra rb sa sb h1 h2)
  unfold GotRF at C3
  unfold insV
  clear h1 h2
  generalize stL notK a b = M at *
  generalize stF notK a b = f at *
  obtain ⟨m, hm⟩ : ∃ m, m = M.length := ⟨_, rfl⟩
  have hz : ((m : Int) == 0) = decide (m = 0) := by
    rw [Bool.eq_iff_iff, beq_iff_eq, decide_eq_true_eq]; omega
  rw [← hm]
  have HM := Lib.hid hm
  cases hf : (f == 0) <;> cases hd : decide (m = 0)
  all_goals
    rw [hd] at hz
    clear hd hm
    go_enter Try.func28, Try.ntmps28
    go_wp2_with fail
    refine C3.out.mono ?_
    rintro e w1 ⟨v, rfl, ho, hb⟩
    obtain ⟨A1, c1, rfl, -⟩ := rd_own ho
    have B1 := Lib.hid hb
    clear ho hb
    rw [← HM.out]
    go_wp2_with fail
    go_ret
    exact ⟨by simp, B1.out⟩
end Go.Proofs.Ytmcbjaefnhfopaa

/- Union, Both, Minus of package shape, whatever the world, and what they are. -/
import Derived.Test.YtjcbngpgmgeanaaGreatCanon
import Derived.Test.YtjcbngpgmgeanaaGreatShapeN
namespace Go.Proofs.YtjcbngpgmgeanaaGreat
open Go.RowKit Go.Shelf
open Reg (R4 inR cntR sweepL canonL Kept)
set_option linter.unusedSimpArgs false
set_option linter.unusedVariables false

/-- What both regions are checked for. -/
def bothF (a b : List R4) : Int := if regF a = 0 then regF b else regF a
def stL (keep : Int → Int → Bool) (a b : List R4) : List R4 := if bothF a b = 0 then resL (sweepL keep a b) else []
def stF (keep : Int → Int → Bool) (a b : List R4) : Int := if bothF a b = 0 then resF (sweepL keep a b) else bothF a b
theorem bothF_zero {a b : List R4} : bothF a b = 0 ↔ regF a = 0 ∧ regF b = 0 := by
  unfold bothF
  constructor
  · intro h
    by_cases h0 : regF a = 0
    · rw [if_pos h0] at h; exact ⟨h0, h⟩
    · rw [if_neg h0] at h; exact absurd h h0
  · rintro ⟨h0, h1⟩; rw [if_pos h0]; exact h1

def orK (a b : Int) : Bool := decide (0 < a) || decide (0 < b)
def andK (a b : Int) : Bool := decide (0 < a) && decide (0 < b)
def notK (a b : Int) : Bool := decide (0 < a) && (b == 0)
theorem notK_any (a b : Int) (w : World) : Calls Tryz.prog 55 #[.int .i64 a, .int .i64 b] w fun e w' => e = .returned (.bool (notK a b)) ∧ Below w.heap.size w w' := by
  unfold notK
  cases h1 : decide (0 < a) <;> cases h2 : (b == 0)
  all_goals
    go_enter Tryz.func55, Tryz.ntmps55
    go_wp2_with fail
    go_ret
    exact ⟨rfl, Below.refl _ _⟩
theorem eg_not : ∀ args w, (callFunc 55 args).run Tryz.prog w = .ok (.enter 55 args) w := enters_of Tryz.func55 (by kernel_rfl) rfl

/-! ## What they are -/
theorem cntR_zero_iff {l : List R4} {x y : Int} : cntR l x y = 0 ↔ ¬ inR l x y := by
  rw [← Reg.cntR_pos]
  have := Reg.cntR_nonneg l x y
  omega
theorem kept_or {a b : List R4} {x y : Int} : Kept orK a b x y ↔ inR a x y ∨ inR b x y := by simp only [Kept, orK, Bool.or_eq_true, decide_eq_true_eq, Reg.cntR_pos]
theorem kept_and {a b : List R4} {x y : Int} : Kept andK a b x y ↔ inR a x y ∧ inR b x y := by simp only [Kept, andK, Bool.and_eq_true, decide_eq_true_eq, Reg.cntR_pos]
theorem kept_not {a b : List R4} {x y : Int} : Kept notK a b x y ↔ inR a x y ∧ ¬ inR b x y := by simp only [Kept, notK, Bool.and_eq_true, decide_eq_true_eq, Reg.cntR_pos, beq_iff_eq, cntR_zero_iff]
/-- Where no fault is told, the result is a right region, and its squares are those that are kept. -/
theorem st_ok {keep : Int → Int → Bool} (hk : keep 0 0 = false) {a b : List R4} (h : stF keep a b = 0) (hsub : ∀ x y, Kept keep a b x y → inR a x y ∨ inR b x y) :
    regF a = 0 ∧ regF b = 0 ∧ stL keep a b = sweepL keep a b ∧ regF (stL keep a b) = 0 ∧ (stL keep a b).length ≤ 2000 ∧ ∀ x y, inR (stL keep a b) x y ↔ Kept keep a b x y := by
  unfold stF at h
  by_cases h0 : bothF a b = 0
  · rw [if_pos h0] at h
    obtain ⟨ha, hb⟩ := bothF_zero.1 h0
    obtain ⟨ra, -⟩ := regF_zero.1 ha
    obtain ⟨rb, -⟩ := regF_zero.1 hb
    obtain ⟨ga, -⟩ := good_of_rects ra
    obtain ⟨gb, -⟩ := good_of_rects rb
    have hl : (sweepL keep a b).length ≤ 2000 := by
      unfold resF at h
      by_cases h1 : (sweepL keep a b).length ≤ 2000
      · exact h1
      · rw [if_neg h1] at h; cases h
    have e1 : stL keep a b = sweepL keep a b := by unfold stL resL; rw [if_pos h0, if_pos hl]
    have hin : ∀ x y, inR (sweepL keep a b) x y ↔ Kept keep a b x y := fun x y => Reg.sweepL_inR hk ga gb x y
    rw [e1]
    refine ⟨ha, hb, rfl, regF_zero.2 ⟨rectsF_zero.2 ⟨hl, in_range (Reg.sweepL_good hk ga gb) fun x y hx => ?_⟩, Reg.sweepL_can hk ga gb⟩, hl, hin⟩
    rcases hsub x y ((hin x y).1 hx) with h2 | h2
    · exact inR_range (rectsF_zero.1 ra).2 x y h2
    · exact inR_range (rectsF_zero.1 rb).2 x y h2
  · rw [if_neg h0] at h; exact absurd h h0
theorem stL_len (keep : Int → Int → Bool) (a b : List R4) : (stL keep a b).length ≤ 2000 := by
  unfold stL resL
  split
  · split
    · assumption
    · simp
  · simp
theorem stL_bad {keep : Int → Int → Bool} {a b : List R4} (h : ¬ stF keep a b = 0) : stL keep a b = [] := by
  unfold stL resL
  unfold stF resF at h
  by_cases h0 : bothF a b = 0
  · rw [if_pos h0] at h ⊢
    by_cases h1 : (sweepL keep a b).length ≤ 2000
    · rw [if_pos h1] at h; exact absurd rfl h
    · rw [if_neg h1]
  · rw [if_neg h0]
end Go.Proofs.YtjcbngpgmgeanaaGreat

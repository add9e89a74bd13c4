/- Union, Both, Minus of package shape, whatever the world, and what they are. -/
import Derived.Test.YtmcbjaefnhfopaaGreatCanon
import Derived.Test.YtmcbjaefnhfopaaGreatShapeN
namespace Go.Proofs.YtmcbjaefnhfopaaGreat
open Go.RowKit Go.Shelf
open Reg (R4 inR cntR sweepL canonL Kept)
set_option linter.unusedSimpArgs false
set_option linter.unusedVariables false

/-- What both regions are checked for. -/
def bothF (a b : List R4) : Int := if regF a = 0 then regF b else regF a
def stL (keep : Int → Int → Bool) (a b : List R4) : List R4 := if bothF a b = 0 then resL (sweepL keep a b) else []
def stF (keep : Int → Int → Bool) (a b : List R4) : Int := if bothF a b = 0 then resF (sweepL keep a b) else bothF a b
theorem bothF_zero {a b : List R4} : bothF a b = 0 ↔ regF a = 0 ∧ regF b = 0 := by
  unfold bothF
  constructor
  · intro h
    by_cases h0 : regF a = 0
    · rw [if_pos h0] at h; exact ⟨h0, h⟩
    · rw [if_neg h0] at h; exact absurd h h0
  · rintro ⟨h0, h1⟩; rw [if_pos h0]; exact h1

set_option maxRecDepth 100000 in
set_option maxHeartbeats 1000000 in
theorem checkBoth_any (A B : Option Addr) (a b : List R4) (ca cb : Nat) (w : World) (la : a.length ≤ ca) (lb : b.length ≤ cb) (ra : ca ≤ maxLen) (rb : cb ≤ maxLen) (sa : a.length ≤ 140737488355328) (sb : b.length ≤ 140737488355328) (h1 : Rd w A a) (h2 : Rd w B b) :
    Calls Tryz.prog 42 #[.slice A a.length ca, .slice B b.length cb] w fun e w' => e = .returned (.int .i64 (bothF a b)) ∧ Below w.heap.size w w' := by
  have H1 := Lib.hid h1
  have H2 := Lib.hid h2
  have C1 := Lib.hid (fun W h => checkRegion_anyM A a ca W la (by simpa [maxLen] using ra) sa h)
  have C2 := Lib.hid (fun W h => checkRegion_anyM B b cb W lb (by simpa [maxLen] using rb) sb h)
  clear h1 h2
  unfold bothF
  by_cases h0 : regF a = 0
  · rw [if_pos h0]
    rw [h0] at C1
    clear h0
    generalize regF b = F at *
    go_enter Tryz.func42, Tryz.ntmps42
    go_wp2_with fail
    refine (C1.out w H1.out).mono ?_
    rintro e w1 ⟨rfl, hb⟩
    have B1 := Lib.hid hb
    have z1 := hb.size
    clear hb
    go_wp2_with fail
    refine (C2.out w1 (H2.out.below B1.out)).mono ?_
    rintro e w2 ⟨rfl, hb⟩
    have B2 := Lib.hid (B1.out.trans (hb.mono z1))
    clear hb
    go_wp2_with fail
    go_ret
    exact ⟨rfl, B2.out⟩
  · rw [if_neg h0]
    have hd : (regF a != 0) = true := by simpa using h0
    have hd' : (regF a == 0) = false := by simpa using h0
    clear h0
    generalize regF a = F at *
    go_enter Tryz.func42, Tryz.ntmps42
    go_wp2_with fail
    refine (C1.out w H1.out).mono ?_
    rintro e w1 ⟨rfl, hb⟩
    have B1 := Lib.hid hb
    clear hb
    go_wp2_with fail
    go_ret
    exact ⟨rfl, B1.out⟩

set_option maxRecDepth 100000 in
set_option maxHeartbeats 1000000 in
theorem combineRegions_any (keep : Int → Int → Bool) (kf : Nat) (eg : ∀ args w, (callFunc kf args).run Tryz.prog w = .ok (.enter kf args) w)
    (CK : ∀ a b W, Calls Tryz.prog kf #[.int .i64 a, .int .i64 b] W fun e w' => e = .returned (.bool (keep a b)) ∧ Below W.heap.size W w') (hk : keep 0 0 = false)
    (A B : Option Addr) (a b : List R4) (ca cb : Nat) (w : World) (la : a.length ≤ ca) (lb : b.length ≤ cb) (ra : ca ≤ maxLen) (rb : cb ≤ maxLen) (sa : a.length ≤ 140737488355328) (sb : b.length ≤ 140737488355328) (h1 : Rd w A a) (h2 : Rd w B b) :
    Calls Tryz.prog 23 #[.slice A a.length ca, .slice B b.length cb, .func (.func kf) #[] #[]] w (GotRF w (stL keep a b) (stF keep a b)) := by
  have H1 := Lib.hid h1
  have H2 := Lib.hid h2
  have C1 := Lib.hid (checkBoth_any A B a b ca cb w la lb ra rb sa sb h1 h2)
  clear h1 h2
  unfold GotRF stL stF
  by_cases h0 : bothF a b = 0
  · obtain ⟨ha, hb⟩ := bothF_zero.1 h0
    obtain ⟨ga, l1⟩ := good_of_rects (regF_zero.1 ha).1
    obtain ⟨gb, l2⟩ := good_of_rects (regF_zero.1 hb).1
    have C2 := Lib.hid (fun W h1 h2 => combine_any keep kf eg CK hk A B a b ca cb W (by omega) ga gb h1 h2)
    unfold GotRF at C2
    rw [if_pos h0, if_pos h0]
    rw [h0] at C1
    clear h0 ha hb ga gb
    generalize resL (sweepL keep a b) = L at *
    generalize resF (sweepL keep a b) = F at *
    go_enter Tryz.func23, Tryz.ntmps23
    go_wp2_with fail
    refine C1.out.mono ?_
    rintro e w1 ⟨rfl, hb⟩
    have B1 := Lib.hid hb
    have z1 := hb.size
    clear hb
    go_wp2_with fail
    refine (C2.out w1 (H1.out.below B1.out) (H2.out.below B1.out)).mono ?_
    rintro e w2 ⟨v, rfl, ho, hb⟩
    have O2 := Lib.hid (own_mono ho z1)
    have B2 := Lib.hid (B1.out.trans (hb.mono z1))
    clear ho hb
    go_wp2_with fail
    go_ret2
    exact ⟨v, rfl, O2.out, B2.out⟩
  · rw [if_neg h0, if_neg h0]
    have hd : (bothF a b != 0) = true := by simpa using h0
    have hd' : (bothF a b == 0) = false := by simpa using h0
    clear h0
    generalize bothF a b = F at *
    go_enter Tryz.func23, Tryz.ntmps23
    go_wp2_with fail
    refine C1.out.mono ?_
    rintro e w1 ⟨rfl, hb⟩
    have B1 := Lib.hid hb
    clear hb
    go_wp2_with fail
    go_ret2
    exact ⟨_, rfl, own_nilR _ _ _ _, B1.out⟩

def orK (a b : Int) : Bool := decide (0 < a) || decide (0 < b)
def andK (a b : Int) : Bool := decide (0 < a) && decide (0 < b)
def notK (a b : Int) : Bool := decide (0 < a) && (b == 0)
theorem orK_any (a b : Int) (w : World) : Calls Tryz.prog 24 #[.int .i64 a, .int .i64 b] w fun e w' => e = .returned (.bool (orK a b)) ∧ Below w.heap.size w w' := by
  unfold orK
  cases h1 : decide (0 < a) <;> cases h2 : decide (0 < b)
  all_goals
    go_enter Tryz.func24, Tryz.ntmps24
    go_wp2_with fail
    go_ret
    exact ⟨rfl, Below.refl _ _⟩
theorem andK_any (a b : Int) (w : World) : Calls Tryz.prog 26 #[.int .i64 a, .int .i64 b] w fun e w' => e = .returned (.bool (andK a b)) ∧ Below w.heap.size w w' := by
  unfold andK
  cases h1 : decide (0 < a) <;> cases h2 : decide (0 < b)
  all_goals
    go_enter Tryz.func26, Tryz.ntmps26
    go_wp2_with fail
    go_ret
    exact ⟨rfl, Below.refl _ _⟩
theorem notK_any (a b : Int) (w : World) : Calls Tryz.prog 27 #[.int .i64 a, .int .i64 b] w fun e w' => e = .returned (.bool (notK a b)) ∧ Below w.heap.size w w' := by
  unfold notK
  cases h1 : decide (0 < a) <;> cases h2 : (b == 0)
  all_goals
    go_enter Tryz.func27, Tryz.ntmps27
    go_wp2_with fail
    go_ret
    exact ⟨rfl, Below.refl _ _⟩
theorem eg_or : ∀ args w, (callFunc 24 args).run Tryz.prog w = .ok (.enter 24 args) w := enters_of Tryz.func24 (by kernel_rfl) rfl
theorem eg_and : ∀ args w, (callFunc 26 args).run Tryz.prog w = .ok (.enter 26 args) w := enters_of Tryz.func26 (by kernel_rfl) rfl
theorem eg_not : ∀ args w, (callFunc 27 args).run Tryz.prog w = .ok (.enter 27 args) w := enters_of Tryz.func27 (by kernel_rfl) rfl

set_option maxRecDepth 100000 in
set_option maxHeartbeats 1000000 in
theorem union_any (A B : Option Addr) (a b : List R4) (ca cb : Nat) (w : World) (la : a.length ≤ ca) (lb : b.length ≤ cb) (ra : ca ≤ maxLen) (rb : cb ≤ maxLen) (sa : a.length ≤ 140737488355328) (sb : b.length ≤ 140737488355328) (h1 : Rd w A a) (h2 : Rd w B b) :
    Calls Tryz.prog 5 #[.slice A a.length ca, .slice B b.length cb] w (GotRF w (stL orK a b) (stF orK a b)) := by
  have C1 := Lib.hid (combineRegions_any orK 24 eg_or (fun a b W => orK_any a b W) rfl A B a b ca cb w la lb ra rb sa sb h1 h2)
  clear h1 h2
  unfold GotRF at *
  generalize stL orK a b = L at *
  generalize stF orK a b = F at *
  go_enter Tryz.func5, Tryz.ntmps5
  go_wp2_with fail
  refine C1.out.mono ?_
  rintro e w1 ⟨v, rfl, ho, hb⟩
  have O1 := Lib.hid ho
  have B1 := Lib.hid hb
  clear ho hb
  go_wp2_with fail
  go_ret2
  exact ⟨v, rfl, O1.out, B1.out⟩

set_option maxRecDepth 100000 in
set_option maxHeartbeats 1000000 in
theorem bothR_any (A B : Option Addr) (a b : List R4) (ca cb : Nat) (w : World) (la : a.length ≤ ca) (lb : b.length ≤ cb) (ra : ca ≤ maxLen) (rb : cb ≤ maxLen) (sa : a.length ≤ 140737488355328) (sb : b.length ≤ 140737488355328) (h1 : Rd w A a) (h2 : Rd w B b) :
    Calls Tryz.prog 8 #[.slice A a.length ca, .slice B b.length cb] w (GotRF w (stL andK a b) (stF andK a b)) := by
  have C1 := Lib.hid (combineRegions_any andK 26 eg_and (fun a b W => andK_any a b W) rfl A B a b ca cb w la lb ra rb sa sb h1 h2)
  clear h1 h2
  unfold GotRF at *
  generalize stL andK a b = L at *
  generalize stF andK a b = F at *
  go_enter Tryz.func8, Tryz.ntmps8
  go_wp2_with fail
  refine C1.out.mono ?_
  rintro e w1 ⟨v, rfl, ho, hb⟩
  have O1 := Lib.hid ho
  have B1 := Lib.hid hb
  clear ho hb
  go_wp2_with fail
  go_ret2
  exact ⟨v, rfl, O1.out, B1.out⟩

set_option maxRecDepth 100000 in
set_option maxHeartbeats 1000000 in
theorem minus_any (A B : Option Addr) (a b : List R4) (ca cb : Nat) (w : World) (la : a.length ≤ ca) (lb : b.length ≤ cb) (ra : ca ≤ maxLen) (rb : cb ≤ maxLen) (sa : a.length ≤ 140737488355328) (sb : b.length ≤ 140737488355328) (h1 : Rd w A a) (h2 : Rd w B b) :
    Calls Tryz.prog 10 #[.slice A a.length ca, .slice B b.length cb] w (GotRF w (stL notK a b) (stF notK a b)) := by
  have C1 := Lib.hid (combineRegions_any notK 27 eg_not (fun a b W => notK_any a b W) rfl A B a b ca cb w la lb ra rb sa sb h1 h2)
  clear h1 h2
  unfold GotRF at *
  generalize stL notK a b = L at *
  generalize stF notK a b = F at *
  go_enter Tryz.func10, Tryz.ntmps10
  go_wp2_with fail
  refine C1.out.mono ?_
  rintro e w1 ⟨v, rfl, ho, hb⟩
  have O1 := Lib.hid ho
  have B1 := Lib.hid hb
  clear ho hb
  go_wp2_with fail
  go_ret2
  exact ⟨v, rfl, O1.out, B1.out⟩
/-! ## What they are -/
theorem cntR_zero_iff {l : List R4} {x y : Int} : cntR l x y = 0 ↔ ¬ inR l x y := by
  rw [← Reg.cntR_pos]
  have := Reg.cntR_nonneg l x y
  omega
theorem kept_or {a b : List R4} {x y : Int} : Kept orK a b x y ↔ inR a x y ∨ inR b x y := by simp only [Kept, orK, Bool.or_eq_true, decide_eq_true_eq, Reg.cntR_pos]
theorem kept_and {a b : List R4} {x y : Int} : Kept andK a b x y ↔ inR a x y ∧ inR b x y := by simp only [Kept, andK, Bool.and_eq_true, decide_eq_true_eq, Reg.cntR_pos]
theorem kept_not {a b : List R4} {x y : Int} : Kept notK a b x y ↔ inR a x y ∧ ¬ inR b x y := by simp only [Kept, notK, Bool.and_eq_true, decide_eq_true_eq, Reg.cntR_pos, beq_iff_eq, cntR_zero_iff]
/-- Where no fault is told, the result is a right region, and its squares are those that are kept. -/
theorem st_ok {keep : Int → Int → Bool} (hk : keep 0 0 = false) {a b : List R4} (h : stF keep a b = 0) (hsub : ∀ x y, Kept keep a b x y → inR a x y ∨ inR b x y) :
    regF a = 0 ∧ regF b = 0 ∧ stL keep a b = sweepL keep a b ∧ regF (stL keep a b) = 0 ∧ (stL keep a b).length ≤ 2000 ∧ ∀ x y, inR (stL keep a b) x y ↔ Kept keep a b x y := by
  unfold stF at h
  by_cases h0 : bothF a b = 0
  · rw [if_pos h0] at h
    obtain ⟨ha, hb⟩ := bothF_zero.1 h0
    obtain ⟨ra, -⟩ := regF_zero.1 ha
    obtain ⟨rb, -⟩ := regF_zero.1 hb
    obtain ⟨ga, -⟩ := good_of_rects ra
    obtain ⟨gb, -⟩ := good_of_rects rb
    have hl : (sweepL keep a b).length ≤ 2000 := by
      unfold resF at h
      by_cases h1 : (sweepL keep a b).length ≤ 2000
      · exact h1
      · rw [if_neg h1] at h; cases h
    have e1 : stL keep a b = sweepL keep a b := by unfold stL resL; rw [if_pos h0, if_pos hl]
    have hin : ∀ x y, inR (sweepL keep a b) x y ↔ Kept keep a b x y := fun x y => Reg.sweepL_inR hk ga gb x y
    rw [e1]
    refine ⟨ha, hb, rfl, regF_zero.2 ⟨rectsF_zero.2 ⟨hl, in_range (Reg.sweepL_good hk ga gb) fun x y hx => ?_⟩, Reg.sweepL_can hk ga gb⟩, hl, hin⟩
    rcases hsub x y ((hin x y).1 hx) with h2 | h2
    · exact inR_range (rectsF_zero.1 ra).2 x y h2
    · exact inR_range (rectsF_zero.1 rb).2 x y h2
  · rw [if_neg h0] at h; exact absurd h h0
theorem stL_len (keep : Int → Int → Bool) (a b : List R4) : (stL keep a b).length ≤ 2000 := by
  unfold stL resL
  split
  · split
    · assumption
    · simp
  · simp
theorem stL_bad {keep : Int → Int → Bool} {a b : List R4} (h : ¬ stF keep a b = 0) : stL keep a b = [] := by
  unfold stL resL
  unfold stF resF at h
  by_cases h0 : bothF a b = 0
  · rw [if_pos h0] at h ⊢
    by_cases h1 : (sweepL keep a b).length ≤ 2000
    · rw [if_pos h1] at h; exact absurd rfl h
    · rw [if_neg h1]
  · rw [if_neg h0]
end Go.Proofs.YtmcbjaefnhfopaaGreat

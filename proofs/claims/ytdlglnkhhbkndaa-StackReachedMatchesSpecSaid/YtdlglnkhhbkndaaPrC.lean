/- How sub-boards are ordered (compareBoards), whatever the world. -/
import Derived.Test.YtdlglnkhhbkndaaEndE
import Derived.Shelf.SlSortCmp.WholeK
namespace Go.Proofs.Ytdlglnkhhbkndaa
open Go.RowKit Go.Maps Go.Sort
set_option linter.unusedSimpArgs false
set_option linter.unusedVariables false
set_option maxRecDepth 100000

def cmpI (a b : Int) : Int := if a < b then -1 else if b < a then 1 else 0
theorem compare_any (a b : Int) (w : World) : Calls Try.prog 113 #[.int .i64 a, .int .i64 b] w fun e w' => e = .returned (.int .i64 (cmpI a b)) ∧ w = w' := by
  rcases Int.lt_trichotomy a b with h | h | h
  · have e : cmpI a b = -1 := by simp [cmpI, h]
    have E := Lib.hid e
    clear e
    go_enter Try.func113, Try.ntmps113
    go_wp2
    go_ret
    exact ⟨by rw [E.out]; rfl, rfl⟩
  · subst h
    have e : cmpI a a = 0 := by simp [cmpI]
    have E := Lib.hid e
    clear e
    go_enter Try.func113, Try.ntmps113
    go_wp2
    go_ret
    exact ⟨by rw [E.out]; rfl, rfl⟩
  · have e : cmpI a b = 1 := by simp [cmpI, h]; omega
    have E := Lib.hid e
    clear e
    go_enter Try.func113, Try.ntmps113
    go_wp2
    go_ret
    exact ⟨by rw [E.out]; rfl, rfl⟩

def orI (u v : Int) : Int := if u = 0 then v else u
theorem or_two (b : Nat) (u v : Int) (w : World) (hc0 : w.cell? ⟨b, 0, none⟩ = some (.int .i64 u)) (hc1 : w.cell? ⟨b, 1, none⟩ = some (.int .i64 v)) :
    Calls Try.prog 112 #[.slice (some ⟨b, 0, none⟩) 2 2] w fun e w' => e = .returned (.int .i64 (orI u v)) ∧ w = w' := by
  by_cases hu : u = 0
  · by_cases hv : v = 0
    · subst hu
      subst hv
      go_enter Try.func112, Try.ntmps112
      go_wp2_with fail
      refine wp_loop_rounds 3 ?_
      rw [rounds_succ]
      go_wp2_with fail
      rw [rounds_succ]
      go_wp2_with fail
      rw [rounds_succ]
      go_wp2_with fail
      go_ret
      exact ⟨rfl, rfl⟩
    · subst hu
      have hv' : (v == 0) = false := by simpa using hv
      go_enter Try.func112, Try.ntmps112
      go_wp2_with fail
      refine wp_loop_rounds 3 ?_
      rw [rounds_succ]
      go_wp2_with fail
      rw [rounds_succ]
      go_wp2_with fail
      go_ret
      exact ⟨rfl, rfl⟩
  · have e : orI u v = u := if_neg hu
    have E := Lib.hid e
    clear e
    have hu' : (u == 0) = false := by simpa using hu
    go_enter Try.func112, Try.ntmps112
    go_wp2_with fail
    refine wp_loop_rounds 3 ?_
    rw [rounds_succ]
    go_wp2_with fail
    go_ret
    exact ⟨by rw [E.out]; rfl, rfl⟩


/-- A sub-board's cells. -/
structure Bq where
  a : Int
  b : Int
  c : Bool
  h : Value
def Bq.cs (x : Bq) : List Value := [.int .i64 x.a, .int .i64 x.b, .bool x.c, x.h]
def turnQ (x : Bq) : Int := if x.c then 0 else x.b - x.a
def okQ (x : Bq) : Prop := 0 ≤ x.a ∧ x.a ≤ 1000000 ∧ 0 ≤ x.b ∧ x.b ≤ 1000000 ∧ x.h.oneCell' = true
theorem grow_one (w : World) (o : Obj) : w.alloc o = grow (w.drewN 0) #[o] := alloc_eq_grow w o
theorem grow_in (w : World) (o : Obj) (q : Nat) (os : Array Obj) : grow ((w.alloc o).drewN q) os = grow (w.drewN q) (#[o] ++ os) := by
  rw [alloc_eq_grow]
  exact grow_grow (w.drewN q) #[o] os
theorem long_any (x : Bq) (hx : okQ x) (w : World) : Calls Try.prog 119 #[.agg #[.int .i64 x.a, .int .i64 x.b, .bool x.c, x.h]] w fun e w' => e = .returned (.int .i64 (x.b - x.a)) ∧ ∃ q os', w' = grow (w.drewN q) os' := by
  obtain ⟨h1, h2, h3, h4, h5⟩ := hx
  have y : IntKind.i64.wrap (x.b - x.a) = x.b - x.a := IntWalk.i64_in _ (by omega)
  clear h1 h2 h3 h4 h5
  go_enter Try.func119, Try.ntmps119
  go_wp2_with fail
  try go_quiet (fail)
  try go_wp2_with fail
  go_ret
  exact ⟨rfl, _, _, grow_one w _⟩
theorem turn_any (x : Bq) (hx : okQ x) (w : World) : Calls Try.prog 116 #[.agg #[.int .i64 x.a, .int .i64 x.b, .bool x.c, x.h]] w fun e w' => e = .returned (.int .i64 (turnQ x)) ∧ ∃ q os', w' = grow (w.drewN q) os' := by
  have C := Lib.hid (long_any x hx)
  cases hc : x.c
  · rw [hc] at C
    have HE := Lib.hid (show turnQ x = x.b - x.a by unfold turnQ; rw [hc]; rfl)
    clear hx
    go_enter Try.func116, Try.ntmps116
    go_wp2_with (go_at_call 119; refine (C.out _).mono ?_; rintro e w2 ⟨rfl, q, os', rfl⟩)
    go_ret
    exact ⟨by rw [HE.out]; rfl, _, _, grow_in w _ _ _⟩
  · have HE := Lib.hid (show turnQ x = 0 by unfold turnQ; rw [hc]; rfl)
    clear hx C
    go_enter Try.func116, Try.ntmps116
    go_wp2_with fail
    go_ret
    exact ⟨by rw [HE.out]; rfl, _, _, grow_one w _⟩
theorem stay (w : World) : w = grow (w.drewN 0) #[] := (grow_empty w).symm
theorem compare_grown (a b : Int) (w : World) : Calls Try.prog 113 #[.int .i64 a, .int .i64 b] w fun e w' => e = .returned (.int .i64 (cmpI a b)) ∧ ∃ q os', w' = grow (w.drewN q) os' :=
  (compare_any a b w).mono fun e w' ⟨h, h'⟩ => ⟨h, 0, #[], by rw [← h']; exact stay w⟩
theorem keep_grow {w : World} {b i : Nat} {v : Value} (h : w.cell? ⟨b, i, none⟩ = some v) (q : Nat) (os : Array Obj) : (grow (w.drewN q) os).cell? ⟨b, i, none⟩ = some v := by
  have hb : b < w.heap.size := by
    by_cases hb : b < w.heap.size
    · exact hb
    · exfalso
      have : w.heap[b]? = none := Array.getElem?_eq_none (by omega)
      simp [World.cell?, this] at h
  exact cell_grown hb h q os
theorem gw_trans {w w1 w2 : World} (h : ∃ q os, w1 = grow (w.drewN q) os) (k : ∃ q os, w2 = grow (w1.drewN q) os) : ∃ q os, w2 = grow (w.drewN q) os := by
  obtain ⟨q, os, rfl⟩ := h
  obtain ⟨q2, os2, rfl⟩ := k
  refine ⟨q + q2, os ++ os2, ?_⟩
  show grow (grow ((w.drewN q).drewN q2) os) os2 = _
  rw [grow_grow, World.drewN_drewN]
theorem keep_cell {w : World} {b i : Nat} {v : Value} (h : w.cell? ⟨b, i, none⟩ = some v) (o : Obj) : (w.alloc o).cell? ⟨b, i, none⟩ = some v := by
  rw [grow_one]
  exact keep_grow h 0 #[o]
def cmpQ (x y : Bq) : Int := orI (cmpI (turnQ x) (turnQ y)) (cmpI x.a y.a)
set_option maxHeartbeats 2000000 in
theorem cmpPress_any (x y : Bq) (hx : okQ x) (hy : okQ y) (w : World) : Calls Try.prog 105 #[.agg #[.int .i64 x.a, .int .i64 x.b, .bool x.c, x.h], .agg #[.int .i64 y.a, .int .i64 y.b, .bool y.c, y.h]] w fun e w' => e = .returned (.int .i64 (cmpQ x y)) ∧ ∃ q os', w' = grow (w.drewN q) os' := by
  have CX := Lib.hid (turn_any x hx)
  have CY := Lib.hid (turn_any y hy)
  clear hx hy
  unfold cmpQ
  go_enter Try.func105, Try.ntmps105
  go_wp2_with fail
  have f0 : ((w.alloc (.cells #[.int .i64 x.a, .int .i64 x.b, .bool x.c, x.h] 62)).alloc (.cells #[.int .i64 y.a, .int .i64 y.b, .bool y.c, y.h] 62)).cell? ⟨w.heap.size, 0, none⟩ = some (.int .i64 x.a) := by simp [go_sem]
  have f1 : ((w.alloc (.cells #[.int .i64 x.a, .int .i64 x.b, .bool x.c, x.h] 62)).alloc (.cells #[.int .i64 y.a, .int .i64 y.b, .bool y.c, y.h] 62)).cell? ⟨w.heap.size, 1, none⟩ = some (.int .i64 x.b) := by simp [go_sem]
  have f2 : ((w.alloc (.cells #[.int .i64 x.a, .int .i64 x.b, .bool x.c, x.h] 62)).alloc (.cells #[.int .i64 y.a, .int .i64 y.b, .bool y.c, y.h] 62)).cell? ⟨w.heap.size, 2, none⟩ = some (.bool x.c) := by simp [go_sem]
  have f3 : ((w.alloc (.cells #[.int .i64 x.a, .int .i64 x.b, .bool x.c, x.h] 62)).alloc (.cells #[.int .i64 y.a, .int .i64 y.b, .bool y.c, y.h] 62)).cell? ⟨w.heap.size, 3, none⟩ = some (x.h) := by simp [go_sem]
  have f4 : ((w.alloc (.cells #[.int .i64 x.a, .int .i64 x.b, .bool x.c, x.h] 62)).alloc (.cells #[.int .i64 y.a, .int .i64 y.b, .bool y.c, y.h] 62)).cell? ⟨w.heap.size + 1, 0, none⟩ = some (.int .i64 y.a) := by simp [go_sem]
  have f5 : ((w.alloc (.cells #[.int .i64 x.a, .int .i64 x.b, .bool x.c, x.h] 62)).alloc (.cells #[.int .i64 y.a, .int .i64 y.b, .bool y.c, y.h] 62)).cell? ⟨w.heap.size + 1, 1, none⟩ = some (.int .i64 y.b) := by simp [go_sem]
  have f6 : ((w.alloc (.cells #[.int .i64 x.a, .int .i64 x.b, .bool x.c, x.h] 62)).alloc (.cells #[.int .i64 y.a, .int .i64 y.b, .bool y.c, y.h] 62)).cell? ⟨w.heap.size + 1, 2, none⟩ = some (.bool y.c) := by simp [go_sem]
  have f7 : ((w.alloc (.cells #[.int .i64 x.a, .int .i64 x.b, .bool x.c, x.h] 62)).alloc (.cells #[.int .i64 y.a, .int .i64 y.b, .bool y.c, y.h] 62)).cell? ⟨w.heap.size + 1, 3, none⟩ = some (y.h) := by simp [go_sem]
  obtain ⟨W, hW⟩ : ∃ W, W = ((w.alloc (.cells #[.int .i64 x.a, .int .i64 x.b, .bool x.c, x.h] 62)).alloc (.cells #[.int .i64 y.a, .int .i64 y.b, .bool y.c, y.h] 62)) := ⟨_, rfl⟩
  rw [← hW] at f0 f1 f2 f3 f4 f5 f6 f7 ⊢
  have HWW := Lib.hid hW
  clear hW
  go_region_held3 (fun w' => w'.cell? ⟨w.heap.size, 0, none⟩ = some (.int .i64 x.a) ∧ w'.cell? ⟨w.heap.size, 1, none⟩ = some (.int .i64 x.b) ∧ w'.cell? ⟨w.heap.size, 2, none⟩ = some (.bool x.c) ∧ w'.cell? ⟨w.heap.size, 3, none⟩ = some (x.h) ∧ w'.cell? ⟨w.heap.size + 1, 0, none⟩ = some (.int .i64 y.a) ∧ w'.cell? ⟨w.heap.size + 1, 1, none⟩ = some (.int .i64 y.b) ∧ w'.cell? ⟨w.heap.size + 1, 2, none⟩ = some (.bool y.c) ∧ w'.cell? ⟨w.heap.size + 1, 3, none⟩ = some (y.h))
    (focus (refine ⟨?_, ?_, ?_, ?_, ?_, ?_, ?_, ?_⟩ <;> (first | (focus ((with_reducible assumption); done)) | (focus ((repeat (first | (with_reducible apply keep_grow) | (with_reducible apply keep_cell))); assumption)) | (focus (go_keep; done)))))
    (first | (go_at_call_of 116 (Value.agg #[.int .i64 x.a, .int .i64 x.b, .bool x.c, x.h]); refine (CX.out _).mono ?_; rintro e w1 ⟨rfl, q, os', rfl⟩) | (go_at_call_of 116 (Value.agg #[.int .i64 y.a, .int .i64 y.b, .bool y.c, y.h]); refine (CY.out _).mono ?_; rintro e w1 ⟨rfl, q, os', rfl⟩) | (go_at_call 113; refine (compare_any _ _ _).mono ?_; rintro e w1 ⟨rfl, rfl⟩) | (go_at_call 112; refine (or_two _ (cmpI (turnQ x) (turnQ y)) (cmpI x.a y.a) _ ?hc0 ?hc1).mono ?_; (case hc0 => simp [go_sem]); (case hc1 => simp [go_sem]); rintro e w1 ⟨rfl, rfl⟩))
  go_wp2_with fail
  go_ret
  have k1 : ∃ q os, W = grow (w.drewN q) os := by rw [HWW.out]; exact gw_trans ⟨0, _, grow_one w _⟩ ⟨0, _, grow_one _ _⟩
  exact ⟨rfl, gw_trans (gw_trans (gw_trans k1 ⟨_, _, rfl⟩) ⟨_, _, rfl⟩) ⟨0, _, grow_one _ _⟩⟩
/-- .. which orders them. -/
theorem ltQ (x y : Bq) : ltOf cmpQ x y = (decide (turnQ x < turnQ y) || (decide (turnQ x = turnQ y) && decide (x.a < y.a))) := by
  unfold ltOf cmpQ orI cmpI
  rcases Int.lt_trichotomy (turnQ x) (turnQ y) with h | h | h
  · simp [h]
  · rcases Int.lt_trichotomy x.a y.a with h2 | h2 | h2
    · simp [h, h2]
    · simp [h, h2]
    · have : ¬ x.a < y.a := by omega
      simp [h, h2, this]
  · have h1 : ¬ turnQ x < turnQ y := by omega
    have h2 : ¬ turnQ x = turnQ y := by omega
    simp [h, h1, h2]
theorem swoQ : SWO (ltOf cmpQ) where
  irrefl x := by rw [ltQ]; simp
  trans x y z h1 h2 := by rw [ltQ] at *; simp at *; omega
  ntrans x y z h1 h2 := by rw [ltQ] at *; simp at *; omega
end Go.Proofs.Ytdlglnkhhbkndaa

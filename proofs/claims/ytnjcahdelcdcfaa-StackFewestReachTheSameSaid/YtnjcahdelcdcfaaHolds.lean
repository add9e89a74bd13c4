/- A copper of a sub-board lies in another one within it (the closure of hasLoose), whatever the world. -/
import Derived.Test.YtnjcahdelcdcfaaClsh
namespace Go.Proofs.Ytnjcahdelcdcfaa
open Go.RowKit Go.Maps Go.Sort
set_option linter.unusedSimpArgs false
set_option linter.unusedVariables false
set_option maxRecDepth 100000

def holdQ (x y : Bq) (k : Int) : Bool := decide (x.b - x.a < y.b - y.a) && inQ x y && decide (x.a ≤ k) && decide (k ≤ x.b)
theorem keep_ex {w w1 : World} {b i : Nat} {v : Value} (hw : ∃ q os, w1 = grow (w.drewN q) os) (h : w.cell? ⟨b, i, none⟩ = some v) : w1.cell? ⟨b, i, none⟩ = some v := by
  obtain ⟨q, os, rfl⟩ := hw
  exact keep_grow h q os
theorem alloc_new_cell (w : World) (cs : Array Value) (t : TypeId) (i : Nat) {v : Value} (h : cs[i]? = some v) : (w.alloc (.cells cs t)).cell? ⟨w.heap.size, i, none⟩ = some v := by
  have := h
  simp [go_sem, h]
set_option maxHeartbeats 4000000 in
theorem holds_any (x y : Bq) (hx : okQ x) (hy : okQ y) (pb pc : Nat) (k : Int) (w : World) (h0 : w.cell? ⟨pb, 0, none⟩ = some (.int .i64 y.a)) (h1 : w.cell? ⟨pb, 1, none⟩ = some (.int .i64 y.b)) (h2 : w.cell? ⟨pb, 2, none⟩ = some (.bool y.c)) (h3 : w.cell? ⟨pb, 3, none⟩ = some y.h) (h4 : w.cell? ⟨pc, 0, none⟩ = some (.int .i64 k)) :
    Calls Try.prog 118 #[.agg #[.int .i64 x.a, .int .i64 x.b, .bool x.c, x.h], .pointer (some ⟨pb, 0, none⟩), .pointer (some ⟨pc, 0, none⟩)] w fun e w' => e = .returned (.bool (holdQ x y k)) ∧ ∃ q os', w' = grow (w.drewN q) os' := by
  have CX := Lib.hid (long_any x hx)
  have CY := Lib.hid (long_any y hy)
  have CW := Lib.hid (within_any x y)
  clear hx hy
  rcases (show decide (x.b - x.a < y.b - y.a) = false ∨ decide (x.b - x.a < y.b - y.a) = true ∧ (inQ x y = false ∨ inQ x y = true ∧ (decide (x.a ≤ k) = false ∨ decide (x.a ≤ k) = true ∧ (decide (k ≤ x.b) = false ∨ decide (k ≤ x.b) = true))) by cases decide (x.b - x.a < y.b - y.a) <;> cases inQ x y <;> cases decide (x.a ≤ k) <;> cases decide (k ≤ x.b) <;> simp) with d1 | ⟨d1, d2 | ⟨d2, d3 | ⟨d3, d4 | d4⟩⟩⟩
  · have HE := Lib.hid (show holdQ x y k = false by unfold holdQ; simp only [d1]; try simp)
    go_enter Try.func118, Try.ntmps118
    go_wp2_with fail
    have f0 : (w.alloc (.cells #[.int .i64 x.a, .int .i64 x.b, .bool x.c, x.h] 62)).cell? ⟨w.heap.size, 0, none⟩ = some (.int .i64 x.a) := alloc_new_cell _ _ _ _ (by rfl)
    have f1 : (w.alloc (.cells #[.int .i64 x.a, .int .i64 x.b, .bool x.c, x.h] 62)).cell? ⟨w.heap.size, 1, none⟩ = some (.int .i64 x.b) := alloc_new_cell _ _ _ _ (by rfl)
    have f2 : (w.alloc (.cells #[.int .i64 x.a, .int .i64 x.b, .bool x.c, x.h] 62)).cell? ⟨w.heap.size, 2, none⟩ = some (.bool x.c) := alloc_new_cell _ _ _ _ (by rfl)
    have f3 : (w.alloc (.cells #[.int .i64 x.a, .int .i64 x.b, .bool x.c, x.h] 62)).cell? ⟨w.heap.size, 3, none⟩ = some (x.h) := alloc_new_cell _ _ _ _ (by rfl)
    have g0 : (w.alloc (.cells #[.int .i64 x.a, .int .i64 x.b, .bool x.c, x.h] 62)).cell? ⟨pb, 0, none⟩ = some (.int .i64 y.a) := keep_cell h0 _
    have g1 : (w.alloc (.cells #[.int .i64 x.a, .int .i64 x.b, .bool x.c, x.h] 62)).cell? ⟨pb, 1, none⟩ = some (.int .i64 y.b) := keep_cell h1 _
    have g2 : (w.alloc (.cells #[.int .i64 x.a, .int .i64 x.b, .bool x.c, x.h] 62)).cell? ⟨pb, 2, none⟩ = some (.bool y.c) := keep_cell h2 _
    have g3 : (w.alloc (.cells #[.int .i64 x.a, .int .i64 x.b, .bool x.c, x.h] 62)).cell? ⟨pb, 3, none⟩ = some (y.h) := keep_cell h3 _
    have g4 : (w.alloc (.cells #[.int .i64 x.a, .int .i64 x.b, .bool x.c, x.h] 62)).cell? ⟨pc, 0, none⟩ = some (.int .i64 k) := keep_cell h4 _
    obtain ⟨W, hW⟩ : ∃ W, W = (w.alloc (.cells #[.int .i64 x.a, .int .i64 x.b, .bool x.c, x.h] 62)) := ⟨_, rfl⟩
    rw [← hW] at f0 f1 f2 f3 g0 g1 g2 g3 g4 ⊢
    have k1 : ∃ q os, W = grow (w.drewN q) os := by rw [hW]; exact ⟨0, _, grow_one w _⟩
    have HK := Lib.hid k1
    clear k1 hW
    have f0 := fun n os => keep_grow f0 n os
    have f1 := fun n os => keep_grow f1 n os
    have f2 := fun n os => keep_grow f2 n os
    have f3 := fun n os => keep_grow f3 n os
    have g0 := fun n os => keep_grow g0 n os
    have g1 := fun n os => keep_grow g1 n os
    have g2 := fun n os => keep_grow g2 n os
    have g3 := fun n os => keep_grow g3 n os
    have g4 := fun n os => keep_grow g4 n os
    have hmix : Try.prog.follows .mixedOrders = true := by kernel_rfl
    go_quiet_grown (first | (go_at_call_of 119 (Value.agg #[.int .i64 x.a, .int .i64 x.b, .bool x.c, x.h]); refine Calls.grown_of (CX.out _)) | (go_at_call_of 119 (Value.agg #[.int .i64 y.a, .int .i64 y.b, .bool y.c, y.h]); refine Calls.grown_of (CY.out _)) | (go_at_call 117; refine Calls.grown_of (CW.out _)))
    go_wp2_with fail
    go_ret
    exact ⟨by rw [HE.out]; rfl, gw_trans HK.out ⟨_, _, rfl⟩⟩
  · have HE := Lib.hid (show holdQ x y k = false by unfold holdQ; simp only [d1, d2]; try simp)
    rw [d2] at CW
    go_enter Try.func118, Try.ntmps118
    go_wp2_with fail
    have f0 : (w.alloc (.cells #[.int .i64 x.a, .int .i64 x.b, .bool x.c, x.h] 62)).cell? ⟨w.heap.size, 0, none⟩ = some (.int .i64 x.a) := alloc_new_cell _ _ _ _ (by rfl)
    have f1 : (w.alloc (.cells #[.int .i64 x.a, .int .i64 x.b, .bool x.c, x.h] 62)).cell? ⟨w.heap.size, 1, none⟩ = some (.int .i64 x.b) := alloc_new_cell _ _ _ _ (by rfl)
    have f2 : (w.alloc (.cells #[.int .i64 x.a, .int .i64 x.b, .bool x.c, x.h] 62)).cell? ⟨w.heap.size, 2, none⟩ = some (.bool x.c) := alloc_new_cell _ _ _ _ (by rfl)
    have f3 : (w.alloc (.cells #[.int .i64 x.a, .int .i64 x.b, .bool x.c, x.h] 62)).cell? ⟨w.heap.size, 3, none⟩ = some (x.h) := alloc_new_cell _ _ _ _ (by rfl)
    have g0 : (w.alloc (.cells #[.int .i64 x.a, .int .i64 x.b, .bool x.c, x.h] 62)).cell? ⟨pb, 0, none⟩ = some (.int .i64 y.a) := keep_cell h0 _
    have g1 : (w.alloc (.cells #[.int .i64 x.a, .int .i64 x.b, .bool x.c, x.h] 62)).cell? ⟨pb, 1, none⟩ = some (.int .i64 y.b) := keep_cell h1 _
    have g2 : (w.alloc (.cells #[.int .i64 x.a, .int .i64 x.b, .bool x.c, x.h] 62)).cell? ⟨pb, 2, none⟩ = some (.bool y.c) := keep_cell h2 _
    have g3 : (w.alloc (.cells #[.int .i64 x.a, .int .i64 x.b, .bool x.c, x.h] 62)).cell? ⟨pb, 3, none⟩ = some (y.h) := keep_cell h3 _
    have g4 : (w.alloc (.cells #[.int .i64 x.a, .int .i64 x.b, .bool x.c, x.h] 62)).cell? ⟨pc, 0, none⟩ = some (.int .i64 k) := keep_cell h4 _
    obtain ⟨W, hW⟩ : ∃ W, W = (w.alloc (.cells #[.int .i64 x.a, .int .i64 x.b, .bool x.c, x.h] 62)) := ⟨_, rfl⟩
    rw [← hW] at f0 f1 f2 f3 g0 g1 g2 g3 g4 ⊢
    have k1 : ∃ q os, W = grow (w.drewN q) os := by rw [hW]; exact ⟨0, _, grow_one w _⟩
    have HK := Lib.hid k1
    clear k1 hW
    have f0 := fun n os => keep_grow f0 n os
    have f1 := fun n os => keep_grow f1 n os
    have f2 := fun n os => keep_grow f2 n os
    have f3 := fun n os => keep_grow f3 n os
    have g0 := fun n os => keep_grow g0 n os
    have g1 := fun n os => keep_grow g1 n os
    have g2 := fun n os => keep_grow g2 n os
    have g3 := fun n os => keep_grow g3 n os
    have g4 := fun n os => keep_grow g4 n os
    have hmix : Try.prog.follows .mixedOrders = true := by kernel_rfl
    go_quiet_grown (first | (go_at_call_of 119 (Value.agg #[.int .i64 x.a, .int .i64 x.b, .bool x.c, x.h]); refine Calls.grown_of (CX.out _)) | (go_at_call_of 119 (Value.agg #[.int .i64 y.a, .int .i64 y.b, .bool y.c, y.h]); refine Calls.grown_of (CY.out _)) | (go_at_call 117; refine Calls.grown_of (CW.out _)))
    go_wp2_with fail
    go_ret
    exact ⟨by rw [HE.out]; rfl, gw_trans HK.out ⟨_, _, rfl⟩⟩
  · have HE := Lib.hid (show holdQ x y k = false by unfold holdQ; simp only [d1, d2, d3]; try simp)
    rw [d2] at CW
    go_enter Try.func118, Try.ntmps118
    go_wp2_with fail
    have f0 : (w.alloc (.cells #[.int .i64 x.a, .int .i64 x.b, .bool x.c, x.h] 62)).cell? ⟨w.heap.size, 0, none⟩ = some (.int .i64 x.a) := alloc_new_cell _ _ _ _ (by rfl)
    have f1 : (w.alloc (.cells #[.int .i64 x.a, .int .i64 x.b, .bool x.c, x.h] 62)).cell? ⟨w.heap.size, 1, none⟩ = some (.int .i64 x.b) := alloc_new_cell _ _ _ _ (by rfl)
    have f2 : (w.alloc (.cells #[.int .i64 x.a, .int .i64 x.b, .bool x.c, x.h] 62)).cell? ⟨w.heap.size, 2, none⟩ = some (.bool x.c) := alloc_new_cell _ _ _ _ (by rfl)
    have f3 : (w.alloc (.cells #[.int .i64 x.a, .int .i64 x.b, .bool x.c, x.h] 62)).cell? ⟨w.heap.size, 3, none⟩ = some (x.h) := alloc_new_cell _ _ _ _ (by rfl)
    have g0 : (w.alloc (.cells #[.int .i64 x.a, .int .i64 x.b, .bool x.c, x.h] 62)).cell? ⟨pb, 0, none⟩ = some (.int .i64 y.a) := keep_cell h0 _
    have g1 : (w.alloc (.cells #[.int .i64 x.a, .int .i64 x.b, .bool x.c, x.h] 62)).cell? ⟨pb, 1, none⟩ = some (.int .i64 y.b) := keep_cell h1 _
    have g2 : (w.alloc (.cells #[.int .i64 x.a, .int .i64 x.b, .bool x.c, x.h] 62)).cell? ⟨pb, 2, none⟩ = some (.bool y.c) := keep_cell h2 _
    have g3 : (w.alloc (.cells #[.int .i64 x.a, .int .i64 x.b, .bool x.c, x.h] 62)).cell? ⟨pb, 3, none⟩ = some (y.h) := keep_cell h3 _
    have g4 : (w.alloc (.cells #[.int .i64 x.a, .int .i64 x.b, .bool x.c, x.h] 62)).cell? ⟨pc, 0, none⟩ = some (.int .i64 k) := keep_cell h4 _
    obtain ⟨W, hW⟩ : ∃ W, W = (w.alloc (.cells #[.int .i64 x.a, .int .i64 x.b, .bool x.c, x.h] 62)) := ⟨_, rfl⟩
    rw [← hW] at f0 f1 f2 f3 g0 g1 g2 g3 g4 ⊢
    have k1 : ∃ q os, W = grow (w.drewN q) os := by rw [hW]; exact ⟨0, _, grow_one w _⟩
    have HK := Lib.hid k1
    clear k1 hW
    have f0 := fun n os => keep_grow f0 n os
    have f1 := fun n os => keep_grow f1 n os
    have f2 := fun n os => keep_grow f2 n os
    have f3 := fun n os => keep_grow f3 n os
    have g0 := fun n os => keep_grow g0 n os
    have g1 := fun n os => keep_grow g1 n os
    have g2 := fun n os => keep_grow g2 n os
    have g3 := fun n os => keep_grow g3 n os
    have g4 := fun n os => keep_grow g4 n os
    have hmix : Try.prog.follows .mixedOrders = true := by kernel_rfl
    go_quiet_grown (first | (go_at_call_of 119 (Value.agg #[.int .i64 x.a, .int .i64 x.b, .bool x.c, x.h]); refine Calls.grown_of (CX.out _)) | (go_at_call_of 119 (Value.agg #[.int .i64 y.a, .int .i64 y.b, .bool y.c, y.h]); refine Calls.grown_of (CY.out _)) | (go_at_call 117; refine Calls.grown_of (CW.out _)))
    go_wp2_with fail
    go_ret
    exact ⟨by rw [HE.out]; rfl, gw_trans HK.out ⟨_, _, rfl⟩⟩
  · have HE := Lib.hid (show holdQ x y k = false by unfold holdQ; simp only [d1, d2, d3, d4]; try simp)
    rw [d2] at CW
    go_enter Try.func118, Try.ntmps118
    go_wp2_with fail
    have f0 : (w.alloc (.cells #[.int .i64 x.a, .int .i64 x.b, .bool x.c, x.h] 62)).cell? ⟨w.heap.size, 0, none⟩ = some (.int .i64 x.a) := alloc_new_cell _ _ _ _ (by rfl)
    have f1 : (w.alloc (.cells #[.int .i64 x.a, .int .i64 x.b, .bool x.c, x.h] 62)).cell? ⟨w.heap.size, 1, none⟩ = some (.int .i64 x.b) := alloc_new_cell _ _ _ _ (by rfl)
    have f2 : (w.alloc (.cells #[.int .i64 x.a, .int .i64 x.b, .bool x.c, x.h] 62)).cell? ⟨w.heap.size, 2, none⟩ = some (.bool x.c) := alloc_new_cell _ _ _ _ (by rfl)
    have f3 : (w.alloc (.cells #[.int .i64 x.a, .int .i64 x.b, .bool x.c, x.h] 62)).cell? ⟨w.heap.size, 3, none⟩ = some (x.h) := alloc_new_cell _ _ _ _ (by rfl)
    have g0 : (w.alloc (.cells #[.int .i64 x.a, .int .i64 x.b, .bool x.c, x.h] 62)).cell? ⟨pb, 0, none⟩ = some (.int .i64 y.a) := keep_cell h0 _
    have g1 : (w.alloc (.cells #[.int .i64 x.a, .int .i64 x.b, .bool x.c, x.h] 62)).cell? ⟨pb, 1, none⟩ = some (.int .i64 y.b) := keep_cell h1 _
    have g2 : (w.alloc (.cells #[.int .i64 x.a, .int .i64 x.b, .bool x.c, x.h] 62)).cell? ⟨pb, 2, none⟩ = some (.bool y.c) := keep_cell h2 _
    have g3 : (w.alloc (.cells #[.int .i64 x.a, .int .i64 x.b, .bool x.c, x.h] 62)).cell? ⟨pb, 3, none⟩ = some (y.h) := keep_cell h3 _
    have g4 : (w.alloc (.cells #[.int .i64 x.a, .int .i64 x.b, .bool x.c, x.h] 62)).cell? ⟨pc, 0, none⟩ = some (.int .i64 k) := keep_cell h4 _
    obtain ⟨W, hW⟩ : ∃ W, W = (w.alloc (.cells #[.int .i64 x.a, .int .i64 x.b, .bool x.c, x.h] 62)) := ⟨_, rfl⟩
    rw [← hW] at f0 f1 f2 f3 g0 g1 g2 g3 g4 ⊢
    have k1 : ∃ q os, W = grow (w.drewN q) os := by rw [hW]; exact ⟨0, _, grow_one w _⟩
    have HK := Lib.hid k1
    clear k1 hW
    have f0 := fun n os => keep_grow f0 n os
    have f1 := fun n os => keep_grow f1 n os
    have f2 := fun n os => keep_grow f2 n os
    have f3 := fun n os => keep_grow f3 n os
    have g0 := fun n os => keep_grow g0 n os
    have g1 := fun n os => keep_grow g1 n os
    have g2 := fun n os => keep_grow g2 n os
    have g3 := fun n os => keep_grow g3 n os
    have g4 := fun n os => keep_grow g4 n os
    have hmix : Try.prog.follows .mixedOrders = true := by kernel_rfl
    go_quiet_grown (first | (go_at_call_of 119 (Value.agg #[.int .i64 x.a, .int .i64 x.b, .bool x.c, x.h]); refine Calls.grown_of (CX.out _)) | (go_at_call_of 119 (Value.agg #[.int .i64 y.a, .int .i64 y.b, .bool y.c, y.h]); refine Calls.grown_of (CY.out _)) | (go_at_call 117; refine Calls.grown_of (CW.out _)))
    go_wp2_with fail
    go_ret
    exact ⟨by rw [HE.out]; rfl, gw_trans HK.out ⟨_, _, rfl⟩⟩
  · have HE := Lib.hid (show holdQ x y k = true by unfold holdQ; simp only [d1, d2, d3, d4]; try simp)
    rw [d2] at CW
    go_enter Try.func118, Try.ntmps118
    go_wp2_with fail
    have f0 : (w.alloc (.cells #[.int .i64 x.a, .int .i64 x.b, .bool x.c, x.h] 62)).cell? ⟨w.heap.size, 0, none⟩ = some (.int .i64 x.a) := alloc_new_cell _ _ _ _ (by rfl)
    have f1 : (w.alloc (.cells #[.int .i64 x.a, .int .i64 x.b, .bool x.c, x.h] 62)).cell? ⟨w.heap.size, 1, none⟩ = some (.int .i64 x.b) := alloc_new_cell _ _ _ _ (by rfl)
    have f2 : (w.alloc (.cells #[.int .i64 x.a, .int .i64 x.b, .bool x.c, x.h] 62)).cell? ⟨w.heap.size, 2, none⟩ = some (.bool x.c) := alloc_new_cell _ _ _ _ (by rfl)
    have f3 : (w.alloc (.cells #[.int .i64 x.a, .int .i64 x.b, .bool x.c, x.h] 62)).cell? ⟨w.heap.size, 3, none⟩ = some (x.h) := alloc_new_cell _ _ _ _ (by rfl)
    have g0 : (w.alloc (.cells #[.int .i64 x.a, .int .i64 x.b, .bool x.c, x.h] 62)).cell? ⟨pb, 0, none⟩ = some (.int .i64 y.a) := keep_cell h0 _
    have g1 : (w.alloc (.cells #[.int .i64 x.a, .int .i64 x.b, .bool x.c, x.h] 62)).cell? ⟨pb, 1, none⟩ = some (.int .i64 y.b) := keep_cell h1 _
    have g2 : (w.alloc (.cells #[.int .i64 x.a, .int .i64 x.b, .bool x.c, x.h] 62)).cell? ⟨pb, 2, none⟩ = some (.bool y.c) := keep_cell h2 _
    have g3 : (w.alloc (.cells #[.int .i64 x.a, .int .i64 x.b, .bool x.c, x.h] 62)).cell? ⟨pb, 3, none⟩ = some (y.h) := keep_cell h3 _
    have g4 : (w.alloc (.cells #[.int .i64 x.a, .int .i64 x.b, .bool x.c, x.h] 62)).cell? ⟨pc, 0, none⟩ = some (.int .i64 k) := keep_cell h4 _
    obtain ⟨W, hW⟩ : ∃ W, W = (w.alloc (.cells #[.int .i64 x.a, .int .i64 x.b, .bool x.c, x.h] 62)) := ⟨_, rfl⟩
    rw [← hW] at f0 f1 f2 f3 g0 g1 g2 g3 g4 ⊢
    have k1 : ∃ q os, W = grow (w.drewN q) os := by rw [hW]; exact ⟨0, _, grow_one w _⟩
    have HK := Lib.hid k1
    clear k1 hW
    have f0 := fun n os => keep_grow f0 n os
    have f1 := fun n os => keep_grow f1 n os
    have f2 := fun n os => keep_grow f2 n os
    have f3 := fun n os => keep_grow f3 n os
    have g0 := fun n os => keep_grow g0 n os
    have g1 := fun n os => keep_grow g1 n os
    have g2 := fun n os => keep_grow g2 n os
    have g3 := fun n os => keep_grow g3 n os
    have g4 := fun n os => keep_grow g4 n os
    have hmix : Try.prog.follows .mixedOrders = true := by kernel_rfl
    go_quiet_grown (first | (go_at_call_of 119 (Value.agg #[.int .i64 x.a, .int .i64 x.b, .bool x.c, x.h]); refine Calls.grown_of (CX.out _)) | (go_at_call_of 119 (Value.agg #[.int .i64 y.a, .int .i64 y.b, .bool y.c, y.h]); refine Calls.grown_of (CY.out _)) | (go_at_call 117; refine Calls.grown_of (CW.out _)))
    go_wp2_with fail
    go_ret
    exact ⟨by rw [HE.out]; rfl, gw_trans HK.out ⟨_, _, rfl⟩⟩
end Go.Proofs.Ytnjcahdelcdcfaa

/- A sub-board with a loose copper (hasLoose), whatever the world. -/
import Derived.Test.YtnjcahdelcdcfaaConH
namespace Go.Proofs.Ytnjcahdelcdcfaa
open Go.RowKit Go.Maps Go.Sort
set_option linter.unusedSimpArgs false
set_option linter.unusedVariables false
set_option maxRecDepth 100000

def looseGo (x : Bq) (l : List Bq) : Nat → Int → Bool
  | 0, _ => false
  | n + 1, k => if l.any (fun z => holdQ z x k) then looseGo x l n (k + 1) else true
def looseQ (x : Bq) (l : List Bq) : Bool := looseGo x l (x.b - (x.a + 1)).toNat (x.a + 1)
theorem gw_below {w w1 : World} {B : Nat} (hB : B ≤ w.heap.size) (h : ∃ q os, w1 = grow (w.drewN q) os) : Below B w w1 := by
  obtain ⟨q, os, rfl⟩ := h
  exact ⟨rfl, rfl, rfl, by simp, fun j hj => heap_grow_old _ _ (by simpa using (by omega : j < w.heap.size))⟩
set_option maxHeartbeats 4000000 in
theorem hasLoose_any (x : Bq) (hx : okQ x) (A : Option Addr) (l : List Bq) (c : Nat) (w : World) (hl : l.length ≤ 140737488355328) (H : RdG 4 Bq.cs w A l) (hok : ∀ z ∈ l, okQ z) :
    Calls Try.prog 107 #[.agg #[.int .i64 x.a, .int .i64 x.b, .bool x.c, x.h], .slice A l.length c] w fun e w' => e = .returned (.bool (looseQ x l)) ∧ Below w.heap.size w w' := by
  have HH := Lib.hid H
  have HX := Lib.hid hx
  have HOK := Lib.hid hok
  obtain ⟨b1, b2, b3, b4, b5⟩ := hx
  have y1 : IntKind.i64.wrap (x.a + 1) = x.a + 1 := IntWalk.i64_in _ (by omega)
  clear H hok
  go_enter Try.func107, Try.ntmps107
  go_wp2_with fail
  go_loopw [5] (fun pv wr => ∃ (n : Nat) (k : Int) (pc : Nat), pv = .pointer (some ⟨pc, 0, none⟩) ∧ wr.heap[pc]? = some (.cells #[.int .i64 k] 3 (0, 0)) ∧ w.heap.size < pc ∧ n = (x.b - k).toNat ∧ x.a + 1 ≤ k ∧ k ≤ 1000001 ∧ looseQ x l = looseGo x l n k ∧ wr.heap[w.heap.size]? = some (.cells #[.int .i64 x.a, .int .i64 x.b, .bool x.c, x.h] 62 (0, 0)) ∧ Below w.heap.size w wr)
    (fun pv wr => match pv with | .pointer (some ⟨pc, _, _⟩) => (match wr.heap[pc]? with | some (.cells cs _ _) => (x.b - intOf (cs.getD 0 undef)).toNat | _ => 0) | _ => 0)
  case atStart =>
    refine ⟨_, x.a + 1, w.heap.size + 1, rfl, ?_, by omega, rfl, by omega, by omega, rfl, ?_, by (repeat' (first | (with_reducible exact Below.refl _ _) | (with_reducible assumption) | (with_reducible refine Below.alloc ?_ ?_ _) | (with_reducible refine Below.drew ?_) | (with_reducible refine below_drewN ?_ _) | (with_reducible refine Below.setCell ?_ ?_ _) | (with_reducible exact Nat.le_refl _) | omega | (simp only [World.size_alloc, World.size_setCell, World.size_drew]; omega) | (simp; omega) | (simp; done)))⟩
    · have := (MapKept.heap_alloc (w.alloc (.cells #[.int .i64 x.a, .int .i64 x.b, .bool x.c, x.h] 62)) (.cells #[.int .i64 (x.a + 1)] 3)).1
      simpa using this
    · exact ((MapKept.heap_alloc _ _).2 w.heap.size (by simp)).trans (MapKept.heap_alloc w _).1
  case round =>
    obtain ⟨n, k, pc, rfl, hpc, hlt, hn, hk1, hk2, hf, hbx, hw⟩ := hrel
    have HF := Lib.hid hf
    have HPC := Lib.hid hpc
    have HBX := Lib.hid hbx
    have HWr := Lib.hid hw
    have cp := blk_cell hpc 0
    have s0 := blk_cell hbx 0
    have s1 := blk_cell hbx 1
    have s2 := blk_cell hbx 2
    have s3 := blk_cell hbx 3
    have zw := hw.size
    have CB := Lib.hid (containsHolds_any A l c x w.heap.size pc k wr hl (HH.out.below hw) HOK.out HX.out s0 s1 s2 s3 cp)
    have y2 : IntKind.i64.wrap (k + 1) = k + 1 := IntWalk.i64_in _ (by omega)
    clear hf hpc hbx hw
    by_cases hkb : k < x.b
    · obtain ⟨n', rfl⟩ : ∃ n', n = n' + 1 := ⟨n - 1, by omega⟩
      cases ha : l.any (fun z => holdQ z x k)
      · have HN := Lib.hid (show looseQ x l = true by rw [HF.out, looseGo, ha]; rfl)
        rw [ha] at CB
        go_wp2_with (first | (go_at_call 120; refine CB.out.mono ?_; rintro e w1 ⟨rfl, hw1⟩; have HW1 := Lib.hid hw1; clear hw1))
        go_ret
        exact ⟨by rw [HN.out]; rfl, HWr.out.trans (gw_below zw HW1.out)⟩
      · have HN := Lib.hid (show looseQ x l = looseGo x l n' (k + 1) by rw [HF.out, looseGo, ha]; rfl)
        rw [ha] at CB
        go_wp2_with (first | (go_at_call 120; refine CB.out.mono ?_; rintro e w1 ⟨rfl, hw1⟩; have cp1 := keep_ex hw1 cp; have HW1 := Lib.hid hw1; clear hw1))
        go_roundw
        case rel =>
          have hg := gw_below (Nat.le_refl _) HW1.out
          have hgs := hg.size
          have hbl := blk_lt HBX.out
          refine ⟨n', k + 1, w1.heap.size, rfl, (MapKept.heap_alloc w1 _).1, by omega, by omega, by omega, by omega, HN.out, ?_, (HWr.out.trans (gw_below zw HW1.out)).alloc (by omega) _⟩
          exact ((MapKept.heap_alloc w1 _).2 w.heap.size (by omega)).trans ((hg.block _ hbl).trans HBX.out)
        case measure =>
          have e1 := (MapKept.heap_alloc w1 (.cells #[.int .i64 (k + 1)] 3)).1
          have e2 := HPC.out
          simp only [e1, e2]
          simp [intOf]
          omega
    · have hn0 : n = 0 := by omega
      have HN := Lib.hid (show looseQ x l = false by rw [HF.out, hn0]; rfl)
      go_wp2_with fail
      go_ret
      exact ⟨by rw [HN.out]; rfl, HWr.out⟩
end Go.Proofs.Ytnjcahdelcdcfaa

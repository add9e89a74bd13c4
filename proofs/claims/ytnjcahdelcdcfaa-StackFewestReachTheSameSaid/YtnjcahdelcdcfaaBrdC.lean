/- A sub-board is found, or made (the closure of boards), whatever the world. -/
import Derived.Test.YtnjcahdelcdcfaaBrd
namespace Go.Proofs.Ytnjcahdelcdcfaa
open Go.RowKit Go.Maps
set_option linter.unusedSimpArgs false
set_option linter.unusedVariables false
set_option maxRecDepth 100000

theorem zeroPtr (w : World) : (zeroValue 136).run Try.prog w = .ok (.pointer none) w := by kernel_rfl
section
variable {base M F n : Nat} {f : Lit → Option Value} {L : List Brd} {w w' : World}
theorem BrdW.new' (h : BrdW base M F n f L w) {B : Nat} (hB : w.heap.size = B) (hbs : base ≤ w.heap.size) {a b : Int} (wa : W64 a) (wb : W64 b) (hno : L.find? (hit a b) = none)
    (hg : (w.alloc (.cells #[.int .i64 a, .int .i64 b, .bool false, .slice none 0 0] 62)).grownBy w' (some M)) (hm : MapV Try.prog 64 w' M (n + 1) (putF f (keyT a b) (.pointer (some ⟨B, 0, none⟩)))) :
    BrdW base M F (n + 1) (putF f (keyT a b) (.pointer (some ⟨B, 0, none⟩))) (L ++ [⟨B, a, b, false, .slice none 0 0, []⟩]) w' := by
  subst hB
  exact h.new (n' := 0) hbs wa wb hno hg hm
theorem map_far {P : Program} {k : TypeId} {w : World} {q m : Nat} {f : Lit → Option Value} (h : MapV P k w q m f) {p : Nat} (hp : w.heap.size ≤ p) : some p ≠ some q := fun e => by
  have := h.lt
  have := Option.some.inj e
  omega
set_option maxHeartbeats 1000000 in
theorem board_got (h : BrdW base M F n f L w) {a b : Int} (wa : W64 a) (wb : W64 b) {r : Brd} (hr : L.find? (hit a b) = some r) :
    Calls Try.prog 103 #[.int .i64 a, .int .i64 b, .pointer (some ⟨F, 0, none⟩)] w fun e w' => e = .returned (.pointer (some ⟨r.blk, 0, none⟩)) ∧ Below w.heap.size w w' := by
  have hf : f (keyT a b) = some (.pointer (some ⟨r.blk, 0, none⟩)) := by rw [h.fk a b wa wb, hr]; rfl
  have LK := fun (W : World) (hb : Below w.heap.size w W) => (h.m.below hb).run_got thr_law Try.underlying135 (zeroPtr W) (keyOf_thr wa wb) hf
  have L1 := LK (w.alloc (.cells #[.int .i64 a, .int .i64 b] 64)) (by (repeat' (first | (with_reducible exact Below.refl _ _) | (with_reducible assumption) | (with_reducible refine Below.alloc ?_ ?_ _) | (with_reducible refine Below.drew ?_) | (with_reducible refine below_drewN ?_ _) | (with_reducible refine Below.setCell ?_ ?_ _) | (with_reducible exact Nat.le_refl _) | omega | (simp only [World.size_alloc, World.size_setCell, World.size_drew]; omega) | (simp; omega) | (simp; done))))
  have c0 : w.cell? ⟨F, 0, none⟩ = some (.map (some M)) := by rw [blk_cell h.bx]; rfl
  have lF := blk_lt h.bx
  clear h LK hf hr
  go_enter Try.func103, Try.ntmps103
  go_wp2_with fail
  go_ret
  exact ⟨rfl, by (repeat' (first | (with_reducible exact Below.refl _ _) | (with_reducible assumption) | (with_reducible refine Below.alloc ?_ ?_ _) | (with_reducible refine Below.drew ?_) | (with_reducible refine below_drewN ?_ _) | (with_reducible refine Below.setCell ?_ ?_ _) | (with_reducible exact Nat.le_refl _) | omega | (simp only [World.size_alloc, World.size_setCell, World.size_drew]; omega) | (simp; omega) | (simp; done)))⟩
set_option maxHeartbeats 1000000 in
theorem board_new (h : BrdW base M F n f L w) (hbs : base ≤ w.heap.size) (hn : n ≤ 1000000) {a b : Int} (wa : W64 a) (wb : W64 b) (hr : L.find? (hit a b) = none) :
    Calls Try.prog 103 #[.int .i64 a, .int .i64 b, .pointer (some ⟨F, 0, none⟩)] w fun e w' => ∃ B, e = .returned (.pointer (some ⟨B, 0, none⟩)) ∧ BrdW base M F (n + 1) (putF f (keyT a b) (.pointer (some ⟨B, 0, none⟩))) (L ++ [⟨B, a, b, false, .slice none 0 0, []⟩]) w' ∧ Below base w w' := by
  have hf : f (keyT a b) = none := by rw [h.fk a b wa wb, hr]; rfl
  have h1 := h.old ((Below.refl _ _).alloc (Nat.le_refl _) (.cells #[.int .i64 a, .int .i64 b] 64))
  have L1 := h1.m.run_lacks thr_law Try.underlying135 (zeroPtr _) (keyOf_thr wa wb) hf
  have c0 : w.cell? ⟨F, 0, none⟩ = some (.map (some M)) := by rw [blk_cell h.bx]; rfl
  have lF := blk_lt h.bx
  have H1 := Lib.hid h1
  have HR := Lib.hid hr
  have WA := Lib.hid wa
  have WB := Lib.hid wb
  have hgm := h.gm
  have HMM := Lib.hid h.m
  clear h h1 hf hr wa wb
  go_enter Try.func103, Try.ntmps103
  go_wp2_with (first
    | (at_mapUpdate; refine wpList_put_mapV rfl (.tmp 14) (.tmp 15) (.tmp 19) 135 rfl 64 136 thr_law Try.underlying135 M n f rfl (H1.out.m.alloc _) (by unfold maxLen; omega) (.agg #[.int .i64 a, .int .i64 b]) (.pointer (some ⟨w.heap.size + 1, 0, none⟩)) (keyT a b) rfl rfl (keyOf_thr WA.out WB.out) ?_; intro w5 hm5 hg5; have HN := Lib.hid (H1.out.new' (by simp) (by simp; omega) WA.out WB.out HR.out hg5 hm5); have L5 := HN.out.m.run_got thr_law Try.underlying135 (zeroPtr w5) (keyOf_thr WA.out WB.out) (putF_same _ _ _); have k5 : w5.cell? ⟨F, 0, none⟩ = some (.map (some M)) := (by rw [blk_cell HN.out.bx]; rfl); have t5 : w5.cell? ⟨w.heap.size, 0, none⟩ = some (.int .i64 a) := (hg5.cell (by simp [go_sem]) (map_far HMM.out (Nat.le_refl _))); have t6 : w5.cell? ⟨w.heap.size, 1, none⟩ = some (.int .i64 b) := (hg5.cell (by simp [go_sem]) (map_far HMM.out (Nat.le_refl _))); have HG := Lib.hid hg5; clear hm5 hg5))
  go_ret
  exact ⟨_, rfl, HN.out, Below.grown (by (repeat' (first | (with_reducible exact Below.refl _ _) | (with_reducible assumption) | (with_reducible refine Below.alloc ?_ ?_ _) | (with_reducible refine Below.drew ?_) | (with_reducible refine below_drewN ?_ _) | (with_reducible refine Below.setCell ?_ ?_ _) | (with_reducible exact Nat.le_refl _) | omega | (simp only [World.size_alloc, World.size_setCell, World.size_drew]; omega) | (simp; omega) | (simp; done)))) HG.out (by simp; omega) (fun k hk => by cases hk; exact hgm)⟩
end
end Go.Proofs.Ytnjcahdelcdcfaa

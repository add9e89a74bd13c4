/- Materials and layers as the reference of chapter 4 asks for them, whatever the world. -/
import Derived.Test.YtdlglnkhhbkndaaRMts
import Derived.Test.YtdlglnkhhbkndaaStkP
namespace Go.Proofs.Ytdlglnkhhbkndaa
open Go.RowKit
set_option linter.unusedSimpArgs false
set_option linter.unusedVariables false
set_option maxRecDepth 100000

theorem matField1 (a b c d : Value) (w : World) : (Instr.field 37 (.agg #[a, b, c, d]) 1).run Try.prog w = .ok b w := by kernel_rfl
theorem matField2 (a b c d : Value) (w : World) : (Instr.field 37 (.agg #[a, b, c, d]) 2).run Try.prog w = .ok c w := by kernel_rfl
theorem World.heap_alloc_old' (W : World) (o : Obj) {b : Nat} (h : b < W.heap.size) : (W.alloc o).heap[b]? = W.heap[b]? := (World.grownBy_alloc W o none).block b h (by simp)
theorem noMat_name : noMat.name = ⟨#[]⟩ := rfl
set_option maxHeartbeats 2000000 in
theorem materialOf_any (A : Option Addr) (l : List Mat) (c : Nat) (n : ByteArray) (w : World) (hl : l.length ≤ 140737488355328) (h : RdG 4 Mat.cs w A l) :
    Calls Try.prog 68 #[.slice A l.length c, .string n] w fun e w' => e = .returned (.agg #[.string ((matOf l n).getD noMat).name, .int .i64 ((matOf l n).getD noMat).kind, .int .i64 ((matOf l n).getD noMat).thick, .int .i64 ((matOf l n).getD noMat).grow]) ∧ Below w.heap.size w w' := by
  have H := Lib.hid h
  clear h
  go_enter Try.func68, Try.ntmps68
  go_wp2_with fail
  go_loopw [9] (fun i wr => ∃ k : Nat, k ≤ l.length ∧ i = .int .i64 k ∧ matOf l n = matOf (l.drop k) n ∧ wr.heap[w.heap.size]? = some (.cells #[.string ⟨#[]⟩, .int .i64 0, .int .i64 0, .int .i64 0] 37 (0, 0)) ∧ Below w.heap.size w wr) (fun i _ => l.length - (intOf i).toNat)
  case atStart => exact ⟨0, Nat.zero_le _, rfl, rfl, (MapKept.heap_alloc w _).1, by (repeat' (first | (with_reducible exact Below.refl _ _) | (with_reducible assumption) | (with_reducible refine Below.alloc ?_ ?_ _) | (with_reducible refine Below.drew ?_) | (with_reducible refine below_drewN ?_ _) | (with_reducible refine Below.setCell ?_ ?_ _) | (with_reducible exact Nat.le_refl _) | omega | (simp only [World.size_alloc, World.size_setCell, World.size_drew]; omega) | (simp; omega) | (simp; done)))⟩
  case round =>
    obtain ⟨k, hk, rfl, hf, hbx, hw⟩ := hrel
    have HF := Lib.hid hf
    have r0 : wr.cell? ⟨w.heap.size, 0, none⟩ = some (.string ⟨#[]⟩) := by rw [blk_cell hbx]; rfl
    have r1 : wr.cell? ⟨w.heap.size, 1, none⟩ = some (.int .i64 0) := by rw [blk_cell hbx]; rfl
    have r2 : wr.cell? ⟨w.heap.size, 2, none⟩ = some (.int .i64 0) := by rw [blk_cell hbx]; rfl
    have r3 : wr.cell? ⟨w.heap.size, 3, none⟩ = some (.int .i64 0) := by rw [blk_cell hbx]; rfl
    have rf : ∀ i, wr.frozen? ⟨w.heap.size, i, none⟩ = false := blk_free hbx
    have rl := blk_lt hbx
    have HB := Lib.hid hbx
    clear hbx
    have zw := hw.size
    clear hf
    have hkz : (0 : Int) ≤ (k : Int) := by omega
    by_cases hlt : k < l.length
    · obtain ⟨b, off, rfl, hblt, hcs⟩ := (H.out.below hw) (by omega)
      have hi : l[k]? = some l[k] := List.getElem?_eq_getElem hlt
      have c0 := by simpa using hcs k _ hi 0 _ rfl
      have c1 := hcs k _ hi 1 _ rfl
      have c2 := hcs k _ hi 2 _ rfl
      have c3 := hcs k _ hi 3 _ rfl
      have hd : l.drop k = l[k] :: l.drop (k + 1) := List.drop_eq_getElem_cons hlt
      have HD := Lib.hid hd
      clear hd hi hcs
      generalize l[k] = p at *
      by_cases he : p.name = n
      · have HN := Lib.hid (show (matOf l n).getD noMat = p by rw [HF.out, HD.out]; simp [matOf, he])
        have f1 : (p.name.toList == n.toList) = true := eqS_true.2 he
        clear he
        go_wp2_with fail
        exact bodyPost_ret (v := p.v) (by simp [results, Try.results68, go_sem, r0, r1, r2, r3, rl]) rfl ⟨by rw [HN.out], by (repeat' (first | (with_reducible exact Below.refl _ _) | (with_reducible assumption) | (with_reducible refine Below.alloc ?_ ?_ _) | (with_reducible refine Below.drew ?_) | (with_reducible refine below_drewN ?_ _) | (with_reducible refine Below.setCell ?_ ?_ _) | (with_reducible exact Nat.le_refl _) | omega | (simp only [World.size_alloc, World.size_setCell, World.size_drew]; omega) | (simp; omega) | (simp; done)))⟩
      · have HN := Lib.hid (show matOf l n = matOf (l.drop (k + 1)) n by rw [HF.out, HD.out]; simp [matOf, he])
        have f1 : (p.name.toList == n.toList) = false := eqS_false.2 he
        clear he
        go_wp2_with fail
        go_roundw
        case rel => exact ⟨k + 1, by omega, by go_num, HN.out, (World.heap_alloc_old' _ _ rl).trans HB.out, by (repeat' (first | (with_reducible exact Below.refl _ _) | (with_reducible assumption) | (with_reducible refine Below.alloc ?_ ?_ _) | (with_reducible refine Below.drew ?_) | (with_reducible refine below_drewN ?_ _) | (with_reducible refine Below.setCell ?_ ?_ _) | (with_reducible exact Nat.le_refl _) | omega | (simp only [World.size_alloc, World.size_setCell, World.size_drew]; omega) | (simp; omega) | (simp; done)))⟩
        case measure => simp [intOf]; omega
    · obtain rfl : k = l.length := by omega
      have HN := Lib.hid (show (matOf l n).getD noMat = noMat by rw [HF.out, List.drop_length]; rfl)
      go_wp2_with fail
      exact bodyPost_ret (v := noMat.v) (by simp [results, Try.results68, go_sem, r0, r1, r2, r3, rl]; exact ⟨rfl, rfl, rfl, rfl⟩) rfl ⟨by rw [HN.out], by (repeat' (first | (with_reducible exact Below.refl _ _) | (with_reducible assumption) | (with_reducible refine Below.alloc ?_ ?_ _) | (with_reducible refine Below.drew ?_) | (with_reducible refine below_drewN ?_ _) | (with_reducible refine Below.setCell ?_ ?_ _) | (with_reducible exact Nat.le_refl _) | omega | (simp only [World.size_alloc, World.size_setCell, World.size_drew]; omega) | (simp; omega) | (simp; done)))⟩
end Go.Proofs.Ytdlglnkhhbkndaa

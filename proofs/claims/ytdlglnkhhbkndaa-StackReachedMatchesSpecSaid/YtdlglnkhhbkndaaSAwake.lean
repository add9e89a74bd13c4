/- awake of the laws of chapter 4 returns true in whatever world, and turns nothing that was there. -/
import Derived.Test.YtdlglnkhhbkndaaStkG
namespace Go.Proofs.Ytdlglnkhhbkndaa
open Go.RowKit
set_option linter.unusedSimpArgs false
set_option linter.unusedVariables false
set_option maxRecDepth 100000

def awM : List Mat := [⟨⟨#[99]⟩, 1, 2, 0⟩, ⟨⟨#[103]⟩, 3, 3, 0⟩]
def awS : List Lay := [⟨⟨#[97]⟩, ⟨#[99]⟩⟩, ⟨⟨#[]⟩, ⟨#[103]⟩⟩, ⟨⟨#[98]⟩, ⟨#[99]⟩⟩]
theorem aw_stack : stackF awM awS = 0 := by decide +kernel
theorem aw_thick : thickF awM awS = 7 := by decide +kernel
theorem awake_any (w : World) : Calls Try.prog 20 #[] w fun e w' => e = .returned (.bool true) ∧ Below w.heap.size w w' := by
  have C1 := Lib.hid (fun W A A2 (h : StkIn A awM A2 awS W) => show Calls Try.prog 14 #[.slice A 2 2, .slice A2 3 3] W fun e w' => e = .returned (.tuple #[.int .i64 7, .int .i64 0]) ∧ Below W.heap.size W w' from by
    have := thickness_law (c := 2) (c2 := 3) h
    rw [aw_stack, aw_thick] at this
    exact this)
  go_enter Try.func20, Try.ntmps20
  go_wp2_with fail
  refine (C1.out _ _ _ ?_).mono ?_
  · refine ⟨by simp [awM], by simp [awS], fun x hx => ?_, fun y hy => ?_, ?_, ?_⟩
    · simp only [awM, List.mem_cons, List.not_mem_nil, or_false] at hx
      rcases hx with rfl | rfl <;> decide
    · simp only [awS, List.mem_cons, List.not_mem_nil, or_false] at hy
      rcases hy with rfl | rfl | rfl <;> decide
    · intro _
      refine ⟨_, _, rfl, by (first | (with_reducible exact Nat.le_refl _) | (with_reducible assumption) | omega | (simp only [World.size_alloc, World.size_setCell, World.size_drew]; omega) | (simp; omega) | (simp; done)), fun i x hi j v hj => ?_⟩
      match i, hi with
      | 0, hi =>
        simp [awM] at hi; subst hi
        match j, hj with
        | 0, hj => simp at hj; subst hj; simp [go_sem]
        | 1, hj => simp at hj; subst hj; simp [go_sem]
        | 2, hj => simp at hj; subst hj; simp [go_sem]
        | 3, hj => simp at hj; subst hj; simp [go_sem]
        | j + 4, hj => simp at hj
      | 1, hi =>
        simp [awM] at hi; subst hi
        match j, hj with
        | 0, hj => simp at hj; subst hj; simp [go_sem]
        | 1, hj => simp at hj; subst hj; simp [go_sem]
        | 2, hj => simp at hj; subst hj; simp [go_sem]
        | 3, hj => simp at hj; subst hj; simp [go_sem]
        | j + 4, hj => simp at hj
      | i + 2, hi => simp [awM] at hi
    · intro _
      refine ⟨_, _, rfl, by (first | (with_reducible exact Nat.le_refl _) | (with_reducible assumption) | omega | (simp only [World.size_alloc, World.size_setCell, World.size_drew]; omega) | (simp; omega) | (simp; done)), fun i x hi j v hj => ?_⟩
      match i, hi with
      | 0, hi =>
        simp [awS] at hi; subst hi
        match j, hj with
        | 0, hj => simp at hj; subst hj; simp [go_sem]
        | 1, hj => simp at hj; subst hj; simp [go_sem]
        | j + 2, hj => simp at hj
      | 1, hi =>
        simp [awS] at hi; subst hi
        match j, hj with
        | 0, hj => simp at hj; subst hj; simp [go_sem]
        | 1, hj => simp at hj; subst hj; simp [go_sem]
        | j + 2, hj => simp at hj
      | 2, hi =>
        simp [awS] at hi; subst hi
        match j, hj with
        | 0, hj => simp at hj; subst hj; simp [go_sem]
        | 1, hj => simp at hj; subst hj; simp [go_sem]
        | j + 2, hj => simp at hj
      | i + 3, hi => simp [awS] at hi
  rintro e w1 ⟨rfl, hb⟩
  have B1 := up (B := w.heap.size) (w := w) (by (repeat' (first | (with_reducible exact Below.refl _ _) | (with_reducible assumption) | (with_reducible refine Below.alloc ?_ ?_ _) | (with_reducible refine Below.drew ?_) | (with_reducible refine below_drewN ?_ _) | (with_reducible refine Below.setCell ?_ ?_ _) | (with_reducible exact Nat.le_refl _) | omega | (simp only [World.size_alloc, World.size_setCell, World.size_drew]; omega) | (simp; omega) | (simp; done)))) hb (by (first | (with_reducible exact Nat.le_refl _) | (with_reducible assumption) | omega | (simp only [World.size_alloc, World.size_setCell, World.size_drew]; omega) | (simp; omega) | (simp; done)))
  clear hb
  go_wp2_with fail
  go_ret
  exact ⟨rfl, B1⟩
end Go.Proofs.Ytdlglnkhhbkndaa

/- The spans that are needed (Fewest), whatever the world. -/
import Derived.Test.YtnjcahdelcdcfaaDelT
import Derived.Test.YtnjcahdelcdcfaaRchP
namespace Go.Proofs.Ytnjcahdelcdcfaa
open Go.RowKit Go.Maps
set_option linter.unusedSimpArgs false
set_option linter.unusedVariables false
set_option maxRecDepth 100000

open Classical in
/-- What is left of spans, when those ahead of the k-th have not been looked at. -/
noncomputable def fewG (m : List Mat) (s : List Lay) (l : List Thr) : Nat → List Thr → List Thr
  | 0, out => out
  | k + 1, out => if pressedF m s (out.eraseIdx k) = 0 ∧ jT ((cus (rowsOf m s)).length - 1) (out.eraseIdx k) = jT ((cus (rowsOf m s)).length - 1) l then fewG m s l k (out.eraseIdx k) else fewG m s l k out
theorem few_yes {m : List Mat} {s : List Lay} {l out : List Thr} {k n : Nat} (hn : (cus (rowsOf m s)).length = n + 1) (h1 : pressedF m s (out.eraseIdx k) = 0) (h2 : jT n (out.eraseIdx k) = jT n l) : fewG m s l (k + 1) out = fewG m s l k (out.eraseIdx k) := by
  rw [fewG, if_pos ⟨h1, by rw [hn]; exact h2⟩]
theorem few_no {m : List Mat} {s : List Lay} {l out : List Thr} {k n : Nat} (hn : (cus (rowsOf m s)).length = n + 1) (h : ¬ (pressedF m s (out.eraseIdx k) = 0 ∧ jT n (out.eraseIdx k) = jT n l)) : fewG m s l (k + 1) out = fewG m s l k out := by
  rw [fewG, if_neg (fun e => h ⟨e.1, by have := e.2; rw [hn] at this; exact this⟩)]
theorem allEq_bool : ∀ xs ys : List Bool, Lib.allEq (fun x y => x == y) xs ys = decide (xs = ys)
  | [], [] => rfl
  | [], y :: ys => by simp [Lib.allEq]
  | x :: xs, [] => by simp [Lib.allEq]
  | x :: xs, y :: ys => by
    rw [Lib.allEq, allEq_bool xs ys]
    by_cases h : x = y
    · subst h
      simp
    · have : (x == y) = false := by simpa using h
      rw [this]
      simp [h]
theorem thr_cs_fm (l : List Thr) : l.flatMap Thr.cs = fm thr1 thr2 l := rfl
/-- A row of spans of its own, as a slice that is read. -/
theorem own_rdT {w : World} {B : Nat} {v : Value} {l : List Thr} (h : w.ownsRow B 64 2 v l.length (fm thr1 thr2 l)) : ∃ A c, v = .slice A l.length c ∧ l.length ≤ c ∧ c ≤ maxLen ∧ RdG 2 Thr.cs w A l := own_rdG (cs := Thr.cs) (fun x => rfl) h
theorem few_inv {m : List Mat} {s : List Lay} {l : List Thr} : ∀ (k : Nat) (out : List Thr), pressedF m s out = 0 → jT ((cus (rowsOf m s)).length - 1) out = jT ((cus (rowsOf m s)).length - 1) l → pressedF m s (fewG m s l k out) = 0 ∧ jT ((cus (rowsOf m s)).length - 1) (fewG m s l k out) = jT ((cus (rowsOf m s)).length - 1) l ∧ (fewG m s l k out).length ≤ out.length
  | 0, out, h1, h2 => ⟨h1, h2, Nat.le_refl _⟩
  | k + 1, out, h1, h2 => by
    rw [fewG]
    split
    · rename_i h
      obtain ⟨a, b, c⟩ := few_inv k (out.eraseIdx k) h.1 h.2
      refine ⟨a, b, Nat.le_trans c ?_⟩
      rw [List.length_eraseIdx]
      split <;> omega
    · exact few_inv k out h1 h2
end Go.Proofs.Ytnjcahdelcdcfaa

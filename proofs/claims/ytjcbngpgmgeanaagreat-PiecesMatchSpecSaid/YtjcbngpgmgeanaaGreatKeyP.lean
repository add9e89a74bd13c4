/- Several texts in one: Key, Pile. -/
import Derived.Test.YtjcbngpgmgeanaaGreatGrow
import Derived.Test.YtjcbngpgmgeanaaGreatOpens
import Derived.DeepKeys4
import Derived.Maps.Own
import Derived.Maps.OwnSet
import Derived.Test.YtjcbngpgmgeanaaGreatSweepL
/- The keys of the map of package shape's stacked: three integers. -/
namespace Go.Proofs.YtjcbngpgmgeanaaGreat
open Go.Maps Go.ChangeShapes Go.WideShapes
set_option linter.unusedSimpArgs false
set_option linter.unusedVariables false

theorem roof_int : Tryz.prog.cellsOf 3 = 1 := by kernel_rfl
/-- What three integers read as. -/
def keyR (j : Roof) : Lit := .string (keyBytes [.int .i64 j.1, .int .i64 j.2.1, .int .i64 j.2.2])
theorem pos_succ {n k : Nat} (h : k < n) : ∃ m, n = m + 1 := ⟨n - 1, by omega⟩
end Go.Proofs.YtjcbngpgmgeanaaGreat
/- stacked of package shape, whatever the world. -/
namespace Go.Proofs.YtjcbngpgmgeanaaGreat
open Go.Maps Go.ChangeShapes Go.WideShapes Go.RowKit
open Reg (R4)
set_option linter.unusedSimpArgs false
set_option linter.unusedVariables false

def wfR (j : Roof) : Prop := (Lit.int .i64 j.1).wf = true ∧ (Lit.int .i64 j.2.1).wf = true ∧ (Lit.int .i64 j.2.2).wf = true
/-- A map reads as a function of roofs. -/
def MapF (D : DataW Unit) (f : Roof → Option Nat) : Prop := ∀ j, wfR j → Maps.has D (keyR j) = (f j).isSome ∧ ∀ k, f j = some k → D.atKey (keyR j) (.lit (.int .i64 0)) = .lit (.int .i64 (k : Int))
theorem MapF.nil : MapF (.map []) (fun _ => none) := fun j _ => ⟨rfl, fun k hk => by cases hk⟩
theorem zero_int (w : World) : (zeroValue 3).run Tryz.prog w = .ok (.int .i64 0) w := by kernel_rfl
theorem wf_nat {k : Nat} (hk : k ≤ 100000000) : (Lit.int .i64 (k : Int)).wf = true := by
  have h1 : IntKind.i64.min = -9223372036854775808 := by decide
  have h2 : IntKind.i64.max = 9223372036854775807 := by decide
  simp [Lit.wf, h1, h2]
  omega
theorem cR_top {out : List R4} : ∀ {k : Nat} {r : R4}, out[k]? = some r → ∀ y : Int, cR (topAt out k y) = (cR out).set (k * 4 + 3) (.int .i64 y) := by
  induction out with
  | nil => intro k r h; simp at h
  | cons s l ih =>
    intro k r h y
    cases k with
    | zero =>
      rw [topAt_some h]
      simp at h
      subst h
      simp [cR]
    | succ k =>
      simp at h
      have := ih h y
      rw [topAt_some h] at this
      rw [topAt_some (show (s :: l)[k + 1]? = some r from by simpa using h)]
      simp only [List.set_cons_succ, cR, List.flatMap_cons] at this ⊢
      rw [show (k + 1) * 4 + 3 = k * 4 + 3 + 1 + 1 + 1 + 1 from by omega]
      simp only [List.cons_append, List.nil_append, List.set_cons_succ]
      rw [this]
theorem topAt_len (out : List R4) (k : Nat) (y : Int) : (topAt out k y).length = out.length := by unfold topAt; split <;> simp

theorem own_far' {w : World} {base n size b : Nat} {e : TypeId} {v : Value} {xs : List Value} (h : w.ownsRow base e size v n xs) (hb : w.heap.size ≤ b) : some b ≠ v.ownBlock := fun e => by
  have := (h.lt b e.symm).2
  omega
theorem own_far'' {w : World} {base n size b : Nat} {e : TypeId} {v : Value} {xs : List Value} (h : w.ownsRow base e size v n xs) (hb : b < base) : ∀ g, v.ownBlock = some g → some g ≠ some b := fun g hg e => by
  have := (h.lt g hg).1
  injection e with e
  omega
def RoofLt (f : Roof → Option Nat) (n : Nat) : Prop := ∀ j k, f j = some k → k < n
end Go.Proofs.YtjcbngpgmgeanaaGreat

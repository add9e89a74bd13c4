/- The keys of the map of package shape's stacked: three integers. -/
import Derived.Test.YtmcbjaefnhfopaaGreatGrow
import Derived.Test.YtmcbjaefnhfopaaGreatOpens
import Derived.DeepKeys4
import Derived.Maps.Own
import Derived.Maps.OwnSet
namespace Go.Proofs.YtmcbjaefnhfopaaGreat
open Go.Maps Go.ChangeShapes Go.WideShapes
set_option linter.unusedSimpArgs false
set_option linter.unusedVariables false

theorem roof_row : (89 : TypeId) < Tryz.prog.types.size := of_decide_eq_true (by kernel_rfl)
theorem roof_cells : Tryz.prog.cellsOf 89 = 3 := by kernel_rfl
theorem roof_int : Tryz.prog.cellsOf 3 = 1 := by kernel_rfl
theorem roof_deep : Tryz.prog.keyTypeAt (Tryz.prog.types.size + 1) 89 = true := by kernel_rfl
theorem roof_wide : (match Tryz.prog.underlying 89 with | some (.array _ _) | some (.struct _) => true | _ => false) = true := by rw [Tryz.underlying89]
set_option maxRecDepth 100000 in
theorem roof_law : Keyed Tryz.prog 89 := Keyed.of_law (deep_law_laid laidOut (m := 2) (by omega) roof_row (by kernel_rfl) roof_wide)
theorem roof_formed {c0 c1 c2 : Value} : (Value.agg #[c0, c1, c2]).formed Tryz.prog 89 = true := by simp [Value.formed, Tryz.underlying89, roof_cells]
/-- What three integers read as. -/
def keyR (j : Roof) : Lit := .string (keyBytes [.int .i64 j.1, .int .i64 j.2.1, .int .i64 j.2.2])
theorem pos_succ {n k : Nat} (h : k < n) : ∃ m, n = m + 1 := ⟨n - 1, by omega⟩
theorem roof_size : ∃ m, Tryz.prog.types.size = m + 1 := pos_succ roof_row
theorem roof_type : Tryz.prog.keyType 89 = true := roof_deep
theorem keyOf_roof {a b c : Int} (wa : (Lit.int .i64 a).wf = true) (wb : (Lit.int .i64 b).wf = true) (wc : (Lit.int .i64 c).wf = true) : keyOf Tryz.prog 89 (.agg #[.int .i64 a, .int .i64 b, .int .i64 c]) = some (keyR (a, b, c)) := by
  obtain ⟨m, hm⟩ := roof_size
  unfold keyOf keyR
  simp only [Tryz.underlying89]
  rw [if_pos (by rw [roof_type, roof_formed]; rfl), hm]
  unfold Program.keyLits
  simp only [Tryz.underlying89, Value.cells]
  rw [if_pos (by rw [roof_cells]; exact ⟨rfl, by simp⟩)]
  simp [roof_int, Program.keyLits, Tryz.underlying3, wa, wb, wc]
theorem keyR_inj {i j : Roof} (wi : (Lit.int .i64 i.1).wf = true ∧ (Lit.int .i64 i.2.1).wf = true ∧ (Lit.int .i64 i.2.2).wf = true) (wj : (Lit.int .i64 j.1).wf = true ∧ (Lit.int .i64 j.2.1).wf = true ∧ (Lit.int .i64 j.2.2).wf = true) (h : keyR i = keyR j) : i = j := by
  have h1 := keyOf_roof wi.1 wi.2.1 wi.2.2
  have h2 := keyOf_roof wj.1 wj.2.1 wj.2.2
  rw [show keyR (i.1, i.2.1, i.2.2) = keyR i from rfl, h] at h1
  have := roof_law.inj h1 h2
  simp at this
  exact Prod.ext this.1 (Prod.ext this.2.1 this.2.2)
end Go.Proofs.YtmcbjaefnhfopaaGreat

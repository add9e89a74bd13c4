/- Spans, and the keys that they are in maps. -/
import Derived.Test.YtdlglnkhhbkndaaOwn
import Derived.Test.YtdlglnkhhbkndaaOpn
import Derived.DeepKeys4
import Derived.Maps.Own
import Derived.Maps.OwnSet
namespace Go.Proofs.Ytdlglnkhhbkndaa
open Go.RowKit Go.Maps Go.ChangeShapes Go.WideShapes
set_option linter.unusedSimpArgs false
set_option linter.unusedVariables false

/-- A span. -/
structure Thr where
  a : Int
  b : Int

abbrev Thr.cs (x : Thr) : List Value := [.int .i64 x.a, .int .i64 x.b]
theorem laidOutT : laidOutB Try.prog = true := by kernel_rfl
theorem thr_row : (64 : TypeId) < Try.prog.types.size := of_decide_eq_true (by kernel_rfl)
theorem thr_cells : Try.prog.cellsOf 64 = 2 := by kernel_rfl
theorem thr_int : Try.prog.cellsOf 3 = 1 := by kernel_rfl
theorem thr_deep : Try.prog.keyTypeAt (Try.prog.types.size + 1) 64 = true := by kernel_rfl
theorem thr_wide : (match Try.prog.underlying 64 with | some (.array _ _) | some (.struct _) => true | _ => false) = true := by rw [Try.underlying64]
set_option maxRecDepth 100000 in
theorem thr_law : Keyed Try.prog 64 := Keyed.of_law (deep_law_laid laidOutT (m := 2) (by omega) thr_row (by kernel_rfl) thr_wide)
theorem thr_formed {c0 c1 : Value} : (Value.agg #[c0, c1]).formed Try.prog 64 = true := by simp [Value.formed, Try.underlying64, thr_cells]
/-- What a span reads as. -/
def keyT (a b : Int) : Lit := .string (keyBytes [.int .i64 a, .int .i64 b])
theorem pos_succ {n k : Nat} (h : k < n) : ∃ m, n = m + 1 := ⟨n - 1, by omega⟩
theorem thr_size : ∃ m, Try.prog.types.size = m + 1 := pos_succ thr_row
theorem thr_type : Try.prog.keyType 64 = true := thr_deep
theorem keyOf_thr {a b : Int} (wa : (Lit.int .i64 a).wf = true) (wb : (Lit.int .i64 b).wf = true) : keyOf Try.prog 64 (.agg #[.int .i64 a, .int .i64 b]) = some (keyT a b) := by
  obtain ⟨m, hm⟩ := thr_size
  unfold keyOf keyT
  simp only [Try.underlying64]
  rw [if_pos (by rw [thr_type, thr_formed]; rfl), hm]
  unfold Program.keyLits
  simp only [Try.underlying64, Value.cells]
  rw [if_pos (by rw [thr_cells]; exact ⟨rfl, by simp⟩)]
  simp [thr_int, Program.keyLits, Try.underlying3, wa, wb]
theorem keyT_inj {a b c d : Int} (wa : (Lit.int .i64 a).wf = true) (wb : (Lit.int .i64 b).wf = true) (wc : (Lit.int .i64 c).wf = true) (wd : (Lit.int .i64 d).wf = true) (h : keyT a b = keyT c d) : a = c ∧ b = d := by
  have h1 := keyOf_thr wa wb
  have h2 := keyOf_thr wc wd
  rw [h] at h1
  have := thr_law.inj h1 h2
  simpa using this
end Go.Proofs.Ytdlglnkhhbkndaa

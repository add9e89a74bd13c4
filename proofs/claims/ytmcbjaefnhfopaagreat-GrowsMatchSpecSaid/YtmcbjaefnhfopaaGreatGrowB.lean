/- What has grown has not more rectangles. -/
import Derived.Test.YtmcbjaefnhfopaaGreatGrowA
import Derived.Test.YtmcbjaefnhfopaaGreatCount
import Derived.Test.YtmcbjaefnhfopaaGreatWide
namespace Go.Proofs.YtmcbjaefnhfopaaGreat
open Go.RowKit Go.Shelf
open Reg (R4 inR canonL)
set_option linter.unusedSimpArgs false
set_option linter.unusedVariables false

/-- Whether what has grown is in range. -/
theorem grown_count {n : Int} (hn : 0 ≤ n) {l : List R4} (h : regF l = 0) : (grownL n l).length ≤ l.length := by
  obtain ⟨hg, -⟩ := good_of_rects (regF_zero.1 h).1
  have g1 := wideX_good hn hg
  obtain ⟨-, p2, -⟩ := pileL_ok (canon_good g1) (starts_canon g1)
  have := wide_count (n := n) h
  rw [grownL, List.length_map]
  omega
end Go.Proofs.YtmcbjaefnhfopaaGreat

/- Shrink of package shape, whatever the world. -/
import Derived.Test.YtkjbllhobannpaaOut
namespace Go.Proofs.Ytkjbllhobannpaa
open Go.RowKit Go.Shelf
open Reg (R4 inR canonL sweepL Kept)
set_option linter.unusedSimpArgs false
set_option linter.unusedVariables false

def shF (l : List R4) (n : Int) : Int := if chG l n = 0 then (if l = [] then 0 else resF (sweepL notK l (grownL n (outL l)))) else chG l n
def shL (l : List R4) (n : Int) : List R4 := if chG l n = 0 then (if l = [] then [] else resL (sweepL notK l (grownL n (outL l)))) else []
theorem chG_zero {l : List R4} {n : Int} (h0 : chG l n = 0) : regF l = 0 ∧ 0 ≤ n ∧ n ≤ 100000 := by
  unfold chG at h0
  by_cases h1 : regF l = 0
  · rw [if_pos h1] at h0
    by_cases h2 : n < 0 ∨ 100000 < n
    · rw [if_pos h2] at h0; cases h0
    · exact ⟨h1, by omega, by omega⟩
  · rw [if_neg h1] at h0; exact absurd h0 h1
theorem out_grown_count {n : Int} (hn : 0 ≤ n) {l : List R4} (h : regF l = 0) (hpos : 0 < l.length) : (canonL ((outL l).map (wideX n))).length ≤ 6 * l.length + 4 ∧ (grownL n (outL l)).length ≤ 6 * l.length + 4 := by
  obtain ⟨hb, hg⟩ := out_banded h hpos
  have hc := out_count h hpos
  have h1 := canon_count (banded_wide (n := n) hb)
  rw [List.length_map] at h1
  have g1 := wideX_good hn hg
  obtain ⟨-, p2, -⟩ := pileL_ok (canon_good g1) (starts_canon g1)
  rw [grownL, List.length_map]
  omega

end Go.Proofs.Ytkjbllhobannpaa

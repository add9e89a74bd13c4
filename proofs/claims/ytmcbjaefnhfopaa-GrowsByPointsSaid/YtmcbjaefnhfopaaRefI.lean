/- The reference's Has and Bounds, whatever the world. -/
import Derived.Test.YtmcbjaefnhfopaaRefH
import Derived.Test.YtmcbjaefnhfopaaShapeG
import Derived.RegionTactic
import Derived.BigRegion
namespace Go.Proofs.Ytmcbjaefnhfopaa
open Go.RowKit
open Reg (R4 Span Band)
set_option linter.unusedSimpArgs false
set_option linter.unusedVariables false

theorem isPoint_any (x y : Int) (w : World) : Calls Try.prog 77 #[.agg #[.int .i64 x, .int .i64 y]] w fun e w' => e = .returned (.bool (okAt x && okAt y)) ∧ Below w.heap.size w w' := by
  cases h1 : okAt x
  all_goals
    go_enter Try.func77, Try.ntmps77
    go_wp2_with (go_at_call 37; refine (at_any _ _).mono ?_; rintro e w' ⟨rfl, rfl⟩)
    go_ret
    exact ⟨rfl, (Below.refl _ _).alloc (Nat.le_refl _) _⟩

def insB (l : List Span) (x : Int) : Bool := l.any fun s => decide (s.1 ≤ x) && decide (x < s.2)
theorem insB_iff {l : List Span} {x : Int} : insB l x = true ↔ Reg.inS l x := by
  unfold insB Reg.inS
  rw [List.any_eq_true]
  simp only [Bool.and_eq_true, decide_eq_true_eq]
theorem IsS.open_ {w : World} {v : Value} {l : List Span} (h : IsS w v l) : ∃ A c, v = .slice A l.length c ∧ (0 < l.length → ∃ b off, A = some ⟨b, off, none⟩ ∧ b < w.heap.size ∧ ∀ i s, l[i]? = some s → w.cell? ⟨b, off + i * 2, none⟩ = some (.int .i64 s.1) ∧ w.cell? ⟨b, off + i * 2 + 1, none⟩ = some (.int .i64 s.2)) := by
  rcases h with ⟨rfl, rfl⟩ | ⟨_, b, off, c, e, _, _, h3, h4⟩
  · exact ⟨none, 0, rfl, fun h => by simp at h⟩
  · exact ⟨_, _, e, fun _ => ⟨b, off, rfl, h3, h4⟩⟩

theorem hasB_row {l : List R4} (hg : Reg.Good l) (x y : Int) : insB (Reg.rowL l y) x = hasB l x y := by
  rw [Bool.eq_iff_iff, insB_iff, hasB_iff, (Reg.rowL_ok hg y).2 x]

end Go.Proofs.Ytmcbjaefnhfopaa

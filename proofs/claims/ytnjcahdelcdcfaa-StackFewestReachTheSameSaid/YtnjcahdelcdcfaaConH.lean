/- Whether a copper lies in one of the sub-boards of a list (slices.ContainsFunc by the closure of hasLoose), whatever the world. -/
import Derived.Test.YtnjcahdelcdcfaaIdxH
namespace Go.Proofs.Ytnjcahdelcdcfaa
open Go.RowKit Go.Maps Go.Sort
set_option linter.unusedSimpArgs false
set_option linter.unusedVariables false
set_option maxRecDepth 100000

set_option maxHeartbeats 1000000 in
theorem containsHolds_any (A : Option Addr) (l : List Bq) (c : Nat) (y : Bq) (pb pc : Nat) (k : Int) (w : World) (hl : l.length ≤ 140737488355328) (H : RdG 4 Bq.cs w A l) (hok : ∀ x ∈ l, okQ x) (hy : okQ y) (h0 : w.cell? ⟨pb, 0, none⟩ = some (.int .i64 y.a)) (h1 : w.cell? ⟨pb, 1, none⟩ = some (.int .i64 y.b)) (h2 : w.cell? ⟨pb, 2, none⟩ = some (.bool y.c)) (h3 : w.cell? ⟨pb, 3, none⟩ = some y.h) (h4 : w.cell? ⟨pc, 0, none⟩ = some (.int .i64 k)) :
    Calls Try.prog 120 #[.slice A l.length c, .func (.func 118) #[] #[.pointer (some ⟨pb, 0, none⟩), .pointer (some ⟨pc, 0, none⟩)]] w fun e w' => e = .returned (.bool (l.any (fun x => holdQ x y k))) ∧ ∃ q os', w' = grow (w.drewN q) os' := by
  have CI := Lib.hid (indexHolds_any A l c y pb pc k w hl H hok hy h0 h1 h2 h3 h4)
  clear H hok hy h0 h1 h2 h3 h4
  generalize l.any (fun x => holdQ x y k) = G at *
  go_enter Try.func120, Try.ntmps120
  go_wp2_with (first | (go_at_call 135; refine CI.out.mono ?_; rintro e w1 ⟨r, rfl, hr, hw1⟩; have HR := Lib.hid hr; clear hr))
  go_ret
  exact ⟨by rw [← HR.out]; rfl, hw1⟩
end Go.Proofs.Ytnjcahdelcdcfaa

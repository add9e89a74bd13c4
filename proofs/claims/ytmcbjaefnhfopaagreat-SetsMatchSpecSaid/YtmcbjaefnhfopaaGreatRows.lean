/-
  No cell of these rows narrows 'for every input' (looked for: loops, veiled, ifaces, maps, wideKeys, modest, calm, conditions, laid).
  DERIVED. THE GIVEN ROWS OF THIS SEAT. 2 by the template 'for every input the law returns true; each argument reads behind the call as it read before'; 0 by the template 'total and deterministic' (their statements: YtmcbjaefnhfopaaGreatTotals.lean).
  GIVEN WITH THE SEED: the statements are not yours to turn. If you find one false, say at which input.
  Laid BY PROGRAM, IN A SANDBOX (cutbox-rows.mjs): the forced cells as the released guide's own fill.sh prints them over the translation 9528592da7ec72ec… (all of the seat's roots in one cut). By AI agents, Wed Nov 11 2026. No macro, syntax, notation, axiom, sorry.
-/
import Derived.Test.YtmcbjaefnhfopaaGreatChecked
import GoSem.Claim
import GoSem.ClaimJoined
import GoSem.ClaimMapViews
import Derived.JoinedTies
import Derived.KernelRfl
namespace Go.Proofs.YtmcbjaefnhfopaaGreat
/- THE CELL 'sum', in the pinned program and in every row, IS THE sha256 OF THE DUMP (.gsa) THAT YtmcbjaefnhfopaaGreatProg.lean LOADS. Nothing in Lean hashes anything: it is a label: what it is worth is what the hold of that sum in a sandbox is worth. -/
noncomputable def Tryz.pinned : Pinned := { name := "ytmcbjaefnhfopaagreat", sum := "9528592da7ec72ece6c6f2166b9cf4ae718c8a7fa8fbbe52a47c6d8ac9c9c1e0", checked := Tryz.checked }
namespace Rows
def none {H : Type} : Left H := { results := [], args := [] }

/-- 'etchhouselaw1.SetsMatchSpec': WHATEVER THE INPUT: true; the input reads as it did. -/
def setsMatchSpecSpec : ChangeSpec := { name := "setsMatchSpec", fn := fun _ => fun
  | [d1, d2] => { results := [.lit (.bool true)], args := [d1, d2] }
  | _ => none }
def setsMatchSpecRow : OpenClaim := { program := "ytmcbjaefnhfopaagreat", sum := "9528592da7ec72ece6c6f2166b9cf4ae718c8a7fa8fbbe52a47c6d8ac9c9c1e0", func := "etchhouse/etchhouselaw1.SetsMatchSpec", spec := "setsMatchSpec", unfollowed := true, recurses := true, plainKeys := false, apart := false }
def SetsMatchSpecSaid : Prop := setsMatchSpecRow.holds Tryz.pinned (OpenSpec.ofChange setsMatchSpecSpec)

/-- ITS FALSE NEIGHBOUR: 'it returns false'. Refute it at one input. -/
def setsMatchSpecWrong : ChangeSpec := { name := "setsMatchSpec", fn := fun _ => fun
  | [d1, d2] => { results := [.lit (.bool false)], args := [d1, d2] }
  | _ => none }
def SetsMatchSpecWrongFalsely : Prop := setsMatchSpecRow.holds Tryz.pinned (OpenSpec.ofChange setsMatchSpecWrong)

/-- 'etchhouselaw1.GrowsMatchSpec': WHATEVER THE INPUT: true; the input reads as it did. -/
def growsMatchSpecSpec : ChangeSpec := { name := "growsMatchSpec", fn := fun _ => fun
  | [d1, d2] => { results := [.lit (.bool true)], args := [d1, d2] }
  | _ => none }
def growsMatchSpecRow : OpenClaim := { program := "ytmcbjaefnhfopaagreat", sum := "9528592da7ec72ece6c6f2166b9cf4ae718c8a7fa8fbbe52a47c6d8ac9c9c1e0", func := "etchhouse/etchhouselaw1.GrowsMatchSpec", spec := "growsMatchSpec", unfollowed := true, recurses := true, plainKeys := false, apart := false }
def GrowsMatchSpecSaid : Prop := growsMatchSpecRow.holds Tryz.pinned (OpenSpec.ofChange growsMatchSpecSpec)

/-- ITS FALSE NEIGHBOUR: 'it returns false'. Refute it at one input. -/
def growsMatchSpecWrong : ChangeSpec := { name := "growsMatchSpec", fn := fun _ => fun
  | [d1, d2] => { results := [.lit (.bool false)], args := [d1, d2] }
  | _ => none }
def GrowsMatchSpecWrongFalsely : Prop := growsMatchSpecRow.holds Tryz.pinned (OpenSpec.ofChange growsMatchSpecWrong)

/- THE SECOND FORM. 'bulk': how many values and letters a reading holds, each counted each time it is reached (what is shared counts as often as it is met; a slice's spare places count too). A statement '..UptoSaid' is the law's where the arguments, and the package variables that the reading takes, are together of bulk at most 1048576: NARROWER than '..Said'. Prove '..Said' where nothing that the law and all that it calls make is longer than what came in: it says more and counts as full. Else prove '..UptoSaid'. A law counts once. -/
mutual
def uptoBulk {H : Type} : DataW H → Nat
  | .lit (.string bytes) => bytes.length + 1
  | .lit _ => 1
  | .nil => 1
  | .ptr d => uptoBulk d + 1
  | .slice elems spare => uptoBulkAll elems + uptoBulkAll spare + 1
  | .agg parts => uptoBulkAll parts + 1
  | .iface _ d => uptoBulk d + 1
  | .map entries => uptoBulkEntries entries + 1
  | .held _ => 1
def uptoBulkAll {H : Type} : List (DataW H) → Nat
  | [] => 0
  | d :: r => uptoBulk d + uptoBulkAll r
def uptoBulkEntries {H : Type} : List (Lit × DataW H) → Nat
  | [] => 0
  | x :: r => uptoBulkEntry x + uptoBulkEntries r
def uptoBulkEntry {H : Type} : Lit × DataW H → Nat
  | (.string bytes, d) => bytes.length + uptoBulk d + 1
  | (_, d) => uptoBulk d + 1
 end
def uptoSmall : (H : Type) → List (DataW H) → Bool := fun _ ds => decide (uptoBulkAll ds ≤ 1048576)
def OpenSpec.upto (s : _root_.Go.ChangeSpec) : _root_.Go.OpenSpec := { _root_.Go.OpenSpec.ofChange s with cond := some uptoSmall }

/-- 'etchhouselaw1.SetsMatchSpec', WHERE WHAT IT READS IS OF BULK AT MOST 1048576: true; the input reads as it did. -/
def setsMatchSpecUptoRow : OpenClaim := { program := "ytmcbjaefnhfopaagreat", sum := "9528592da7ec72ece6c6f2166b9cf4ae718c8a7fa8fbbe52a47c6d8ac9c9c1e0", func := "etchhouse/etchhouselaw1.SetsMatchSpec", spec := "setsMatchSpec", unfollowed := true, recurses := true, plainKeys := false, apart := false, narrowed := true }
def SetsMatchSpecUptoSaid : Prop := setsMatchSpecUptoRow.holds Tryz.pinned (OpenSpec.upto setsMatchSpecSpec)

/-- 'etchhouselaw1.GrowsMatchSpec', WHERE WHAT IT READS IS OF BULK AT MOST 1048576: true; the input reads as it did. -/
def growsMatchSpecUptoRow : OpenClaim := { program := "ytmcbjaefnhfopaagreat", sum := "9528592da7ec72ece6c6f2166b9cf4ae718c8a7fa8fbbe52a47c6d8ac9c9c1e0", func := "etchhouse/etchhouselaw1.GrowsMatchSpec", spec := "growsMatchSpec", unfollowed := true, recurses := true, plainKeys := false, apart := false, narrowed := true }
def GrowsMatchSpecUptoSaid : Prop := growsMatchSpecUptoRow.holds Tryz.pinned (OpenSpec.upto growsMatchSpecSpec)

end Rows
end Go.Proofs.YtmcbjaefnhfopaaGreat

/-
  No cell of these rows narrows 'for every input' (looked for: loops, veiled, ifaces, maps, wideKeys, modest, calm, conditions, laid).
  DERIVED. THE GIVEN ROWS OF THIS SEAT. 7 by the template 'for every input the law returns true; each argument reads behind the call as it read before'; 0 by the template 'total and deterministic' (their statements: YtmcbjaefnhfopaaTotals.lean).
  GIVEN WITH THE SEED: the statements are not yours to turn. If you find one false, say at which input.
  Laid BY PROGRAM, IN A SANDBOX (cutbox-rows.mjs): the forced cells as the released guide's own fill.sh prints them over the translation 9311269bdb2881aa… (all of the seat's roots in one cut). By AI agents, Wed Nov 11 2026. No macro, syntax, notation, axiom, sorry.
-/
import Derived.Test.YtmcbjaefnhfopaaChecked
import GoSem.Claim
import GoSem.ClaimJoined
import GoSem.ClaimMapViews
import Derived.JoinedTies
import Derived.KernelRfl
namespace Go.Proofs.Ytmcbjaefnhfopaa
/- THE CELL 'sum', in the pinned program and in every row, IS THE sha256 OF THE DUMP (.gsa) THAT YtmcbjaefnhfopaaProg.lean LOADS. Nothing in Lean hashes anything: it is a label: what it is worth is what the hold of that sum in a sandbox is worth. -/
noncomputable def Try.pinned : Pinned := { name := "ytmcbjaefnhfopaa", sum := "9311269bdb2881aafe5a3a93e241783bc1482a8ff2371fc797f60e8355f4f74a", checked := Try.checked }
namespace Rows
def none {H : Type} : Left H := { results := [], args := [] }

/-- 'etchhouselaw1.RegionsMatchSpec': WHATEVER THE INPUT: true; the input reads as it did. -/
def regionsMatchSpecSpec : ChangeSpec := { name := "regionsMatchSpec", fn := fun _ => fun
  | [d] => { results := [.lit (.bool true)], args := [d] }
  | _ => none }
def regionsMatchSpecRow : OpenClaim := { program := "ytmcbjaefnhfopaa", sum := "9311269bdb2881aafe5a3a93e241783bc1482a8ff2371fc797f60e8355f4f74a", func := "etchhouse/etchhouselaw1.RegionsMatchSpec", spec := "regionsMatchSpec", unfollowed := true, recurses := true, plainKeys := false, apart := false }
def RegionsMatchSpecSaid : Prop := regionsMatchSpecRow.holds Try.pinned (OpenSpec.ofChange regionsMatchSpecSpec)

/-- ITS FALSE NEIGHBOUR: 'it returns false'. Refute it at one input. -/
def regionsMatchSpecWrong : ChangeSpec := { name := "regionsMatchSpec", fn := fun _ => fun
  | [d] => { results := [.lit (.bool false)], args := [d] }
  | _ => none }
def RegionsMatchSpecWrongFalsely : Prop := regionsMatchSpecRow.holds Try.pinned (OpenSpec.ofChange regionsMatchSpecWrong)

/-- 'etchhouselaw1.RegionsAreCanonical': WHATEVER THE INPUT: true; the input reads as it did. -/
def regionsAreCanonicalSpec : ChangeSpec := { name := "regionsAreCanonical", fn := fun _ => fun
  | [d] => { results := [.lit (.bool true)], args := [d] }
  | _ => none }
def regionsAreCanonicalRow : OpenClaim := { program := "ytmcbjaefnhfopaa", sum := "9311269bdb2881aafe5a3a93e241783bc1482a8ff2371fc797f60e8355f4f74a", func := "etchhouse/etchhouselaw1.RegionsAreCanonical", spec := "regionsAreCanonical", unfollowed := true, recurses := true, plainKeys := false, apart := false }
def RegionsAreCanonicalSaid : Prop := regionsAreCanonicalRow.holds Try.pinned (OpenSpec.ofChange regionsAreCanonicalSpec)

/-- ITS FALSE NEIGHBOUR: 'it returns false'. Refute it at one input. -/
def regionsAreCanonicalWrong : ChangeSpec := { name := "regionsAreCanonical", fn := fun _ => fun
  | [d] => { results := [.lit (.bool false)], args := [d] }
  | _ => none }
def RegionsAreCanonicalWrongFalsely : Prop := regionsAreCanonicalRow.holds Try.pinned (OpenSpec.ofChange regionsAreCanonicalWrong)

/-- 'etchhouselaw1.SetsAddUp': WHATEVER THE INPUT: true; the input reads as it did. -/
def setsAddUpSpec : ChangeSpec := { name := "setsAddUp", fn := fun _ => fun
  | [d1, d2] => { results := [.lit (.bool true)], args := [d1, d2] }
  | _ => none }
def setsAddUpRow : OpenClaim := { program := "ytmcbjaefnhfopaa", sum := "9311269bdb2881aafe5a3a93e241783bc1482a8ff2371fc797f60e8355f4f74a", func := "etchhouse/etchhouselaw1.SetsAddUp", spec := "setsAddUp", unfollowed := true, recurses := true, plainKeys := false, apart := false }
def SetsAddUpSaid : Prop := setsAddUpRow.holds Try.pinned (OpenSpec.ofChange setsAddUpSpec)

/-- ITS FALSE NEIGHBOUR: 'it returns false'. Refute it at one input. -/
def setsAddUpWrong : ChangeSpec := { name := "setsAddUp", fn := fun _ => fun
  | [d1, d2] => { results := [.lit (.bool false)], args := [d1, d2] }
  | _ => none }
def SetsAddUpWrongFalsely : Prop := setsAddUpRow.holds Try.pinned (OpenSpec.ofChange setsAddUpWrong)

/-- 'etchhouselaw1.SetsByPoints': WHATEVER THE INPUT: true; the input reads as it did. -/
def setsByPointsSpec : ChangeSpec := { name := "setsByPoints", fn := fun _ => fun
  | [d1, d2, d3] => { results := [.lit (.bool true)], args := [d1, d2, d3] }
  | _ => none }
def setsByPointsRow : OpenClaim := { program := "ytmcbjaefnhfopaa", sum := "9311269bdb2881aafe5a3a93e241783bc1482a8ff2371fc797f60e8355f4f74a", func := "etchhouse/etchhouselaw1.SetsByPoints", spec := "setsByPoints", unfollowed := true, recurses := true, plainKeys := false, apart := false }
def SetsByPointsSaid : Prop := setsByPointsRow.holds Try.pinned (OpenSpec.ofChange setsByPointsSpec)

/-- ITS FALSE NEIGHBOUR: 'it returns false'. Refute it at one input. -/
def setsByPointsWrong : ChangeSpec := { name := "setsByPoints", fn := fun _ => fun
  | [d1, d2, d3] => { results := [.lit (.bool false)], args := [d1, d2, d3] }
  | _ => none }
def SetsByPointsWrongFalsely : Prop := setsByPointsRow.holds Try.pinned (OpenSpec.ofChange setsByPointsWrong)

/-- 'etchhouselaw1.GrowsAdd': WHATEVER THE INPUT: true; the input reads as it did. -/
def growsAddSpec : ChangeSpec := { name := "growsAdd", fn := fun _ => fun
  | [d1, d2, d3] => { results := [.lit (.bool true)], args := [d1, d2, d3] }
  | _ => none }
def growsAddRow : OpenClaim := { program := "ytmcbjaefnhfopaa", sum := "9311269bdb2881aafe5a3a93e241783bc1482a8ff2371fc797f60e8355f4f74a", func := "etchhouse/etchhouselaw1.GrowsAdd", spec := "growsAdd", unfollowed := true, recurses := true, plainKeys := false, apart := false }
def GrowsAddSaid : Prop := growsAddRow.holds Try.pinned (OpenSpec.ofChange growsAddSpec)

/-- ITS FALSE NEIGHBOUR: 'it returns false'. Refute it at one input. -/
def growsAddWrong : ChangeSpec := { name := "growsAdd", fn := fun _ => fun
  | [d1, d2, d3] => { results := [.lit (.bool false)], args := [d1, d2, d3] }
  | _ => none }
def GrowsAddWrongFalsely : Prop := growsAddRow.holds Try.pinned (OpenSpec.ofChange growsAddWrong)

/-- 'etchhouselaw1.GrowsByPoints': WHATEVER THE INPUT: true; the input reads as it did. -/
def growsByPointsSpec : ChangeSpec := { name := "growsByPoints", fn := fun _ => fun
  | [d1, d2, d3] => { results := [.lit (.bool true)], args := [d1, d2, d3] }
  | _ => none }
def growsByPointsRow : OpenClaim := { program := "ytmcbjaefnhfopaa", sum := "9311269bdb2881aafe5a3a93e241783bc1482a8ff2371fc797f60e8355f4f74a", func := "etchhouse/etchhouselaw1.GrowsByPoints", spec := "growsByPoints", unfollowed := true, recurses := true, plainKeys := false, apart := false }
def GrowsByPointsSaid : Prop := growsByPointsRow.holds Try.pinned (OpenSpec.ofChange growsByPointsSpec)

/-- ITS FALSE NEIGHBOUR: 'it returns false'. Refute it at one input. -/
def growsByPointsWrong : ChangeSpec := { name := "growsByPoints", fn := fun _ => fun
  | [d1, d2, d3] => { results := [.lit (.bool false)], args := [d1, d2, d3] }
  | _ => none }
def GrowsByPointsWrongFalsely : Prop := growsByPointsRow.holds Try.pinned (OpenSpec.ofChange growsByPointsWrong)

/-- 'etchhouselaw1.TurnedRegionsMatchSpec': WHATEVER THE INPUT: true; the input reads as it did. -/
def turnedRegionsMatchSpecSpec : ChangeSpec := { name := "turnedRegionsMatchSpec", fn := fun _ => fun
  | [d1, d2] => { results := [.lit (.bool true)], args := [d1, d2] }
  | _ => none }
def turnedRegionsMatchSpecRow : OpenClaim := { program := "ytmcbjaefnhfopaa", sum := "9311269bdb2881aafe5a3a93e241783bc1482a8ff2371fc797f60e8355f4f74a", func := "etchhouse/etchhouselaw1.TurnedRegionsMatchSpec", spec := "turnedRegionsMatchSpec", unfollowed := true, recurses := true, plainKeys := false, apart := false }
def TurnedRegionsMatchSpecSaid : Prop := turnedRegionsMatchSpecRow.holds Try.pinned (OpenSpec.ofChange turnedRegionsMatchSpecSpec)

/-- ITS FALSE NEIGHBOUR: 'it returns false'. Refute it at one input. -/
def turnedRegionsMatchSpecWrong : ChangeSpec := { name := "turnedRegionsMatchSpec", fn := fun _ => fun
  | [d1, d2] => { results := [.lit (.bool false)], args := [d1, d2] }
  | _ => none }
def TurnedRegionsMatchSpecWrongFalsely : Prop := turnedRegionsMatchSpecRow.holds Try.pinned (OpenSpec.ofChange turnedRegionsMatchSpecWrong)

/- THE SECOND FORM. 'bulk': how many values and letters a reading holds, each counted each time it is reached (what is shared counts as often as it is met; a slice's spare places count too). A statement '..UptoSaid' is the law's where the arguments, and the package variables that the reading takes, are together of bulk at most 1048576: NARROWER than '..Said'. Prove '..Said' where nothing that the law and all that it calls make is longer than what came in: it says more and counts as full. Else prove '..UptoSaid'. A law counts once. -/
mutual
def uptoBulk {H : Type} : DataW H → Nat
  | .lit (.string bytes) => bytes.length + 1
  | .lit _ => 1
  | .nil => 1
  | .ptr d => uptoBulk d + 1
  | .slice elems spare => uptoBulkAll elems + uptoBulkAll spare + 1
  | .agg parts => uptoBulkAll parts + 1
  | .iface _ d => uptoBulk d + 1
  | .map entries => uptoBulkEntries entries + 1
  | .held _ => 1
def uptoBulkAll {H : Type} : List (DataW H) → Nat
  | [] => 0
  | d :: r => uptoBulk d + uptoBulkAll r
def uptoBulkEntries {H : Type} : List (Lit × DataW H) → Nat
  | [] => 0
  | x :: r => uptoBulkEntry x + uptoBulkEntries r
def uptoBulkEntry {H : Type} : Lit × DataW H → Nat
  | (.string bytes, d) => bytes.length + uptoBulk d + 1
  | (_, d) => uptoBulk d + 1
 end
def uptoSmall : (H : Type) → List (DataW H) → Bool := fun _ ds => decide (uptoBulkAll ds ≤ 1048576)
def OpenSpec.upto (s : _root_.Go.ChangeSpec) : _root_.Go.OpenSpec := { _root_.Go.OpenSpec.ofChange s with cond := some uptoSmall }

/-- 'etchhouselaw1.RegionsMatchSpec', WHERE WHAT IT READS IS OF BULK AT MOST 1048576: true; the input reads as it did. -/
def regionsMatchSpecUptoRow : OpenClaim := { program := "ytmcbjaefnhfopaa", sum := "9311269bdb2881aafe5a3a93e241783bc1482a8ff2371fc797f60e8355f4f74a", func := "etchhouse/etchhouselaw1.RegionsMatchSpec", spec := "regionsMatchSpec", unfollowed := true, recurses := true, plainKeys := false, apart := false, narrowed := true }
def RegionsMatchSpecUptoSaid : Prop := regionsMatchSpecUptoRow.holds Try.pinned (OpenSpec.upto regionsMatchSpecSpec)

/-- 'etchhouselaw1.RegionsAreCanonical', WHERE WHAT IT READS IS OF BULK AT MOST 1048576: true; the input reads as it did. -/
def regionsAreCanonicalUptoRow : OpenClaim := { program := "ytmcbjaefnhfopaa", sum := "9311269bdb2881aafe5a3a93e241783bc1482a8ff2371fc797f60e8355f4f74a", func := "etchhouse/etchhouselaw1.RegionsAreCanonical", spec := "regionsAreCanonical", unfollowed := true, recurses := true, plainKeys := false, apart := false, narrowed := true }
def RegionsAreCanonicalUptoSaid : Prop := regionsAreCanonicalUptoRow.holds Try.pinned (OpenSpec.upto regionsAreCanonicalSpec)

/-- 'etchhouselaw1.SetsAddUp', WHERE WHAT IT READS IS OF BULK AT MOST 1048576: true; the input reads as it did. -/
def setsAddUpUptoRow : OpenClaim := { program := "ytmcbjaefnhfopaa", sum := "9311269bdb2881aafe5a3a93e241783bc1482a8ff2371fc797f60e8355f4f74a", func := "etchhouse/etchhouselaw1.SetsAddUp", spec := "setsAddUp", unfollowed := true, recurses := true, plainKeys := false, apart := false, narrowed := true }
def SetsAddUpUptoSaid : Prop := setsAddUpUptoRow.holds Try.pinned (OpenSpec.upto setsAddUpSpec)

/-- 'etchhouselaw1.SetsByPoints', WHERE WHAT IT READS IS OF BULK AT MOST 1048576: true; the input reads as it did. -/
def setsByPointsUptoRow : OpenClaim := { program := "ytmcbjaefnhfopaa", sum := "9311269bdb2881aafe5a3a93e241783bc1482a8ff2371fc797f60e8355f4f74a", func := "etchhouse/etchhouselaw1.SetsByPoints", spec := "setsByPoints", unfollowed := true, recurses := true, plainKeys := false, apart := false, narrowed := true }
def SetsByPointsUptoSaid : Prop := setsByPointsUptoRow.holds Try.pinned (OpenSpec.upto setsByPointsSpec)

/-- 'etchhouselaw1.GrowsAdd', WHERE WHAT IT READS IS OF BULK AT MOST 1048576: true; the input reads as it did. -/
def growsAddUptoRow : OpenClaim := { program := "ytmcbjaefnhfopaa", sum := "9311269bdb2881aafe5a3a93e241783bc1482a8ff2371fc797f60e8355f4f74a", func := "etchhouse/etchhouselaw1.GrowsAdd", spec := "growsAdd", unfollowed := true, recurses := true, plainKeys := false, apart := false, narrowed := true }
def GrowsAddUptoSaid : Prop := growsAddUptoRow.holds Try.pinned (OpenSpec.upto growsAddSpec)

/-- 'etchhouselaw1.GrowsByPoints', WHERE WHAT IT READS IS OF BULK AT MOST 1048576: true; the input reads as it did. -/
def growsByPointsUptoRow : OpenClaim := { program := "ytmcbjaefnhfopaa", sum := "9311269bdb2881aafe5a3a93e241783bc1482a8ff2371fc797f60e8355f4f74a", func := "etchhouse/etchhouselaw1.GrowsByPoints", spec := "growsByPoints", unfollowed := true, recurses := true, plainKeys := false, apart := false, narrowed := true }
def GrowsByPointsUptoSaid : Prop := growsByPointsUptoRow.holds Try.pinned (OpenSpec.upto growsByPointsSpec)

/-- 'etchhouselaw1.TurnedRegionsMatchSpec', WHERE WHAT IT READS IS OF BULK AT MOST 1048576: true; the input reads as it did. -/
def turnedRegionsMatchSpecUptoRow : OpenClaim := { program := "ytmcbjaefnhfopaa", sum := "9311269bdb2881aafe5a3a93e241783bc1482a8ff2371fc797f60e8355f4f74a", func := "etchhouse/etchhouselaw1.TurnedRegionsMatchSpec", spec := "turnedRegionsMatchSpec", unfollowed := true, recurses := true, plainKeys := false, apart := false, narrowed := true }
def TurnedRegionsMatchSpecUptoSaid : Prop := turnedRegionsMatchSpecUptoRow.holds Try.pinned (OpenSpec.upto turnedRegionsMatchSpecSpec)

end Rows
end Go.Proofs.Ytmcbjaefnhfopaa

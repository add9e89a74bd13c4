/- Maps that the call made, with whatever elements: a map as a function of its keys. -/
import Derived.Maps.Own
import Derived.Maps.OwnSet
import Derived.Maps.Views
import Derived.WalkKit
import Derived.Below
namespace Go.Proofs.Ytdlglnkhhbkndaa
open Go.Maps Go.RowKit
set_option linter.unusedSimpArgs false
set_option linter.unusedVariables false

/-- An element reads as itself. -/
abbrev RV : Value → Option (DataW Value × List MemPlace) := fun v => some (.held v, [])
/-- Block b is a map of at most n entries, and reads as the function f of its keys. -/
def MapV (P : Program) (k : TypeId) (w : World) (b n : Nat) (f : Lit → Option Value) : Prop :=
  ∃ D : DataW Value, w.ownsMap P k RV b n D ∧ IsMap D ∧ ∀ x, WideAt.IsKeyLit x → has D x = (f x).isSome ∧ ∀ v z, f x = some v → D.atKey x z = .held v
open Classical in
noncomputable def putF (f : Lit → Option Value) (k : Lit) (v : Value) : Lit → Option Value := fun x => if x = k then some v else f x
theorem putF_same (f : Lit → Option Value) (k : Lit) (v : Value) : putF f k v k = some v := by simp [putF]
theorem putF_other {f : Lit → Option Value} {k x : Lit} {v : Value} (h : x ≠ k) : putF f k v x = f x := by simp [putF, h]
variable {P : Program} {k : TypeId} {w : World} {b n : Nat} {f : Lit → Option Value}
theorem MapV.made (w : World) (P : Program) (k : TypeId) : MapV P k (w.alloc (.map #[] 0)) w.heap.size 0 (fun _ => none) :=
  ⟨_, World.ownsMap_made _ _ _ _, isMap_empty, fun x _ => ⟨rfl, fun v z h => by cases h⟩⟩
theorem MapV.mono (h : MapV P k w b n f) {m : Nat} (hn : n ≤ m) : MapV P k w b m f := by
  obtain ⟨D, h1, h2⟩ := h
  exact ⟨D, h1.mono hn, h2⟩
theorem MapV.lt (h : MapV P k w b n f) : b < w.heap.size := by
  obtain ⟨D, h1, h2⟩ := h
  exact h1.lt
theorem MapV.kept {w' : World} {row : Option Nat} (h : MapV P k w b n f) (hg : w.grownBy w' row) (hne : some b ≠ row) : MapV P k w' b n f := by
  obtain ⟨D, h1, h2⟩ := h
  exact ⟨D, h1.kept hg hne, h2⟩
theorem MapV.block {w' : World} (h : MapV P k w b n f) (hg : w'.heap[b]? = w.heap[b]?) : MapV P k w' b n f := by
  obtain ⟨D, ⟨es, clock, hb, F, hs, hD⟩, h2⟩ := h
  exact ⟨D, ⟨es, clock, hg.trans hb, F, hs, hD⟩, h2⟩
theorem MapV.alloc (h : MapV P k w b n f) (o : Obj) : MapV P k (w.alloc o) b n f := by
  obtain ⟨D, h1, h2⟩ := h
  exact ⟨D, h1.alloc o, h2⟩
theorem MapV.drew (h : MapV P k w b n f) : MapV P k w.drew b n f := h
theorem MapV.below {w' : World} (h : MapV P k w b n f) (hb : Below w.heap.size w w') : MapV P k w' b n f := h.block (hb.block b h.lt)

section
variable {ops : Array Oper} {rest : List Oper} {o : Oper} {a : Act} {Q : Exit → Act → World → Prop}
/-- 'm[k] = v'. -/
theorem wpList_put_mapV (hg : o.guard = none) (m x v : Operand) (t : TypeId) (hop : o.op = Op.mapUpdate t m x v)
    (k e : TypeId) (K : Keyed P k) (ht : P.underlying t = some (.map k e)) (b n : Nat) (f : Lit → Option Value)
    (hm : a.eval m = .map (some b)) (hown : MapV P k w b n f) (hn : n < maxLen) (key val : Value) (kl : Lit) (hx : a.eval x = key) (hv : a.eval v = val) (hkey : keyOf P k key = some kl)
    (hK : ∀ w', MapV P k w' b (n + 1) (putF f kl val) → w.grownBy w' (some b) → wpList P ops Q rest (a.put o.dst undef) w') :
    wpList P ops Q (o :: rest) a w := by
  obtain ⟨D, h1, h2, h3⟩ := hown
  refine wpList_mapUpdate_own w hg m x v t hop k e K ht RV b n D hm h1 hn key val kl hx hv hkey (.held val) [] rfl fun w' r1 r2 => hK w' ⟨_, r1, h2.put _ _, fun y hy => ?_⟩ r2
  by_cases hyk : y = kl
  · subst hyk
    rw [putF_same]
    exact ⟨has_put_same h2 hy _, fun v' z hv' => by cases hv'; exact atKey_put_same h2 hy _ _⟩
  · rw [putF_other hyk, has_put_other hyk]
    refine ⟨(h3 y hy).1, fun v' z hv' => ?_⟩
    rw [atKey_put_other hyk]
    exact (h3 y hy).2 v' z hv'
/-- 'v, ok := m[k]', of what is there. -/
theorem wpList_got_mapV (hg : o.guard = none) (m x : Operand) (t : TypeId) (hop : o.op = Op.lookup t m x true)
    (k e : TypeId) (K : Keyed P k) (ht : P.underlying t = some (.map k e)) {z : Value} (hz : (zeroValue e).run P w = .ok z w) (b n : Nat) (f : Lit → Option Value)
    (hm : a.eval m = .map (some b)) (hown : MapV P k w b n f) (key : Value) (kl : Lit) (hx : a.eval x = key) (hkey : keyOf P k key = some kl) (val : Value) (hf : f kl = some val)
    (hK : wpList P ops Q rest (a.put o.dst (.tuple #[val, .bool true])) w) :
    wpList P ops Q (o :: rest) a w := by
  obtain ⟨D, h1, h2, h3⟩ := hown
  refine wpList_lookup_own_ok w hg m x t hop k e K ht RV hz (.held z) [] rfl b n D hm h1 key kl hx hkey fun v ps hv => ?_
  obtain ⟨g1, g2⟩ := h3 kl (K.key hkey)
  rw [g2 val _ hf] at hv
  simp only [Option.some.injEq, Prod.mk.injEq, DataW.held.injEq] at hv
  obtain ⟨rfl, _⟩ := hv
  rw [g1, hf]
  exact hK
/-- 'v, ok := m[k]', of what is not there. -/
theorem wpList_lacks_mapV (hg : o.guard = none) (m x : Operand) (t : TypeId) (hop : o.op = Op.lookup t m x true)
    (k e : TypeId) (K : Keyed P k) (ht : P.underlying t = some (.map k e)) {z : Value} (hz : (zeroValue e).run P w = .ok z w) (b n : Nat) (f : Lit → Option Value)
    (hm : a.eval m = .map (some b)) (hown : MapV P k w b n f) (key : Value) (kl : Lit) (hx : a.eval x = key) (hkey : keyOf P k key = some kl) (hf : f kl = none)
    (hK : wpList P ops Q rest (a.put o.dst (.tuple #[z, .bool false])) w) :
    wpList P ops Q (o :: rest) a w := by
  obtain ⟨D, h1, h2, h3⟩ := hown
  refine wpList_lookup_own_ok w hg m x t hop k e K ht RV hz (.held z) [] rfl b n D hm h1 key kl hx hkey fun v ps hv => ?_
  obtain ⟨g1, g2⟩ := h3 kl (K.key hkey)
  rw [hf] at g1
  rw [atKey_of_not_has (by simpa using g1)] at hv
  simp only [Option.some.injEq, Prod.mk.injEq, DataW.held.injEq] at hv
  obtain ⟨rfl, _⟩ := hv
  rw [g1]
  exact hK
/-- 'v := m[k]', of what is there. -/
theorem MapV.run_got {t e : TypeId} (h : MapV P k w b n f) (K : Keyed P k) (ht : P.underlying t = some (.map k e)) {z : Value} (hz : (zeroValue e).run P w = .ok z w) {key : Value} {kl : Lit} (hkey : keyOf P k key = some kl) {val : Value} (hf : f kl = some val) :
    (Instr.lookup t (.map (some b)) key false).run P w = .ok val w := by
  obtain ⟨D, h1, h2, h3⟩ := h
  obtain ⟨v, ps, hrun, hv⟩ := h1.lookup K ht hz (zd := .held z) (zp := []) rfl hkey
  obtain ⟨g1, g2⟩ := h3 kl (K.key hkey)
  rw [g2 val _ hf] at hv
  simp only [Option.some.injEq, Prod.mk.injEq, DataW.held.injEq] at hv
  obtain ⟨rfl, _⟩ := hv
  exact hrun
/-- 'v := m[k]', of what is not there. -/
theorem MapV.run_lacks {t e : TypeId} (h : MapV P k w b n f) (K : Keyed P k) (ht : P.underlying t = some (.map k e)) {z : Value} (hz : (zeroValue e).run P w = .ok z w) {key : Value} {kl : Lit} (hkey : keyOf P k key = some kl) (hf : f kl = none) :
    (Instr.lookup t (.map (some b)) key false).run P w = .ok z w := by
  obtain ⟨D, h1, h2, h3⟩ := h
  obtain ⟨v, ps, hrun, hv⟩ := h1.lookup K ht hz (zd := .held z) (zp := []) rfl hkey
  obtain ⟨g1, g2⟩ := h3 kl (K.key hkey)
  rw [hf] at g1
  rw [atKey_of_not_has (by simpa using g1)] at hv
  simp only [Option.some.injEq, Prod.mk.injEq, DataW.held.injEq] at hv
  obtain ⟨rfl, _⟩ := hv
  exact hrun
end
end Go.Proofs.Ytdlglnkhhbkndaa

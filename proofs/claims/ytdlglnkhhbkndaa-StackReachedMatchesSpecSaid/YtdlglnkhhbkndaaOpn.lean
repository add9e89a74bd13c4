/- Slices of whatever elements: how they read, and how they are opened where they came in. -/
import Derived.Test.YtdlglnkhhbkndaaBas
import Derived.ChangeSlices
import Derived.SizedLaws
import Derived.ChangeBears2
import Derived.OpenShut
namespace Go.Proofs.Ytdlglnkhhbkndaa
open Go.ChangeShapes Go.WideShapes Go.ChangeAt Go.RowKit
set_option linter.unusedSimpArgs false
set_option linter.unusedVariables false
set_option maxRecDepth 100000

/-- A slice reads as a list; of each element 'cells' tells what lies in its cells. -/
def RdG {α : Type} (size : Nat) (cells : α → List Value) (w : World) (A : Option Addr) (L : List α) : Prop :=
  0 < L.length → ∃ b off, A = some ⟨b, off, none⟩ ∧ b < w.heap.size ∧ ∀ i x, L[i]? = some x → ∀ j v, (cells x)[j]? = some v → w.cell? ⟨b, off + i * size + j, none⟩ = some v
theorem RdG.below {α : Type} {size : Nat} {cells : α → List Value} {w w' : World} {A : Option Addr} {L : List α} (h : RdG size cells w A L) (hb : Below w.heap.size w w') : RdG size cells w' A L := fun hn => by
  obtain ⟨b, off, e, hlt, hc⟩ := h hn
  refine ⟨b, off, e, Nat.lt_of_lt_of_le hlt hb.size, fun i x hi j v hj => ?_⟩
  exact (World.cell?_of_block (a := ⟨b, _, none⟩) (hb.block b hlt)).trans (hc i x hi j v hj)
theorem RdG.nil {α : Type} {size : Nat} {cells : α → List Value} (w : World) (A : Option Addr) : RdG size cells w A ([] : List α) := fun h => absurd h (by simp)

section
variable {H : Type} {enc : TypeId × Value → H} {w : World} {base : Nat} {held : Bool} {P : Program}
/-- The cells of a slice that came in. -/
theorem list_cells {α : Type} {T E : TypeId} {size : Nat} {cells : α → List Value} {R : α → DataW H → Prop} (hT : P.underlying T = some (.slice E)) (hE : P.cellsOf E = size) (hs : 0 < size) (hcl : ∀ x, (cells x).length = size)
    (he : ∀ (fuel : Nat) (cs : List Value) (y : DataW H × List MemPlace), DataW.trod enc P w base (fun _ => true) held fuel E cs = some y → ∃ x, cs = cells x ∧ R x y.1)
    {cs : List Value} {fuel : Nat} {x : DataW H × List MemPlace} (h : DataW.trod enc P w base (fun _ => true) held fuel T cs = some x) :
    ∃ A L c, cs = [.slice A L.length c] ∧ L.length ≤ c ∧ c ≤ maxLen ∧ RdG size cells w A L ∧ (A = none → c = 0) ∧
      ((c = 0 ∧ L = []) ∨ ∃ es rest, x.1 = .slice es rest ∧ es.length + rest.length = c ∧ es.length = L.length ∧ ∀ (i : Nat) (a : α) (d : DataW H), L[i]? = some a → es[i]? = some d → R a d) := by
  rcases DataW.trod_slice hT h with ⟨hcs, hx⟩ | ⟨a, len, cap, elems, rest, n, _, hcs, hx, hb, hl, hm, hlen, hel, hsp, hns⟩
  · exact ⟨none, [], 0, hcs, Nat.le_refl _, by unfold maxLen; omega, RdG.nil _ _, fun _ => rfl, .inl ⟨rfl, rfl⟩⟩
  · subst hx
    have each : ∀ i, i < len → ∃ q : α, w.cells? base (a.add (i * size)) size = some (cells q) ∧ ∀ d, elems[i]? = some d → R q d.1 := by
      intro i hi
      have h1 := hel i hi
      rw [hE, List.getElem?_eq_getElem (by omega), Option.bind_eq_some_iff] at h1
      obtain ⟨cs', hcs', hy⟩ := h1
      obtain ⟨q, rfl, hq⟩ := he _ _ _ hy
      refine ⟨q, hcs', fun d hd => ?_⟩
      rw [List.getElem?_eq_getElem (by omega)] at hd
      cases hd
      exact hq
    obtain ⟨l, hll, hcell⟩ : ∃ l : List α, l.length = len ∧ ∀ (i : Nat) (q : α), l[i]? = some q → w.cells? base (a.add (i * size)) size = some (cells q) ∧ ∀ d, elems[i]? = some d → R q d.1 := by
      refine ⟨(List.range len).pmap (fun i (hi : i < len) => Classical.choose (each i hi)) (fun i hi => List.mem_range.1 hi), by simp, fun i q hq => ?_⟩
      rw [List.getElem?_pmap] at hq
      by_cases hi : i < len
      · rw [Option.pmap_eq_some_iff] at hq
        obtain ⟨j, hj, hj2, rfl⟩ := hq
        have e : j = i := by
          rw [List.getElem?_range hi] at hj2
          exact (Option.some.inj hj2).symm
        subst e
        exact Classical.choose_spec (each j hj)
      · rw [Option.pmap_eq_some_iff] at hq
        obtain ⟨j, hj, hj2, rfl⟩ := hq
        rw [List.getElem?_eq_none (by simp; omega)] at hj2
        cases hj2
    subst hll
    refine ⟨some a, l, cap, hcs, hl, hm, ?_, (fun e => by cases e), .inr ⟨_, _, rfl, ?_, by simp [hlen], ?_⟩⟩
    · intro hpos
      have get : ∀ (i : Nat) (q : α), l[i]? = some q → ∀ (j : Nat) (c : Value), (cells q)[j]? = some c → w.cell? ((a.add (i * size)).add j) = some c := by
        intro i q hq j c hc
        obtain ⟨_, _, h1⟩ := World.cells?_some (hcell i q hq).1
        have hj : j < size := by rw [← hcl q]; exact (List.getElem?_eq_some_iff.1 hc).1
        exact (h1 j hj).trans hc
      obtain ⟨b, off, spot⟩ := a
      obtain ⟨q, hq⟩ : ∃ q, l[0]? = some q := ⟨_, List.getElem?_eq_getElem hpos⟩
      have hc0 : (cells q)[0]? = some ((cells q)[0]'(by rw [hcl]; exact hs)) := List.getElem?_eq_getElem _
      have hspot : spot = none := by
        have h2 := World.cell?_spot (get 0 q hq 0 _ hc0)
        simpa [Addr.add] using h2
      subst hspot
      have hlt : b < w.heap.size := by
        simpa [Addr.add] using World.cells?_block (hcell 0 q hq).1 (by omega)
      refine ⟨b, off, rfl, hlt, fun i q hq j c hc => ?_⟩
      simpa [add_plain] using get i q hq j c hc
    · have := (hsp rfl).1
      simp only [List.length_map]
      omega
    · intro i q d hq hd
      rw [List.getElem?_map] at hd
      obtain ⟨d', hd', rfl⟩ := Option.map_eq_some_iff.1 hd
      exact (hcell i q hq).2 d' hd'
end
end Go.Proofs.Ytdlglnkhhbkndaa

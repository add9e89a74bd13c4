/- A slice of regions: how it reads, and how an argument of this kind is opened. -/
import Derived.Test.YtkjbllhobannpaaOpens
import Derived.Test.YtkjbllhobannpaaGapP
import Derived.Deep.Slices
namespace Go.Proofs.Ytkjbllhobannpaa
open Go.ChangeShapes Go.WideShapes Go.ChangeAt Go.RowKit
open Reg (R4)
set_option linter.unusedSimpArgs false
set_option linter.unusedVariables false
set_option maxRecDepth 100000

/-- A slice of slices of rectangles reads as lists; of the i-th one 'hd i' tells where it lies, and its capacity. -/
def RdM (w : World) (A : Option Addr) (L : List (List R4)) (hd : Nat → Option Addr × Nat) : Prop :=
  (0 < L.length → ∃ b off, A = some ⟨b, off, none⟩ ∧ b < w.heap.size ∧ ∀ i l, L[i]? = some l → w.cell? ⟨b, off + i, none⟩ = some (.slice (hd i).1 l.length (hd i).2)) ∧
  ∀ i l, L[i]? = some l → Rd w (hd i).1 l ∧ l.length ≤ (hd i).2 ∧ (hd i).2 ≤ 140737488355328
theorem RdM.below {w w' : World} {A : Option Addr} {L : List (List R4)} {hd : Nat → Option Addr × Nat} (h : RdM w A L hd) (hb : Below w.heap.size w w') : RdM w' A L hd := by
  refine ⟨fun hn => ?_, fun i l hi => ?_⟩
  · obtain ⟨b, off, e, hlt, hc⟩ := h.1 hn
    exact ⟨b, off, e, Nat.lt_of_lt_of_le hlt hb.size, fun i l hi => ((bcell hb).1 _ _ hlt).trans (hc i l hi)⟩
  · obtain ⟨h1, h2, h3⟩ := h.2 i l hi
    exact ⟨h1.below hb, h2, h3⟩

theorem cell_lt {w : World} {a : Addr} {v : Value} (h : w.cell? a = some v) : a.block < w.heap.size := by
  rcases Nat.lt_or_ge a.block w.heap.size with h1 | h1
  · exact h1
  · have h2 : w.heap[a.block]? = none := by simp [h1]
    simp [World.cell?, h2] at h
theorem cells_rects : Try.prog.cellsOf 22 = 1 := by kernel_rfl

section
variable {H : Type} {enc : TypeId × Value → H} {w : World} {base : Nat} {held : Bool} {r : Reach} {b0 : Nat} {v : Value} {d : DataW H} {p : List MemPlace}
theorem rects_cells {cs : List Value} {fuel : Nat} {x : DataW H × List MemPlace} (h : DataW.trod enc Try.prog w base (fun _ => true) held fuel 22 cs = some x) :
    ∃ A l c, cs = [.slice A l.length c] ∧ l.length ≤ c ∧ Rd w A l ∧ (c = 0 ∨ ∃ es rest, x.1 = .slice es rest ∧ es.length + rest.length = c) := by
  rcases DataW.trod_slice Try.underlying22 h with ⟨hcs, hx⟩ | ⟨a, len, cap, elems, rest, n, _, hcs, hx, hb, hl, hm, hlen, hel, hsp, hns⟩
  · exact ⟨none, [], 0, hcs, Nat.le_refl _, fun h => absurd h (by simp), .inl rfl⟩
  · subst hx
    have each : ∀ i, i < len → ∃ q : R4, w.cells? base (a.add (i * 4)) 4 = some [.int .i64 q.x0, .int .i64 q.y0, .int .i64 q.x1, .int .i64 q.y1] := by
      intro i hi
      have h1 := hel i hi
      rw [cells_rect, List.getElem?_eq_getElem (by omega), Option.bind_eq_some_iff] at h1
      obtain ⟨cs', hcs, hy⟩ := h1
      obtain ⟨q, rfl⟩ := rect_cells hy
      exact ⟨q, hcs⟩
    have hex : ∃ l : List R4, l.length = len ∧ ∀ i q, l[i]? = some q → w.cells? base (a.add (i * 4)) 4 = some [.int .i64 q.x0, .int .i64 q.y0, .int .i64 q.x1, .int .i64 q.y1] := by
      refine ⟨(List.range len).map fun i => if hi : i < len then Classical.choose (each i hi) else default, by simp, fun i q hq => ?_⟩
      simp only [List.getElem?_map, Option.map_eq_some_iff] at hq
      obtain ⟨j, hj, e⟩ := hq
      obtain ⟨hj1, hj2⟩ := List.getElem?_eq_some_iff.1 hj
      simp at hj1 hj2
      subst hj2
      rw [dif_pos hj1] at e
      subst e
      exact Classical.choose_spec (each i hj1)
    obtain ⟨l, rfl, hcell⟩ := hex
    refine ⟨some a, l, cap, hcs, hl, ?_, .inr ⟨_, _, rfl, ?_⟩⟩
    · intro hpos
      have get : ∀ i q, l[i]? = some q → ∀ j c, [Value.int .i64 q.x0, .int .i64 q.y0, .int .i64 q.x1, .int .i64 q.y1][j]? = some c → w.cell? ((a.add (i * 4)).add j) = some c := by
        intro i q hq j c hc
        obtain ⟨_, _, h1⟩ := World.cells?_some (hcell i q hq)
        have hj : j < 4 := by simpa using (List.getElem?_eq_some_iff.1 hc).1
        exact (h1 j hj).trans hc
      obtain ⟨b, off, spot⟩ := a
      have hspot : spot = none := by
        obtain ⟨q, hq⟩ : ∃ q, l[0]? = some q := ⟨_, List.getElem?_eq_getElem hpos⟩
        have h1 := get 0 q hq 0 _ rfl
        have h2 := World.cell?_spot h1
        simpa [Addr.add] using h2
      subst hspot
      have hlt : b < w.heap.size := by
        obtain ⟨q, hq⟩ : ∃ q, l[0]? = some q := ⟨_, List.getElem?_eq_getElem hpos⟩
        simpa [Addr.add] using World.cells?_block (hcell 0 q hq) (by decide)
      refine ⟨b, off, rfl, hlt, fun i q hq => ?_⟩
      have g := get i q hq
      exact ⟨by simpa [add_plain] using g 0 _ rfl, by simpa [add_plain] using g 1 _ rfl, by simpa [add_plain] using g 2 _ rfl, by simpa [add_plain] using g 3 _ rfl⟩
    · have := (hsp rfl).1
      simp only [List.length_map]
      omega
theorem weights_all {P : Program} {e : TypeId} {d : DataW H} {n : Nat} : ∀ {l : List (DataW H)}, d ∈ l → n ∈ d.weights P e → n ∈ DataW.weightsAll P e l
  | [], h, _ => by cases h
  | x :: l, h, hn => by
    simp only [DataW.weightsAll, List.mem_append]
    rcases List.mem_cons.1 h with rfl | h
    · exact .inl hn
    · exact .inr (weights_all h hn)
/-- A slice of slices of rectangles that came in. -/
theorem open_regions {ts : List TypeId} {ds : List (DataW H)} (hv : Value.okWide Try.prog w r b0 23 v) (h : DataW.Trod enc Try.prog w base (fun _ => true) held 23 v d p)
    (hs : (DataW.weightsEach Try.prog ts ds).all (· ≤ reachBytes) = true) {j : Nat} (ht : ts[j]? = some 23) (hd : ds[j]? = some d) :
    ∃ A L c hd, v = .slice A L.length c ∧ L.length ≤ c ∧ c ≤ 140737488355328 ∧ RdM w A L hd := by
  obtain ⟨A, len, cap, rfl⟩ := okWide_slice Try.underlying23 hv
  obtain ⟨fuel, hf⟩ := h
  rcases Deep.open_slice1 Try.underlying23 cells_rects hf with ⟨hcs, hx⟩ | ⟨a, len', cap', m, n, V, D, Pl, hcs, hb, hl, hm, hmm, hx, hel⟩
  · simp [Value.cells] at hcs
    obtain ⟨rfl, rfl, rfl⟩ := hcs
    exact ⟨none, [], 0, fun _ => (none, 0), rfl, Nat.le_refl _, by omega, fun h => absurd h (by simp), fun i l hi => by simp at hi⟩
  · simp [Value.cells] at hcs
    obtain ⟨rfl, rfl, rfl⟩ := hcs
    simp only [if_true] at hmm
    subst hmm
    simp only [Prod.mk.injEq] at hx
    obtain ⟨rfl, rfl⟩ := hx
    have hcap : m ≤ 140737488355328 := by
      have := sized_slice hs ht hd Try.underlying23
      simp only [List.length_map, List.length_range] at this
      rw [show Try.prog.bytesOf 22 = 24 from by kernel_rfl] at this
      simp only [reachBytes] at this
      omega
    have each : ∀ i, i < len → ∃ y : Option Addr × List R4 × Nat, w.cell? (a.add i) = some (.slice y.1 y.2.1.length y.2.2) ∧ Rd w y.1 y.2.1 ∧ y.2.1.length ≤ y.2.2 ∧ y.2.2 ≤ 140737488355328 := by
      intro i hi
      obtain ⟨h1, h2⟩ := hel i (by omega)
      obtain ⟨A', l', c', e, hl', hr', hc'⟩ := rects_cells h2
      simp at e
      refine ⟨(A', l', c'), by rw [h1, e], hr', hl', ?_⟩
      show c' ≤ _
      rcases hc' with rfl | ⟨es, rest, e2, rfl⟩
      · omega
      · simp only at e2
        have hmem : (es.length + rest.length) * 32 ∈ DataW.weightsEach Try.prog ts ds := by
          refine DataW.weights_mem_each ht hd _ ?_
          have hw : (es.length + rest.length) * 32 ∈ DataW.weightsAll Try.prog 22 ((List.range len).map D) := by
            refine weights_all (d := D i) (List.mem_map.2 ⟨i, List.mem_range.2 hi, rfl⟩) ?_
            rw [e2]
            simp [DataW.weights, Try.underlying22, bytes_rect]
          simp only [DataW.weights, Try.underlying23, List.mem_cons, List.mem_append]
          exact .inr (.inl hw)
        have h9 := List.all_eq_true.1 hs _ hmem
        have h8 : (es.length + rest.length) * 32 ≤ reachBytes := by simpa using h9
        simp only [reachBytes] at h8
        omega
    obtain ⟨Y, hY⟩ := Deep.choose_lt each
    refine ⟨some a, (List.range len).map fun i => (Y i).2.1, m, fun i => ((Y i).1, (Y i).2.2), by simp, by simpa using hl, hcap, fun hpos => ?_, fun i l hi => ?_⟩
    · have hpos' : 0 < len := by simpa using hpos
      obtain ⟨b, off, spot⟩ := a
      have h0 := (hY 0 hpos').1
      have hspot : spot = none := by
        have h2 := World.cell?_spot h0
        simpa [Addr.add] using h2
      subst hspot
      have hlt : b < w.heap.size := by
        have := cell_lt h0
        simpa [Addr.add] using this
      refine ⟨b, off, rfl, hlt, fun i l hi => ?_⟩
      have hi' : i < len := by
        have := (List.getElem?_eq_some_iff.1 hi).1
        simpa using this
      have hl2 : (Y i).2.1 = l := by simpa [List.getElem?_map, List.getElem?_range hi'] using hi
      have := (hY i hi').1
      rw [hl2] at this
      simpa [add_plain] using this
    · have hi' : i < len := by
        have := (List.getElem?_eq_some_iff.1 hi).1
        simpa using this
      have hl2 : (Y i).2.1 = l := by simpa [List.getElem?_map, List.getElem?_range hi'] using hi
      obtain ⟨_, h2, h3, h4⟩ := hY i hi'
      rw [hl2] at h2 h3
      exact ⟨h2, h3, h4⟩
end
end Go.Proofs.Ytkjbllhobannpaa

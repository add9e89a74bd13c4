/- The arguments of the laws, opened: slices of rectangles, points, numbers. -/
import Derived.Test.YtmgcahoamcheoaaShapeA
import Derived.ChangeSlices
import Derived.SizedLaws
import Derived.ChangeBears2
import Derived.OpenShut
namespace Go.Proofs.Ytmgcahoamcheoaa
open Go.ChangeShapes Go.WideShapes Go.ChangeAt Go.RowKit
open Reg (R4)
set_option linter.unusedSimpArgs false
set_option linter.unusedVariables false
set_option maxRecDepth 100000

theorem own : ownKnob Try.prog.godebug = none := by kernel_rfl
theorem laidOut : laidOutB Try.prog = true := by kernel_rfl
theorem cells_rect : Try.prog.cellsOf 27 = 4 := by kernel_rfl
theorem bytes_rect : Try.prog.bytesOf 27 = 32 := by kernel_rfl
theorem cells_point : Try.prog.cellsOf 23 = 2 := by kernel_rfl
theorem cells_int : Try.prog.cellsOf 3 = 1 := by kernel_rfl
instance : Inhabited R4 := ⟨⟨0, 0, 0, 0⟩⟩

section
variable {H : Type} {enc : TypeId × Value → H} {w : World} {base : Nat} {spare : Nat → Bool} {held : Bool} {r : Reach} {b0 : Nat} {v : Value} {d : DataW H} {p : List MemPlace}
theorem rect_cells {cs : List Value} {fuel : Nat} {x : DataW H × List MemPlace} (h : DataW.trod enc Try.prog w base spare held fuel 27 cs = some x) : ∃ q : R4, cs = [.int .i64 q.x0, .int .i64 q.y0, .int .i64 q.x1, .int .i64 q.y1] := by
  obtain ⟨xs, n, _, hx, hl, hlen, hg⟩ := DataW.trod_struct Try.underlying27 h
  rw [cells_rect] at hl
  match cs, hl with
  | [c0, c1, c2, c3], _ =>
    have g0 := hg 0 _ rfl
    have g1 := hg 1 _ rfl
    have g2 := hg 2 _ rfl
    have g3 := hg 3 _ rfl
    have i0 : 0 < xs.length := by rw [hlen]; decide
    have i1 : 1 < xs.length := by rw [hlen]; decide
    have i2 : 2 < xs.length := by rw [hlen]; decide
    have i3 : 3 < xs.length := by rw [hlen]; decide
    rw [List.getElem?_eq_getElem i0] at g0
    rw [List.getElem?_eq_getElem i1] at g1
    rw [List.getElem?_eq_getElem i2] at g2
    rw [List.getElem?_eq_getElem i3] at g3
    simp [cells_int] at g0 g1 g2 g3
    obtain ⟨a, e0, _⟩ := DataW.trod_int Try.underlying3 g0
    obtain ⟨b, e1, _⟩ := DataW.trod_int Try.underlying3 g1
    obtain ⟨c, e2, _⟩ := DataW.trod_int Try.underlying3 g2
    obtain ⟨d, e3, _⟩ := DataW.trod_int Try.underlying3 g3
    simp at e0 e1 e2 e3
    subst e0 e1 e2 e3
    exact ⟨⟨a, b, c, d⟩, rfl⟩
theorem point_cells {cs : List Value} {fuel : Nat} {x : DataW H × List MemPlace} (h : DataW.trod enc Try.prog w base spare held fuel 23 cs = some x) : ∃ a b : Int, cs = [.int .i64 a, .int .i64 b] := by
  obtain ⟨xs, n, _, hx, hl, hlen, hg⟩ := DataW.trod_struct Try.underlying23 h
  rw [cells_point] at hl
  match cs, hl with
  | [c0, c1], _ =>
    have g0 := hg 0 _ rfl
    have g1 := hg 1 _ rfl
    have i0 : 0 < xs.length := by rw [hlen]; decide
    have i1 : 1 < xs.length := by rw [hlen]; decide
    rw [List.getElem?_eq_getElem i0] at g0
    rw [List.getElem?_eq_getElem i1] at g1
    simp [cells_int] at g0 g1
    obtain ⟨a, e0, _⟩ := DataW.trod_int Try.underlying3 g0
    obtain ⟨b, e1, _⟩ := DataW.trod_int Try.underlying3 g1
    simp at e0 e1
    subst e0 e1
    exact ⟨a, b, rfl⟩
theorem open_point (hv : Value.okWide Try.prog w r b0 23 v) (h : DataW.Trod enc Try.prog w base spare held 23 v d p) : ∃ a b : Int, v = .agg #[.int .i64 a, .int .i64 b] := by
  obtain ⟨cs, rfl, hsz⟩ := okWide_struct Try.underlying23 hv
  obtain ⟨l⟩ := cs
  obtain ⟨fuel, hf⟩ := h
  obtain ⟨a, b, e⟩ := point_cells hf
  simp [Value.cells] at e
  subst e
  exact ⟨a, b, rfl⟩
theorem open_int (h : DataW.Trod enc Try.prog w base spare held 3 v d p) (hv : Value.okWide Try.prog w r b0 3 v) : ∃ a : Int, v = .int .i64 a ∧ (Lit.int .i64 a).wf = true := by
  obtain ⟨fuel, hf⟩ := h
  obtain ⟨m, hm, _, hw⟩ := DataW.trod_int Try.underlying3 hf
  obtain ⟨a, rfl⟩ := okWide_int Try.underlying3 hv
  simp [Value.cells] at hm
  subst hm
  exact ⟨_, rfl, hw⟩
/-- A slice of rectangles that came in. -/
theorem open_rects (hv : Value.okWide Try.prog w r b0 35 v) (h : DataW.Trod enc Try.prog w base (fun _ => true) held 35 v d p) :
    ∃ A l c, v = .slice A l.length c ∧ l.length ≤ c ∧ Rd w A l ∧ (c = 0 ∨ ∃ es rest, d = .slice es rest ∧ es.length + rest.length = c) := by
  obtain ⟨A, len, cap, rfl⟩ := okWide_slice Try.underlying35 hv
  obtain ⟨fuel, hf⟩ := h
  rcases DataW.trod_slice Try.underlying35 hf with ⟨hcs, hx⟩ | ⟨a, len', cap', elems, rest, n, _, hcs, hx, hb, hl, hm, hlen, hel, hsp, hns⟩
  · simp [Value.cells] at hcs
    obtain ⟨rfl, rfl, rfl⟩ := hcs
    exact ⟨none, [], 0, rfl, Nat.le_refl _, fun h => absurd h (by simp), .inl rfl⟩
  · simp [Value.cells] at hcs
    obtain ⟨rfl, rfl, rfl⟩ := hcs
    simp only [Prod.mk.injEq] at hx
    obtain ⟨rfl, rfl⟩ := hx
    have each : ∀ i, i < len → ∃ q : R4, w.cells? base (a.add (i * 4)) 4 = some [.int .i64 q.x0, .int .i64 q.y0, .int .i64 q.x1, .int .i64 q.y1] := by
      intro i hi
      have h1 := hel i hi
      rw [cells_rect, List.getElem?_eq_getElem (by omega), Option.bind_eq_some_iff] at h1
      obtain ⟨cs', hcs, hy⟩ := h1
      obtain ⟨q, rfl⟩ := rect_cells hy
      exact ⟨q, hcs⟩
    have hex : ∃ l : List R4, l.length = len ∧ ∀ i q, l[i]? = some q → w.cells? base (a.add (i * 4)) 4 = some [.int .i64 q.x0, .int .i64 q.y0, .int .i64 q.x1, .int .i64 q.y1] := by
      refine ⟨(List.range len).map fun i => if hi : i < len then Classical.choose (each i hi) else default, by simp, fun i q hq => ?_⟩
      simp only [List.getElem?_map, Option.map_eq_some_iff] at hq
      obtain ⟨j, hj, e⟩ := hq
      obtain ⟨hj1, hj2⟩ := List.getElem?_eq_some_iff.1 hj
      simp at hj1 hj2
      subst hj2
      rw [dif_pos hj1] at e
      subst e
      exact Classical.choose_spec (each i hj1)
    obtain ⟨l, rfl, hcell⟩ := hex
    refine ⟨some a, l, cap, rfl, hl, ?_, .inr ⟨_, _, rfl, ?_⟩⟩
    · intro hpos
      have get : ∀ i q, l[i]? = some q → ∀ j c, [Value.int .i64 q.x0, .int .i64 q.y0, .int .i64 q.x1, .int .i64 q.y1][j]? = some c → w.cell? ((a.add (i * 4)).add j) = some c := by
        intro i q hq j c hc
        obtain ⟨_, _, h1⟩ := World.cells?_some (hcell i q hq)
        have hj : j < 4 := by simpa using (List.getElem?_eq_some_iff.1 hc).1
        exact (h1 j hj).trans hc
      obtain ⟨b, off, spot⟩ := a
      have hspot : spot = none := by
        obtain ⟨q, hq⟩ : ∃ q, l[0]? = some q := ⟨_, List.getElem?_eq_getElem hpos⟩
        have h1 := get 0 q hq 0 _ rfl
        have h2 := World.cell?_spot h1
        simpa [Addr.add] using h2
      subst hspot
      have hlt : b < w.heap.size := by
        obtain ⟨q, hq⟩ : ∃ q, l[0]? = some q := ⟨_, List.getElem?_eq_getElem hpos⟩
        simpa [Addr.add] using World.cells?_block (hcell 0 q hq) (by decide)
      refine ⟨b, off, rfl, hlt, fun i q hq => ?_⟩
      have g := get i q hq
      exact ⟨by simpa [add_plain] using g 0 _ rfl, by simpa [add_plain] using g 1 _ rfl, by simpa [add_plain] using g 2 _ rfl, by simpa [add_plain] using g 3 _ rfl⟩
    · have := (hsp rfl).1
      simp only [List.length_map]
      omega
end
/-- Room of a slice of rectangles that came in. -/
theorem rects_room {H : Type} {ts : List TypeId} {ds : List (DataW H)} (h : (DataW.weightsEach Try.prog ts ds).all (· ≤ reachBytes) = true) {j c : Nat} {d : DataW H} (ht : ts[j]? = some 35) (hd : ds[j]? = some d)
    (hc : c = 0 ∨ ∃ es rest, d = .slice es rest ∧ es.length + rest.length = c) : c ≤ 140737488355328 := by
  rcases hc with rfl | ⟨es, rest, rfl, rfl⟩
  · omega
  · have := sized_slice h ht hd Try.underlying35
    rw [bytes_rect] at this
    simp only [reachBytes] at this
    omega
end Go.Proofs.Ytmgcahoamcheoaa

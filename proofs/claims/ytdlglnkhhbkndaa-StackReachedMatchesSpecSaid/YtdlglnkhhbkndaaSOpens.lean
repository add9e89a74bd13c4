/- The arguments of the laws of chapter 4, opened. -/
import Derived.Test.YtdlglnkhhbkndaaStkF
import Derived.Test.YtdlglnkhhbkndaaThr
import Derived.ChangeSlices
import Derived.SizedLaws
import Derived.ChangeBears2
import Derived.OpenShut
namespace Go.Proofs.Ytdlglnkhhbkndaa
open Go.ChangeShapes Go.WideShapes Go.ChangeAt Go.RowKit Go.ChangeMaps
set_option linter.unusedSimpArgs false
set_option linter.unusedVariables false
set_option maxRecDepth 100000

theorem own : ownKnob Try.prog.godebug = none := by kernel_rfl
theorem laidOut : laidOutB Try.prog = true := by kernel_rfl
theorem cells_mat : Try.prog.cellsOf 37 = 4 := by kernel_rfl
theorem bytes_mat : Try.prog.bytesOf 37 = 40 := by kernel_rfl
theorem cells_lay : Try.prog.cellsOf 35 = 2 := by kernel_rfl
theorem bytes_lay : Try.prog.bytesOf 35 = 32 := by kernel_rfl
theorem cells_thr : Try.prog.cellsOf 64 = 2 := by kernel_rfl
theorem bytes_thr : Try.prog.bytesOf 64 = 16 := by kernel_rfl
theorem bytes_int : Try.prog.bytesOf 3 = 8 := by kernel_rfl
theorem cells_int : Try.prog.cellsOf 3 = 1 := by kernel_rfl
theorem cells_str : Try.prog.cellsOf 9 = 1 := by kernel_rfl

section
variable {H : Type} {enc : TypeId × Value → H} {w : World} {base : Nat} {held : Bool} {r : Reach} {b0 : Nat} {v : Value} {d : DataW H} {p : List MemPlace}
theorem mat_open {fuel : Nat} {cs : List Value} {y : DataW H × List MemPlace} (h : DataW.trod enc Try.prog w base (fun _ => true) held fuel 37 cs = some y) : ∃ x : Mat, cs = Mat.cs x ∧ x.name.size ≤ maxLen := by
  obtain ⟨xs, n, _, hx, hl, hlen, hg⟩ := DataW.trod_struct Try.underlying37 h
  rw [cells_mat] at hl
  match cs, hl with
  | [c0, c1, c2, c3], _ =>
    have g0 := hg 0 _ rfl
    have g1 := hg 1 _ rfl
    have g2 := hg 2 _ rfl
    have g3 := hg 3 _ rfl
    have i0 : 0 < xs.length := by rw [hlen]; decide
    have i1 : 1 < xs.length := by rw [hlen]; decide
    have i2 : 2 < xs.length := by rw [hlen]; decide
    have i3 : 3 < xs.length := by rw [hlen]; decide
    rw [List.getElem?_eq_getElem i0] at g0
    rw [List.getElem?_eq_getElem i1] at g1
    rw [List.getElem?_eq_getElem i2] at g2
    rw [List.getElem?_eq_getElem i3] at g3
    simp [cells_int, cells_str] at g0 g1 g2 g3
    obtain ⟨a, e0, _, hs⟩ := DataW.trod_string Try.underlying9 g0
    obtain ⟨b, e1, _⟩ := DataW.trod_int Try.underlying3 g1
    obtain ⟨c, e2, _⟩ := DataW.trod_int Try.underlying3 g2
    obtain ⟨d, e3, _⟩ := DataW.trod_int Try.underlying3 g3
    simp at e0 e1 e2 e3
    subst e0 e1 e2 e3
    exact ⟨⟨a, b, c, d⟩, rfl, hs⟩
theorem lay_open {fuel : Nat} {cs : List Value} {y : DataW H × List MemPlace} (h : DataW.trod enc Try.prog w base (fun _ => true) held fuel 35 cs = some y) : ∃ x : Lay, cs = Lay.cs x ∧ (x.name.size ≤ maxLen ∧ x.mat.size ≤ maxLen) := by
  obtain ⟨xs, n, _, hx, hl, hlen, hg⟩ := DataW.trod_struct Try.underlying35 h
  rw [cells_lay] at hl
  match cs, hl with
  | [c0, c1], _ =>
    have g0 := hg 0 _ rfl
    have g1 := hg 1 _ rfl
    have i0 : 0 < xs.length := by rw [hlen]; decide
    have i1 : 1 < xs.length := by rw [hlen]; decide
    rw [List.getElem?_eq_getElem i0] at g0
    rw [List.getElem?_eq_getElem i1] at g1
    simp [cells_str] at g0 g1
    obtain ⟨a, e0, _, hs⟩ := DataW.trod_string Try.underlying9 g0
    obtain ⟨b, e1, _, ht⟩ := DataW.trod_string Try.underlying9 g1
    simp at e0 e1
    subst e0 e1
    exact ⟨⟨a, b⟩, rfl, hs, ht⟩
theorem thr_open {fuel : Nat} {cs : List Value} {y : DataW H × List MemPlace} (h : DataW.trod enc Try.prog w base (fun _ => true) held fuel 64 cs = some y) : ∃ x : Thr, cs = Thr.cs x ∧ True := by
  obtain ⟨xs, n, _, hx, hl, hlen, hg⟩ := DataW.trod_struct Try.underlying64 h
  rw [cells_thr] at hl
  match cs, hl with
  | [c0, c1], _ =>
    have g0 := hg 0 _ rfl
    have g1 := hg 1 _ rfl
    have i0 : 0 < xs.length := by rw [hlen]; decide
    have i1 : 1 < xs.length := by rw [hlen]; decide
    rw [List.getElem?_eq_getElem i0] at g0
    rw [List.getElem?_eq_getElem i1] at g1
    simp [cells_int] at g0 g1
    obtain ⟨a, e0, _⟩ := DataW.trod_int Try.underlying3 g0
    obtain ⟨b, e1, _⟩ := DataW.trod_int Try.underlying3 g1
    simp at e0 e1
    subst e0 e1
    exact ⟨⟨a, b⟩, rfl, trivial⟩
theorem int_open {fuel : Nat} {cs : List Value} {y : DataW H × List MemPlace} (h : DataW.trod enc Try.prog w base (fun _ => true) held fuel 3 cs = some y) : ∃ x : Int, cs = [.int .i64 x] ∧ (Lit.int .i64 x).wf = true := by
  obtain ⟨a, e, _, hw⟩ := DataW.trod_int Try.underlying3 h
  exact ⟨a, e, hw⟩
/-- A slice that came in, of whatever elements: what is known of each, and how much room it takes. -/
theorem open_list {α : Type} {T E : TypeId} {size bytes : Nat} {cells : α → List Value} {Q : α → Prop} (hT : Try.prog.underlying T = some (.slice E)) (hE : Try.prog.cellsOf E = size) (hby : Try.prog.bytesOf E = bytes) (hb1 : 1 ≤ bytes) (hs : 0 < size) (hcl : ∀ x, (cells x).length = size)
    (he : ∀ (fuel : Nat) (cs : List Value) (y : DataW H × List MemPlace), DataW.trod enc Try.prog w base (fun _ => true) held fuel E cs = some y → ∃ x, cs = cells x ∧ Q x)
    (hv : Value.okWide Try.prog w r b0 T v) (h : DataW.Trod enc Try.prog w base (fun _ => true) held T v d p)
    {ts : List TypeId} {ds : List (DataW H)} (hw : (DataW.weightsEach Try.prog ts ds).all (· ≤ reachBytes) = true) {j : Nat} (ht : ts[j]? = some T) (hd : ds[j]? = some d) :
    ∃ A L c, v = .slice A L.length c ∧ L.length ≤ c ∧ c * bytes ≤ 140737488351232 ∧ RdG size cells w A L ∧ ∀ x ∈ L, Q x := by
  obtain ⟨A, len, cap, rfl⟩ := okWide_slice hT hv
  obtain ⟨fuel, hf⟩ := h
  obtain ⟨A', L, c, hcs, h1, h2, h3, h4, h5⟩ := list_cells (R := fun a _ => Q a) hT hE hs hcl he hf
  simp [Value.cells] at hcs
  obtain ⟨rfl, rfl, rfl⟩ := hcs
  refine ⟨A, L, cap, rfl, h1, ?_, h3, fun x hx => ?_⟩
  · rcases h5 with ⟨rfl, -⟩ | ⟨es, rest, hd', hl, -⟩
    · omega
    · simp only at hd'
      subst hd'
      have := sized_slice hw ht hd hT
      rw [hby, hl] at this
      simpa [reachBytes] using this
  · rcases h5 with ⟨-, rfl⟩ | ⟨es, rest, -, -, hl, hR⟩
    · cases hx
    · obtain ⟨i, hi⟩ := List.getElem?_of_mem hx
      have hlt : i < es.length := by rw [hl]; exact (List.getElem?_eq_some_iff.1 hi).1
      exact hR i x es[i] hi (List.getElem?_eq_getElem hlt)
theorem open_text (hv : Value.okWide Try.prog w r b0 9 v) (h : DataW.Trod enc Try.prog w base (fun _ => true) held 9 v d p) : ∃ s : ByteArray, v = .string s ∧ s.size ≤ maxLen := by
  obtain ⟨s, h1, _, _, h2⟩ := open_string Try.underlying9 hv h
  exact ⟨s, h1, h2⟩
theorem open_int (h : DataW.Trod enc Try.prog w base (fun _ => true) held 3 v d p) (hv : Value.okWide Try.prog w r b0 3 v) : ∃ a : Int, v = .int .i64 a ∧ (Lit.int .i64 a).wf = true := by
  obtain ⟨fuel, hf⟩ := h
  obtain ⟨m, hm, _, hw⟩ := DataW.trod_int Try.underlying3 hf
  obtain ⟨a, rfl⟩ := okWide_int Try.underlying3 hv
  simp [Value.cells] at hm
  subst hm
  exact ⟨_, rfl, hw⟩
theorem open_mats (hv : Value.okWide Try.prog w r b0 22 v) (h : DataW.Trod enc Try.prog w base (fun _ => true) held 22 v d p)
    {ts : List TypeId} {ds : List (DataW H)} (hw : (DataW.weightsEach Try.prog ts ds).all (· ≤ reachBytes) = true) {j : Nat} (ht : ts[j]? = some 22) (hd : ds[j]? = some d) :
    ∃ A L c, v = .slice A L.length c ∧ L.length ≤ 140737488355328 ∧ RdG 4 Mat.cs w A L ∧ ∀ x ∈ L, x.name.size ≤ maxLen := by
  obtain ⟨A, L, c, h1, h2, h3, h4, h5⟩ := open_list (cells := Mat.cs) (Q := fun x => x.name.size ≤ maxLen) Try.underlying22 cells_mat bytes_mat (by omega) (by omega) (fun x => rfl) (fun f cs y => mat_open) hv h hw ht hd
  exact ⟨A, L, c, h1, by omega, h4, h5⟩
theorem open_lays (hv : Value.okWide Try.prog w r b0 23 v) (h : DataW.Trod enc Try.prog w base (fun _ => true) held 23 v d p)
    {ts : List TypeId} {ds : List (DataW H)} (hw : (DataW.weightsEach Try.prog ts ds).all (· ≤ reachBytes) = true) {j : Nat} (ht : ts[j]? = some 23) (hd : ds[j]? = some d) :
    ∃ A L c, v = .slice A L.length c ∧ L.length ≤ c ∧ c ≤ 140737488355328 ∧ RdG 2 Lay.cs w A L ∧ ∀ x ∈ L, x.name.size ≤ maxLen ∧ x.mat.size ≤ maxLen := by
  obtain ⟨A, L, c, h1, h2, h3, h4, h5⟩ := open_list (cells := Lay.cs) (Q := fun x => x.name.size ≤ maxLen ∧ x.mat.size ≤ maxLen) Try.underlying23 cells_lay bytes_lay (by omega) (by omega) (fun x => rfl) (fun f cs y => lay_open) hv h hw ht hd
  exact ⟨A, L, c, h1, h2, by omega, h4, h5⟩
theorem open_thrs (hv : Value.okWide Try.prog w r b0 52 v) (h : DataW.Trod enc Try.prog w base (fun _ => true) held 52 v d p)
    {ts : List TypeId} {ds : List (DataW H)} (hw : (DataW.weightsEach Try.prog ts ds).all (· ≤ reachBytes) = true) {j : Nat} (ht : ts[j]? = some 52) (hd : ds[j]? = some d) :
    ∃ A L c, v = .slice A L.length c ∧ L.length ≤ c ∧ c ≤ 140737488355328 ∧ RdG 2 Thr.cs w A L ∧ True := by
  obtain ⟨A, L, c, h1, h2, h3, h4, h5⟩ := open_list (cells := Thr.cs) (Q := fun x => True) Try.underlying52 cells_thr bytes_thr (by omega) (by omega) (fun x => rfl) (fun f cs y => thr_open) hv h hw ht hd
  exact ⟨A, L, c, h1, h2, by omega, h4, trivial⟩
theorem open_ints (hv : Value.okWide Try.prog w r b0 43 v) (h : DataW.Trod enc Try.prog w base (fun _ => true) held 43 v d p)
    {ts : List TypeId} {ds : List (DataW H)} (hw : (DataW.weightsEach Try.prog ts ds).all (· ≤ reachBytes) = true) {j : Nat} (ht : ts[j]? = some 43) (hd : ds[j]? = some d) :
    ∃ A L c, v = .slice A L.length c ∧ L.length ≤ c ∧ c ≤ 140737488355328 ∧ RdG 1 (fun x : Int => [Value.int .i64 x]) w A L ∧ ∀ x ∈ L, (Lit.int .i64 x).wf = true := by
  obtain ⟨A, L, c, h1, h2, h3, h4, h5⟩ := open_list (cells := fun x : Int => [Value.int .i64 x]) (Q := fun x => (Lit.int .i64 x).wf = true) Try.underlying43 cells_int bytes_int (by omega) (by omega) (fun x => rfl) (fun f cs y => int_open) hv h hw ht hd
  exact ⟨A, L, c, h1, h2, by omega, h4, h5⟩
end
end Go.Proofs.Ytdlglnkhhbkndaa

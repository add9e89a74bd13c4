/- Several texts in one: RdM, GapJ, GapG, GapH, GapN. -/
import Derived.Test.YtjcbngpgmgeanaaOpens
import Derived.Test.YtjcbngpgmgeanaaGapP
import Derived.Deep.Slices
import Derived.Test.YtjcbngpgmgeanaaRefG
import Derived.Test.YtjcbngpgmgeanaaSweepA
import Derived.Test.YtjcbngpgmgeanaaShapeG
import Derived.Test.YtjcbngpgmgeanaaLeastA
import Derived.Test.YtjcbngpgmgeanaaSweepL
import Derived.Deep.DeepCutAuto
/- A slice of regions: how it reads, and how an argument of this kind is opened. -/
namespace Go.Proofs.Ytjcbngpgmgeanaa
open Go.ChangeShapes Go.WideShapes Go.ChangeAt Go.RowKit
open Reg (R4)
set_option linter.unusedSimpArgs false
set_option linter.unusedVariables false
set_option maxRecDepth 100000

/-- A slice of slices of rectangles reads as lists; of the i-th one 'hd i' tells where it lies, and its capacity. -/
def RdM (w : World) (A : Option Addr) (L : List (List R4)) (hd : Nat → Option Addr × Nat) : Prop :=
  (0 < L.length → ∃ b off, A = some ⟨b, off, none⟩ ∧ b < w.heap.size ∧ ∀ i l, L[i]? = some l → w.cell? ⟨b, off + i, none⟩ = some (.slice (hd i).1 l.length (hd i).2)) ∧
  ∀ i l, L[i]? = some l → Rd w (hd i).1 l ∧ l.length ≤ (hd i).2 ∧ (hd i).2 ≤ 140737488355328
theorem RdM.below {w w' : World} {A : Option Addr} {L : List (List R4)} {hd : Nat → Option Addr × Nat} (h : RdM w A L hd) (hb : Below w.heap.size w w') : RdM w' A L hd := by
  refine ⟨fun hn => ?_, fun i l hi => ?_⟩
  · obtain ⟨b, off, e, hlt, hc⟩ := h.1 hn
    exact ⟨b, off, e, Nat.lt_of_lt_of_le hlt hb.size, fun i l hi => ((bcell hb).1 _ _ hlt).trans (hc i l hi)⟩
  · obtain ⟨h1, h2, h3⟩ := h.2 i l hi
    exact ⟨h1.below hb, h2, h3⟩

theorem cell_lt {w : World} {a : Addr} {v : Value} (h : w.cell? a = some v) : a.block < w.heap.size := by
  rcases Nat.lt_or_ge a.block w.heap.size with h1 | h1
  · exact h1
  · have h2 : w.heap[a.block]? = none := by simp [h1]
    simp [World.cell?, h2] at h
theorem cells_rects : Try.prog.cellsOf 22 = 1 := by kernel_rfl

section
variable {H : Type} {enc : TypeId × Value → H} {w : World} {base : Nat} {held : Bool} {r : Reach} {b0 : Nat} {v : Value} {d : DataW H} {p : List MemPlace}
theorem rects_cells {cs : List Value} {fuel : Nat} {x : DataW H × List MemPlace} (h : DataW.trod enc Try.prog w base (fun _ => true) held fuel 22 cs = some x) :
    ∃ A l c, cs = [.slice A l.length c] ∧ l.length ≤ c ∧ Rd w A l ∧ (c = 0 ∨ ∃ es rest, x.1 = .slice es rest ∧ es.length + rest.length = c) := by
  rcases DataW.trod_slice Try.underlying22 h with ⟨hcs, hx⟩ | ⟨a, len, cap, elems, rest, n, _, hcs, hx, hb, hl, hm, hlen, hel, hsp, hns⟩
  · exact ⟨none, [], 0, hcs, Nat.le_refl _, fun h => absurd h (by simp), .inl rfl⟩
  · subst hx
    have each : ∀ i, i < len → ∃ q : R4, w.cells? base (a.add (i * 4)) 4 = some [.int .i64 q.x0, .int .i64 q.y0, .int .i64 q.x1, .int .i64 q.y1] := by
      intro i hi
      have h1 := hel i hi
      rw [cells_rect, List.getElem?_eq_getElem (by omega), Option.bind_eq_some_iff] at h1
      obtain ⟨cs', hcs, hy⟩ := h1
      obtain ⟨q, rfl⟩ := rect_cells hy
      exact ⟨q, hcs⟩
    have hex : ∃ l : List R4, l.length = len ∧ ∀ i q, l[i]? = some q → w.cells? base (a.add (i * 4)) 4 = some [.int .i64 q.x0, .int .i64 q.y0, .int .i64 q.x1, .int .i64 q.y1] := by
      refine ⟨(List.range len).map fun i => if hi : i < len then Classical.choose (each i hi) else default, by simp, fun i q hq => ?_⟩
      simp only [List.getElem?_map, Option.map_eq_some_iff] at hq
      obtain ⟨j, hj, e⟩ := hq
      obtain ⟨hj1, hj2⟩ := List.getElem?_eq_some_iff.1 hj
      simp at hj1 hj2
      subst hj2
      rw [dif_pos hj1] at e
      subst e
      exact Classical.choose_spec (each i hj1)
    obtain ⟨l, rfl, hcell⟩ := hex
    refine ⟨some a, l, cap, hcs, hl, ?_, .inr ⟨_, _, rfl, ?_⟩⟩
    · intro hpos
      have get : ∀ i q, l[i]? = some q → ∀ j c, [Value.int .i64 q.x0, .int .i64 q.y0, .int .i64 q.x1, .int .i64 q.y1][j]? = some c → w.cell? ((a.add (i * 4)).add j) = some c := by
        intro i q hq j c hc
        obtain ⟨_, _, h1⟩ := World.cells?_some (hcell i q hq)
        have hj : j < 4 := by simpa using (List.getElem?_eq_some_iff.1 hc).1
        exact (h1 j hj).trans hc
      obtain ⟨b, off, spot⟩ := a
      have hspot : spot = none := by
        obtain ⟨q, hq⟩ : ∃ q, l[0]? = some q := ⟨_, List.getElem?_eq_getElem hpos⟩
        have h1 := get 0 q hq 0 _ rfl
        have h2 := World.cell?_spot h1
        simpa [Addr.add] using h2
      subst hspot
      have hlt : b < w.heap.size := by
        obtain ⟨q, hq⟩ : ∃ q, l[0]? = some q := ⟨_, List.getElem?_eq_getElem hpos⟩
        simpa [Addr.add] using World.cells?_block (hcell 0 q hq) (by decide)
      refine ⟨b, off, rfl, hlt, fun i q hq => ?_⟩
      have g := get i q hq
      exact ⟨by simpa [add_plain] using g 0 _ rfl, by simpa [add_plain] using g 1 _ rfl, by simpa [add_plain] using g 2 _ rfl, by simpa [add_plain] using g 3 _ rfl⟩
    · have := (hsp rfl).1
      simp only [List.length_map]
      omega
theorem weights_all {P : Program} {e : TypeId} {d : DataW H} {n : Nat} : ∀ {l : List (DataW H)}, d ∈ l → n ∈ d.weights P e → n ∈ DataW.weightsAll P e l
  | [], h, _ => by cases h
  | x :: l, h, hn => by
    simp only [DataW.weightsAll, List.mem_append]
    rcases List.mem_cons.1 h with rfl | h
    · exact .inl hn
    · exact .inr (weights_all h hn)
/-- A slice of slices of rectangles that came in. -/
theorem open_regions {ts : List TypeId} {ds : List (DataW H)} (hv : Value.okWide Try.prog w r b0 23 v) (h : DataW.Trod enc Try.prog w base (fun _ => true) held 23 v d p)
    (hs : (DataW.weightsEach Try.prog ts ds).all (· ≤ reachBytes) = true) {j : Nat} (ht : ts[j]? = some 23) (hd : ds[j]? = some d) :
    ∃ A L c hd, v = .slice A L.length c ∧ L.length ≤ c ∧ c ≤ 140737488355328 ∧ RdM w A L hd := by
  obtain ⟨A, len, cap, rfl⟩ := okWide_slice Try.underlying23 hv
  obtain ⟨fuel, hf⟩ := h
  rcases Deep.open_slice1 Try.underlying23 cells_rects hf with ⟨hcs, hx⟩ | ⟨a, len', cap', m, n, V, D, Pl, hcs, hb, hl, hm, hmm, hx, hel⟩
  · simp [Value.cells] at hcs
    obtain ⟨rfl, rfl, rfl⟩ := hcs
    exact ⟨none, [], 0, fun _ => (none, 0), rfl, Nat.le_refl _, by omega, fun h => absurd h (by simp), fun i l hi => by simp at hi⟩
  · simp [Value.cells] at hcs
    obtain ⟨rfl, rfl, rfl⟩ := hcs
    simp only [if_true] at hmm
    subst hmm
    simp only [Prod.mk.injEq] at hx
    obtain ⟨rfl, rfl⟩ := hx
    have hcap : m ≤ 140737488355328 := by
      have := sized_slice hs ht hd Try.underlying23
      simp only [List.length_map, List.length_range] at this
      rw [show Try.prog.bytesOf 22 = 24 from by kernel_rfl] at this
      simp only [reachBytes] at this
      omega
    have each : ∀ i, i < len → ∃ y : Option Addr × List R4 × Nat, w.cell? (a.add i) = some (.slice y.1 y.2.1.length y.2.2) ∧ Rd w y.1 y.2.1 ∧ y.2.1.length ≤ y.2.2 ∧ y.2.2 ≤ 140737488355328 := by
      intro i hi
      obtain ⟨h1, h2⟩ := hel i (by omega)
      obtain ⟨A', l', c', e, hl', hr', hc'⟩ := rects_cells h2
      simp at e
      refine ⟨(A', l', c'), by rw [h1, e], hr', hl', ?_⟩
      show c' ≤ _
      rcases hc' with rfl | ⟨es, rest, e2, rfl⟩
      · omega
      · simp only at e2
        have hmem : (es.length + rest.length) * 32 ∈ DataW.weightsEach Try.prog ts ds := by
          refine DataW.weights_mem_each ht hd _ ?_
          have hw : (es.length + rest.length) * 32 ∈ DataW.weightsAll Try.prog 22 ((List.range len).map D) := by
            refine weights_all (d := D i) (List.mem_map.2 ⟨i, List.mem_range.2 hi, rfl⟩) ?_
            rw [e2]
            simp [DataW.weights, Try.underlying22, bytes_rect]
          simp only [DataW.weights, Try.underlying23, List.mem_cons, List.mem_append]
          exact .inr (.inl hw)
        have h9 := List.all_eq_true.1 hs _ hmem
        have h8 : (es.length + rest.length) * 32 ≤ reachBytes := by simpa using h9
        simp only [reachBytes] at h8
        omega
    obtain ⟨Y, hY⟩ := Deep.choose_lt each
    refine ⟨some a, (List.range len).map fun i => (Y i).2.1, m, fun i => ((Y i).1, (Y i).2.2), by simp, by simpa using hl, hcap, fun hpos => ?_, fun i l hi => ?_⟩
    · have hpos' : 0 < len := by simpa using hpos
      obtain ⟨b, off, spot⟩ := a
      have h0 := (hY 0 hpos').1
      have hspot : spot = none := by
        have h2 := World.cell?_spot h0
        simpa [Addr.add] using h2
      subst hspot
      have hlt : b < w.heap.size := by
        have := cell_lt h0
        simpa [Addr.add] using this
      refine ⟨b, off, rfl, hlt, fun i l hi => ?_⟩
      have hi' : i < len := by
        have := (List.getElem?_eq_some_iff.1 hi).1
        simpa using this
      have hl2 : (Y i).2.1 = l := by simpa [List.getElem?_map, List.getElem?_range hi'] using hi
      have := (hY i hi').1
      rw [hl2] at this
      simpa [add_plain] using this
    · have hi' : i < len := by
        have := (List.getElem?_eq_some_iff.1 hi).1
        simpa using this
      have hl2 : (Y i).2.1 = l := by simpa [List.getElem?_map, List.getElem?_range hi'] using hi
      obtain ⟨_, h2, h3, h4⟩ := hY i hi'
      rw [hl2] at h2 h3
      exact ⟨h2, h3, h4⟩
end
end Go.Proofs.Ytjcbngpgmgeanaa
/- Rows of gaps: how they read, and slices.Equal of a row with itself. -/
namespace Go.Proofs.Ytjcbngpgmgeanaa
open Go.RowKit
open Reg (R4)
set_option linter.unusedSimpArgs false
set_option linter.unusedVariables false

def cG (l : List G7) : List Value := l.flatMap fun g => [.int .i64 g.a, .int .i64 g.b, .int .i64 g.d, .int .i64 g.fx, .int .i64 g.fy, .int .i64 g.tx, .int .i64 g.ty]
theorem cG_len (l : List G7) : (cG l).length = l.length * 7 := by induction l <;> simp [cG] at *; omega
theorem cG_append (a b : List G7) : cG (a ++ b) = cG a ++ cG b := by simp [cG]
theorem cG_at {l : List G7} : ∀ {i : Nat} {g : G7}, l[i]? = some g → (cG l)[i * 7]? = some (.int .i64 g.a) ∧ (cG l)[i * 7 + 1]? = some (.int .i64 g.b) ∧ (cG l)[i * 7 + 2]? = some (.int .i64 g.d) ∧ (cG l)[i * 7 + 3]? = some (.int .i64 g.fx) ∧ (cG l)[i * 7 + 4]? = some (.int .i64 g.fy) ∧ (cG l)[i * 7 + 5]? = some (.int .i64 g.tx) ∧ (cG l)[i * 7 + 6]? = some (.int .i64 g.ty) := by
  induction l with
  | nil => intro i s h; simp at h
  | cons a l ih =>
    intro i s h
    cases i with
    | zero => simp at h; subst h; exact ⟨rfl, rfl, rfl, rfl, rfl, rfl, rfl⟩
    | succ i =>
      obtain ⟨h0, h1, h2, h3, h4, h5, h6⟩ := ih (i := i) (g := s) (by simpa using h)
      have e : ∀ m, (cG (a :: l))[(i + 1) * 7 + m]? = (cG l)[i * 7 + m]? := by
        intro m
        have : cG (a :: l) = [.int .i64 a.a, .int .i64 a.b, .int .i64 a.d, .int .i64 a.fx, .int .i64 a.fy, .int .i64 a.tx, .int .i64 a.ty] ++ cG l := rfl
        rw [this, List.getElem?_append_right (by simp; omega)]
        congr 1
        simp
        omega
      have e0 := e 0
      rw [Nat.add_zero, Nat.add_zero] at e0
      exact ⟨e0.trans h0, (e 1).trans h1, (e 2).trans h2, (e 3).trans h3, (e 4).trans h4, (e 5).trans h5, (e 6).trans h6⟩
/-- A slice of gaps reads as a list. -/
def RdG (w : World) (A : Option Addr) (l : List G7) : Prop :=
  0 < l.length → ∃ b off, A = some ⟨b, off, none⟩ ∧ b < w.heap.size ∧ ∀ i g, l[i]? = some g →
    w.cell? ⟨b, off + i * 7, none⟩ = some (.int .i64 g.a) ∧ w.cell? ⟨b, off + i * 7 + 1, none⟩ = some (.int .i64 g.b) ∧ w.cell? ⟨b, off + i * 7 + 2, none⟩ = some (.int .i64 g.d) ∧ w.cell? ⟨b, off + i * 7 + 3, none⟩ = some (.int .i64 g.fx) ∧ w.cell? ⟨b, off + i * 7 + 4, none⟩ = some (.int .i64 g.fy) ∧ w.cell? ⟨b, off + i * 7 + 5, none⟩ = some (.int .i64 g.tx) ∧ w.cell? ⟨b, off + i * 7 + 6, none⟩ = some (.int .i64 g.ty)
theorem RdG.below {w w' : World} {A : Option Addr} {l : List G7} (h : RdG w A l) (hb : Below w.heap.size w w') : RdG w' A l := fun hn => by
  obtain ⟨b, off, e, hlt, hc⟩ := h hn
  exact ⟨b, off, e, Nat.lt_of_lt_of_le hlt hb.size, fun i r hi => by
    obtain ⟨h0, h1, h2, h3, h4, h5, h6⟩ := hc i r hi
    exact ⟨((bcell hb).1 _ _ hlt).trans h0, ((bcell hb).1 _ _ hlt).trans h1, ((bcell hb).1 _ _ hlt).trans h2, ((bcell hb).1 _ _ hlt).trans h3, ((bcell hb).1 _ _ hlt).trans h4, ((bcell hb).1 _ _ hlt).trans h5, ((bcell hb).1 _ _ hlt).trans h6⟩⟩
theorem rdG_own {w : World} {base : Nat} {v : Value} {l : List G7} (h : w.ownsRow base 44 7 v l.length (cG l)) : ∃ A c, v = .slice A l.length c ∧ l.length ≤ c ∧ c ≤ maxLen ∧ RdG w A l := by
  obtain ⟨A, c, rfl, h1, h2, h3⟩ := own_cells h
  refine ⟨A, c, rfl, h1, h2, fun hpos => ?_⟩
  obtain ⟨g, rfl, hg, hlt, hc⟩ := h3 hpos
  refine ⟨g, 0, rfl, hlt, fun i r hi => ?_⟩
  rw [Nat.zero_add]
  obtain ⟨a0, a1, a2, a3, a4, a5, a6⟩ := cG_at hi
  exact ⟨hc _ _ a0, hc _ _ a1, hc _ _ a2, hc _ _ a3, hc _ _ a4, hc _ _ a5, hc _ _ a6⟩
theorem infoG : (Try.prog.info? 44).map (fun i => (i.zero, i.size, i.bytes)) = some (some (.agg #[.int .i64 0, .int .i64 0, .int .i64 0, .int .i64 0, .int .i64 0, .int .i64 0, .int .i64 0]), 7, 56) := by kernel_rfl

set_option maxRecDepth 100000 in
set_option maxHeartbeats 2000000 in
theorem equalG_any (A1 A2 : Option Addr) (l : List G7) (c1 c2 : Nat) (w : World) (hl : l.length ≤ maxLen) (h1 : RdG w A1 l) (h2 : RdG w A2 l) :
    Calls Try.prog 18 #[.slice A1 l.length c1, .slice A2 l.length c2] w fun e w' => e = .returned (.bool true) ∧ Below w.heap.size w w' := by
  unfold maxLen at hl
  have H1 := Lib.hid h1
  have H2 := Lib.hid h2
  clear h1 h2
  go_enter Try.func18, Try.ntmps18
  go_wp2_with fail
  go_loopw [13] (fun i wr => ∃ k : Nat, k ≤ l.length ∧ i = .int .i64 k ∧ Below w.heap.size w wr) (fun i _ => l.length - (intOf i).toNat)
  case atStart => exact ⟨0, Nat.zero_le _, rfl, by (repeat' (first | (with_reducible exact Below.refl _ _) | (with_reducible assumption) | (with_reducible refine Below.alloc ?_ ?_ _) | (with_reducible refine Below.drew ?_) | (with_reducible refine below_drewN ?_ _) | (with_reducible refine Below.setCell ?_ ?_ _) | (with_reducible exact Nat.le_refl _) | omega | (simp only [World.size_alloc, World.size_setCell, World.size_drew]; omega) | (simp; omega) | (simp; done)))⟩
  case round =>
    obtain ⟨k, hk, rfl, hbw⟩ := hrel
    have zw := hbw.size
    have hkz : (0 : Int) ≤ (k : Int) := by omega
    by_cases hlt : k < l.length
    · obtain ⟨b1, o1, e, hb1, hc1⟩ := (H1.out.below hbw) (by omega)
      subst e
      obtain ⟨b2, o2, e, hb2, hc2⟩ := (H2.out.below hbw) (by omega)
      subst e
      obtain ⟨a0, a1, a2, a3, a4, a5, a6⟩ := hc1 k _ (List.getElem?_eq_getElem hlt)
      obtain ⟨d0, d1, d2, d3, d4, d5, d6⟩ := hc2 k _ (List.getElem?_eq_getElem hlt)
      clear hc1 hc2
      generalize l[k] = r at *
      have hklt : (k : Int) < (l.length : Int) := by omega
      go_wp2_with fail
      go_quiet (fail)
      go_wp2_with fail
      go_roundw
      case rel => exact ⟨k + 1, by omega, by go_num, below_drewN hbw _⟩
      case measure => simp [intOf]; omega
    · obtain rfl : k = l.length := by omega
      go_wp2_with fail
      go_ret
      exact ⟨rfl, hbw⟩
end Go.Proofs.Ytjcbngpgmgeanaa
/- checkGaps of the program, whatever the world. -/
namespace Go.Proofs.Ytjcbngpgmgeanaa
open Go.RowKit
open Reg (R4)
set_option linter.unusedSimpArgs false
set_option linter.unusedVariables false

def regsF : List (List R4) → Int
  | [] => 0
  | l :: t => if regF l = 0 then regsF t else regF l
def totL : List (List R4) → Nat
  | [] => 0
  | l :: t => l.length + totL t
/-- The fault of a list of regions and a number. -/
def cgF (L : List (List R4)) (below : Int) : Int := if 2000 < L.length ∨ 2000 < totL L then 2 else if regsF L = 0 then (if 0 ≤ below ∧ below ≤ 100000 then 0 else 1) else regsF L
theorem totL_append (a b : List (List R4)) : totL (a ++ b) = totL a + totL b := by
  induction a with
  | nil => simp [totL]
  | cons l a ih => simp only [List.cons_append, totL, ih]; omega
theorem totL_snoc (L : List (List R4)) (k : Nat) (h : k < L.length) : totL (L.take (k + 1)) = totL (L.take k) + L[k].length := by
  rw [List.take_succ_eq_append_getElem h, totL_append]
  simp [totL]
theorem totL_le {M : Nat} : ∀ L : List (List R4), (∀ l, l ∈ L → l.length ≤ M) → totL L ≤ L.length * M
  | [], _ => by simp [totL]
  | l :: L, h => by
    have h1 := h l List.mem_cons_self
    have h2 := totL_le L (fun x hx => h x (List.mem_cons_of_mem _ hx))
    simp only [totL, List.length_cons, Nat.add_mul, Nat.one_mul]
    omega
theorem totL_take (L : List (List R4)) (k : Nat) : totL (L.take k) ≤ totL L := by
  have := totL_append (L.take k) (L.drop k)
  rw [List.take_append_drop] at this
  omega
theorem regsF_zero : ∀ {L : List (List R4)}, regsF L = 0 ↔ ∀ l, l ∈ L → regF l = 0
  | [] => by simp [regsF]
  | l :: L => by
    simp only [regsF, List.mem_cons, forall_eq_or_imp]
    by_cases h : regF l = 0
    · rw [if_pos h, regsF_zero]; simp [h]
    · rw [if_neg h]; simp [h]
theorem regsF_drop {L : List (List R4)} {k : Nat} (h : k < L.length) : regsF (L.drop k) = if regF L[k] = 0 then regsF (L.drop (k + 1)) else regF L[k] := by
  rw [List.drop_eq_getElem_cons h]; rfl
theorem cgF_zero {L : List (List R4)} {below : Int} (h : cgF L below = 0) : L.length ≤ 2000 ∧ totL L ≤ 2000 ∧ (∀ l, l ∈ L → regF l = 0) ∧ 0 ≤ below ∧ below ≤ 100000 := by
  unfold cgF at h
  split at h
  · cases h
  · rename_i h1
    split at h
    · rename_i h2
      split at h
      · rename_i h3
        exact ⟨by omega, by omega, regsF_zero.1 h2, h3.1, h3.2⟩
      · cases h
    · rename_i h2; exact absurd h h2
theorem rdM_len {w : World} {A : Option Addr} {L : List (List R4)} {hd : Nat → Option Addr × Nat} (h : RdM w A L hd) : ∀ l, l ∈ L → l.length ≤ 140737488355328 := by
  intro l hl
  obtain ⟨i, hi, e⟩ := List.getElem_of_mem hl
  obtain ⟨_, h2, h3⟩ := h.2 i l (by rw [List.getElem?_eq_getElem hi, e])
  omega

set_option maxRecDepth 100000 in
set_option maxHeartbeats 2000000 in
theorem checkGaps_any (A : Option Addr) (L : List (List R4)) (c : Nat) (hd : Nat → Option Addr × Nat) (below : Int) (w : World) (hl : L.length ≤ 140737488355328) (h : RdM w A L hd) :
    Calls Try.prog 34 #[.slice A L.length c, .int .i64 below] w fun e w' => e = .returned (.int .i64 (cgF L below)) ∧ Below w.heap.size w w' := by
  have H0 := Lib.hid h
  have CR := Lib.hid (fun A' l c' W (hl : l.length ≤ c') (hc : c' ≤ 140737488355328) h => checkRegion_any A' l c' W hl hc h)
  have hlen := rdM_len h
  clear h
  obtain ⟨V, hV⟩ : ∃ V, V = cgF L below := ⟨_, rfl⟩
  rw [← hV]
  by_cases hbig : 2000 < L.length
  · have hv : V = 2 := by rw [hV]; unfold cgF; rw [if_pos (.inl hbig)]
    subst hv
    have hb' : (2000 : Int) < (L.length : Int) := by omega
    clear hV hlen
    go_enter Try.func34, Try.ntmps34
    go_wp2_with fail
    go_ret
    exact ⟨rfl, Below.refl _ _⟩
  have hb' : ¬ (2000 : Int) < (L.length : Int) := by omega
  have htot : ∀ k, totL (L.take k) ≤ 2000 * 140737488355328 := fun k => by
    have h1 := totL_take L k
    have h2 := totL_le L hlen
    have h3 : L.length * 140737488355328 ≤ 2000 * 140737488355328 := Nat.mul_le_mul_right _ (by omega)
    omega
  have HT := Lib.hid htot
  have HV := Lib.hid hV
  clear hV htot
  have hVV : (2000 < totL L ∧ V = 2) ∨ (totL L ≤ 2000 ∧ V = if regsF L = 0 then (if 0 ≤ below ∧ below ≤ 100000 then 0 else 1) else regsF L) := by
    rw [HV.out]
    unfold cgF
    by_cases ht : 2000 < totL L
    · rw [if_pos (.inr ht)]; exact .inl ⟨ht, rfl⟩
    · rw [if_neg (by omega)]; exact .inr ⟨by omega, rfl⟩
  have HVV := Lib.hid hVV
  clear hVV HV
  go_enter Try.func34, Try.ntmps34
  go_wp2_with fail
  go_loopw [5, 16] (fun n i wr => ∃ k : Nat, k ≤ L.length ∧ i = .int .i64 k ∧ n = .int .i64 (totL (L.take k) : Nat) ∧ Below w.heap.size w wr) (fun _ i _ => L.length - (intOf i).toNat)
  case atStart => exact ⟨0, Nat.zero_le _, rfl, rfl, Below.refl _ _⟩
  case round =>
    obtain ⟨k, hk, rfl, rfl, hbw⟩ := hrel
    have zw := hbw.size
    have hkz : (0 : Int) ≤ (k : Int) := by omega
    by_cases hlt : k < L.length
    · have hM := H0.out.below hbw
      obtain ⟨b, off, e, hb, hc⟩ := hM.1 (by omega)
      subst e
      have hi := List.getElem?_eq_getElem hlt
      have c0 := hc k _ hi
      have hle := hlen _ (List.getElem_mem hlt)
      have HS := Lib.hid (totL_snoc L k hlt)
      have ht := HT.out k
      clear hc hi hM
      generalize L[k] = x at *
      have hklt : (k : Int) < (L.length : Int) := by omega
      obtain ⟨T, hT⟩ : ∃ T, T = totL (L.take k) := ⟨_, rfl⟩
      rw [← hT] at HS ht
      rw [← hT]
      clear hT
      go_wp2_with fail
      go_roundw
      case rel => exact ⟨k + 1, by omega, by go_num, by rw [HS.out]; go_num, hbw⟩
      case measure => simp [intOf]; omega
    · obtain rfl : k = L.length := by omega
      rw [List.take_length]
      rcases HVV.out with ⟨ht, rfl⟩ | ⟨ht, hv⟩
      · have ht' : (2000 : Int) < (totL L : Int) := by omega
        go_wp2_with fail
        go_ret
        exact ⟨rfl, hbw⟩
      · have ht' : ¬ (2000 : Int) < (totL L : Int) := by omega
        have HV2 := Lib.hid hv
        clear hv
        obtain ⟨w8, rfl⟩ : ∃ w8, w8 = wr := ⟨wr, rfl⟩
        go_wp2_with fail
        go_loopw [29] (fun i wr => ∃ k : Nat, k ≤ L.length ∧ i = .int .i64 k ∧ regsF L = regsF (L.drop k) ∧ Below w.heap.size w wr) (fun i _ => L.length - (intOf i).toNat)
        case atStart => exact ⟨0, Nat.zero_le _, rfl, rfl, hbw⟩
        case round =>
          obtain ⟨k, hk, rfl, hr, hbi⟩ := hrel
          have HR := Lib.hid hr
          clear hr
          have zi := hbi.size
          have hkz : (0 : Int) ≤ (k : Int) := by omega
          by_cases hlt : k < L.length
          · have hM := H0.out.below hbi
            obtain ⟨b, off, e, hb, hc⟩ := hM.1 (by omega)
            subst e
            have hi := List.getElem?_eq_getElem hlt
            have c0 := hc k _ hi
            obtain ⟨r1, r2, r3⟩ := hM.2 k _ hi
            have HS := Lib.hid (regsF_drop hlt)
            have R1 := Lib.hid r1
            clear hc hi hM r1 hlen
            generalize L[k] = x at *
            have C1 := Lib.hid (fun W h => CR.out (hd k).1 x (hd k).2 W r2 r3 h)
            have hklt : (k : Int) < (L.length : Int) := by omega
            by_cases hz : regF x = 0
            · have HN := Lib.hid (show regsF L = regsF (L.drop (k + 1)) from by rw [HR.out, HS.out, if_pos hz])
              rw [hz] at C1
              clear hz
              go_wp2_with fail
              refine (C1.out _ R1.out).mono ?_
              rintro e w2 ⟨rfl, hb2⟩
              have B2 := up (B := w.heap.size) hbi hb2 (by (first | (with_reducible exact Nat.le_refl _) | (with_reducible assumption) | omega | (simp only [World.size_alloc, World.size_setCell, World.size_drew]; omega) | (simp; omega) | (simp; done)))
              clear hb2
              go_wp2_with fail
              go_roundw
              case rel => exact ⟨k + 1, by omega, by go_num, HN.out, B2⟩
              case measure => simp [intOf]; omega
            · have HN := Lib.hid (show V = regF x from by rw [HV2.out, HR.out, HS.out, if_neg hz, if_neg hz])
              have hd : (regF x == 0) = false := by simpa using hz
              have hd' : (regF x != 0) = true := by simpa using hz
              clear hz
              generalize regF x = F at *
              have e9 := HN.out
              subst e9
              clear HN
              go_wp2_with fail
              refine (C1.out _ R1.out).mono ?_
              rintro e w2 ⟨rfl, hb2⟩
              have B2 := up (B := w.heap.size) hbi hb2 (by (first | (with_reducible exact Nat.le_refl _) | (with_reducible assumption) | omega | (simp only [World.size_alloc, World.size_setCell, World.size_drew]; omega) | (simp; omega) | (simp; done)))
              clear hb2
              go_wp2_with fail
              go_ret
              exact ⟨rfl, B2⟩
          · obtain rfl : k = L.length := by omega
            have hz : regsF L = 0 := by rw [HR.out, List.drop_length]; rfl
            have hv := HV2.out
            rw [if_pos hz] at hv
            clear hz
            by_cases h1 : below < 0
            · obtain rfl : V = 1 := by rw [hv, if_neg (by omega)]
              clear hv
              go_wp2_with fail
              go_ret
              exact ⟨rfl, hbi⟩
            · by_cases h2 : 100000 < below
              · obtain rfl : V = 1 := by rw [hv, if_neg (by omega)]
                clear hv
                go_wp2_with fail
                go_ret
                exact ⟨rfl, hbi⟩
              · obtain rfl : V = 0 := by rw [hv, if_pos (by omega)]
                clear hv
                go_wp2_with fail
                go_ret
                exact ⟨rfl, hbi⟩
end Go.Proofs.Ytjcbngpgmgeanaa
/- Gaps of the program, whatever the world. -/
namespace Go.Proofs.Ytjcbngpgmgeanaa
open Go.RowKit
open Reg (R4)
set_option linter.unusedSimpArgs false
set_option linter.unusedVariables false

/-- What Gaps says. -/
def gpL (L : List (List R4)) (below : Int) : List G7 := if cgF L below = 0 then (gapAll below 0 L []).getD [] else []
def gpF (L : List (List R4)) (below : Int) : Int := if cgF L below = 0 then (if (gapAll below 0 L []).isSome then 0 else 12) else cgF L below
/-- A function that gives gaps of its own, and a fault. -/
def GotGF (w : World) (l : List G7) (f : Int) (e : Ending) (w' : World) : Prop := ∃ v, e = .returned (.tuple #[v, .int .i64 f]) ∧ w'.ownsRow w.heap.size 44 7 v l.length (cG l) ∧ Below w.heap.size w w'
theorem gapRow_drop {below : Int} {i j : Nat} {a : List R4} {L : List (List R4)} {s : List G7} (h : j < L.length) : gapRow below i a j (L.drop j) s = (gapStep below i j a L[j] s).bind (gapRow below i a (j + 1) (L.drop (j + 1))) := by
  rw [List.drop_eq_getElem_cons h]; rfl
theorem gapAll_drop {below : Int} {i : Nat} {L : List (List R4)} {s : List G7} (h : i < L.length) : gapAll below i (L.drop i) s = (gapRow below i L[i] (i + 1) (L.drop (i + 1)) s).bind (gapAll below (i + 1) (L.drop (i + 1))) := by
  rw [List.drop_eq_getElem_cons h]; rfl
/-- What a pair of regions does to the gaps so far. -/
theorem gap_cases (below : Int) (i j : Nat) (a b : List R4) (s : List G7) :
    (a.length = 0 ∧ gapStep below i j a b s = some s) ∨ (¬ a.length = 0 ∧ b.length = 0 ∧ gapStep below i j a b s = some s) ∨ (¬ a.length = 0 ∧ ¬ b.length = 0 ∧ farRs a b = 0 ∧ gapStep below i j a b s = none) ∨
    (¬ a.length = 0 ∧ ¬ b.length = 0 ∧ ¬ farRs a b = 0 ∧ ¬ farRs a b - 1 < below ∧ gapStep below i j a b s = some s) ∨ (¬ a.length = 0 ∧ ¬ b.length = 0 ∧ ¬ farRs a b = 0 ∧ farRs a b - 1 < below ∧ gapStep below i j a b s = some (s ++ [gapOf i j a b])) := by
  unfold gapStep
  by_cases h1 : a.length = 0
  · exact .inl ⟨h1, by rw [if_pos (.inl h1)]⟩
  · by_cases h2 : b.length = 0
    · exact .inr (.inl ⟨h1, h2, by rw [if_pos (.inr h2)]⟩)
    · have h3 : ¬ (a.length = 0 ∨ b.length = 0) := by omega
      rw [if_neg h3]
      by_cases h4 : farRs a b = 0
      · exact .inr (.inr (.inl ⟨h1, h2, h4, by rw [if_pos h4]⟩))
      · rw [if_neg h4]
        by_cases h5 : farRs a b - 1 < below
        · exact .inr (.inr (.inr (.inr ⟨h1, h2, h4, h5, by rw [if_pos h5]⟩)))
        · exact .inr (.inr (.inr (.inl ⟨h1, h2, h4, h5, by rw [if_neg h5]⟩)))
/-- Behind both searches: the blocks of both points. -/
structure GpW (w8 : World) (Q P : Nat) (fx fy tx ty : Int) (wx : World) : Prop where
  q0 : wx.cell? ⟨Q, 0, none⟩ = some (.int .i64 fx)
  q1 : wx.cell? ⟨Q, 1, none⟩ = some (.int .i64 fy)
  p0 : wx.cell? ⟨P, 0, none⟩ = some (.int .i64 tx)
  p1 : wx.cell? ⟨P, 1, none⟩ = some (.int .i64 ty)
  lq : Q < wx.heap.size
  lp : P < wx.heap.size
  b : Below w8.heap.size w8 wx
theorem own_snocG {w : World} {base : Nat} {v : Value} {l : List G7} {a b d fx fy tx ty : Int} (h : w.ownsRow base 44 7 v (l.length + 1) (cG l ++ [.int .i64 a, .int .i64 b, .int .i64 d, .int .i64 fx, .int .i64 fy, .int .i64 tx, .int .i64 ty])) :
    w.ownsRow base 44 7 v (l ++ [(⟨a, b, d, fx, fy, tx, ty⟩ : G7)]).length (cG (l ++ [(⟨a, b, d, fx, fy, tx, ty⟩ : G7)])) := by
  rw [List.length_append, cG_append]
  exact h
theorem len_yes {n : Nat} (h : n = 0) : ((n : Int) == 0) = true := by rw [beq_iff_eq]; omega
theorem len_no {n : Nat} (h : ¬ n = 0) : ((n : Int) == 0) = false := by rw [beq_eq_false_iff_ne]; omega
theorem regRg {l : List R4} (h : regF l = 0) : ∀ r, r ∈ l → Rg r := fun r hr => by
  have := rect_in (regF_rects h) r hr
  simp only [In6] at this
  unfold Rg
  omega

set_option maxRecDepth 100000 in
set_option maxHeartbeats 8000000 in
theorem gaps_ok (A : Option Addr) (L : List (List R4)) (c : Nat) (hd : Nat → Option Addr × Nat) (below : Int) (w : World) (hl : L.length ≤ 140737488355328) (h : RdM w A L hd) (h0 : cgF L below = 0) :
    Calls Try.prog 16 #[.slice A L.length c, .int .i64 below] w (GotGF w ((gapAll below 0 L []).getD []) (if (gapAll below 0 L []).isSome then 0 else 12)) := by
  obtain ⟨i0, hi0, hz0, hz1, hz2⟩ := info_parts infoG
  have H0 := Lib.hid h
  obtain ⟨q1, q2, q3, q4, q5⟩ := cgF_zero h0
  have hRg := Lib.hid (fun l hl => regRg (q3 l hl))
  have CC := Lib.hid (fun W h => checkGaps_any A L c hd below W hl h)
  rw [h0] at CC
  have hlen := Lib.hid (rdM_len h)
  clear h h0 q2 q3
  unfold GotGF
  have HG := Lib.hid (show gapAll below 0 L [] = gapAll below 0 (L.drop 0) [] from rfl)
  generalize gapAll below 0 L [] = G at *
  go_enter Try.func16, Try.ntmps16
  go_wp2_with fail
  refine (CC.out _ H0.out).mono ?_
  rintro e w1 ⟨rfl, hb⟩
  have B1 := Lib.hid hb
  clear hb
  go_wp2_with fail
  go_loopw [7, 22] (fun v7 i wr => ∃ (k : Nat) (s : List G7), k ≤ L.length ∧ i = .int .i64 k ∧ G = gapAll below k (L.drop k) s ∧ wr.ownsRow w.heap.size 44 7 v7 s.length (cG s) ∧ s.length ≤ 2000 * k ∧ Below w.heap.size w wr) (fun _ i _ => L.length - (intOf i).toNat)
  case atStart => exact ⟨0, [], Nat.zero_le _, rfl, HG.out, own_nilR _ _ _ _, by simp, B1.out⟩
  case round =>
    obtain ⟨k, s, hk, rfl, hg, ho, hsl, hbw⟩ := hrel
    have zw := hbw.size
    have HGk := Lib.hid hg
    have HO := Lib.hid ho
    clear hg ho HG
    have hkz : (0 : Int) ≤ (k : Int) := by omega
    by_cases hlt : k < L.length
    · have hM := H0.out.below hbw
      obtain ⟨b, off, e, hb, hc⟩ := hM.1 (by omega)
      subst e
      have hi := List.getElem?_eq_getElem hlt
      have c0 := hc k _ hi
      have HD := Lib.hid (gapAll_drop (below := below) (s := s) hlt)
      have RX := Lib.hid (hRg.out _ (List.getElem_mem hlt))
      have lx := hlen.out _ (List.getElem_mem hlt)
      have RM := Lib.hid (fun W (hb : Below w.heap.size w W) => (((H0.out).below hb).2 k _ hi).1)
      clear hc hi hM
      generalize L[k] = x at *
      have hklt : (k : Int) < (L.length : Int) := by omega
      have HG2 := Lib.hid (HGk.out.trans HD.out)
      clear HGk HD
      obtain ⟨w7, rfl⟩ : ∃ w7, w7 = wr := ⟨wr, rfl⟩
      go_wp2_with fail
      go_loopw [7, 10] (fun v7 i wr => ∃ (j : Nat) (s : List G7), k + 1 ≤ j ∧ j ≤ L.length ∧ i = .int .i64 j ∧ G = (gapRow below k x j (L.drop j) s).bind (gapAll below (k + 1) (L.drop (k + 1))) ∧ wr.ownsRow w.heap.size 44 7 v7 s.length (cG s) ∧ s.length ≤ 2000 * k + j ∧ Below w.heap.size w wr) (fun _ i _ => L.length - (intOf i).toNat)
      case atStart => exact ⟨k + 1, s, Nat.le_refl _, by omega, by go_num, HG2.out, HO.out, by omega, hbw⟩
      case round =>
        obtain ⟨j, s, hj0, hj, rfl, hg, ho, hsl, hbi⟩ := hrel
        have HGj := Lib.hid hg
        have HOj := Lib.hid ho
        clear hg ho HG2 HO
        have zi := hbi.size
        have hjz : (0 : Int) ≤ (j : Int) := by omega
        by_cases hjl : j < L.length
        · have hM := H0.out.below hbi
          obtain ⟨b', off', e, hb', hc⟩ := hM.1 (by omega)
          cases e
          have hi := List.getElem?_eq_getElem hjl
          have d0 := hc j _ hi
          have HD := Lib.hid (gapRow_drop (below := below) (i := k) (a := x) (s := s) hjl)
          have RY := Lib.hid (hRg.out _ (List.getElem_mem hjl))
          have ly := hlen.out _ (List.getElem_mem hjl)
          have RN := Lib.hid (fun W (hb : Below w.heap.size w W) => (((H0.out).below hb).2 j _ hi).1)
          clear hc hi hM
          generalize L[j] = y at *
          have hjlt : (j : Int) < (L.length : Int) := by omega
          have hcase := gap_cases below k j x y s
          have HGs := Lib.hid (HGj.out.trans (congrArg (fun z => z.bind (gapAll below (k + 1) (L.drop (k + 1)))) HD.out))
          generalize hQ : gapStep below k j x y s = Q at *
          clear hQ HGj HD
          rcases hcase with ⟨e1, rfl⟩ | ⟨e1, e2, rfl⟩ | ⟨e1, e2, e3, rfl⟩ | ⟨e1, e2, e3, e4, rfl⟩ | ⟨e1, e2, e3, e4, rfl⟩
          · have f1 := len_yes e1
            have HE := Lib.hid e1
            clear e1
            go_wp2_with fail
            go_roundw
            case rel => exact ⟨j + 1, s, by omega, by omega, by go_num, HGs.out, HOj.out, by omega, hbi⟩
            case measure => simp [intOf]; omega
          · have f1 := len_no e1
            have f2 := len_yes e2
            have HE := Lib.hid e2
            clear e2
            go_wp2_with fail
            go_roundw
            case rel => exact ⟨j + 1, s, by omega, by omega, by go_num, HGs.out, HOj.out, by omega, hbi⟩
            case measure => simp [intOf]; omega
          · have f1 := len_no e1
            have f2 := len_no e2
            have CD := Lib.hid (fun W h1 h2 => regionDistance_any (hd k).1 (hd j).1 x y (hd k).2 (hd j).2 W (fun r hr => rt_of (RX.out r hr)) (fun r hr => rt_of (RY.out r hr)) (by omega) (by omega) lx ly h1 h2)
            rw [e3] at CD
            have hG : G = none := HGs.out
            subst hG
            clear e3 HGs
            go_wp2_with fail
            refine (CD.out _ (RM.out _ hbi) (RN.out _ hbi)).mono ?_
            rintro e w2 ⟨rfl, hb⟩
            have B2 := up (B := w.heap.size) hbi hb (by (first | (with_reducible exact Nat.le_refl _) | (with_reducible assumption) | omega | (simp only [World.size_alloc, World.size_setCell, World.size_drew]; omega) | (simp; omega) | (simp; done)))
            clear hb
            go_wp2_with fail
            go_ret2
            exact ⟨_, rfl, own_nilR _ _ _ _, B2⟩
          · have f1 := len_no e1
            have f2 := len_no e2
            have CD := Lib.hid (fun W h1 h2 => regionDistance_any (hd k).1 (hd j).1 x y (hd k).2 (hd j).2 W (fun r hr => rt_of (RX.out r hr)) (fun r hr => rt_of (RY.out r hr)) (by omega) (by omega) lx ly h1 h2)
            have fb := farRs_bound (by omega) (by omega) RX.out RY.out
            generalize farRs x y = n at *
            have f3 : (n == 0) = false := by simpa using e3
            go_wp2_with fail
            refine (CD.out _ (RM.out _ hbi) (RN.out _ hbi)).mono ?_
            rintro e w2 ⟨rfl, hb⟩
            have B2 := up (B := w.heap.size) hbi hb (by (first | (with_reducible exact Nat.le_refl _) | (with_reducible assumption) | omega | (simp only [World.size_alloc, World.size_setCell, World.size_drew]; omega) | (simp; omega) | (simp; done)))
            have O2 := Lib.hid (ownsRow_below' HOj.out hb)
            clear hb
            go_wp2_with fail
            go_roundw
            case rel => exact ⟨j + 1, s, by omega, by omega, by go_num, HGs.out, O2.out, by omega, B2⟩
            case measure => simp [intOf]; omega
          · have f1 := len_no e1
            have f2 := len_no e2
            have CD := Lib.hid (fun W h1 h2 => regionDistance_any (hd k).1 (hd j).1 x y (hd k).2 (hd j).2 W (fun r hr => rt_of (RX.out r hr)) (fun r hr => rt_of (RY.out r hr)) (by omega) (by omega) lx ly h1 h2)
            have fb := farRs_bound (by omega) (by omega) RX.out RY.out
            have CN := Lib.hid (fun W h1 h2 => firstNear_any (hd k).1 (hd j).1 x y (hd k).2 (hd j).2 (farRs x y) W RX.out RY.out lx ly fb.1 (by omega) h1 h2)
            have hs := sq_rg RX.out RY.out fb.1
            have CT := Lib.hid (fun S W h1 h2 => firstNear_any (hd j).1 S y [sqAt (npF (farRs x y) x y).2.1 (npF (farRs x y) x y).2.2] (hd j).2 1 (farRs x y) W RY.out (fun r hr => by rw [List.mem_singleton.1 hr]; exact hs) ly (by simp) fb.1 (by omega) h1 h2)
            obtain ⟨r0, r1, r2, r3⟩ := npF_range RX.out RY.out fb.1
            have CS := Lib.hid (fun W => squareAt_any (npF (farRs x y) x y).2.1 (npF (farRs x y) x y).2.2 ⟨r0, by omega⟩ ⟨r2, by omega⟩ W)
            have hgap : gapOf k j x y = ⟨k, j, farRs x y - 1, (npF (farRs x y) x y).2.1, (npF (farRs x y) x y).2.2, (npF (farRs x y) y [sqAt (npF (farRs x y) x y).2.1 (npF (farRs x y) x y).2.2]).2.1, (npF (farRs x y) y [sqAt (npF (farRs x y) x y).2.1 (npF (farRs x y) x y).2.2]).2.2⟩ := rfl
            rw [hgap] at HGs
            clear hgap hs
            simp only [List.length_singleton] at CT
            generalize farRs x y = n at *
            generalize npF n y [sqAt (npF n x y).2.1 (npF n x y).2.2] = T at *
            generalize npF n x y = F at *
            obtain ⟨f0, fx, fy⟩ := F
            obtain ⟨t0, tx, ty⟩ := T
            simp only at CN CT CS HGs r0 r1 r2 r3
            have f3 : (n == 0) = false := by simpa using e3
            obtain ⟨w8, rfl⟩ : ∃ w8, w8 = wr := ⟨wr, rfl⟩
            go_wp2_with fail
            refine (CD.out _ (RM.out _ hbi) (RN.out _ hbi)).mono ?_
            rintro e w2 ⟨rfl, hb⟩
            have B2 := up (B := w.heap.size) hbi hb (by (first | (with_reducible exact Nat.le_refl _) | (with_reducible assumption) | omega | (simp only [World.size_alloc, World.size_setCell, World.size_drew]; omega) | (simp; omega) | (simp; done)))
            have D2 := Lib.hid hb
            have z2 := hb.size
            clear hb
            have d2 := ((bcell D2.out).1 _ _ hb').trans d0
            go_wp2_with fail
            refine (CN.out _ (RM.out _ B2) (RN.out _ B2)).mono ?_
            rintro e w3 ⟨rfl, hb⟩
            have B3 := up (B := w.heap.size) B2 hb (by (first | (with_reducible exact Nat.le_refl _) | (with_reducible assumption) | omega | (simp only [World.size_alloc, World.size_setCell, World.size_drew]; omega) | (simp; omega) | (simp; done)))
            have E3 := D2.out.trans (hb.mono z2)
            have D3 := Lib.hid E3
            have z3 := hb.size
            clear hb D2 B2
            have k0 := ((bcell D3.out).1 _ _ hb').trans d0
            clear d0 c0 d2
            have l3 : b < w3.heap.size := by omega
            have n3 : ¬ b = w3.heap.size := Nat.ne_of_lt l3
            have n3' : ¬ w3.heap.size = b := fun h => n3 h.symm
            have n4 : ¬ b = w3.heap.size + 1 := by omega
            have n4' : ¬ w3.heap.size + 1 = b := by omega
            have z38 := D3.out.size
            go_upto_region 17 with fail
            go_cut [13] (fun s13 wx => ∃ P : Nat, s13 = .pointer (some ⟨P, 0, none⟩) ∧ GpW w8 w3.heap.size P fx fy tx ty wx)
            case first =>
              go_region_held3 (fun w' => w'.cell? ⟨b, off + j, none⟩ = some (.slice (hd j).1 y.length (hd j).2) ∧ w'.cell? ⟨w3.heap.size, 0, none⟩ = some (.int .i64 fx) ∧ w'.cell? ⟨w3.heap.size, 1, none⟩ = some (.int .i64 fy)) (first | (focus (refine ⟨(World.cell?_alloc_lt _ _ _ ?_).trans ?_, (World.cell?_alloc_lt _ _ _ ?_).trans ?_, (World.cell?_alloc_lt _ _ _ ?_).trans ?_⟩ <;> (first | assumption | (show _ < _; omega)); done)) | (focus (refine ⟨((bcell hb).1 _ _ ?_).trans ?_, ((bcell hb).1 _ _ ?_).trans ?_, ((bcell hb).1 _ _ ?_).trans ?_⟩ <;> (first | assumption | omega | (simp only [World.size_alloc, World.size_setCell, World.size_drew]; omega) | (simp [go_sem, *]; done)); done)) | (focus (simp [go_sem, *]; done)) | go_keep)
                (first | (go_at_call 37; refine (CS.out _).mono ?_; rintro e v1 ⟨rfl, hb⟩; have y1 := hb.size; (try simp only [World.size_alloc, World.size_setCell, World.size_drew] at y1); have BV1 := up (B := w.heap.size) (w := w) (by (repeat' (first | (with_reducible exact Below.refl _ _) | (with_reducible assumption) | (with_reducible refine Below.alloc ?_ ?_ _) | (with_reducible refine Below.drew ?_) | (with_reducible refine below_drewN ?_ _) | (with_reducible refine Below.setCell ?_ ?_ _) | (with_reducible exact Nat.le_refl _) | omega | (simp only [World.size_alloc, World.size_setCell, World.size_drew]; omega) | (simp; omega) | (simp; done)))) hb (by (first | (with_reducible exact Nat.le_refl _) | (with_reducible assumption) | omega | (simp only [World.size_alloc, World.size_setCell, World.size_drew]; omega) | (simp; omega) | (simp; done))); have CV1 := up (B := w8.heap.size) (w := w8) (by (repeat' (first | (with_reducible exact Below.refl _ _) | (with_reducible assumption) | (with_reducible refine Below.alloc ?_ ?_ _) | (with_reducible refine Below.drew ?_) | (with_reducible refine below_drewN ?_ _) | (with_reducible refine Below.setCell ?_ ?_ _) | (with_reducible exact Nat.le_refl _) | omega | (simp only [World.size_alloc, World.size_setCell, World.size_drew]; omega) | (simp; omega) | (simp; done)))) hb (by (first | (with_reducible exact Nat.le_refl _) | (with_reducible assumption) | omega | (simp only [World.size_alloc, World.size_setCell, World.size_drew]; omega) | (simp; omega) | (simp; done))); (try (refine kpw hb (b := w3.heap.size + 1) (cs := #[.int .i64 0, .int .i64 0]) ?_ ?_ ?_ ?_; (focus (first | omega | (simp only [World.size_alloc, World.size_setCell, World.size_drew]; omega))); (focus (intro i; simp [go_sem]; done)); (focus (intro i; simp [go_sem]; done)); (intro ka ga))); (try (refine ltw (a := b) (b := v1.heap.size) ?_ ?_; omega; (intro la; have lan := Nat.ne_of_lt la; have lam := Nat.ne_of_gt la))); (try (refine ltw (a := w3.heap.size) (b := v1.heap.size) ?_ ?_; omega; (intro lb; have lbn := Nat.ne_of_lt lb; have lbm := Nat.ne_of_gt lb))); (try (refine ltw (a := w3.heap.size + 1) (b := v1.heap.size) ?_ ?_; omega; (intro lc; have lcn := Nat.ne_of_lt lc; have lcm := Nat.ne_of_gt lc)))) | (go_at_call 36; refine (CT.out _ _ (RN.out _ ?_) (rd_one ?_ ?_)).mono ?_; (focus ((repeat' (first | (with_reducible exact Below.refl _ _) | (with_reducible assumption) | (with_reducible refine Below.alloc ?_ ?_ _) | (with_reducible refine Below.drew ?_) | (with_reducible refine below_drewN ?_ _) | (with_reducible refine Below.setCell ?_ ?_ _) | (with_reducible exact Nat.le_refl _) | omega | (simp only [World.size_alloc, World.size_setCell, World.size_drew]; omega) | (simp; omega) | (simp; done))); done)); (focus ((first | (with_reducible exact Nat.le_refl _) | (with_reducible assumption) | omega | (simp only [World.size_alloc, World.size_setCell, World.size_drew]; omega) | (simp; omega) | (simp; done)); done)); (focus (intro i; simp [go_sem, sqAt]; done)); rintro e v2 ⟨rfl, hb⟩; have sv0 : v2.cell? ⟨b, off + j, none⟩ = some (.slice (hd j).1 y.length (hd j).2) := ((bcell hb).1 _ _ (by (first | (with_reducible exact Nat.le_refl _) | (with_reducible assumption) | omega | (simp only [World.size_alloc, World.size_setCell, World.size_drew]; omega) | (simp; omega) | (simp; done)))).trans (by first | assumption | (simp [go_sem, *]; done)); have sv1 : v2.cell? ⟨w3.heap.size, 0, none⟩ = some (.int .i64 fx) := ((bcell hb).1 _ _ (by (first | (with_reducible exact Nat.le_refl _) | (with_reducible assumption) | omega | (simp only [World.size_alloc, World.size_setCell, World.size_drew]; omega) | (simp; omega) | (simp; done)))).trans (by first | assumption | (simp [go_sem, *]; done)); have sv2 : v2.cell? ⟨w3.heap.size, 1, none⟩ = some (.int .i64 fy) := ((bcell hb).1 _ _ (by (first | (with_reducible exact Nat.le_refl _) | (with_reducible assumption) | omega | (simp only [World.size_alloc, World.size_setCell, World.size_drew]; omega) | (simp; omega) | (simp; done)))).trans (by first | assumption | (simp [go_sem, *]; done)); have y2 := hb.size; (try simp only [World.size_alloc, World.size_setCell, World.size_drew] at y2); have BV2 := up (B := w.heap.size) (w := w) (by (repeat' (first | (with_reducible exact Below.refl _ _) | (with_reducible assumption) | (with_reducible refine Below.alloc ?_ ?_ _) | (with_reducible refine Below.drew ?_) | (with_reducible refine below_drewN ?_ _) | (with_reducible refine Below.setCell ?_ ?_ _) | (with_reducible exact Nat.le_refl _) | omega | (simp only [World.size_alloc, World.size_setCell, World.size_drew]; omega) | (simp; omega) | (simp; done)))) hb (by (first | (with_reducible exact Nat.le_refl _) | (with_reducible assumption) | omega | (simp only [World.size_alloc, World.size_setCell, World.size_drew]; omega) | (simp; omega) | (simp; done))); have CV2 := up (B := w8.heap.size) (w := w8) (by (repeat' (first | (with_reducible exact Below.refl _ _) | (with_reducible assumption) | (with_reducible refine Below.alloc ?_ ?_ _) | (with_reducible refine Below.drew ?_) | (with_reducible refine below_drewN ?_ _) | (with_reducible refine Below.setCell ?_ ?_ _) | (with_reducible exact Nat.le_refl _) | omega | (simp only [World.size_alloc, World.size_setCell, World.size_drew]; omega) | (simp; omega) | (simp; done)))) hb (by (first | (with_reducible exact Nat.le_refl _) | (with_reducible assumption) | omega | (simp only [World.size_alloc, World.size_setCell, World.size_drew]; omega) | (simp; omega) | (simp; done))); (try (refine kpw hb (b := w3.heap.size + 1) (cs := #[.int .i64 0, .int .i64 0]) ?_ ?_ ?_ ?_; (focus (first | omega | (simp only [World.size_alloc, World.size_setCell, World.size_drew]; omega))); (focus (intro i; simp [go_sem, ka, ga, lc, lcn, lcm]; done)); (focus (intro i; simp [go_sem, ka, ga, lc, lcn, lcm]; done)); (intro kd gd))); (try (refine kpw hb (b := v1.heap.size) (cs := #[.int .i64 0, .int .i64 0]) ?_ ?_ ?_ ?_; (focus (first | omega | (simp only [World.size_alloc, World.size_setCell, World.size_drew]; omega))); (focus (intro i; simp [go_sem]; done)); (focus (intro i; simp [go_sem]; done)); (intro ke ge))); (try (refine kpw hb (b := v1.heap.size + 1) (cs := #[.int .i64 0, .int .i64 0]) ?_ ?_ ?_ ?_; (focus (first | omega | (simp only [World.size_alloc, World.size_setCell, World.size_drew]; omega))); (focus (intro i; simp [go_sem]; done)); (focus (intro i; simp [go_sem]; done)); (intro kf gf))); (try (refine ltw (a := b) (b := v2.heap.size) ?_ ?_; omega; (intro ma; have man := Nat.ne_of_lt ma; have mam := Nat.ne_of_gt ma))); (try (refine ltw (a := w3.heap.size) (b := v2.heap.size) ?_ ?_; omega; (intro mb; have mbn := Nat.ne_of_lt mb; have mbm := Nat.ne_of_gt mb))); (try (refine ltw (a := w3.heap.size + 1) (b := v2.heap.size) ?_ ?_; omega; (intro mc; have mcn := Nat.ne_of_lt mc; have mcm := Nat.ne_of_gt mc))); (try (refine ltw (a := v1.heap.size) (b := v2.heap.size) ?_ ?_; omega; (intro md; have mdn := Nat.ne_of_lt md; have mdm := Nat.ne_of_gt md))); (try (refine ltw (a := v1.heap.size + 1) (b := v2.heap.size) ?_ ?_; omega; (intro me; have men := Nat.ne_of_lt me; have mem := Nat.ne_of_gt me)))))
              all_goals
                go_wp2_with fail
                go_meet
              all_goals exact ⟨_, rfl, ⟨by first | assumption | exact (World.cell?_alloc_lt _ _ _ (by (first | (with_reducible exact Nat.le_refl _) | (with_reducible assumption) | omega | (simp only [World.size_alloc, World.size_setCell, World.size_drew]; omega) | (simp; omega) | (simp; done)))).trans (by assumption) | exact (set2_far (by omega) _).trans (by assumption), by first | assumption | exact (World.cell?_alloc_lt _ _ _ (by (first | (with_reducible exact Nat.le_refl _) | (with_reducible assumption) | omega | (simp only [World.size_alloc, World.size_setCell, World.size_drew]; omega) | (simp; omega) | (simp; done)))).trans (by assumption) | exact (set2_far (by omega) _).trans (by assumption), by first | (simp [go_sem]; done) | exact set2 (by assumption) 0 | exact set2 (by assumption) 1, by first | (simp [go_sem]; done) | exact set2 (by assumption) 0 | exact set2 (by assumption) 1, by (first | (with_reducible exact Nat.le_refl _) | (with_reducible assumption) | omega | (simp only [World.size_alloc, World.size_setCell, World.size_drew]; omega) | (simp; omega) | (simp; done)), by (first | (with_reducible exact Nat.le_refl _) | (with_reducible assumption) | omega | (simp only [World.size_alloc, World.size_setCell, World.size_drew]; omega) | (simp; omega) | (simp; done)), by (repeat' (first | (with_reducible exact Below.refl _ _) | (with_reducible assumption) | (with_reducible refine Below.alloc ?_ ?_ _) | (with_reducible refine Below.drew ?_) | (with_reducible refine below_drewN ?_ _) | (with_reducible refine Below.setCell ?_ ?_ _) | (with_reducible exact Nat.le_refl _) | omega | (simp only [World.size_alloc, World.size_setCell, World.size_drew]; omega) | (simp; omega) | (simp; done)))⟩⟩
            case rest =>
              obtain ⟨P, rfl, hP⟩ := hcut
              have g0 := hP.q0
              have g1 := hP.q1
              have g2 := hP.p0
              have g3 := hP.p1
              have g4 := hP.lq
              have g5 := hP.lp
              have O4 := Lib.hid (ownsRow_below' HOj.out hP.b)
              have B4 := hbi.trans (hP.b.mono zi)
              have z4 := B4.size
              clear hP
              go_wp2_with (first | (at_builtin; refine wpList_append_own _ rfl (.tmp 74) (.tmp 82) 37 rfl w.heap.size 44 i0 (.agg #[.int .i64 0, .int .i64 0, .int .i64 0, .int .i64 0, .int .i64 0, .int .i64 0, .int .i64 0]) 7 56 Try.underlying37 hi0 hz0 hz1 hz2 rfl (by decide) u7 s.length (cG s) rfl ?o1 ⟨wc.heap.size, 0, none⟩ 1 1 [.int .i64 k, .int .i64 j, .int .i64 (n - 1), .int .i64 fx, .int .i64 fy, .int .i64 tx, .int .i64 ty] rfl rfl ?nw ?o2 ?q4 ?q5 ?b2 ?_; (case o1 => exact ownsRow_below' O4.out (by (repeat' (first | (with_reducible exact Below.refl _ _) | (with_reducible assumption) | (with_reducible refine Below.alloc ?_ ?_ _) | (with_reducible refine Below.drew ?_) | (with_reducible refine below_drewN ?_ _) | (with_reducible refine Below.setCell ?_ ?_ _) | (with_reducible exact Nat.le_refl _) | omega | (simp only [World.size_alloc, World.size_setCell, World.size_drew]; omega) | (simp; omega) | (simp; done))))); (case nw => exact list_new _ _ (by simp) _ _); (case o2 => simp [Value.oneCell']); (case q4 => simp only [maxLen]; omega); (case q5 => omega); (case b2 => (first | (with_reducible exact Nat.le_refl _) | (with_reducible assumption) | omega | (simp only [World.size_alloc, World.size_setCell, World.size_drew]; omega) | (simp; omega) | (simp; done))); intro v2 w5 hown2 hg2 hnil2; have HO2 := Lib.hid hown2; have B5 := below_app (B := w.heap.size) (w0 := w) (by (repeat' (first | (with_reducible exact Below.refl _ _) | (with_reducible assumption) | (with_reducible refine Below.alloc ?_ ?_ _) | (with_reducible refine Below.drew ?_) | (with_reducible refine below_drewN ?_ _) | (with_reducible refine Below.setCell ?_ ?_ _) | (with_reducible exact Nat.le_refl _) | omega | (simp only [World.size_alloc, World.size_setCell, World.size_drew]; omega) | (simp; omega) | (simp; done)))) (ownsRow_below' O4.out (by (repeat' (first | (with_reducible exact Below.refl _ _) | (with_reducible assumption) | (with_reducible refine Below.alloc ?_ ?_ _) | (with_reducible refine Below.drew ?_) | (with_reducible refine below_drewN ?_ _) | (with_reducible refine Below.setCell ?_ ?_ _) | (with_reducible exact Nat.le_refl _) | omega | (simp only [World.size_alloc, World.size_setCell, World.size_drew]; omega) | (simp; omega) | (simp; done))))) hg2 (Nat.le_refl _) (by (first | (with_reducible exact Nat.le_refl _) | (with_reducible assumption) | omega | (simp only [World.size_alloc, World.size_setCell, World.size_drew]; omega) | (simp; omega) | (simp; done))); clear hown2 hg2 hnil2))
              go_roundw
              case rel => exact ⟨j + 1, _, by omega, by omega, by go_num, HGs.out, own_snocG HO2.out, by simp; omega, B5⟩
              case measure => simp [intOf]; omega
        · obtain rfl : j = L.length := by omega
          have HGe := Lib.hid (show G = gapAll below (k + 1) (L.drop (k + 1)) s from by rw [HGj.out, List.drop_length]; rfl)
          go_wp2_with fail
          go_roundw
          case rel => exact ⟨k + 1, s, by omega, by go_num, HGe.out, HOj.out, by omega, hbi⟩
          case measure => simp [intOf]; omega
    · obtain rfl : k = L.length := by omega
      have hG : G = some s := by rw [HGk.out, List.drop_length]; rfl
      subst hG
      go_wp2_with fail
      go_ret2
      exact ⟨_, rfl, HO.out, hbw⟩
end Go.Proofs.Ytjcbngpgmgeanaa
/- Gaps of the program with all its faults, whatever the world. -/
namespace Go.Proofs.Ytjcbngpgmgeanaa
open Go.RowKit
open Reg (R4)
set_option linter.unusedSimpArgs false
set_option linter.unusedVariables false

set_option maxRecDepth 100000 in
set_option maxHeartbeats 2000000 in
theorem gaps_any (A : Option Addr) (L : List (List R4)) (c : Nat) (hd : Nat → Option Addr × Nat) (below : Int) (w : World) (hl : L.length ≤ 140737488355328) (h : RdM w A L hd) :
    Calls Try.prog 16 #[.slice A L.length c, .int .i64 below] w (GotGF w (gpL L below) (gpF L below)) := by
  by_cases h0 : cgF L below = 0
  · unfold gpL gpF
    rw [if_pos h0, if_pos h0]
    exact gaps_ok A L c hd below w hl h h0
  · unfold gpL gpF GotGF
    rw [if_neg h0, if_neg h0]
    have H0 := Lib.hid h
    have CC := Lib.hid (fun W h => checkGaps_any A L c hd below W hl h)
    have hd1 : (cgF L below == 0) = false := by simpa using h0
    have hd2 : (cgF L below != 0) = true := by simpa using h0
    clear h h0
    generalize cgF L below = F at *
    go_enter Try.func16, Try.ntmps16
    go_wp2_with fail
    refine (CC.out _ H0.out).mono ?_
    rintro e w1 ⟨rfl, hb⟩
    have B1 := Lib.hid hb
    clear hb
    go_wp2_with fail
    go_ret2
    exact ⟨_, rfl, own_nilR _ _ _ _, B1.out⟩

end Go.Proofs.Ytjcbngpgmgeanaa

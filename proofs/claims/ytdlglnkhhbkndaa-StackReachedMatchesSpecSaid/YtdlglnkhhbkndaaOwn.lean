/- Rows and maps of the call's own, and what turns beside them. -/
import Derived.Test.YtdlglnkhhbkndaaBas
import Derived.Test.YtdlglnkhhbkndaaMapV
namespace Go.Proofs.Ytdlglnkhhbkndaa
open Go.RowKit
set_option linter.unusedSimpArgs false
set_option linter.unusedVariables false

section
variable {w w1 w2 : World} {o : Option Nat}
theorem gb_refl (w : World) (o : Option Nat) : w.grownBy w o := ⟨rfl, rfl, rfl, Nat.le_refl _, fun _ _ _ => rfl⟩
theorem gb_trans (h : w.grownBy w1 o) (k : w1.grownBy w2 o) : w.grownBy w2 o :=
  ⟨k.os.trans h.os, k.tape.trans h.tape, k.output.trans h.output, Nat.le_trans h.size k.size, fun j hj hn => (k.block j (Nat.lt_of_lt_of_le hj h.size) hn).trans (h.block j hj hn)⟩
theorem gb_alloc (h : w.grownBy w1 o) (x : Obj) : w.grownBy (w1.alloc x) o :=
  ⟨h.os, h.tape, h.output, by have := h.size; simp; omega, fun j hj hn => by
    have := h.size
    rw [← h.block j hj hn]
    simp only [World.alloc]
    rw [Array.getElem?_push_lt (by omega), Array.getElem?_eq_getElem]⟩
theorem gb_drew (h : w.grownBy w1 o) : w.grownBy w1.drew o := ⟨h.os, h.tape, h.output, h.size, h.block⟩
theorem gb_drewN (h : w.grownBy w1 o) (n : Nat) : w.grownBy (w1.drewN n) o := ⟨h.os, h.tape, h.output, h.size, h.block⟩
theorem gb_set (h : w.grownBy w1 o) {p : Addr} (hp : o = some p.block ∨ w.heap.size ≤ p.block) (v : Value) : w.grownBy (w1.setCell p v) o :=
  ⟨h.os, h.tape, h.output, by have := h.size; simpa using this, fun j hj hn => by
    rw [← h.block j hj hn]
    have hne : ¬ p.block = j := by
      rcases hp with rfl | hp
      · exact fun e => hn (by rw [e])
      · omega
    simp [World.setCell, Array.getElem?_modify, hne]⟩
theorem gb_below (h : w.grownBy w1 o) {B : Nat} (hb : Below B w1 w2) (hB : w.heap.size ≤ B) : w.grownBy w2 o :=
  ⟨hb.os.trans h.os, hb.tape.trans h.tape, hb.output.trans h.output, Nat.le_trans h.size hb.size, fun j hj hn => (hb.block j (by omega)).trans (h.block j hj hn)⟩
theorem gb_of_below (h : Below w.heap.size w w1) (o : Option Nat) : w.grownBy w1 o := ⟨h.os, h.tape, h.output, h.size, fun j hj _ => h.block j hj⟩
theorem below_gb {B : Nat} (h : w.grownBy w1 o) (hB : B ≤ w.heap.size) (ho : ∀ g, o = some g → B ≤ g) : Below B w w1 :=
  ⟨h.os, h.tape, h.output, h.size, fun j hj => h.block j (by omega) (fun e => by have := ho j e.symm; omega)⟩
end
section
variable {w w' : World} {base n size : Nat} {e : TypeId} {v : Value} {xs : List Value}
theorem own_cells (h : w.ownsRow base e size v n xs) : ∃ A c, v = .slice A n c ∧ n ≤ c ∧ c ≤ maxLen ∧ (0 < n → ∃ g, A = some ⟨g, 0, none⟩ ∧ base ≤ g ∧ g < w.heap.size ∧ ∀ j u, xs[j]? = some u → w.cell? ⟨g, j, none⟩ = some u) := by
  have hlt := h.lt
  rcases h.2 with ⟨rfl, rfl⟩ | ⟨g, cap, cur, rfl, hb, hh, hn, hm, _, _⟩
  · exact ⟨none, 0, rfl, Nat.le_refl _, by simp [maxLen], fun h => absurd h (by omega)⟩
  · refine ⟨_, cap, rfl, hn, hm, fun _ => ⟨g, rfl, hb, (hlt g rfl).2, fun j u hj => ?_⟩⟩
    have := h.cells (g := g) rfl j u hj
    by_cases h0 : j = 0
    · subst h0; simpa [Addr.add] using this
    · simpa [Addr.add, h0] using this
theorem own_open (h : w.ownsRow base e size v n xs) :
    (v = .slice none 0 0 ∧ n = 0) ∨ ∃ g cap cur, v = .slice (some ⟨g, 0, none⟩) n cap ∧ base ≤ g ∧ w.heap[g]? = some (.cells cur e (0, 0)) ∧ n ≤ cap ∧ cap ≤ maxLen ∧ cur.size = cap * size ∧ cur.toList.take (n * size) = xs := h.2
theorem own_mk {cap g : Nat} {cur : Array Value} (hb : base ≤ g) (b : w.heap[g]? = some (.cells cur e (0, 0))) (h1 : n ≤ cap) (h2 : cap ≤ maxLen) (h3 : cur.size = cap * size) (h4 : cur.toList.take (n * size) = xs) :
    w.ownsRow base e size (.slice (some ⟨g, 0, none⟩) n cap) n xs := by
  refine ⟨?_, .inr ⟨g, cap, cur, rfl, hb, b, h1, h2, h3, h4⟩⟩
  rw [← h4, List.length_take, Array.length_toList, h3, Nat.min_eq_left (Nat.mul_le_mul_right _ h1)]
theorem own_grown (h : w.ownsRow base e size v n xs) {o : Option Nat} (hb : w.grownBy w' o) (hn : ∀ g, v.ownBlock = some g → o ≠ some g) : w'.ownsRow base e size v n xs := by
  rcases own_open h with ⟨rfl, rfl⟩ | ⟨g, cap, cur, rfl, h1, h2, h3, h4, h5, h6⟩
  · exact ⟨h.1, .inl ⟨rfl, rfl⟩⟩
  · exact own_mk h1 ((hb.block g (Array.getElem?_eq_some_iff.1 h2).1 (fun e => hn g rfl e.symm)).trans h2) h3 h4 h5 h6
theorem own_below (h : w.ownsRow base e size v n xs) (hb : Below w.heap.size w w') : w'.ownsRow base e size v n xs :=
  h.kept (row := none) ⟨hb.os, hb.tape, hb.output, hb.size, fun k hk _ => hb.block k hk⟩ (by cases hv : v.ownBlock <;> simp)
theorem own_nil {W : World} {base size : Nat} {e : TypeId} : W.ownsRow base e size (.slice none 0 0) 0 [] := ⟨by simp, .inl ⟨rfl, rfl⟩⟩
/-- Rows of two types lie in two blocks. -/
theorem own_types {base' n' size' : Nat} {e' : TypeId} {v' : Value} {xs' : List Value} (h : w.ownsRow base e size v n xs) (h' : w.ownsRow base' e' size' v' n' xs') (he : e ≠ e') : ∀ g, v.ownBlock = some g → v'.ownBlock ≠ some g := by
  intro g hg hg'
  rcases own_open h with ⟨rfl, rfl⟩ | ⟨g1, cap, cur, rfl, -, h2, -⟩
  · cases hg
  · rcases own_open h' with ⟨rfl, rfl⟩ | ⟨g2, cap', cur', rfl, -, h2', -⟩
    · cases hg'
    · simp [Value.ownBlock] at hg hg'
      subst hg hg'
      rw [h2] at h2'
      simp only [Option.some.injEq, Obj.cells.injEq] at h2'
      exact he h2'.2.1
theorem own_block {p : Nat} {cur : Array Value} {e' : TypeId} {fr : Nat × Nat} (h : w.ownsRow base e size v n xs) (hb : w.heap[p]? = some (.cells cur e' fr)) (he : e ≠ e') : v.ownBlock ≠ some p := by
  intro hg
  rcases own_open h with ⟨rfl, rfl⟩ | ⟨g1, cap, cur, rfl, -, h2, -⟩
  · cases hg
  · simp [Value.ownBlock] at hg
    subst hg
    rw [h2] at hb
    simp only [Option.some.injEq, Obj.cells.injEq] at hb
    exact he hb.2.1
theorem own_map {P : Program} {k : TypeId} {q m : Nat} {f : Lit → Option Value} (h : w.ownsRow base e size v n xs) (hm : MapV P k w q m f) : v.ownBlock ≠ some q := by
  intro hg
  obtain ⟨D, ⟨es, clock, hb, _⟩, _⟩ := hm
  rcases own_open h with ⟨rfl, rfl⟩ | ⟨g1, cap, cur, rfl, -, h2, -⟩
  · cases hg
  · simp [Value.ownBlock] at hg
    subst hg
    rw [h2] at hb
    cases hb
theorem below_app {B : Nat} {w0 : World} (h : Below B w0 w) (ho : w.ownsRow base e size v n xs) (hg : w.grownBy w' v.ownBlock) (hB : B ≤ base) (hs : B ≤ w.heap.size) : Below B w0 w' :=
  h.grown hg hs (fun k hk => Nat.le_trans hB (ho.lt k hk).1)
end
/-- What is read of a block that is known whole. -/
theorem blk_cell {w : World} {p : Nat} {cur : Array Value} {T : TypeId} {fr : Nat × Nat} (h : w.heap[p]? = some (.cells cur T fr)) (i : Nat) : w.cell? ⟨p, i, none⟩ = cur[i]? := by simp [World.cell?, h]
theorem blk_free {w : World} {p : Nat} {cur : Array Value} {T : TypeId} (h : w.heap[p]? = some (.cells cur T (0, 0))) (i : Nat) : w.frozen? ⟨p, i, none⟩ = false := by simp [World.frozen?, h]
theorem blk_set {w : World} {p : Nat} {cur : Array Value} {T : TypeId} {fr : Nat × Nat} (h : w.heap[p]? = some (.cells cur T fr)) (i : Nat) (v : Value) : (w.setCell ⟨p, i, none⟩ v).heap[p]? = some (.cells (cur.setIfInBounds i v) T fr) := by
  simp [World.setCell, Array.getElem?_modify, h]
theorem blk_lt {w : World} {p : Nat} {o : Obj} (h : w.heap[p]? = some o) : p < w.heap.size := (Array.getElem?_eq_some_iff.1 h).1
theorem one_new (W : World) (x : Value) (t : TypeId) : ∀ j v, [x][j]? = some v → (W.alloc (.cells #[x] t)).cell? ((⟨W.heap.size, 0, none⟩ : Addr).add j) = some v := by
  intro j u hj
  match j, hj with
  | 0, hj => simp at hj; subst hj; simp [Addr.add]
theorem four_new (W : World) (x y z u : Value) (t : TypeId) : ∀ j v, [x, y, z, u][j]? = some v → (W.alloc (.cells #[x, y, z, u] t)).cell? ((⟨W.heap.size, 0, none⟩ : Addr).add j) = some v := by
  intro j u hj
  match j, hj with
  | 0, hj => simp at hj; subst hj; simp [Addr.add]
  | 1, hj => simp at hj; subst hj; simp [Addr.add]
  | 2, hj => simp at hj; subst hj; simp [Addr.add]
  | 3, hj => simp at hj; subst hj; simp [Addr.add]
/-- A callee that turns nothing, where some draws have been made before. -/
theorem quiet2 {P : Program} {f : FuncId} {args : Array Value} {w : World} {a n : Nat} {v : Value} (c : ∀ W : World, Calls P f args W fun e w' => e = .returned v ∧ w' = W) :
    Calls P f args (w.drewN (a + n)) fun e w' => e = .returned v ∧ ∃ m, w' = w.drewN (a + m) :=
  (c _).mono fun _ _ h => ⟨h.1, n, h.2⟩
end Go.Proofs.Ytdlglnkhhbkndaa

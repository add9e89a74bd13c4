/- Blocks of cells of the call's own, read and written cell by cell; rows of sides in them. -/
import Derived.Below
import Derived.OwnWalk
import Derived.Laws.CopyRow
import Derived.Lib.SliceRun
import Derived.Deep.RegionHeld
import Derived.Test.YtmcbjaefnhfopaaGreatSweep
namespace Go.Proofs.YtmcbjaefnhfopaaGreat
open Go Go.RowKit
open Reg (R4 E5)
set_option linter.unusedSimpArgs false
set_option linter.unusedVariables false

/-- Block g, whole, of the call's own. -/
def Blk (w : World) (g : Nat) (T : TypeId) (cur : Array Value) : Prop := w.heap[g]? = some (.cells cur T (0, 0))
section
variable {w w' : World} {g h j : Nat} {T : TypeId} {cur : Array Value} {v : Value}
theorem Blk.lt (b : Blk w g T cur) : g < w.heap.size := (Array.getElem?_eq_some_iff.1 b).1
theorem Blk.cell (b : Blk w g T cur) (j : Nat) : w.cell? ⟨g, j, none⟩ = cur[j]? := by
  unfold Blk at b
  simp [World.cell?, b]
theorem Blk.frozen (b : Blk w g T cur) (j : Nat) : w.frozen? ⟨g, j, none⟩ = false := by
  unfold Blk at b
  simp [World.frozen?, b]
theorem Blk.set (b : Blk w g T cur) (j : Nat) (v : Value) : Blk (w.setCell ⟨g, j, none⟩ v) g T (cur.setIfInBounds j v) := by
  unfold Blk at *
  simp [World.setCell, Array.getElem?_modify, b]
theorem Blk.far (b : Blk w g T cur) (hn : ¬ h = g) (j : Nat) (v : Value) : Blk (w.setCell ⟨h, j, none⟩ v) g T cur := by
  unfold Blk at *
  simp [World.setCell, Array.getElem?_modify, b, hn]
theorem Blk.alloc (b : Blk w g T cur) (o : Obj) : Blk (w.alloc o) g T cur := by
  have := b.lt
  unfold Blk at *
  simp only [World.alloc]
  rw [Array.getElem?_push_lt this]
  rw [← b, Array.getElem?_eq_getElem this]
theorem Blk.drew (b : Blk w g T cur) : Blk w.drew g T cur := b
theorem Blk.below (b : Blk w g T cur) {B : Nat} (hb : Below B w w') (hg : g < B) : Blk w' g T cur := by
  unfold Blk at *
  rw [hb.block g hg, b]
theorem Blk.grown (b : Blk w g T cur) {o : Option Nat} (hb : w.grownBy w' o) (hn : o ≠ some g) : Blk w' g T cur := by
  have := b.lt
  unfold Blk at *
  rw [hb.block g this hn.symm, b]
theorem Blk.setRow (b : Blk w g T cur) (d : Array Value) : Blk (w.setRow g d) g T d := setRow_heap w g cur d T _ b
end

/-- A row of the call's own that is not nil lies at the head of a block. -/
theorem own_open {w : World} {base : Nat} {T : TypeId} {size n : Nat} {v : Value} {xs : List Value} (h : w.ownsRow base T size v n xs) :
    (v = .slice none 0 0 ∧ n = 0) ∨ ∃ g cap cur, v = .slice (some ⟨g, 0, none⟩) n cap ∧ base ≤ g ∧ Blk w g T cur ∧ n ≤ cap ∧ cap ≤ maxLen ∧ cur.size = cap * size ∧ cur.toList.take (n * size) = xs := h.2
theorem own_mk {w : World} {base : Nat} {T : TypeId} {size n cap g : Nat} {cur : Array Value} {xs : List Value} (hb : base ≤ g) (b : Blk w g T cur) (h1 : n ≤ cap) (h2 : cap ≤ maxLen) (h3 : cur.size = cap * size) (h4 : cur.toList.take (n * size) = xs) :
    w.ownsRow base T size (.slice (some ⟨g, 0, none⟩) n cap) n xs := by
  refine ⟨?_, .inr ⟨g, cap, cur, rfl, hb, b, h1, h2, h3, h4⟩⟩
  rw [← h4, List.length_take, Array.length_toList, h3, Nat.min_eq_left (Nat.mul_le_mul_right _ h1)]
theorem own_grown {w w' : World} {base : Nat} {T : TypeId} {size n : Nat} {v : Value} {xs : List Value} (h : w.ownsRow base T size v n xs) {o : Option Nat} (hb : w.grownBy w' o) (hn : ∀ g, v.ownBlock = some g → o ≠ some g) : w'.ownsRow base T size v n xs := by
  rcases own_open h with ⟨rfl, rfl⟩ | ⟨g, cap, cur, rfl, h1, h2, h3, h4, h5, h6⟩
  · exact ⟨h.1, .inl ⟨rfl, rfl⟩⟩
  · exact own_mk h1 (h2.grown hb (hn g rfl)) h3 h4 h5 h6

/-- The cells of a side. -/
def cE1 (e : E5) : List Value := [.int .i64 e.x, .int .i64 e.y0, .int .i64 e.y1, .int .i64 e.li, .int .i64 e.st]
def cE (l : List E5) : List Value := l.flatMap cE1
theorem cE_len (l : List E5) : (cE l).length = l.length * 5 := by induction l <;> simp [cE, cE1] at *; omega
theorem cE_append (a b : List E5) : cE (a ++ b) = cE a ++ cE b := by simp [cE]
/-- A side lies in a row at a place. -/
def At5 (cur : Array Value) (k : Nat) (e : E5) : Prop := cur[k * 5]? = some (.int .i64 e.x) ∧ cur[k * 5 + 1]? = some (.int .i64 e.y0) ∧ cur[k * 5 + 2]? = some (.int .i64 e.y1) ∧ cur[k * 5 + 3]? = some (.int .i64 e.li) ∧ cur[k * 5 + 4]? = some (.int .i64 e.st)
def set5 (cur : Array Value) (k : Nat) (e : E5) : Array Value := ((((cur.setIfInBounds (k * 5) (.int .i64 e.x)).setIfInBounds (k * 5 + 1) (.int .i64 e.y0)).setIfInBounds (k * 5 + 2) (.int .i64 e.y1)).setIfInBounds (k * 5 + 3) (.int .i64 e.li)).setIfInBounds (k * 5 + 4) (.int .i64 e.st)
theorem set5_size (cur : Array Value) (k : Nat) (e : E5) : (set5 cur k e).size = cur.size := by simp [set5]
theorem At5.set_same {cur : Array Value} {k : Nat} {e : E5} (h : k * 5 + 5 ≤ cur.size) : At5 (set5 cur k e) k e := by
  unfold At5 set5
  simp only [Array.getElem?_setIfInBounds]
  refine ⟨?_, ?_, ?_, ?_, ?_⟩ <;> simp <;> omega
theorem At5.set_other {cur : Array Value} {k i : Nat} {e f : E5} (h : At5 cur i f) (hn : i ≠ k) : At5 (set5 cur k e) i f := by
  obtain ⟨h0, h1, h2, h3, h4⟩ := h
  unfold At5 set5
  simp only [Array.getElem?_setIfInBounds]
  refine ⟨?_, ?_, ?_, ?_, ?_⟩
  · rw [if_neg (by omega), if_neg (by omega), if_neg (by omega), if_neg (by omega), if_neg (by omega)]; exact h0
  · rw [if_neg (by omega), if_neg (by omega), if_neg (by omega), if_neg (by omega), if_neg (by omega)]; exact h1
  · rw [if_neg (by omega), if_neg (by omega), if_neg (by omega), if_neg (by omega), if_neg (by omega)]; exact h2
  · rw [if_neg (by omega), if_neg (by omega), if_neg (by omega), if_neg (by omega), if_neg (by omega)]; exact h3
  · rw [if_neg (by omega), if_neg (by omega), if_neg (by omega), if_neg (by omega), if_neg (by omega)]; exact h4
theorem cE_at {l : List E5} : ∀ {i : Nat} {e : E5}, l[i]? = some e → (cE l)[i * 5]? = some (.int .i64 e.x) ∧ (cE l)[i * 5 + 1]? = some (.int .i64 e.y0) ∧ (cE l)[i * 5 + 2]? = some (.int .i64 e.y1) ∧ (cE l)[i * 5 + 3]? = some (.int .i64 e.li) ∧ (cE l)[i * 5 + 4]? = some (.int .i64 e.st) := by
  induction l with
  | nil => intro i s h; simp at h
  | cons a l ih =>
    intro i s h
    cases i with
    | zero => simp at h; subst h; exact ⟨rfl, rfl, rfl, rfl, rfl⟩
    | succ i =>
      simp at h
      have := ih h
      simp only [cE, List.flatMap_cons] at this ⊢
      rw [show (i + 1) * 5 = i * 5 + 1 + 1 + 1 + 1 + 1 from by omega]
      exact this
/-- The head of a row, side by side. -/
theorem take_cE {cur : Array Value} {l : List E5} (h : l.length * 5 ≤ cur.size) : cur.toList.take (l.length * 5) = cE l ↔ ∀ i e, l[i]? = some e → At5 cur i e := by
  constructor
  · intro ht i e hi
    have hlt : i < l.length := (List.getElem?_eq_some_iff.1 hi).1
    obtain ⟨c0, c1, c2, c3, c4⟩ := cE_at hi
    rw [← ht] at c0 c1 c2 c3 c4
    rw [List.getElem?_take_of_lt (by omega), Array.getElem?_toList] at c0 c1 c2 c3 c4
    exact ⟨c0, c1, c2, c3, c4⟩
  · intro ha
    apply List.ext_getElem?
    intro t
    by_cases ht : t < l.length * 5
    · rw [List.getElem?_take_of_lt ht, Array.getElem?_toList]
      have hq : t / 5 < l.length := by omega
      have hi : l[t / 5]? = some l[t / 5] := List.getElem?_eq_getElem hq
      obtain ⟨a0, a1, a2, a3, a4⟩ := ha _ _ hi
      obtain ⟨c0, c1, c2, c3, c4⟩ := cE_at hi
      have hm : t % 5 < 5 := Nat.mod_lt _ (by decide)
      have hd : t = t / 5 * 5 + t % 5 := by omega
      generalize t / 5 = q at *
      generalize t % 5 = m at *
      subst hd
      match m, hm with
      | 0, _ => exact a0.trans c0.symm
      | 1, _ => exact a1.trans c1.symm
      | 2, _ => exact a2.trans c2.symm
      | 3, _ => exact a3.trans c3.symm
      | 4, _ => exact a4.trans c4.symm
    · rw [List.getElem?_take_eq_none (by omega), List.getElem?_eq_none (by rw [cE_len]; omega)]
/-- A row of sides that is kept at the head of a block. -/
def InE (cur : Array Value) (l : List E5) : Prop := ∀ i e, l[i]? = some e → At5 cur i e
theorem own_cE {w : World} {base : Nat} {T : TypeId} {cap g : Nat} {cur : Array Value} {l : List E5} (hb : base ≤ g) (b : Blk w g T cur) (h1 : l.length ≤ cap) (h2 : cap ≤ maxLen) (h3 : cur.size = cap * 5) (h4 : InE cur l) :
    w.ownsRow base T 5 (.slice (some ⟨g, 0, none⟩) l.length cap) l.length (cE l) :=
  own_mk hb b h1 h2 h3 ((take_cE (by rw [h3]; exact Nat.mul_le_mul_right _ h1)).2 h4)
theorem InE_snoc {cur : Array Value} {l : List E5} {k : Nat} {r : E5} (h : InE cur l) (hk : l.length = k) (hs : k * 5 + 5 ≤ cur.size) : InE (set5 cur k r) (l ++ [r]) := by
  intro i e hi
  by_cases hlt : i < l.length
  · rw [List.getElem?_append_left hlt] at hi
    exact (h i e hi).set_other (by omega)
  · rw [List.getElem?_append_right (by omega)] at hi
    have h0 : i - l.length = 0 := by
      have := (List.getElem?_eq_some_iff.1 hi).1
      simp at this
      omega
    rw [h0] at hi
    simp at hi
    subst hi
    obtain rfl : i = k := by omega
    exact At5.set_same hs
/-- Five stores. -/
theorem Blk.set5 {w : World} {g : Nat} {T : TypeId} {cur : Array Value} (b : Blk w g T cur) (k : Nat) (e : E5) :
    Blk (((((w.setCell ⟨g, k * 5, none⟩ (.int .i64 e.x)).setCell ⟨g, k * 5 + 1, none⟩ (.int .i64 e.y0)).setCell ⟨g, k * 5 + 2, none⟩ (.int .i64 e.y1)).setCell ⟨g, k * 5 + 3, none⟩ (.int .i64 e.li)).setCell ⟨g, k * 5 + 4, none⟩ (.int .i64 e.st)) g T (set5 cur k e) :=
  ((((b.set _ _).set _ _).set _ _).set _ _).set _ _
theorem set5_far {w : World} {g h : Nat} (hn : ¬ g = h) (j : Nat) {i0 i1 i2 i3 i4 : Nat} {v0 v1 v2 v3 v4 : Value} :
    (((((w.setCell ⟨g, i0, none⟩ v0).setCell ⟨g, i1, none⟩ v1).setCell ⟨g, i2, none⟩ v2).setCell ⟨g, i3, none⟩ v3).setCell ⟨g, i4, none⟩ v4).cell? ⟨h, j, none⟩ = w.cell? ⟨h, j, none⟩ := by
  rw [World.cell?_setCell_far _ _ _ _ hn, World.cell?_setCell_far _ _ _ _ hn, World.cell?_setCell_far _ _ _ _ hn, World.cell?_setCell_far _ _ _ _ hn, World.cell?_setCell_far _ _ _ _ hn]
theorem Below.set5 {B : Nat} {w w' : World} {g : Nat} (b : Below B w w') (hg : B ≤ g) {i0 i1 i2 i3 i4 : Nat} {v0 v1 v2 v3 v4 : Value} :
    Below B w (((((w'.setCell ⟨g, i0, none⟩ v0).setCell ⟨g, i1, none⟩ v1).setCell ⟨g, i2, none⟩ v2).setCell ⟨g, i3, none⟩ v3).setCell ⟨g, i4, none⟩ v4) :=
  ((((b.setCell hg _).setCell hg _).setCell hg _).setCell hg _).setCell hg _
end Go.Proofs.YtmcbjaefnhfopaaGreat

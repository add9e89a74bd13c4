/- Several texts in one: Brd, BrdC, BrdD, BrdF. -/
import Derived.Test.YtdlglnkhhbkndaaThr
import Derived.Maps.RangeWalk
/- Sub-boards as package stack gathers them (boards), in memory. -/
namespace Go.Proofs.Ytdlglnkhhbkndaa
open Go.RowKit Go.Maps
set_option linter.unusedSimpArgs false
set_option linter.unusedVariables false
set_option maxRecDepth 100000

/-- A sub-board: where it lies, from which copper to which one, whether it is a core, its holes. -/
structure Brd where
  blk : Nat
  a : Int
  b : Int
  core : Bool
  hv : Value
  hs : List Nat
/-- .. as it is said. -/
structure AB where
  a : Int
  b : Int
  core : Bool
  hs : List Nat
def Brd.ab (r : Brd) : AB := ⟨r.a, r.b, r.core, r.hs⟩
def keyB (a b : Int) (x : AB) : Bool := decide (x.a = a) && decide (x.b = b)
/-- A sub-board is changed; it is made first if there is none. -/
def upd (a b : Int) (g : AB → AB) (L : List AB) : List AB := if L.any (keyB a b) then L.map (fun x => if keyB a b x then g x else x) else L ++ [g ⟨a, b, false, []⟩]
abbrev W64 (a : Int) : Prop := (Lit.int .i64 a).wf = true
def hit (a b : Int) (r : Brd) : Bool := decide (r.a = a) && decide (r.b = b)
def ApartB (q r : Brd) : Prop := (¬ (q.a = r.a ∧ q.b = r.b)) ∧ q.blk ≠ r.blk ∧ ∀ g, q.hv.ownBlock = some g → r.hv.ownBlock ≠ some g
/-- The world in which sub-boards are gathered: the map in block M, its variable in block F. -/
structure BrdW (base M F n : Nat) (f : Lit → Option Value) (L : List Brd) (w : World) : Prop where
  bx : w.heap[F]? = some (.cells #[.map (some M)] 135 (0, 0))
  m : MapV Try.prog 64 w M n f
  fk : ∀ a b, W64 a → W64 b → f (keyT a b) = (L.find? (hit a b)).map fun r => .pointer (some ⟨r.blk, 0, none⟩)
  n : n ≤ L.length
  c : ∀ r ∈ L, w.heap[r.blk]? = some (.cells #[.int .i64 r.a, .int .i64 r.b, .bool r.core, r.hv] 62 (0, 0))
  h : ∀ r ∈ L, w.ownsRow base 3 1 r.hv r.hs.length (r.hs.map fun k => Value.int .i64 (k : Nat))
  g : ∀ r ∈ L, base ≤ r.blk
  wf : ∀ r ∈ L, W64 r.a ∧ W64 r.b
  d : L.Pairwise ApartB
  gm : base ≤ M
  gf : base ≤ F
  fe : ∀ kl v, f kl = some v → ∃ r ∈ L, kl = keyT r.a r.b
section
variable {base M F n : Nat} {f : Lit → Option Value} {L : List Brd} {w w' : World}
theorem BrdW.old (h : BrdW base M F n f L w) (hb : Below w.heap.size w w') : BrdW base M F n f L w' :=
  ⟨(hb.block F (blk_lt h.bx)).trans h.bx, h.m.below hb, h.fk, h.n, fun r hr => (hb.block r.blk (blk_lt (h.c r hr))).trans (h.c r hr), fun r hr => own_below (h.h r hr) hb, h.g, h.wf, h.d, h.gm, h.gf, h.fe⟩
theorem map_block {P : Program} {k : TypeId} {w : World} {q m : Nat} {f : Lit → Option Value} (h : MapV P k w q m f) {p : Nat} {cur : Array Value} {T : TypeId} {fr : Nat × Nat} (hb : w.heap[p]? = some (.cells cur T fr)) : p ≠ q := by
  intro e
  subst e
  obtain ⟨D, ⟨es, clock, hm, _⟩, _⟩ := h
  rw [hb] at hm
  cases hm
theorem blk_types {w : World} {p q : Nat} {cur cur' : Array Value} {T T' : TypeId} {fr fr' : Nat × Nat} (h : w.heap[p]? = some (.cells cur T fr)) (h' : w.heap[q]? = some (.cells cur' T' fr')) (hT : T ≠ T') : p ≠ q := by
  intro e
  subst e
  rw [h] at h'
  simp only [Option.some.injEq, Obj.cells.injEq] at h'
  exact hT h'.2.1
/-- A new sub-board. -/
theorem BrdW.new (h : BrdW base M F n f L w) (hbs : base ≤ w.heap.size) {a b : Int} (wa : W64 a) (wb : W64 b) (hno : L.find? (hit a b) = none) {n' : Nat}
    (hg : (w.alloc (.cells #[.int .i64 a, .int .i64 b, .bool false, .slice none 0 0] 62)).grownBy w' (some M)) (hm : MapV Try.prog 64 w' M (n + 1) (putF f (keyT a b) (.pointer (some ⟨w.heap.size, 0, none⟩)))) :
    BrdW base M F (n + 1) (putF f (keyT a b) (.pointer (some ⟨w.heap.size, 0, none⟩))) (L ++ [⟨w.heap.size, a, b, false, .slice none 0 0, []⟩]) w' := by
  have h0 := h.old ((Below.refl _ _).alloc (Nat.le_refl _) (.cells #[.int .i64 a, .int .i64 b, .bool false, .slice none 0 0] 62))
  have hnew : (w.alloc (.cells #[.int .i64 a, .int .i64 b, .bool false, .slice none 0 0] 62)).heap[w.heap.size]? = some (.cells #[.int .i64 a, .int .i64 b, .bool false, .slice none 0 0] 62 (0, 0)) := (MapKept.heap_alloc w _).1
  have keepB : ∀ {p : Nat} {cur : Array Value} {T : TypeId}, (w.alloc (.cells #[.int .i64 a, .int .i64 b, .bool false, .slice none 0 0] 62)).heap[p]? = some (.cells cur T (0, 0)) → w'.heap[p]? = some (.cells cur T (0, 0)) := fun hp =>
    (hg.block _ (blk_lt hp) (fun e => map_block h0.m hp (Option.some.inj e))).trans hp
  refine ⟨keepB h0.bx, hm, fun a' b' wa' wb' => ?_, by simp; exact h.n, fun r hr => ?_, fun r hr => ?_, fun r hr => ?_, fun r hr => ?_, ?_, h.gm, h.gf, fun kl v hkl => ?_⟩
  · rw [List.find?_append]
    by_cases e : a' = a ∧ b' = b
    · obtain ⟨rfl, rfl⟩ := e
      rw [putF_same, hno]
      simp [hit]
    · rw [putF_other (fun k => e (keyT_inj wa' wb' wa wb k)), h.fk a' b' wa' wb']
      have hh : hit a' b' ⟨w.heap.size, a, b, false, .slice none 0 0, []⟩ = false := by
        unfold hit
        rw [Bool.eq_false_iff]
        intro k
        simp only [Bool.and_eq_true, decide_eq_true_eq] at k
        exact e ⟨k.1.symm, k.2.symm⟩
      cases hq : L.find? (hit a' b') <;> simp [List.find?_cons, hh]
  · rcases List.mem_append.1 hr with hr | hr
    · exact keepB (h0.c r hr)
    · rw [List.mem_singleton.1 hr]
      exact keepB hnew
  · rcases List.mem_append.1 hr with hr | hr
    · exact own_grown (h0.h r hr) hg (fun g e e' => own_map (h0.h r hr) h0.m (e.trans e'.symm))
    · rw [List.mem_singleton.1 hr]
      exact own_nil
  · rcases List.mem_append.1 hr with hr | hr
    · exact h.g r hr
    · rw [List.mem_singleton.1 hr]
      exact hbs
  · rcases List.mem_append.1 hr with hr | hr
    · exact h.wf r hr
    · rw [List.mem_singleton.1 hr]
      exact ⟨wa, wb⟩
  · refine List.pairwise_append.2 ⟨h.d, List.pairwise_singleton _ _, fun q hq r hr => ?_⟩
    rw [List.mem_singleton.1 hr]
    refine ⟨fun e => ?_, fun e => ?_, fun g _ e => by cases e⟩
    · rw [List.find?_eq_none] at hno
      exact hno q hq (by simp [hit, e.1, e.2])
    · have := blk_lt (h.c q hq)
      simp only at e
      omega
  · by_cases e : kl = keyT a b
    · exact ⟨_, List.mem_append_right _ (List.mem_singleton.2 rfl), e⟩
    · rw [putF_other e] at hkl
      obtain ⟨r, hr, e'⟩ := h.fe kl v hkl
      exact ⟨r, List.mem_append_left _ hr, e'⟩
theorem pair_set {α : Type} {R : α → α → Prop} {l : List α} (h : l.Pairwise R) {i : Nat} {x y : α} (hi : l[i]? = some x) (h1 : ∀ z, R z x → R z y) (h2 : ∀ z, R x z → R y z) : (l.set i y).Pairwise R := by
  rw [List.pairwise_iff_getElem] at h ⊢
  obtain ⟨hil, hix⟩ := List.getElem?_eq_some_iff.1 hi
  intro j k hj hk hjk
  rw [List.length_set] at hj hk
  rw [List.getElem_set, List.getElem_set]
  by_cases e1 : i = j
  · subst e1
    rw [if_pos rfl, if_neg (by omega)]
    have := h i k hj hk hjk
    rw [hix] at this
    exact h2 _ this
  · rw [if_neg e1]
    by_cases e2 : i = k
    · subst e2
      rw [if_pos rfl]
      have := h j i hj hk hjk
      rw [hix] at this
      exact h1 _ this
    · rw [if_neg e2]
      exact h j k hj hk hjk
theorem mem_set_cases {α : Type} {l : List α} {i : Nat} {x y z : α} (hi : l[i]? = some x) (h : z ∈ l.set i y) : z = y ∨ ∃ j, j ≠ i ∧ l[j]? = some z := by
  obtain ⟨j, hj⟩ := List.getElem?_of_mem h
  rw [List.getElem?_set] at hj
  by_cases e : i = j
  · subst e
    rw [if_pos rfl, if_pos (List.getElem?_eq_some_iff.1 hi).1] at hj
    exact .inl (Option.some.inj hj).symm
  · rw [if_neg e] at hj
    exact .inr ⟨j, fun k => e k.symm, hj⟩
theorem fe_set {L : List Brd} {i : Nat} {r r' : Brd} (hi : L[i]? = some r) (ha : r'.a = r.a) (hb : r'.b = r.b) {kl : Lit} (h : ∃ q ∈ L, kl = keyT q.a q.b) : ∃ q ∈ L.set i r', kl = keyT q.a q.b := by
  obtain ⟨q, hq, e⟩ := h
  obtain ⟨j, hj⟩ := List.getElem?_of_mem hq
  by_cases hji : i = j
  · subst hji
    rw [hi] at hj
    cases hj
    refine ⟨r', ?_, by rw [ha, hb]; exact e⟩
    exact List.mem_of_getElem? (i := i) (by rw [List.getElem?_set, if_pos rfl, if_pos (List.getElem?_eq_some_iff.1 hi).1])
  · exact ⟨q, List.mem_of_getElem? (i := j) (by rw [List.getElem?_set, if_neg hji]; exact hj), e⟩
theorem find_set {L : List Brd} {i : Nat} {r r' : Brd} (hi : L[i]? = some r) (ha : r'.a = r.a) (hb : r'.b = r.b) (hk : r'.blk = r.blk) (a b : Int) : ((L.set i r').find? (hit a b)).map (fun q => Value.pointer (some ⟨q.blk, 0, none⟩)) = (L.find? (hit a b)).map fun q => Value.pointer (some ⟨q.blk, 0, none⟩) := by
  induction L generalizing i with
  | nil => simp at hi
  | cons q L ih =>
    cases i with
    | zero =>
      simp at hi
      subst hi
      have : hit a b r' = hit a b q := by simp [hit, ha, hb]
      simp only [List.set_cons_zero, List.find?_cons, this]
      cases hit a b q <;> simp [hk]
    | succ i =>
      simp only [List.set_cons_succ, List.find?_cons]
      cases hit a b q
      · exact ih (by simpa using hi)
      · rfl
theorem apart_of {L : List Brd} (h : L.Pairwise ApartB) {i j : Nat} {q r : Brd} (hi : L[i]? = some q) (hj : L[j]? = some r) (hne : j ≠ i) : r.blk ≠ q.blk ∧ ∀ g, r.hv.ownBlock = some g → q.hv.ownBlock ≠ some g := by
  obtain ⟨hil, rfl⟩ := List.getElem?_eq_some_iff.1 hi
  obtain ⟨hjl, rfl⟩ := List.getElem?_eq_some_iff.1 hj
  rw [List.pairwise_iff_getElem] at h
  rcases Nat.lt_or_gt_of_ne hne with hlt | hgt
  · exact (h j i hjl hil hlt).2
  · have := (h i j hil hjl hgt).2
    exact ⟨fun e => this.1 e.symm, fun g e e' => this.2 g e' e⟩
/-- A sub-board turns out to be a core. -/
theorem BrdW.setCore (h : BrdW base M F n f L w) {i : Nat} {r : Brd} (hi : L[i]? = some r) : BrdW base M F n f (L.set i { r with core := true }) (w.setCell ⟨r.blk, 2, none⟩ (.bool true)) := by
  have hm := List.mem_of_getElem? hi
  have hc := h.c r hm
  have G : w.grownBy (w.setCell ⟨r.blk, 2, none⟩ (.bool true)) (some r.blk) := gb_set (gb_refl w _) (.inl rfl) _
  refine ⟨(G.block F (blk_lt h.bx) (fun e => blk_types h.bx hc (by decide) (Option.some.inj e))).trans h.bx, h.m.kept G (fun e => map_block h.m hc (Option.some.inj e).symm), fun a b wa wb => ?_, by rw [List.length_set]; exact h.n, fun q hq => ?_, fun q hq => ?_, fun q hq => ?_, fun q hq => ?_, ?_, h.gm, h.gf, fun kl v hkl => fe_set hi (by rfl) (by rfl) (h.fe kl v hkl)⟩
  · exact (h.fk a b wa wb).trans (find_set hi (by rfl) (by rfl) (by rfl) a b).symm
  · rcases mem_set_cases hi hq with rfl | ⟨j, hj, hjq⟩
    · simpa using blk_set hc 2 (.bool true)
    · have := h.c q (List.mem_of_getElem? hjq)
      exact (G.block q.blk (blk_lt this) (fun e => (apart_of h.d hi hjq hj).1 (Option.some.inj e))).trans this
  · rcases mem_set_cases hi hq with rfl | ⟨j, hj, hjq⟩
    · exact own_grown (h.h r hm) G (fun g e e' => own_block (h.h r hm) hc (by decide) (e.trans e'.symm))
    · have hq' := h.h q (List.mem_of_getElem? hjq)
      exact own_grown hq' G (fun g e e' => own_block hq' hc (by decide) (e.trans e'.symm))
  · rcases mem_set_cases hi hq with rfl | ⟨j, hj, hjq⟩
    · exact h.g r hm
    · exact h.g q (List.mem_of_getElem? hjq)
  · rcases mem_set_cases hi hq with rfl | ⟨j, hj, hjq⟩
    · exact h.wf r hm
    · exact h.wf q (List.mem_of_getElem? hjq)
  · exact pair_set h.d hi (fun z hz => hz) (fun z hz => hz)
/-- A hole is drilled in a sub-board. -/
theorem BrdW.setHole (h : BrdW base M F n f L w) {i : Nat} {r : Brd} (hi : L[i]? = some r) {v : Value} {hs : List Nat} (hg : w.grownBy w' r.hv.ownBlock) (ho : w'.ownsRow base 3 1 v hs.length (hs.map fun k => Value.int .i64 (k : Nat)))
    (hn : ∀ g, v.ownBlock = some g → r.hv.ownBlock = some g ∨ w.heap.size ≤ g) : BrdW base M F n f (L.set i { r with hv := v, hs := hs }) (w'.setCell ⟨r.blk, 3, none⟩ v) := by
  have hm := List.mem_of_getElem? hi
  have hrow := h.h r hm
  have hc0 := h.c r hm
  have hc : w'.heap[r.blk]? = some (.cells #[.int .i64 r.a, .int .i64 r.b, .bool r.core, r.hv] 62 (0, 0)) := (hg.block r.blk (blk_lt hc0) (fun e => own_block hrow hc0 (by decide) e.symm)).trans hc0
  have G : w'.grownBy (w'.setCell ⟨r.blk, 3, none⟩ v) (some r.blk) := gb_set (gb_refl w' _) (.inl rfl) _
  have hbx : w'.heap[F]? = some (.cells #[.map (some M)] 135 (0, 0)) := (hg.block F (blk_lt h.bx) (fun e => own_block hrow h.bx (by decide) e.symm)).trans h.bx
  have hmp := h.m.kept hg (fun e => own_map hrow h.m e.symm)
  refine ⟨(G.block F (blk_lt hbx) (fun e => blk_types hbx hc (by decide) (Option.some.inj e))).trans hbx, hmp.kept G (fun e => map_block hmp hc (Option.some.inj e).symm), fun a b wa wb => ?_, by rw [List.length_set]; exact h.n, fun q hq => ?_, fun q hq => ?_, fun q hq => ?_, fun q hq => ?_, ?_, h.gm, h.gf, fun kl v hkl => fe_set hi (by rfl) (by rfl) (h.fe kl v hkl)⟩
  · exact (h.fk a b wa wb).trans (find_set hi (by rfl) (by rfl) (by rfl) a b).symm
  · rcases mem_set_cases hi hq with rfl | ⟨j, hj, hjq⟩
    · simpa using blk_set hc 3 v
    · have h1 := h.c q (List.mem_of_getElem? hjq)
      have h2 := (hg.block q.blk (blk_lt h1) (fun e => own_block hrow h1 (by decide) e.symm)).trans h1
      exact (G.block q.blk (blk_lt h2) (fun e => (apart_of h.d hi hjq hj).1 (Option.some.inj e))).trans h2
  · rcases mem_set_cases hi hq with rfl | ⟨j, hj, hjq⟩
    · exact own_grown ho G (fun g e e' => own_block ho hc (by decide) (e.trans e'.symm))
    · have hq' := h.h q (List.mem_of_getElem? hjq)
      have hq2 := own_grown hq' hg (fun g e e' => (apart_of h.d hi hjq hj).2 g e e')
      exact own_grown hq2 G (fun g e e' => own_block hq2 hc (by decide) (e.trans e'.symm))
  · rcases mem_set_cases hi hq with rfl | ⟨j, hj, hjq⟩
    · exact h.g r hm
    · exact h.g q (List.mem_of_getElem? hjq)
  · rcases mem_set_cases hi hq with rfl | ⟨j, hj, hjq⟩
    · exact h.wf r hm
    · exact h.wf q (List.mem_of_getElem? hjq)
  · obtain ⟨hil, hix⟩ := List.getElem?_eq_some_iff.1 hi
    have hd := h.d
    rw [List.pairwise_iff_getElem] at hd ⊢
    intro j k hj hk hjk
    rw [List.length_set] at hj hk
    rw [List.getElem_set, List.getElem_set]
    by_cases e1 : i = j
    · subst e1
      rw [if_pos rfl, if_neg (by omega)]
      have := hd i k hj hk hjk
      rw [hix] at this
      refine ⟨this.1, this.2.1, fun g e e' => ?_⟩
      rcases hn g e with h1 | h1
      · exact this.2.2 g h1 e'
      · have := (h.h _ (List.getElem_mem hk)).lt g e'
        omega
    · rw [if_neg e1]
      by_cases e2 : i = k
      · subst e2
        rw [if_pos rfl]
        have := hd j i hj hk hjk
        rw [hix] at this
        refine ⟨this.1, this.2.1, fun g e e' => ?_⟩
        rcases hn g e' with h1 | h1
        · exact this.2.2 g e h1
        · have := (h.h _ (List.getElem_mem hj)).lt g e
          omega
      · rw [if_neg e2]
        exact hd j k hj hk hjk
end
end Go.Proofs.Ytdlglnkhhbkndaa
/- A sub-board is found, or made (the closure of boards), whatever the world. -/
namespace Go.Proofs.Ytdlglnkhhbkndaa
open Go.RowKit Go.Maps
set_option linter.unusedSimpArgs false
set_option linter.unusedVariables false
set_option maxRecDepth 100000

theorem zeroPtr (w : World) : (zeroValue 136).run Try.prog w = .ok (.pointer none) w := by kernel_rfl
section
variable {base M F n : Nat} {f : Lit → Option Value} {L : List Brd} {w w' : World}
theorem BrdW.new' (h : BrdW base M F n f L w) {B : Nat} (hB : w.heap.size = B) (hbs : base ≤ w.heap.size) {a b : Int} (wa : W64 a) (wb : W64 b) (hno : L.find? (hit a b) = none)
    (hg : (w.alloc (.cells #[.int .i64 a, .int .i64 b, .bool false, .slice none 0 0] 62)).grownBy w' (some M)) (hm : MapV Try.prog 64 w' M (n + 1) (putF f (keyT a b) (.pointer (some ⟨B, 0, none⟩)))) :
    BrdW base M F (n + 1) (putF f (keyT a b) (.pointer (some ⟨B, 0, none⟩))) (L ++ [⟨B, a, b, false, .slice none 0 0, []⟩]) w' := by
  subst hB
  exact h.new (n' := 0) hbs wa wb hno hg hm
theorem map_far {P : Program} {k : TypeId} {w : World} {q m : Nat} {f : Lit → Option Value} (h : MapV P k w q m f) {p : Nat} (hp : w.heap.size ≤ p) : some p ≠ some q := fun e => by
  have := h.lt
  have := Option.some.inj e
  omega
set_option maxHeartbeats 1000000 in
theorem board_got (h : BrdW base M F n f L w) {a b : Int} (wa : W64 a) (wb : W64 b) {r : Brd} (hr : L.find? (hit a b) = some r) :
    Calls Try.prog 103 #[.int .i64 a, .int .i64 b, .pointer (some ⟨F, 0, none⟩)] w fun e w' => e = .returned (.pointer (some ⟨r.blk, 0, none⟩)) ∧ Below w.heap.size w w' := by
  have hf : f (keyT a b) = some (.pointer (some ⟨r.blk, 0, none⟩)) := by rw [h.fk a b wa wb, hr]; rfl
  have LK := fun (W : World) (hb : Below w.heap.size w W) => (h.m.below hb).run_got thr_law Try.underlying135 (zeroPtr W) (keyOf_thr wa wb) hf
  have L1 := LK (w.alloc (.cells #[.int .i64 a, .int .i64 b] 64)) (by (repeat' (first | (with_reducible exact Below.refl _ _) | (with_reducible assumption) | (with_reducible refine Below.alloc ?_ ?_ _) | (with_reducible refine Below.drew ?_) | (with_reducible refine below_drewN ?_ _) | (with_reducible refine Below.setCell ?_ ?_ _) | (with_reducible exact Nat.le_refl _) | omega | (simp only [World.size_alloc, World.size_setCell, World.size_drew]; omega) | (simp; omega) | (simp; done))))
  have c0 : w.cell? ⟨F, 0, none⟩ = some (.map (some M)) := by rw [blk_cell h.bx]; rfl
  have lF := blk_lt h.bx
  clear h LK hf hr
  go_enter Try.func103, Try.ntmps103
  go_wp2_with fail
  go_ret
  exact ⟨rfl, by (repeat' (first | (with_reducible exact Below.refl _ _) | (with_reducible assumption) | (with_reducible refine Below.alloc ?_ ?_ _) | (with_reducible refine Below.drew ?_) | (with_reducible refine below_drewN ?_ _) | (with_reducible refine Below.setCell ?_ ?_ _) | (with_reducible exact Nat.le_refl _) | omega | (simp only [World.size_alloc, World.size_setCell, World.size_drew]; omega) | (simp; omega) | (simp; done)))⟩
set_option maxHeartbeats 1000000 in
theorem board_new (h : BrdW base M F n f L w) (hbs : base ≤ w.heap.size) (hn : n ≤ 1000000) {a b : Int} (wa : W64 a) (wb : W64 b) (hr : L.find? (hit a b) = none) :
    Calls Try.prog 103 #[.int .i64 a, .int .i64 b, .pointer (some ⟨F, 0, none⟩)] w fun e w' => ∃ B, e = .returned (.pointer (some ⟨B, 0, none⟩)) ∧ BrdW base M F (n + 1) (putF f (keyT a b) (.pointer (some ⟨B, 0, none⟩))) (L ++ [⟨B, a, b, false, .slice none 0 0, []⟩]) w' ∧ Below base w w' := by
  have hf : f (keyT a b) = none := by rw [h.fk a b wa wb, hr]; rfl
  have h1 := h.old ((Below.refl _ _).alloc (Nat.le_refl _) (.cells #[.int .i64 a, .int .i64 b] 64))
  have L1 := h1.m.run_lacks thr_law Try.underlying135 (zeroPtr _) (keyOf_thr wa wb) hf
  have c0 : w.cell? ⟨F, 0, none⟩ = some (.map (some M)) := by rw [blk_cell h.bx]; rfl
  have lF := blk_lt h.bx
  have H1 := Lib.hid h1
  have HR := Lib.hid hr
  have WA := Lib.hid wa
  have WB := Lib.hid wb
  have hgm := h.gm
  have HMM := Lib.hid h.m
  clear h h1 hf hr wa wb
  go_enter Try.func103, Try.ntmps103
  go_wp2_with (first
    | (at_mapUpdate; refine wpList_put_mapV rfl (.tmp 14) (.tmp 15) (.tmp 19) 135 rfl 64 136 thr_law Try.underlying135 M n f rfl (H1.out.m.alloc _) (by unfold maxLen; omega) (.agg #[.int .i64 a, .int .i64 b]) (.pointer (some ⟨w.heap.size + 1, 0, none⟩)) (keyT a b) rfl rfl (keyOf_thr WA.out WB.out) ?_; intro w5 hm5 hg5; have HN := Lib.hid (H1.out.new' (by simp) (by simp; omega) WA.out WB.out HR.out hg5 hm5); have L5 := HN.out.m.run_got thr_law Try.underlying135 (zeroPtr w5) (keyOf_thr WA.out WB.out) (putF_same _ _ _); have k5 : w5.cell? ⟨F, 0, none⟩ = some (.map (some M)) := (by rw [blk_cell HN.out.bx]; rfl); have t5 : w5.cell? ⟨w.heap.size, 0, none⟩ = some (.int .i64 a) := (hg5.cell (by simp [go_sem]) (map_far HMM.out (Nat.le_refl _))); have t6 : w5.cell? ⟨w.heap.size, 1, none⟩ = some (.int .i64 b) := (hg5.cell (by simp [go_sem]) (map_far HMM.out (Nat.le_refl _))); have HG := Lib.hid hg5; clear hm5 hg5))
  go_ret
  exact ⟨_, rfl, HN.out, Below.grown (by (repeat' (first | (with_reducible exact Below.refl _ _) | (with_reducible assumption) | (with_reducible refine Below.alloc ?_ ?_ _) | (with_reducible refine Below.drew ?_) | (with_reducible refine below_drewN ?_ _) | (with_reducible refine Below.setCell ?_ ?_ _) | (with_reducible exact Nat.le_refl _) | omega | (simp only [World.size_alloc, World.size_setCell, World.size_drew]; omega) | (simp; omega) | (simp; done)))) HG.out (by simp; omega) (fun k hk => by cases hk; exact hgm)⟩
end
end Go.Proofs.Ytdlglnkhhbkndaa
/- A sub-board is found, or made: in one word. -/
namespace Go.Proofs.Ytdlglnkhhbkndaa
open Go.RowKit Go.Maps
set_option linter.unusedSimpArgs false
set_option linter.unusedVariables false
set_option maxRecDepth 100000

def abl (L : List Brd) : List AB := L.map Brd.ab
theorem abl_any (a b : Int) : ∀ L : List Brd, (abl L).any (keyB a b) = (L.find? (hit a b)).isSome
  | [] => rfl
  | r :: L => by
    have ih := abl_any a b L
    have : keyB a b r.ab = hit a b r := rfl
    unfold abl at ih ⊢
    rw [List.map_cons, List.any_cons, List.find?_cons, this, ih]
    cases hit a b r <;> rfl
theorem abl_set {a b : Int} {g : AB → AB} : ∀ {L : List Brd} {i : Nat} {r r' : Brd}, L.Pairwise ApartB → L[i]? = some r → hit a b r = true → r'.ab = g r.ab → abl (L.set i r') = (abl L).map (fun x => if keyB a b x then g x else x)
  | [], i, r, r', _, h, _, _ => by simp at h
  | q :: L, 0, r, r', hp, h, hh, he => by
    simp at h
    subst h
    obtain ⟨h1, h2⟩ := List.pairwise_cons.1 hp
    have e1 : keyB a b q.ab = true := hh
    simp only [abl, List.set_cons_zero, List.map_cons, e1, if_true, he, List.cons.injEq, true_and, List.map_map]
    symm
    apply List.map_congr_left
    intro z hz
    have hn := (h1 z hz).1
    have e2 : keyB a b z.ab = false := by
      rw [Bool.eq_false_iff]
      intro k
      have k1 : (decide (z.a = a) && decide (z.b = b)) = true := k
      have k2 : (decide (q.a = a) && decide (q.b = b)) = true := hh
      rw [Bool.and_eq_true] at k1 k2
      exact hn ⟨(of_decide_eq_true k2.1).trans (of_decide_eq_true k1.1).symm, (of_decide_eq_true k2.2).trans (of_decide_eq_true k1.2).symm⟩
    simp [e2]
  | q :: L, i + 1, r, r', hp, h, hh, he => by
    obtain ⟨h1, h2⟩ := List.pairwise_cons.1 hp
    have hi : L[i]? = some r := by simpa using h
    have hn := (h1 r (List.mem_of_getElem? hi)).1
    have e2 : keyB a b q.ab = false := by
      rw [Bool.eq_false_iff]
      intro k
      have k1 : (decide (q.a = a) && decide (q.b = b)) = true := k
      have k2 : (decide (r.a = a) && decide (r.b = b)) = true := hh
      rw [Bool.and_eq_true] at k1 k2
      exact hn ⟨(of_decide_eq_true k1.1).trans (of_decide_eq_true k2.1).symm, (of_decide_eq_true k1.2).trans (of_decide_eq_true k2.2).symm⟩
    have ih := abl_set (g := g) h2 hi hh he
    unfold abl at ih ⊢
    simp only [List.set_cons_succ, List.map_cons, e2, Bool.false_eq_true, if_false, ih]
theorem find_index {α : Type} {p : α → Bool} : ∀ {l : List α} {x : α}, l.find? p = some x → ∃ i : Nat, l[i]? = some x
  | [], _, h => by simp at h
  | y :: l, x, h => by
    rw [List.find?_cons] at h
    cases hp : p y
    · rw [hp] at h
      obtain ⟨i, hi⟩ := find_index h
      exact ⟨i + 1, by simpa using hi⟩
    · rw [hp] at h
      exact ⟨0, by simpa using h⟩
/-- What comes of asking for a sub-board. -/
def BoardPost (base M F n : Nat) (L : List Brd) (a b : Int) (w : World) (e : Ending) (w' : World) : Prop :=
  ∃ n' f' L' i r, e = .returned (.pointer (some ⟨r.blk, 0, none⟩)) ∧ BrdW base M F n' f' L' w' ∧ L'[i]? = some r ∧ n' ≤ n + 1 ∧ L'.length ≤ L.length + 1 ∧ (∀ (g : AB → AB) (r' : Brd), r'.ab = g r.ab → abl (L'.set i r') = upd a b g (abl L)) ∧ Below base w w'
theorem board_any {base M F n : Nat} {f : Lit → Option Value} {L : List Brd} {w : World} (h : BrdW base M F n f L w) (hbs : base ≤ w.heap.size) (hn : n ≤ 1000000) {a b : Int} (wa : W64 a) (wb : W64 b) :
    Calls Try.prog 103 #[.int .i64 a, .int .i64 b, .pointer (some ⟨F, 0, none⟩)] w (BoardPost base M F n L a b w) := by
  cases hf : L.find? (hit a b) with
  | some r =>
    refine (board_got h wa wb hf).mono fun e w' ⟨he, hb⟩ => ?_
    obtain ⟨i, hi⟩ := find_index hf
    have hh : hit a b r = true := by simpa using List.find?_some hf
    refine ⟨n, f, L, i, r, he, h.old hb, hi, Nat.le_succ _, Nat.le_succ _, fun g r' hr' => ?_, hb.mono hbs⟩
    rw [abl_set h.d hi hh hr']
    unfold upd
    rw [abl_any, hf]
    rfl
  | none =>
    refine (board_new h hbs hn wa wb hf).mono fun e w' ⟨B, he, hw, hb⟩ => ?_
    refine ⟨n + 1, _, _, L.length, ⟨B, a, b, false, .slice none 0 0, []⟩, he, hw, by simp, Nat.le_refl _, by simp, fun g r' hr' => ?_, hb⟩
    unfold upd
    rw [abl_any, hf]
    have e1 : (L ++ [(⟨B, a, b, false, .slice none 0 0, []⟩ : Brd)]).set L.length r' = L ++ [r'] := by
      rw [List.set_append_right _ _ (Nat.le_refl _), Nat.sub_self]
      rfl
    rw [e1]
    unfold abl
    rw [List.map_append, List.map_singleton, hr']
    rfl
end Go.Proofs.Ytdlglnkhhbkndaa
/- The sub-boards are taken out of their map, in whatever order. -/
namespace Go.Proofs.Ytdlglnkhhbkndaa
open Go.RowKit Go.Maps
open Go.WideElems (rg)
set_option linter.unusedSimpArgs false
set_option linter.unusedVariables false
set_option maxRecDepth 100000

theorem nodup_len {α : Type} : ∀ {S L : List α}, S.Nodup → (∀ x ∈ S, x ∈ L) → S.length ≤ L.length
  | [], L, _, _ => Nat.zero_le _
  | x :: S, L, hd, hs => by
    obtain ⟨L1, L2, rfl⟩ := List.append_of_mem (hs x (List.mem_cons_self ..))
    obtain ⟨h1, h2⟩ := List.nodup_cons.1 hd
    have ih := nodup_len (L := L1 ++ L2) h2 (fun y hy => by
      rcases List.mem_append.1 (hs y (List.mem_cons_of_mem _ hy)) with h | h
      · exact List.mem_append_left _ h
      · rcases List.mem_cons.1 h with h | h
        · subst h
          exact absurd hy h1
        · exact List.mem_append_right _ h)
    simp only [List.length_cons, List.length_append] at ih ⊢
    omega
def Brd.cs (r : Brd) : List Value := [.int .i64 r.a, .int .i64 r.b, .bool r.core, r.hv]
section
variable {base M F n : Nat} {f : Lit → Option Value} {L : List Brd} {w : World}
theorem brd_apart (h : L.Pairwise ApartB) {q r : Brd} (hq : q ∈ L) (hr : r ∈ L) (ha : q.a = r.a) (hb : q.b = r.b) : q = r := by
  obtain ⟨i, hi⟩ := List.getElem?_of_mem hq
  obtain ⟨j, hj⟩ := List.getElem?_of_mem hr
  obtain ⟨hil, rfl⟩ := List.getElem?_eq_some_iff.1 hi
  obtain ⟨hjl, rfl⟩ := List.getElem?_eq_some_iff.1 hj
  rw [List.pairwise_iff_getElem] at h
  rcases Nat.lt_trichotomy i j with hlt | he | hgt
  · exact absurd ⟨ha, hb⟩ (h i j hil hjl hlt).1
  · subst he
    rfl
  · exact absurd ⟨ha.symm, hb.symm⟩ (h j i hjl hil hgt).1
theorem BrdW.key (h : BrdW base M F n f L w) {q r : Brd} (hq : q ∈ L) (hr : r ∈ L) (e : keyT q.a q.b = keyT r.a r.b) : q = r :=
  have k := keyT_inj (h.wf q hq).1 (h.wf q hq).2 (h.wf r hr).1 (h.wf r hr).2 e
  brd_apart h.d hq hr k.1 k.2
theorem BrdW.at (h : BrdW base M F n f L w) {r : Brd} (hr : r ∈ L) : f (keyT r.a r.b) = some (.pointer (some ⟨r.blk, 0, none⟩)) := by
  rw [h.fk r.a r.b (h.wf r hr).1 (h.wf r hr).2]
  cases hf : L.find? (hit r.a r.b) with
  | none =>
    rw [List.find?_eq_none] at hf
    exact absurd (by simp [hit]) (hf r hr)
  | some q =>
    have h1 := List.find?_some hf
    have hq := List.mem_of_find?_eq_some hf
    have h2 : (decide (q.a = r.a) && decide (q.b = r.b)) = true := h1
    rw [Bool.and_eq_true] at h2
    rw [brd_apart h.d hq hr (of_decide_eq_true h2.1) (of_decide_eq_true h2.2)]
    rfl
theorem BrdW.nodup (h : BrdW base M F n f L w) : L.Nodup := h.d.imp fun hab e => hab.1 ⟨by rw [e], by rw [e]⟩
theorem keyT_lit (a b : Int) : WideAt.IsKeyLit (keyT a b) := trivial
/-- What was taken out so far. -/
structure TakW (L : List Brd) (left : Lit → Bool) (S : List Brd) : Prop where
  s : ∀ q ∈ S, q ∈ L
  d : S.Nodup
  k : ∀ q ∈ L, q ∈ S ↔ left (keyT q.a q.b) = false
theorem TakW.start (h : BrdW base M F n f L w) {D : DataW Value} (hD : ∀ x, WideAt.IsKeyLit x → has D x = (f x).isSome ∧ ∀ v z, f x = some v → D.atKey x z = .held v) : TakW L (has D) [] :=
  ⟨fun q hq => (by cases hq), List.nodup_nil, fun q hq => ⟨fun hq => (by cases hq), fun e => by
    rw [(hD _ (keyT_lit _ _)).1, h.at hq] at e
    cases e⟩⟩
theorem range_has {P : Program} {k : TypeId} {R : Value → Option (DataW Value × List MemPlace)} {w : World} {b r n : Nat} {D : DataW Value} {left : Lit → Bool} {cnt : Nat} (h : w.ranges P k R b r n D left cnt) {kl : Lit} (hk : WideAt.IsKeyLit kl) (hl : left kl = true) : has D kl = true := by
  obtain ⟨es, clock, since, seen, c0, hb, F, hs, rfl, hr, h1, h2, h3, h4, h5⟩ := h
  obtain ⟨x, hx, e⟩ := h4 kl hl
  refine List.any_eq_true.2 ⟨rg P k R x, mem_sorted.2 (List.mem_map.2 ⟨x, hx, rfl⟩), ?_⟩
  rw [e]
  exact WideAt.sameKey_self hk
theorem TakW.step {left : Lit → Bool} {S : List Brd} (t : TakW L left S) (h : BrdW base M F n f L w) {D : DataW Value} (hD : ∀ x, WideAt.IsKeyLit x → has D x = (f x).isSome ∧ ∀ v z, f x = some v → D.atKey x z = .held v)
    {W : World} {r cnt m : Nat} (hrg : W.ranges Try.prog 64 RV M r m D left cnt) {x c : Value} {kl : Lit} {y : DataW Value × List MemPlace} (hx : keyOf Try.prog 64 x = some kl) (hl : left kl = true) (hy : RV c = some y) (hat : ∀ zd, D.atKey kl zd = y.1) :
    ∃ r0 ∈ L, c = .pointer (some ⟨r0.blk, 0, none⟩) ∧ TakW L (fun z => left z && !z.sameKey kl) (S ++ [r0]) ∧ S.length < L.length := by
  have hlit : WideAt.IsKeyLit kl := thr_law.key hx
  have h1 := range_has hrg hlit hl
  rw [(hD kl hlit).1] at h1
  obtain ⟨v, hv⟩ := Option.isSome_iff_exists.1 h1
  obtain ⟨r0, hr0, rfl⟩ := h.fe kl v hv
  have h2 := h.at hr0
  rw [hv] at h2
  have h3 := (hD _ hlit).2 v (.held c) hv
  rw [hat] at h3
  have h4 : c = v := by
    cases hy
    exact DataW.held.inj h3
  have hn : r0 ∉ S := fun e => by
    rw [(t.k r0 hr0).1 e] at hl
    cases hl
  refine ⟨r0, hr0, by rw [h4]; exact Option.some.inj h2, ⟨fun q hq => ?_, ?_, fun q hq => ⟨fun e => ?_, fun e => ?_⟩⟩, ?_⟩
  · rcases List.mem_append.1 hq with hq | hq
    · exact t.s q hq
    · rw [List.mem_singleton.1 hq]
      exact hr0
  · refine List.nodup_append.2 ⟨t.d, by simp, fun a ha b hb e => ?_⟩
    rw [List.mem_singleton.1 hb] at e
    exact hn (e ▸ ha)
  · rcases List.mem_append.1 e with e | e
    · show (left _ && _) = false
      rw [(t.k q hq).1 e]
      rfl
    · rw [List.mem_singleton.1 e]
      show (_ && !_) = false
      rw [WideAt.sameKey_self (keyT_lit _ _)]
      simp
  · have e' : (left (keyT q.a q.b) && !(keyT q.a q.b).sameKey (keyT r0.a r0.b)) = false := e
    rw [Bool.and_eq_false_iff] at e'
    rcases e' with e' | e'
    · exact List.mem_append_left _ ((t.k q hq).2 e')
    · have e2 : (keyT q.a q.b).sameKey (keyT r0.a r0.b) = true := by simpa using e'
      rw [h.key hq hr0 (WideAt.sameKey_eq e2)]
      exact List.mem_append_right _ (List.mem_singleton.2 rfl)
  · have hsub : (S ++ [r0]).length ≤ L.length := by
      refine nodup_len ?_ fun q hq => ?_
      · refine List.nodup_append.2 ⟨t.d, by simp, fun a ha b hb e => ?_⟩
        rw [List.mem_singleton.1 hb] at e
        exact hn (e ▸ ha)
      · rcases List.mem_append.1 hq with hq | hq
        · exact t.s q hq
        · rw [List.mem_singleton.1 hq]
          exact hr0
    rw [List.length_append, List.length_singleton] at hsub
    omega
theorem TakW.done {left : Lit → Bool} {S : List Brd} (t : TakW L left S) (h : BrdW base M F n f L w) (hl : ∀ kl, left kl = false) : S.Perm L :=
  (List.perm_ext_iff_of_nodup t.d h.nodup).2 fun q => ⟨t.s q, fun hq => (t.k q hq).2 (hl _)⟩
theorem own_iter {P : Program} {k : TypeId} {R : Value → Option (DataW Value × List MemPlace)} {w : World} {b r n base m size cnt : Nat} {D : DataW Value} {left : Lit → Bool} {e : TypeId} {v : Value} {xs : List Value} (h : w.ownsRow base e size v m xs) (hr : w.ranges P k R b r n D left cnt) : v.ownBlock ≠ some r ∧ v.ownBlock ≠ some b := by
  obtain ⟨es, clock, since, seen, c0, hb, F, hs, _, hr, _⟩ := hr
  rcases own_open h with ⟨rfl, rfl⟩ | ⟨g1, cap, cur, rfl, -, h2, -⟩
  · exact ⟨fun hg => (by cases hg), fun hg => (by cases hg)⟩
  · refine ⟨fun hg => ?_, fun hg => ?_⟩
    all_goals
      simp [Value.ownBlock] at hg
      subst hg
    · rw [h2] at hr
      cases hr
    · rw [h2] at hb
      cases hb
end
theorem infoPress : (Try.prog.info? 62).map (fun i => (i.zero, i.size, i.bytes)) = some (some (.agg #[.int .i64 0, .int .i64 0, .bool false, .slice none 0 0]), 4, 48) := by kernel_rfl
end Go.Proofs.Ytdlglnkhhbkndaa

/- Sub-boards as package stack gathers them (boards), in memory. -/
import Derived.Test.YtnjcahdelcdcfaaThr
namespace Go.Proofs.Ytnjcahdelcdcfaa
open Go.RowKit Go.Maps
set_option linter.unusedSimpArgs false
set_option linter.unusedVariables false
set_option maxRecDepth 100000

/-- A sub-board: where it lies, from which copper to which one, whether it is a core, its holes. -/
structure Brd where
  blk : Nat
  a : Int
  b : Int
  core : Bool
  hv : Value
  hs : List Nat
/-- .. as it is said. -/
structure AB where
  a : Int
  b : Int
  core : Bool
  hs : List Nat
def Brd.ab (r : Brd) : AB := ⟨r.a, r.b, r.core, r.hs⟩
def keyB (a b : Int) (x : AB) : Bool := decide (x.a = a) && decide (x.b = b)
/-- A sub-board is changed; it is made first if there is none. -/
def upd (a b : Int) (g : AB → AB) (L : List AB) : List AB := if L.any (keyB a b) then L.map (fun x => if keyB a b x then g x else x) else L ++ [g ⟨a, b, false, []⟩]
abbrev W64 (a : Int) : Prop := (Lit.int .i64 a).wf = true
def hit (a b : Int) (r : Brd) : Bool := decide (r.a = a) && decide (r.b = b)
def ApartB (q r : Brd) : Prop := (¬ (q.a = r.a ∧ q.b = r.b)) ∧ q.blk ≠ r.blk ∧ ∀ g, q.hv.ownBlock = some g → r.hv.ownBlock ≠ some g
/-- The world in which sub-boards are gathered: the map in block M, its variable in block F. -/
structure BrdW (base M F n : Nat) (f : Lit → Option Value) (L : List Brd) (w : World) : Prop where
  bx : w.heap[F]? = some (.cells #[.map (some M)] 135 (0, 0))
  m : MapV Try.prog 64 w M n f
  fk : ∀ a b, W64 a → W64 b → f (keyT a b) = (L.find? (hit a b)).map fun r => .pointer (some ⟨r.blk, 0, none⟩)
  n : n ≤ L.length
  c : ∀ r ∈ L, w.heap[r.blk]? = some (.cells #[.int .i64 r.a, .int .i64 r.b, .bool r.core, r.hv] 62 (0, 0))
  h : ∀ r ∈ L, w.ownsRow base 3 1 r.hv r.hs.length (r.hs.map fun k => Value.int .i64 (k : Nat))
  g : ∀ r ∈ L, base ≤ r.blk
  wf : ∀ r ∈ L, W64 r.a ∧ W64 r.b
  d : L.Pairwise ApartB
  gm : base ≤ M
  gf : base ≤ F
  fe : ∀ kl v, f kl = some v → ∃ r ∈ L, kl = keyT r.a r.b
section
variable {base M F n : Nat} {f : Lit → Option Value} {L : List Brd} {w w' : World}
theorem BrdW.old (h : BrdW base M F n f L w) (hb : Below w.heap.size w w') : BrdW base M F n f L w' :=
  ⟨(hb.block F (blk_lt h.bx)).trans h.bx, h.m.below hb, h.fk, h.n, fun r hr => (hb.block r.blk (blk_lt (h.c r hr))).trans (h.c r hr), fun r hr => own_below (h.h r hr) hb, h.g, h.wf, h.d, h.gm, h.gf, h.fe⟩
theorem map_block {P : Program} {k : TypeId} {w : World} {q m : Nat} {f : Lit → Option Value} (h : MapV P k w q m f) {p : Nat} {cur : Array Value} {T : TypeId} {fr : Nat × Nat} (hb : w.heap[p]? = some (.cells cur T fr)) : p ≠ q := by
  intro e
  subst e
  obtain ⟨D, ⟨es, clock, hm, _⟩, _⟩ := h
  rw [hb] at hm
  cases hm
theorem blk_types {w : World} {p q : Nat} {cur cur' : Array Value} {T T' : TypeId} {fr fr' : Nat × Nat} (h : w.heap[p]? = some (.cells cur T fr)) (h' : w.heap[q]? = some (.cells cur' T' fr')) (hT : T ≠ T') : p ≠ q := by
  intro e
  subst e
  rw [h] at h'
  simp only [Option.some.injEq, Obj.cells.injEq] at h'
  exact hT h'.2.1
/-- A new sub-board. -/
theorem BrdW.new (h : BrdW base M F n f L w) (hbs : base ≤ w.heap.size) {a b : Int} (wa : W64 a) (wb : W64 b) (hno : L.find? (hit a b) = none) {n' : Nat}
    (hg : (w.alloc (.cells #[.int .i64 a, .int .i64 b, .bool false, .slice none 0 0] 62)).grownBy w' (some M)) (hm : MapV Try.prog 64 w' M (n + 1) (putF f (keyT a b) (.pointer (some ⟨w.heap.size, 0, none⟩)))) :
    BrdW base M F (n + 1) (putF f (keyT a b) (.pointer (some ⟨w.heap.size, 0, none⟩))) (L ++ [⟨w.heap.size, a, b, false, .slice none 0 0, []⟩]) w' := by
  have h0 := h.old ((Below.refl _ _).alloc (Nat.le_refl _) (.cells #[.int .i64 a, .int .i64 b, .bool false, .slice none 0 0] 62))
  have hnew : (w.alloc (.cells #[.int .i64 a, .int .i64 b, .bool false, .slice none 0 0] 62)).heap[w.heap.size]? = some (.cells #[.int .i64 a, .int .i64 b, .bool false, .slice none 0 0] 62 (0, 0)) := (MapKept.heap_alloc w _).1
  have keepB : ∀ {p : Nat} {cur : Array Value} {T : TypeId}, (w.alloc (.cells #[.int .i64 a, .int .i64 b, .bool false, .slice none 0 0] 62)).heap[p]? = some (.cells cur T (0, 0)) → w'.heap[p]? = some (.cells cur T (0, 0)) := fun hp =>
    (hg.block _ (blk_lt hp) (fun e => map_block h0.m hp (Option.some.inj e))).trans hp
  refine ⟨keepB h0.bx, hm, fun a' b' wa' wb' => ?_, by simp; exact h.n, fun r hr => ?_, fun r hr => ?_, fun r hr => ?_, fun r hr => ?_, ?_, h.gm, h.gf, fun kl v hkl => ?_⟩
  · rw [List.find?_append]
    by_cases e : a' = a ∧ b' = b
    · obtain ⟨rfl, rfl⟩ := e
      rw [putF_same, hno]
      simp [hit]
    · rw [putF_other (fun k => e (keyT_inj wa' wb' wa wb k)), h.fk a' b' wa' wb']
      have hh : hit a' b' ⟨w.heap.size, a, b, false, .slice none 0 0, []⟩ = false := by
        unfold hit
        rw [Bool.eq_false_iff]
        intro k
        simp only [Bool.and_eq_true, decide_eq_true_eq] at k
        exact e ⟨k.1.symm, k.2.symm⟩
      cases hq : L.find? (hit a' b') <;> simp [List.find?_cons, hh]
  · rcases List.mem_append.1 hr with hr | hr
    · exact keepB (h0.c r hr)
    · rw [List.mem_singleton.1 hr]
      exact keepB hnew
  · rcases List.mem_append.1 hr with hr | hr
    · exact own_grown (h0.h r hr) hg (fun g e e' => own_map (h0.h r hr) h0.m (e.trans e'.symm))
    · rw [List.mem_singleton.1 hr]
      exact own_nil
  · rcases List.mem_append.1 hr with hr | hr
    · exact h.g r hr
    · rw [List.mem_singleton.1 hr]
      exact hbs
  · rcases List.mem_append.1 hr with hr | hr
    · exact h.wf r hr
    · rw [List.mem_singleton.1 hr]
      exact ⟨wa, wb⟩
  · refine List.pairwise_append.2 ⟨h.d, List.pairwise_singleton _ _, fun q hq r hr => ?_⟩
    rw [List.mem_singleton.1 hr]
    refine ⟨fun e => ?_, fun e => ?_, fun g _ e => by cases e⟩
    · rw [List.find?_eq_none] at hno
      exact hno q hq (by simp [hit, e.1, e.2])
    · have := blk_lt (h.c q hq)
      simp only at e
      omega
  · by_cases e : kl = keyT a b
    · exact ⟨_, List.mem_append_right _ (List.mem_singleton.2 rfl), e⟩
    · rw [putF_other e] at hkl
      obtain ⟨r, hr, e'⟩ := h.fe kl v hkl
      exact ⟨r, List.mem_append_left _ hr, e'⟩
theorem pair_set {α : Type} {R : α → α → Prop} {l : List α} (h : l.Pairwise R) {i : Nat} {x y : α} (hi : l[i]? = some x) (h1 : ∀ z, R z x → R z y) (h2 : ∀ z, R x z → R y z) : (l.set i y).Pairwise R := by
  rw [List.pairwise_iff_getElem] at h ⊢
  obtain ⟨hil, hix⟩ := List.getElem?_eq_some_iff.1 hi
  intro j k hj hk hjk
  rw [List.length_set] at hj hk
  rw [List.getElem_set, List.getElem_set]
  by_cases e1 : i = j
  · subst e1
    rw [if_pos rfl, if_neg (by omega)]
    have := h i k hj hk hjk
    rw [hix] at this
    exact h2 _ this
  · rw [if_neg e1]
    by_cases e2 : i = k
    · subst e2
      rw [if_pos rfl]
      have := h j i hj hk hjk
      rw [hix] at this
      exact h1 _ this
    · rw [if_neg e2]
      exact h j k hj hk hjk
theorem mem_set_cases {α : Type} {l : List α} {i : Nat} {x y z : α} (hi : l[i]? = some x) (h : z ∈ l.set i y) : z = y ∨ ∃ j, j ≠ i ∧ l[j]? = some z := by
  obtain ⟨j, hj⟩ := List.getElem?_of_mem h
  rw [List.getElem?_set] at hj
  by_cases e : i = j
  · subst e
    rw [if_pos rfl, if_pos (List.getElem?_eq_some_iff.1 hi).1] at hj
    exact .inl (Option.some.inj hj).symm
  · rw [if_neg e] at hj
    exact .inr ⟨j, fun k => e k.symm, hj⟩
theorem fe_set {L : List Brd} {i : Nat} {r r' : Brd} (hi : L[i]? = some r) (ha : r'.a = r.a) (hb : r'.b = r.b) {kl : Lit} (h : ∃ q ∈ L, kl = keyT q.a q.b) : ∃ q ∈ L.set i r', kl = keyT q.a q.b := by
  obtain ⟨q, hq, e⟩ := h
  obtain ⟨j, hj⟩ := List.getElem?_of_mem hq
  by_cases hji : i = j
  · subst hji
    rw [hi] at hj
    cases hj
    refine ⟨r', ?_, by rw [ha, hb]; exact e⟩
    exact List.mem_of_getElem? (i := i) (by rw [List.getElem?_set, if_pos rfl, if_pos (List.getElem?_eq_some_iff.1 hi).1])
  · exact ⟨q, List.mem_of_getElem? (i := j) (by rw [List.getElem?_set, if_neg hji]; exact hj), e⟩
theorem find_set {L : List Brd} {i : Nat} {r r' : Brd} (hi : L[i]? = some r) (ha : r'.a = r.a) (hb : r'.b = r.b) (hk : r'.blk = r.blk) (a b : Int) : ((L.set i r').find? (hit a b)).map (fun q => Value.pointer (some ⟨q.blk, 0, none⟩)) = (L.find? (hit a b)).map fun q => Value.pointer (some ⟨q.blk, 0, none⟩) := by
  induction L generalizing i with
  | nil => simp at hi
  | cons q L ih =>
    cases i with
    | zero =>
      simp at hi
      subst hi
      have : hit a b r' = hit a b q := by simp [hit, ha, hb]
      simp only [List.set_cons_zero, List.find?_cons, this]
      cases hit a b q <;> simp [hk]
    | succ i =>
      simp only [List.set_cons_succ, List.find?_cons]
      cases hit a b q
      · exact ih (by simpa using hi)
      · rfl
theorem apart_of {L : List Brd} (h : L.Pairwise ApartB) {i j : Nat} {q r : Brd} (hi : L[i]? = some q) (hj : L[j]? = some r) (hne : j ≠ i) : r.blk ≠ q.blk ∧ ∀ g, r.hv.ownBlock = some g → q.hv.ownBlock ≠ some g := by
  obtain ⟨hil, rfl⟩ := List.getElem?_eq_some_iff.1 hi
  obtain ⟨hjl, rfl⟩ := List.getElem?_eq_some_iff.1 hj
  rw [List.pairwise_iff_getElem] at h
  rcases Nat.lt_or_gt_of_ne hne with hlt | hgt
  · exact (h j i hjl hil hlt).2
  · have := (h i j hil hjl hgt).2
    exact ⟨fun e => this.1 e.symm, fun g e e' => this.2 g e' e⟩
/-- A sub-board turns out to be a core. -/
theorem BrdW.setCore (h : BrdW base M F n f L w) {i : Nat} {r : Brd} (hi : L[i]? = some r) : BrdW base M F n f (L.set i { r with core := true }) (w.setCell ⟨r.blk, 2, none⟩ (.bool true)) := by
  have hm := List.mem_of_getElem? hi
  have hc := h.c r hm
  have G : w.grownBy (w.setCell ⟨r.blk, 2, none⟩ (.bool true)) (some r.blk) := gb_set (gb_refl w _) (.inl rfl) _
  refine ⟨(G.block F (blk_lt h.bx) (fun e => blk_types h.bx hc (by decide) (Option.some.inj e))).trans h.bx, h.m.kept G (fun e => map_block h.m hc (Option.some.inj e).symm), fun a b wa wb => ?_, by rw [List.length_set]; exact h.n, fun q hq => ?_, fun q hq => ?_, fun q hq => ?_, fun q hq => ?_, ?_, h.gm, h.gf, fun kl v hkl => fe_set hi (by rfl) (by rfl) (h.fe kl v hkl)⟩
  · exact (h.fk a b wa wb).trans (find_set hi (by rfl) (by rfl) (by rfl) a b).symm
  · rcases mem_set_cases hi hq with rfl | ⟨j, hj, hjq⟩
    · simpa using blk_set hc 2 (.bool true)
    · have := h.c q (List.mem_of_getElem? hjq)
      exact (G.block q.blk (blk_lt this) (fun e => (apart_of h.d hi hjq hj).1 (Option.some.inj e))).trans this
  · rcases mem_set_cases hi hq with rfl | ⟨j, hj, hjq⟩
    · exact own_grown (h.h r hm) G (fun g e e' => own_block (h.h r hm) hc (by decide) (e.trans e'.symm))
    · have hq' := h.h q (List.mem_of_getElem? hjq)
      exact own_grown hq' G (fun g e e' => own_block hq' hc (by decide) (e.trans e'.symm))
  · rcases mem_set_cases hi hq with rfl | ⟨j, hj, hjq⟩
    · exact h.g r hm
    · exact h.g q (List.mem_of_getElem? hjq)
  · rcases mem_set_cases hi hq with rfl | ⟨j, hj, hjq⟩
    · exact h.wf r hm
    · exact h.wf q (List.mem_of_getElem? hjq)
  · exact pair_set h.d hi (fun z hz => hz) (fun z hz => hz)
/-- A hole is drilled in a sub-board. -/
theorem BrdW.setHole (h : BrdW base M F n f L w) {i : Nat} {r : Brd} (hi : L[i]? = some r) {v : Value} {hs : List Nat} (hg : w.grownBy w' r.hv.ownBlock) (ho : w'.ownsRow base 3 1 v hs.length (hs.map fun k => Value.int .i64 (k : Nat)))
    (hn : ∀ g, v.ownBlock = some g → r.hv.ownBlock = some g ∨ w.heap.size ≤ g) : BrdW base M F n f (L.set i { r with hv := v, hs := hs }) (w'.setCell ⟨r.blk, 3, none⟩ v) := by
  have hm := List.mem_of_getElem? hi
  have hrow := h.h r hm
  have hc0 := h.c r hm
  have hc : w'.heap[r.blk]? = some (.cells #[.int .i64 r.a, .int .i64 r.b, .bool r.core, r.hv] 62 (0, 0)) := (hg.block r.blk (blk_lt hc0) (fun e => own_block hrow hc0 (by decide) e.symm)).trans hc0
  have G : w'.grownBy (w'.setCell ⟨r.blk, 3, none⟩ v) (some r.blk) := gb_set (gb_refl w' _) (.inl rfl) _
  have hbx : w'.heap[F]? = some (.cells #[.map (some M)] 135 (0, 0)) := (hg.block F (blk_lt h.bx) (fun e => own_block hrow h.bx (by decide) e.symm)).trans h.bx
  have hmp := h.m.kept hg (fun e => own_map hrow h.m e.symm)
  refine ⟨(G.block F (blk_lt hbx) (fun e => blk_types hbx hc (by decide) (Option.some.inj e))).trans hbx, hmp.kept G (fun e => map_block hmp hc (Option.some.inj e).symm), fun a b wa wb => ?_, by rw [List.length_set]; exact h.n, fun q hq => ?_, fun q hq => ?_, fun q hq => ?_, fun q hq => ?_, ?_, h.gm, h.gf, fun kl v hkl => fe_set hi (by rfl) (by rfl) (h.fe kl v hkl)⟩
  · exact (h.fk a b wa wb).trans (find_set hi (by rfl) (by rfl) (by rfl) a b).symm
  · rcases mem_set_cases hi hq with rfl | ⟨j, hj, hjq⟩
    · simpa using blk_set hc 3 v
    · have h1 := h.c q (List.mem_of_getElem? hjq)
      have h2 := (hg.block q.blk (blk_lt h1) (fun e => own_block hrow h1 (by decide) e.symm)).trans h1
      exact (G.block q.blk (blk_lt h2) (fun e => (apart_of h.d hi hjq hj).1 (Option.some.inj e))).trans h2
  · rcases mem_set_cases hi hq with rfl | ⟨j, hj, hjq⟩
    · exact own_grown ho G (fun g e e' => own_block ho hc (by decide) (e.trans e'.symm))
    · have hq' := h.h q (List.mem_of_getElem? hjq)
      have hq2 := own_grown hq' hg (fun g e e' => (apart_of h.d hi hjq hj).2 g e e')
      exact own_grown hq2 G (fun g e e' => own_block hq2 hc (by decide) (e.trans e'.symm))
  · rcases mem_set_cases hi hq with rfl | ⟨j, hj, hjq⟩
    · exact h.g r hm
    · exact h.g q (List.mem_of_getElem? hjq)
  · rcases mem_set_cases hi hq with rfl | ⟨j, hj, hjq⟩
    · exact h.wf r hm
    · exact h.wf q (List.mem_of_getElem? hjq)
  · obtain ⟨hil, hix⟩ := List.getElem?_eq_some_iff.1 hi
    have hd := h.d
    rw [List.pairwise_iff_getElem] at hd ⊢
    intro j k hj hk hjk
    rw [List.length_set] at hj hk
    rw [List.getElem_set, List.getElem_set]
    by_cases e1 : i = j
    · subst e1
      rw [if_pos rfl, if_neg (by omega)]
      have := hd i k hj hk hjk
      rw [hix] at this
      refine ⟨this.1, this.2.1, fun g e e' => ?_⟩
      rcases hn g e with h1 | h1
      · exact this.2.2 g h1 e'
      · have := (h.h _ (List.getElem_mem hk)).lt g e'
        omega
    · rw [if_neg e1]
      by_cases e2 : i = k
      · subst e2
        rw [if_pos rfl]
        have := hd j i hj hk hjk
        rw [hix] at this
        refine ⟨this.1, this.2.1, fun g e e' => ?_⟩
        rcases hn g e' with h1 | h1
        · exact this.2.2 g e h1
        · have := (h.h _ (List.getElem_mem hj)).lt g e
          omega
      · rw [if_neg e2]
        exact hd j k hj hk hjk
end
end Go.Proofs.Ytnjcahdelcdcfaa

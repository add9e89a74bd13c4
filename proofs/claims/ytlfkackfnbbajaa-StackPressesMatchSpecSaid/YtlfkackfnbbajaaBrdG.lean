/- The sub-boards of a stack, as plain lists. -/
import Derived.Test.YtlfkackfnbbajaaSrtP
import Derived.Test.YtlfkackfnbbajaaStkG
namespace Go.Proofs.Ytlfkackfnbbajaa
open Go.RowKit Go.Maps
set_option linter.unusedSimpArgs false
set_option linter.unusedVariables false
set_option maxRecDepth 100000

/-- The material above a copper is a core. -/
def coreB (R : List Row) (i : Nat) : Bool := (R[(cus R).getD (i + 1) 0 - 1]?).any fun r => decide (r.2.kind = 2)
def coresF (R : List Row) : Nat → List AB
  | 0 => []
  | k + 1 => if coreB R k then upd (k + 1 : Nat) (k + 2 : Nat) (fun x => { x with core := true }) (coresF R k) else coresF R k
def spansF (l : List Thr) (L : List AB) : Nat → List AB
  | 0 => L
  | k + 1 => match l[k]? with
    | some x => upd x.a x.b (fun y => { y with hs := y.hs ++ [k] }) (spansF l L k)
    | none => spansF l L k
def boardsF (R : List Row) (l : List Thr) : List AB := upd 1 (cus R).length id (spansF l (coresF R ((cus R).length - 1)) l.length)
theorem brd_start (W : World) (o : Nat × Nat) : BrdW W.heap.size W.heap.size (W.heap.size + 1) 0 (fun _ => none) [] ((W.alloc (.map #[] 0)).alloc (.cells #[.map (some W.heap.size)] 135)) := by
  refine ⟨?_, (MapV.made W Try.prog 64).alloc _, fun a b _ _ => rfl, Nat.le_refl _, fun r hr => (by cases hr), fun r hr => (by cases hr), fun r hr => (by cases hr), fun r hr => (by cases hr), List.Pairwise.nil, Nat.le_refl _, Nat.le_succ _, fun kl v h => by cases h⟩
  have := (MapKept.heap_alloc (W.alloc (.map #[] 0)) (.cells #[.map (some W.heap.size)] 135)).1
  simpa using this
theorem above_copper {R : List Row} {i j : Nat} (hj : (cus R)[i + 1]? = some j) : ∃ r, 1 ≤ j ∧ R[j - 1]? = some r ∧ coreB R i = decide (r.2.kind = 2) := by
  have hil := (List.getElem?_eq_some_iff.1 hj).1
  obtain ⟨j0, h0⟩ : ∃ j0, (cus R)[i]? = some j0 := ⟨_, List.getElem?_eq_getElem (by omega)⟩
  have hlt := cus_mono h0 hj (Nat.lt_succ_self i)
  have hjl := cus_lt hj
  refine ⟨R[j - 1]'(by omega), by omega, List.getElem?_eq_getElem (by omega), ?_⟩
  unfold coreB
  rw [List.getD_eq_getElem?_getD, hj]
  simp only [Option.getD_some]
  rw [List.getElem?_eq_getElem (by omega)]
  rfl
theorem upd_hs {n n' : Nat} {g : AB → AB} {a b : Int} {L : List AB} (h : ∀ y ∈ L, y.hs.length ≤ n) (hg : ∀ y : AB, y.hs.length ≤ n → (g y).hs.length ≤ n') (hn : n ≤ n') : ∀ z ∈ upd a b g L, z.hs.length ≤ n' := by
  intro z hz
  unfold upd at hz
  split at hz
  · obtain ⟨y, hy, rfl⟩ := List.mem_map.1 hz
    have := h y hy
    split
    · exact hg y this
    · omega
  · rcases List.mem_append.1 hz with hz | hz
    · have := h z hz
      omega
    · rw [List.mem_singleton.1 hz]
      exact hg _ (Nat.zero_le _)
theorem cores_hs (R : List Row) : ∀ k, ∀ y ∈ coresF R k, y.hs.length ≤ 0
  | 0 => fun y hy => by cases hy
  | k + 1 => by
    rw [coresF]
    split
    · exact upd_hs (cores_hs R k) (fun y h => h) (Nat.le_refl _)
    · exact cores_hs R k
theorem spans_hs (l : List Thr) {L : List AB} (h : ∀ y ∈ L, y.hs.length ≤ 0) : ∀ k, ∀ y ∈ spansF l L k, y.hs.length ≤ k
  | 0 => h
  | k + 1 => by
    rw [spansF]
    split
    · exact upd_hs (spans_hs l h k) (fun y h => by simp; omega) (Nat.le_succ _)
    · exact fun y hy => Nat.le_succ_of_le (spans_hs l h k y hy)
theorem hole_few {L' : List Brd} {Q : List AB} {a b : Int} {i n : Nat} {r : Brd} (hi : L'[i]? = some r) (hu : ∀ (g : AB → AB) (r' : Brd), r'.ab = g r.ab → abl (L'.set i r') = upd a b g Q) (h : ∀ y ∈ Q, y.hs.length ≤ n) : r.hs.length ≤ n := by
  have e := hu id r rfl
  have h1 := upd_hs (g := id) (a := a) (b := b) h (fun y hy => hy) (Nat.le_refl n)
  rw [← e] at h1
  refine h1 r.ab (List.mem_map.2 ⟨r, ?_, rfl⟩)
  obtain ⟨hl, rfl⟩ := List.getElem?_eq_some_iff.1 hi
  rw [List.set_getElem_self]
  exact List.getElem_mem hl
/-- The ends of a sub-board are small. -/
def smallA (y : AB) : Prop := (0 ≤ y.a ∧ y.a ≤ 1000000) ∧ (0 ≤ y.b ∧ y.b ≤ 1000000)
theorem upd_small {g : AB → AB} {a b : Int} {L : List AB} (h : ∀ y ∈ L, smallA y) (hg : ∀ y : AB, smallA y → smallA (g y)) (ha : (0 ≤ a ∧ a ≤ 1000000) ∧ (0 ≤ b ∧ b ≤ 1000000)) : ∀ z ∈ upd a b g L, smallA z := by
  intro z hz
  unfold upd at hz
  split at hz
  · obtain ⟨y, hy, rfl⟩ := List.mem_map.1 hz
    have := h y hy
    split
    · exact hg y this
    · exact this
  · rcases List.mem_append.1 hz with hz | hz
    · exact h z hz
    · rw [List.mem_singleton.1 hz]
      exact hg _ ha
theorem cores_small (R : List Row) : ∀ k, k ≤ 1000 → ∀ y ∈ coresF R k, smallA y
  | 0, _ => fun y hy => by cases hy
  | k + 1, hk => by
    rw [coresF]
    split
    · exact upd_small (cores_small R k (by omega)) (fun y h => h) (by omega)
    · exact cores_small R k (by omega)
def okThr (l : List Thr) : Prop := ∀ x ∈ l, (0 ≤ x.a ∧ x.a ≤ 1000000) ∧ (0 ≤ x.b ∧ x.b ≤ 1000000)
theorem spans_small {l : List Thr} (hl : okThr l) {L : List AB} (h : ∀ y ∈ L, smallA y) : ∀ k, ∀ y ∈ spansF l L k, smallA y
  | 0 => h
  | k + 1 => by
    rw [spansF]
    split
    · rename_i x hx
      exact upd_small (spans_small hl h k) (fun y h => h) (hl x (List.mem_of_getElem? hx))
    · exact spans_small hl h k
theorem perm_map_back {α β : Type} {f : α → β} {l2 l1 : List β} (h : l2.Perm l1) : ∀ S : List α, S.map f = l1 → ∃ S' : List α, S'.Perm S ∧ S'.map f = l2 := by
  induction h with
  | nil => exact fun S hS => ⟨S, .refl _, hS⟩
  | cons x _ ih =>
    intro S hS
    cases S with
    | nil => cases hS
    | cons y S =>
      simp only [List.map_cons, List.cons.injEq] at hS
      obtain ⟨S', h1, h2⟩ := ih S hS.2
      exact ⟨y :: S', h1.cons y, by rw [List.map_cons, h2, hS.1]⟩
  | swap x y l =>
    intro S hS
    match S, hS with
    | a :: b :: S, hS =>
      simp only [List.map_cons, List.cons.injEq] at hS
      exact ⟨b :: a :: S, List.Perm.swap a b S, by rw [List.map_cons, List.map_cons, hS.1, hS.2.1, hS.2.2]⟩
  | trans _ _ ih1 ih2 =>
    intro S hS
    obtain ⟨S1, h1, h2⟩ := ih2 S hS
    obtain ⟨S2, h3, h4⟩ := ih1 S1 h2
    exact ⟨S2, h3.trans h1, h4⟩
def Brd.bq (r : Brd) : Bq := ⟨r.a, r.b, r.core, r.hv⟩
theorem bo_list : ∀ S : List Brd, (∀ r ∈ S, okQ r.bq) → ∃ lb : List Bo, lb.map (·.1) = S.map Brd.bq
  | [], _ => ⟨[], rfl⟩
  | r :: S, h => by
    obtain ⟨lb, hb⟩ := bo_list S fun q hq => h q (List.mem_cons_of_mem _ hq)
    exact ⟨⟨r.bq, h r (List.mem_cons_self ..)⟩ :: lb, by rw [List.map_cons, List.map_cons, hb]⟩
theorem cB_map (lb : List Bo) : cB lb = (lb.map (·.1)).flatMap Bq.cs := by
  induction lb with
  | nil => rfl
  | cons x l ih =>
    have : cB (x :: l) = x.1.cs ++ cB l := by simp [cB, cB1]
    rw [this, ih]
    simp
theorem cs_map (S : List Brd) : (S.map Brd.bq).flatMap Bq.cs = S.flatMap Brd.cs := by
  induction S with
  | nil => rfl
  | cons x l ih =>
    simp only [List.map_cons, List.flatMap_cons, ih]
    rfl
/-- What comes of gathering sub-boards. -/
def BoardsPost (R : List Row) (l : List Thr) (w : World) (e : Ending) (w' : World) : Prop :=
  ∃ (v : Value) (L S : List Brd), e = .returned v ∧ abl L = boardsF R l ∧ S.Perm L ∧ S.Pairwise (fun d e => turnQ d.bq < turnQ e.bq ∨ (turnQ d.bq = turnQ e.bq ∧ d.a ≤ e.a)) ∧ w'.ownsRow w.heap.size 62 4 v S.length (S.flatMap Brd.cs) ∧
    (∀ r ∈ S, w'.ownsRow w.heap.size 3 1 r.hv r.hs.length (r.hs.map fun k => Value.int .i64 (k : Nat))) ∧ (∀ y ∈ abl L, smallA y) ∧ Below w.heap.size w w'
end Go.Proofs.Ytlfkackfnbbajaa

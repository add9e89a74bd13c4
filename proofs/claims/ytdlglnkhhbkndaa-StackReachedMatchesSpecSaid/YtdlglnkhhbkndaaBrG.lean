/- Several texts in one: BrdG, BldP. -/
import Derived.Test.YtdlglnkhhbkndaaSrtP
import Derived.Test.YtdlglnkhhbkndaaStkG
/- The sub-boards of a stack, as plain lists. -/
namespace Go.Proofs.Ytdlglnkhhbkndaa
open Go.RowKit Go.Maps
set_option linter.unusedSimpArgs false
set_option linter.unusedVariables false
set_option maxRecDepth 100000

/-- The material above a copper is a core. -/
def coreB (R : List Row) (i : Nat) : Bool := (R[(cus R).getD (i + 1) 0 - 1]?).any fun r => decide (r.2.kind = 2)
def coresF (R : List Row) : Nat → List AB
  | 0 => []
  | k + 1 => if coreB R k then upd (k + 1 : Nat) (k + 2 : Nat) (fun x => { x with core := true }) (coresF R k) else coresF R k
def spansF (l : List Thr) (L : List AB) : Nat → List AB
  | 0 => L
  | k + 1 => match l[k]? with
    | some x => upd x.a x.b (fun y => { y with hs := y.hs ++ [k] }) (spansF l L k)
    | none => spansF l L k
def boardsF (R : List Row) (l : List Thr) : List AB := upd 1 (cus R).length id (spansF l (coresF R ((cus R).length - 1)) l.length)
theorem brd_start (W : World) (o : Nat × Nat) : BrdW W.heap.size W.heap.size (W.heap.size + 1) 0 (fun _ => none) [] ((W.alloc (.map #[] 0)).alloc (.cells #[.map (some W.heap.size)] 135)) := by
  refine ⟨?_, (MapV.made W Try.prog 64).alloc _, fun a b _ _ => rfl, Nat.le_refl _, fun r hr => (by cases hr), fun r hr => (by cases hr), fun r hr => (by cases hr), fun r hr => (by cases hr), List.Pairwise.nil, Nat.le_refl _, Nat.le_succ _, fun kl v h => by cases h⟩
  have := (MapKept.heap_alloc (W.alloc (.map #[] 0)) (.cells #[.map (some W.heap.size)] 135)).1
  simpa using this
theorem above_copper {R : List Row} {i j : Nat} (hj : (cus R)[i + 1]? = some j) : ∃ r, 1 ≤ j ∧ R[j - 1]? = some r ∧ coreB R i = decide (r.2.kind = 2) := by
  have hil := (List.getElem?_eq_some_iff.1 hj).1
  obtain ⟨j0, h0⟩ : ∃ j0, (cus R)[i]? = some j0 := ⟨_, List.getElem?_eq_getElem (by omega)⟩
  have hlt := cus_mono h0 hj (Nat.lt_succ_self i)
  have hjl := cus_lt hj
  refine ⟨R[j - 1]'(by omega), by omega, List.getElem?_eq_getElem (by omega), ?_⟩
  unfold coreB
  rw [List.getD_eq_getElem?_getD, hj]
  simp only [Option.getD_some]
  rw [List.getElem?_eq_getElem (by omega)]
  rfl
theorem upd_hs {n n' : Nat} {g : AB → AB} {a b : Int} {L : List AB} (h : ∀ y ∈ L, y.hs.length ≤ n) (hg : ∀ y : AB, y.hs.length ≤ n → (g y).hs.length ≤ n') (hn : n ≤ n') : ∀ z ∈ upd a b g L, z.hs.length ≤ n' := by
  intro z hz
  unfold upd at hz
  split at hz
  · obtain ⟨y, hy, rfl⟩ := List.mem_map.1 hz
    have := h y hy
    split
    · exact hg y this
    · omega
  · rcases List.mem_append.1 hz with hz | hz
    · have := h z hz
      omega
    · rw [List.mem_singleton.1 hz]
      exact hg _ (Nat.zero_le _)
theorem cores_hs (R : List Row) : ∀ k, ∀ y ∈ coresF R k, y.hs.length ≤ 0
  | 0 => fun y hy => by cases hy
  | k + 1 => by
    rw [coresF]
    split
    · exact upd_hs (cores_hs R k) (fun y h => h) (Nat.le_refl _)
    · exact cores_hs R k
theorem spans_hs (l : List Thr) {L : List AB} (h : ∀ y ∈ L, y.hs.length ≤ 0) : ∀ k, ∀ y ∈ spansF l L k, y.hs.length ≤ k
  | 0 => h
  | k + 1 => by
    rw [spansF]
    split
    · exact upd_hs (spans_hs l h k) (fun y h => by simp; omega) (Nat.le_succ _)
    · exact fun y hy => Nat.le_succ_of_le (spans_hs l h k y hy)
theorem hole_few {L' : List Brd} {Q : List AB} {a b : Int} {i n : Nat} {r : Brd} (hi : L'[i]? = some r) (hu : ∀ (g : AB → AB) (r' : Brd), r'.ab = g r.ab → abl (L'.set i r') = upd a b g Q) (h : ∀ y ∈ Q, y.hs.length ≤ n) : r.hs.length ≤ n := by
  have e := hu id r rfl
  have h1 := upd_hs (g := id) (a := a) (b := b) h (fun y hy => hy) (Nat.le_refl n)
  rw [← e] at h1
  refine h1 r.ab (List.mem_map.2 ⟨r, ?_, rfl⟩)
  obtain ⟨hl, rfl⟩ := List.getElem?_eq_some_iff.1 hi
  rw [List.set_getElem_self]
  exact List.getElem_mem hl
/-- The ends of a sub-board are small. -/
def smallA (y : AB) : Prop := (0 ≤ y.a ∧ y.a ≤ 1000000) ∧ (0 ≤ y.b ∧ y.b ≤ 1000000)
theorem upd_small {g : AB → AB} {a b : Int} {L : List AB} (h : ∀ y ∈ L, smallA y) (hg : ∀ y : AB, smallA y → smallA (g y)) (ha : (0 ≤ a ∧ a ≤ 1000000) ∧ (0 ≤ b ∧ b ≤ 1000000)) : ∀ z ∈ upd a b g L, smallA z := by
  intro z hz
  unfold upd at hz
  split at hz
  · obtain ⟨y, hy, rfl⟩ := List.mem_map.1 hz
    have := h y hy
    split
    · exact hg y this
    · exact this
  · rcases List.mem_append.1 hz with hz | hz
    · exact h z hz
    · rw [List.mem_singleton.1 hz]
      exact hg _ ha
theorem cores_small (R : List Row) : ∀ k, k ≤ 1000 → ∀ y ∈ coresF R k, smallA y
  | 0, _ => fun y hy => by cases hy
  | k + 1, hk => by
    rw [coresF]
    split
    · exact upd_small (cores_small R k (by omega)) (fun y h => h) (by omega)
    · exact cores_small R k (by omega)
def okThr (l : List Thr) : Prop := ∀ x ∈ l, (0 ≤ x.a ∧ x.a ≤ 1000000) ∧ (0 ≤ x.b ∧ x.b ≤ 1000000)
theorem spans_small {l : List Thr} (hl : okThr l) {L : List AB} (h : ∀ y ∈ L, smallA y) : ∀ k, ∀ y ∈ spansF l L k, smallA y
  | 0 => h
  | k + 1 => by
    rw [spansF]
    split
    · rename_i x hx
      exact upd_small (spans_small hl h k) (fun y h => h) (hl x (List.mem_of_getElem? hx))
    · exact spans_small hl h k
theorem perm_map_back {α β : Type} {f : α → β} {l2 l1 : List β} (h : l2.Perm l1) : ∀ S : List α, S.map f = l1 → ∃ S' : List α, S'.Perm S ∧ S'.map f = l2 := by
  induction h with
  | nil => exact fun S hS => ⟨S, .refl _, hS⟩
  | cons x _ ih =>
    intro S hS
    cases S with
    | nil => cases hS
    | cons y S =>
      simp only [List.map_cons, List.cons.injEq] at hS
      obtain ⟨S', h1, h2⟩ := ih S hS.2
      exact ⟨y :: S', h1.cons y, by rw [List.map_cons, h2, hS.1]⟩
  | swap x y l =>
    intro S hS
    match S, hS with
    | a :: b :: S, hS =>
      simp only [List.map_cons, List.cons.injEq] at hS
      exact ⟨b :: a :: S, List.Perm.swap a b S, by rw [List.map_cons, List.map_cons, hS.1, hS.2.1, hS.2.2]⟩
  | trans _ _ ih1 ih2 =>
    intro S hS
    obtain ⟨S1, h1, h2⟩ := ih2 S hS
    obtain ⟨S2, h3, h4⟩ := ih1 S1 h2
    exact ⟨S2, h3.trans h1, h4⟩
def Brd.bq (r : Brd) : Bq := ⟨r.a, r.b, r.core, r.hv⟩
theorem bo_list : ∀ S : List Brd, (∀ r ∈ S, okQ r.bq) → ∃ lb : List Bo, lb.map (·.1) = S.map Brd.bq
  | [], _ => ⟨[], rfl⟩
  | r :: S, h => by
    obtain ⟨lb, hb⟩ := bo_list S fun q hq => h q (List.mem_cons_of_mem _ hq)
    exact ⟨⟨r.bq, h r (List.mem_cons_self ..)⟩ :: lb, by rw [List.map_cons, List.map_cons, hb]⟩
theorem cB_map (lb : List Bo) : cB lb = (lb.map (·.1)).flatMap Bq.cs := by
  induction lb with
  | nil => rfl
  | cons x l ih =>
    have : cB (x :: l) = x.1.cs ++ cB l := by simp [cB, cB1]
    rw [this, ih]
    simp
theorem cs_map (S : List Brd) : (S.map Brd.bq).flatMap Bq.cs = S.flatMap Brd.cs := by
  induction S with
  | nil => rfl
  | cons x l ih =>
    simp only [List.map_cons, List.flatMap_cons, ih]
    rfl
/-- What comes of gathering sub-boards. -/
def BoardsPost (R : List Row) (l : List Thr) (w : World) (e : Ending) (w' : World) : Prop :=
  ∃ (v : Value) (L S : List Brd), e = .returned v ∧ abl L = boardsF R l ∧ S.Perm L ∧ S.Pairwise (fun d e => turnQ d.bq < turnQ e.bq ∨ (turnQ d.bq = turnQ e.bq ∧ d.a ≤ e.a)) ∧ w'.ownsRow w.heap.size 62 4 v S.length (S.flatMap Brd.cs) ∧
    (∀ r ∈ S, w'.ownsRow w.heap.size 3 1 r.hv r.hs.length (r.hs.map fun k => Value.int .i64 (k : Nat))) ∧ (∀ y ∈ abl L, smallA y) ∧ Below w.heap.size w w'
end Go.Proofs.Ytdlglnkhhbkndaa
/- The sub-boards of a stack, as plain lists: which spans they have, what is drilled in them, in what order they come. -/
namespace Go.Proofs.Ytdlglnkhhbkndaa
open Go.RowKit Go.Maps
set_option linter.unusedSimpArgs false
set_option linter.unusedVariables false
set_option maxRecDepth 100000

def apAB (x y : AB) : Prop := ¬ (x.a = y.a ∧ x.b = y.b)
/-- What holds of gathered sub-boards: `k` spans have been looked at, there are `n` coppers. -/
structure Bd (n : Int) (l : List Thr) (k : Nat) (L : List AB) : Prop where
  d : L.Pairwise apAB
  hs : ∀ y ∈ L, ∀ i ∈ y.hs, i < k ∧ l[i]? = some ⟨y.a, y.b⟩
  cnt : ∀ i, (L.flatMap (·.hs)).count i = if i < k ∧ i < l.length then 1 else 0
  core : ∀ y ∈ L, y.core = true → y.b = y.a + 1
  r : ∀ y ∈ L, 1 ≤ y.a ∧ y.a < y.b ∧ y.b ≤ n
theorem upd_new {a b : Int} {g : AB → AB} {L : List AB} (h : L.any (keyB a b) = false) : upd a b g L = L ++ [g ⟨a, b, false, []⟩] := by
  unfold upd
  rw [h]
  rfl
theorem upd_old {a b : Int} {g : AB → AB} : ∀ {L : List AB}, L.Pairwise apAB → L.any (keyB a b) = true → ∃ A y C, L = A ++ y :: C ∧ y.a = a ∧ y.b = b ∧ upd a b g L = A ++ g y :: C := by
  intro L hd h
  have hu : upd a b g L = L.map (fun x => if keyB a b x then g x else x) := by
    unfold upd
    rw [h]
    rfl
  rw [List.any_eq_true] at h
  obtain ⟨y, hy, hk⟩ := h
  obtain ⟨A, C, rfl⟩ := List.append_of_mem hy
  have hk' := hk
  unfold keyB at hk'
  rw [Bool.and_eq_true] at hk'
  have ea := of_decide_eq_true hk'.1
  have eb := of_decide_eq_true hk'.2
  refine ⟨A, y, C, rfl, ea, eb, ?_⟩
  obtain ⟨h1, h2, h3⟩ := List.pairwise_append.1 hd
  obtain ⟨h4, h5⟩ := List.pairwise_cons.1 h2
  have no : ∀ z, apAB z y ∨ apAB y z → keyB a b z = false := by
    intro z hz
    rw [Bool.eq_false_iff]
    intro k
    unfold keyB at k
    rw [Bool.and_eq_true] at k
    have e1 := of_decide_eq_true k.1
    have e2 := of_decide_eq_true k.2
    rcases hz with hz | hz
    · exact hz ⟨e1.trans ea.symm, e2.trans eb.symm⟩
    · exact hz ⟨ea.trans e1.symm, eb.trans e2.symm⟩
  rw [hu, List.map_append, List.map_cons, if_pos hk]
  congr 1
  · conv => rhs; rw [← List.map_id A]
    exact List.map_congr_left fun z hz => by rw [if_neg (by rw [no z (.inl (h3 z hz y (List.mem_cons_self ..)))]; decide)]; rfl
  · congr 1
    conv => rhs; rw [← List.map_id C]
    exact List.map_congr_left fun z hz => by rw [if_neg (by rw [no z (.inr (h4 z hz))]; decide)]; rfl
theorem any_no {a b : Int} {L : List AB} (h : L.any (keyB a b) = false) : ∀ z ∈ L, ¬ (z.a = a ∧ z.b = b) := by
  intro z hz e
  have : L.any (keyB a b) = true := List.any_eq_true.2 ⟨z, hz, by unfold keyB; simp [e.1, e.2]⟩
  rw [h] at this
  cases this
/-- A change that keeps the ends. -/
theorem Bd.upd {n : Int} {l : List Thr} {k k' : Nat} {L : List AB} (h : Bd n l k L) {a b : Int} (hr : 1 ≤ a ∧ a < b ∧ b ≤ n) {g : AB → AB} (ga : ∀ y, (g y).a = y.a) (gb : ∀ y, (g y).b = y.b)
    (gc : ∀ y, (y.core = true → y.b = y.a + 1) → y.a = a → y.b = b → (g y).core = true → y.b = y.a + 1) (ad : List Nat) (gh : ∀ y, (g y).hs = y.hs ++ ad) (hk : k ≤ k') (had : ∀ i ∈ ad, i < k' ∧ l[i]? = some ⟨a, b⟩)
    (hc : ∀ i, (if i < k ∧ i < l.length then 1 else 0) + ad.count i = if i < k' ∧ i < l.length then 1 else 0) : Bd n l k' (upd a b g L) := by
  cases hq : L.any (keyB a b)
  · rw [upd_new hq]
    have hn := any_no hq
    refine ⟨List.pairwise_append.2 ⟨h.d, List.pairwise_singleton _ _, fun z hz y hy => ?_⟩, fun y hy i hi => ?_, fun i => ?_, fun y hy hy2 => ?_, fun y hy => ?_⟩
    · rw [List.mem_singleton.1 hy]
      intro e
      rw [ga, gb] at e
      exact hn z hz e
    · rcases List.mem_append.1 hy with hy | hy
      · obtain ⟨h1, h2⟩ := h.hs y hy i hi
        exact ⟨by omega, h2⟩
      · rw [List.mem_singleton.1 hy, gh] at hi
        rw [List.mem_singleton.1 hy, ga, gb]
        exact had i (by simpa using hi)
    · rw [List.flatMap_append, List.count_append, h.cnt i]
      have : ([g ⟨a, b, false, []⟩] : List AB).flatMap (·.hs) = ad := by simp [gh]
      rw [this]
      exact hc i
    · rcases List.mem_append.1 hy with hy | hy
      · exact h.core y hy hy2
      · rw [List.mem_singleton.1 hy] at hy2 ⊢
        rw [ga, gb]
        exact gc _ (fun e => by cases e) rfl rfl hy2
    · rcases List.mem_append.1 hy with hy | hy
      · exact h.r y hy
      · rw [List.mem_singleton.1 hy, ga, gb]
        exact hr
  · obtain ⟨A, x, C, rfl, ea, eb, hu⟩ := upd_old (g := g) h.d hq
    rw [hu]
    have old : ∀ y, y ∈ A ++ g x :: C → y ∈ A ++ x :: C ∨ y = g x := by
      intro y hy
      rcases List.mem_append.1 hy with hy | hy
      · exact .inl (List.mem_append_left _ hy)
      · rcases List.mem_cons.1 hy with hy | hy
        · exact .inr hy
        · exact .inl (List.mem_append_right _ (List.mem_cons_of_mem _ hy))
    have hx : x ∈ A ++ x :: C := List.mem_append_right _ (List.mem_cons_self ..)
    obtain ⟨d1, d2, d3⟩ := List.pairwise_append.1 h.d
    obtain ⟨d4, d5⟩ := List.pairwise_cons.1 d2
    refine ⟨List.pairwise_append.2 ⟨d1, List.pairwise_cons.2 ⟨fun z hz => ?_, d5⟩, fun z hz y hy => ?_⟩, fun y hy i hi => ?_, fun i => ?_, fun y hy hy2 => ?_, fun y hy => ?_⟩
    · intro e
      rw [ga, gb] at e
      exact d4 z hz e
    · rcases List.mem_cons.1 hy with rfl | hy
      · intro e
        rw [ga, gb] at e
        exact d3 z hz x (List.mem_cons_self ..) e
      · exact d3 z hz y (List.mem_cons_of_mem _ hy)
    · rcases old y hy with hy | rfl
      · obtain ⟨h1, h2⟩ := h.hs y hy i hi
        exact ⟨by omega, h2⟩
      · rw [gh] at hi
        rw [ga, gb]
        rcases List.mem_append.1 hi with hi | hi
        · obtain ⟨h1, h2⟩ := h.hs x hx i hi
          exact ⟨by omega, h2⟩
        · rw [ea, eb]
          exact had i hi
    · have := h.cnt i
      rw [List.flatMap_append, List.flatMap_cons, List.count_append, List.count_append] at this ⊢
      rw [gh, List.count_append]
      have := hc i
      omega
    · rcases old y hy with hy | rfl
      · exact h.core y hy hy2
      · rw [ga, gb]
        exact gc x (h.core x hx) ea eb hy2
    · rcases old y hy with hy | rfl
      · exact h.r y hy
      · rw [ga, gb]
        exact h.r x hx
theorem Bd.nil (n : Int) (l : List Thr) : Bd n l 0 [] :=
  ⟨List.Pairwise.nil, fun y hy => (by cases hy), fun i => (by simp), fun y hy => (by cases hy), fun y hy => (by cases hy)⟩
theorem cores_bd {n : Nat} (R : List Row) (l : List Thr) : ∀ k, k + 1 ≤ n → Bd n l 0 (coresF R k)
  | 0, _ => Bd.nil _ _
  | k + 1, hk => by
    rw [coresF]
    split
    · refine (cores_bd R l k (by omega)).upd (by omega) (fun y => rfl) (fun y => rfl) (fun y _ e1 e2 _ => by rw [e1, e2]; omega) [] (fun y => by simp) (Nat.le_refl _) (fun i hi => by cases hi) (fun i => by simp)
    · exact cores_bd R l k (by omega)
theorem spans_bd {n : Int} {l : List Thr} (hl : ∀ x ∈ l, 1 ≤ x.a ∧ x.a < x.b ∧ x.b ≤ n) {L : List AB} (h : Bd n l 0 L) : ∀ k, k ≤ l.length → Bd n l k (spansF l L k)
  | 0, _ => h
  | k + 1, hk => by
    have hi : l[k]? = some l[k] := List.getElem?_eq_getElem (by omega)
    rw [spansF, hi]
    exact (spans_bd hl h k (by omega)).upd (hl _ (List.getElem_mem _)) (fun y => rfl) (fun y => rfl) (fun y hy _ _ => hy) [k] (fun y => rfl) (Nat.le_succ _)
      (fun i hi2 => by rw [List.mem_singleton.1 hi2]; exact ⟨Nat.lt_succ_self _, hi⟩)
      (fun i => by
        rw [List.count_singleton]
        by_cases e : k = i
        · subst e
          simp
          omega
        · have : (k == i) = false := by simpa using e
          rw [this, if_neg (by decide : ¬ (false = true))]
          split <;> split <;> omega)
theorem boards_bd {R : List Row} {l : List Thr} (h2 : 2 ≤ (cus R).length) (hl : ∀ x ∈ l, 1 ≤ x.a ∧ x.a < x.b ∧ x.b ≤ ((cus R).length : Int)) : Bd (cus R).length l l.length (boardsF R l) := by
  unfold boardsF
  exact (spans_bd hl (cores_bd R l _ (by omega)) l.length (Nat.le_refl _)).upd (by omega) (fun y => rfl) (fun y => rfl) (fun y hy _ _ => hy) [] (fun y => by simp) (Nat.le_refl _) (fun i hi => by cases hi) (fun i => by simp)
theorem upd_has {a b : Int} {g : AB → AB} {L : List AB} (ga : ∀ y, (g y).a = y.a) (gb : ∀ y, (g y).b = y.b) : ∃ y ∈ upd a b g L, y.a = a ∧ y.b = b := by
  unfold upd
  cases hq : L.any (keyB a b)
  · exact ⟨g ⟨a, b, false, []⟩, by simp, by rw [ga], by rw [gb]⟩
  · rw [List.any_eq_true] at hq
    obtain ⟨y, hy, hk⟩ := hq
    have hk' := hk
    unfold keyB at hk'
    rw [Bool.and_eq_true] at hk'
    exact ⟨g y, List.mem_map.2 ⟨y, hy, by rw [if_pos hk]⟩, by rw [ga]; exact of_decide_eq_true hk'.1, by rw [gb]; exact of_decide_eq_true hk'.2⟩
theorem boards_whole (R : List Row) (l : List Thr) : ∃ y ∈ boardsF R l, y.a = 1 ∧ y.b = (cus R).length := upd_has (fun _ => rfl) (fun _ => rfl)
end Go.Proofs.Ytdlglnkhhbkndaa

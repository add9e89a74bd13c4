/- Plain mathematics of distances: the least distance of two regions, the least square that is so near, gaps. No condition. -/
import Derived.Test.YtjcbngpgmgeanaaReg
namespace Go.Proofs.Ytjcbngpgmgeanaa
open Reg (R4 inR)
set_option linter.unusedSimpArgs false
set_option linter.unusedVariables false

def farI (a0 a1 b0 b1 : Int) : Int := max 0 (max (b0 - (a1 - 1)) (a0 - (b1 - 1)))
def farR (a b : R4) : Int := max (farI a.x0 a.x1 b.x0 b.x1) (farI a.y0 a.y1 b.y0 b.y1)
def least : Int → List Int → Int
  | m, [] => m
  | m, x :: l => least (min m x) l
/-- The distances of each of a from each of b. -/
def dists (a b : List R4) : List Int := a.flatMap fun x => b.map (farR x)
def farRs (a b : List R4) : Int := least (farR (a.headD ⟨0, 0, 0, 0⟩) (b.headD ⟨0, 0, 0, 0⟩)) (dists a b)
theorem least_append (a b : List Int) : ∀ m, least m (a ++ b) = least (least m a) b := by
  induction a with
  | nil => intro m; rfl
  | cons x a ih => intro m; simp only [List.cons_append, least]; exact ih _
theorem least_le (l : List Int) : ∀ m, least m l ≤ m ∧ ∀ x, x ∈ l → least m l ≤ x := by
  induction l with
  | nil => intro m; exact ⟨Int.le_refl _, fun x hx => by cases hx⟩
  | cons a l ih =>
    intro m
    obtain ⟨h1, h2⟩ := ih (min m a)
    simp only [least]
    refine ⟨by omega, fun x hx => ?_⟩
    rcases List.mem_cons.1 hx with rfl | hx
    · omega
    · exact h2 x hx
theorem least_mem (l : List Int) : ∀ m, least m l = m ∨ least m l ∈ l := by
  induction l with
  | nil => intro m; exact .inl rfl
  | cons a l ih =>
    intro m
    simp only [least]
    rcases ih (min m a) with h | h
    · rw [h]
      by_cases hm : m ≤ a
      · left; omega
      · right; rw [Int.min_eq_right (by omega)]; exact List.mem_cons_self
    · exact .inr (List.mem_cons_of_mem _ h)
/-- Rectangles with squares, in range. -/
def Rg (r : R4) : Prop := -1000000 ≤ r.x0 ∧ r.x0 ≤ 1000000 ∧ -1000000 ≤ r.y0 ∧ r.y0 ≤ 1000000 ∧ -1000000 ≤ r.x1 ∧ r.x1 ≤ 1000000 ∧ -1000000 ≤ r.y1 ∧ r.y1 ≤ 1000000 ∧ r.x0 < r.x1 ∧ r.y0 < r.y1
theorem farR_bound {a b : R4} (ha : Rg a) (hb : Rg b) : 0 ≤ farR a b ∧ farR a b ≤ 2000000 := by
  unfold Rg at *
  simp only [farR, farI]
  omega
theorem farRs_mem {a b : List R4} (ha : 0 < a.length) (hb : 0 < b.length) : ∃ x, x ∈ a ∧ ∃ y, y ∈ b ∧ farRs a b = farR x y := by
  obtain ⟨x, a', rfl⟩ : ∃ x a', a = x :: a' := by cases a with | nil => simp at ha | cons x a' => exact ⟨x, a', rfl⟩
  obtain ⟨y, b', rfl⟩ : ∃ y b', b = y :: b' := by cases b with | nil => simp at hb | cons y b' => exact ⟨y, b', rfl⟩
  unfold farRs
  rcases least_mem (dists (x :: a') (y :: b')) (farR x y) with h | h
  · exact ⟨x, List.mem_cons_self, y, List.mem_cons_self, h⟩
  · simp only [dists, List.mem_flatMap, List.mem_map] at h
    obtain ⟨u, hu, v, hv, e⟩ := h
    exact ⟨u, hu, v, hv, e.symm⟩
theorem farRs_le {a b : List R4} {x y : R4} (hx : x ∈ a) (hy : y ∈ b) : farRs a b ≤ farR x y := by
  refine (least_le _ _).2 _ ?_
  simp only [dists, List.mem_flatMap, List.mem_map]
  exact ⟨x, hx, y, hy, rfl⟩
theorem farRs_bound {a b : List R4} (pa : 0 < a.length) (pb : 0 < b.length) (ha : ∀ r, r ∈ a → Rg r) (hb : ∀ r, r ∈ b → Rg r) : 0 ≤ farRs a b ∧ farRs a b ≤ 2000000 := by
  obtain ⟨x, hx, y, hy, e⟩ := farRs_mem pa pb
  rw [e]
  exact farR_bound (ha x hx) (hb y hy)
/-- Two rectangles are at most n apart just if two of their squares are. -/
theorem farR_le {a b : R4} (ha : Rg a) (hb : Rg b) {n : Int} (hn : 0 ≤ n) : farR a b ≤ n ↔ ∃ x y u v, a.has x y ∧ b.has u v ∧ u - n ≤ x ∧ x ≤ u + n ∧ v - n ≤ y ∧ y ≤ v + n := by
  unfold Rg at *
  constructor
  · intro h
    simp only [farR, farI] at h
    refine ⟨max a.x0 (b.x0 - n), max a.y0 (b.y0 - n), max b.x0 (a.x0 - n), max b.y0 (a.y0 - n), ?_, ?_, ?_, ?_, ?_, ?_⟩
    · simp only [R4.has]; omega
    · simp only [R4.has]; omega
    all_goals omega
  · rintro ⟨x, y, u, v, h1, h2, h3, h4, h5, h6⟩
    simp only [R4.has] at h1 h2
    simp only [farR, farI]
    omega

/-! ## The least square of one region that is near the other one -/
def npX (n : Int) (x y : R4) : Int := max x.x0 (y.x0 - n)
def npY (n : Int) (x y : R4) : Int := max x.y0 (y.y0 - n)
def npIn (n : Int) (x y : R4) : Bool := decide (npX n x y < min x.x1 (y.x1 + n)) && decide (npY n x y < min x.y1 (y.y1 + n))
def npLess (n : Int) (s : Bool × Int × Int) (x y : R4) : Bool := !s.1 || (decide (npY n x y < s.2.2) || (decide (npY n x y = s.2.2) && decide (npX n x y < s.2.1)))
def npStep (n : Int) (s : Bool × Int × Int) (x y : R4) : Bool × Int × Int := if npIn n x y = true ∧ npLess n s x y = true then (true, npX n x y, npY n x y) else s
def npRow (n : Int) (x : R4) (s : Bool × Int × Int) (b : List R4) : Bool × Int × Int := b.foldl (fun s y => npStep n s x y) s
def npAll (n : Int) (b : List R4) (s : Bool × Int × Int) (a : List R4) : Bool × Int × Int := a.foldl (fun s x => npRow n x s b) s
def npF (n : Int) (a b : List R4) : Bool × Int × Int := npAll n b (false, 0, 0) a
theorem npRow_snoc (n : Int) (x : R4) (s : Bool × Int × Int) (b : List R4) (k : Nat) (h : k < b.length) : npRow n x s (b.take (k + 1)) = npStep n (npRow n x s (b.take k)) x b[k] := by
  unfold npRow
  rw [List.take_succ_eq_append_getElem h, List.foldl_append]
  rfl
theorem npAll_snoc (n : Int) (b : List R4) (s : Bool × Int × Int) (a : List R4) (k : Nat) (h : k < a.length) : npAll n b s (a.take (k + 1)) = npRow n a[k] (npAll n b s (a.take k)) b := by
  unfold npAll
  rw [List.take_succ_eq_append_getElem h, List.foldl_append]
  rfl
/-- What is found lies in a rectangle of the one, near one of the other. -/
def NpOk (n : Int) (a b : List R4) (s : Bool × Int × Int) : Prop := s.1 = true → ∃ x, x ∈ a ∧ ∃ y, y ∈ b ∧ npIn n x y = true ∧ s.2.1 = npX n x y ∧ s.2.2 = npY n x y
theorem npStep_ok {n : Int} {a b : List R4} {s : Bool × Int × Int} {x y : R4} (h : NpOk n a b s) (hx : x ∈ a) (hy : y ∈ b) : NpOk n a b (npStep n s x y) := by
  unfold npStep
  split
  · rename_i hc
    exact fun _ => ⟨x, hx, y, hy, hc.1, rfl, rfl⟩
  · exact h
theorem npRow_ok {n : Int} {a b : List R4} {x : R4} (hx : x ∈ a) (c : List R4) : (∀ y, y ∈ c → y ∈ b) → ∀ {s : Bool × Int × Int}, NpOk n a b s → NpOk n a b (npRow n x s c) := by
  induction c with
  | nil => intro _ s h; exact h
  | cons y c ih =>
    intro hc s h
    simp only [npRow, List.foldl_cons]
    exact ih (fun z hz => hc z (List.mem_cons_of_mem _ hz)) (npStep_ok h hx (hc y List.mem_cons_self))
theorem npAll_ok {n : Int} {a b : List R4} (c : List R4) : (∀ x, x ∈ c → x ∈ a) → ∀ {s : Bool × Int × Int}, NpOk n a b s → NpOk n a b (npAll n b s c) := by
  induction c with
  | nil => intro _ s h; exact h
  | cons x c ih =>
    intro hc s h
    simp only [npAll, List.foldl_cons]
    exact ih (fun z hz => hc z (List.mem_cons_of_mem _ hz)) (npRow_ok (hc x List.mem_cons_self) b (fun _ h => h) h)
theorem npF_ok (n : Int) (a b : List R4) : NpOk n a b (npF n a b) := npAll_ok a (fun _ h => h) (fun h => by cases h)
theorem npStep_found {n : Int} {s : Bool × Int × Int} {x y : R4} (h : s.1 = true ∨ npIn n x y = true) : (npStep n s x y).1 = true := by
  unfold npStep
  split
  · rfl
  · rename_i hc
    rcases h with h | h
    · exact h
    · cases hs : s.1
      · exact absurd ⟨h, by simp [npLess, hs]⟩ hc
      · rfl
theorem npRow_found {n : Int} {x : R4} (c : List R4) : ∀ {s : Bool × Int × Int}, (s.1 = true ∨ ∃ y, y ∈ c ∧ npIn n x y = true) → (npRow n x s c).1 = true := by
  induction c with
  | nil =>
    intro s h
    rcases h with h | ⟨y, hy, _⟩
    · exact h
    · cases hy
  | cons y c ih =>
    intro s h
    simp only [npRow, List.foldl_cons]
    refine ih ?_
    rcases h with h | ⟨z, hz, hi⟩
    · exact .inl (npStep_found (.inl h))
    · rcases List.mem_cons.1 hz with rfl | hz
      · exact .inl (npStep_found (.inr hi))
      · exact .inr ⟨z, hz, hi⟩
theorem npAll_found {n : Int} {b : List R4} (c : List R4) : ∀ {s : Bool × Int × Int}, (s.1 = true ∨ ∃ x, x ∈ c ∧ ∃ y, y ∈ b ∧ npIn n x y = true) → (npAll n b s c).1 = true := by
  induction c with
  | nil =>
    intro s h
    rcases h with h | ⟨y, hy, _⟩
    · exact h
    · cases hy
  | cons x c ih =>
    intro s h
    simp only [npAll, List.foldl_cons]
    refine ih ?_
    rcases h with h | ⟨z, hz, y, hy, hi⟩
    · exact .inl (npRow_found b (.inl h))
    · rcases List.mem_cons.1 hz with rfl | hz
      · exact .inl (npRow_found b (.inr ⟨y, hy, hi⟩))
      · exact .inr ⟨z, hz, y, hy, hi⟩
theorem in_iff {a0 a1 b0 b1 n : Int} (ha : a0 < a1) (hb : b0 < b1) (hn : 0 ≤ n) : max a0 (b0 - n) < min a1 (b1 + n) ↔ farI a0 a1 b0 b1 ≤ n := by
  simp only [farI]
  omega
theorem npIn_iff {n : Int} {x y : R4} (hx : Rg x) (hy : Rg y) (hn : 0 ≤ n) : npIn n x y = true ↔ farR x y ≤ n := by
  unfold Rg at *
  have e1 := in_iff (n := n) (a0 := x.x0) (a1 := x.x1) (b0 := y.x0) (b1 := y.x1) (by omega) (by omega) hn
  have e2 := in_iff (n := n) (a0 := x.y0) (a1 := x.y1) (b0 := y.y0) (b1 := y.y1) (by omega) (by omega) hn
  simp only [npIn, Bool.and_eq_true, decide_eq_true_eq, farR]
  unfold npX npY
  rw [e1, e2]
  omega
theorem npF_range {n : Int} {a b : List R4} (ha : ∀ r, r ∈ a → Rg r) (hb : ∀ r, r ∈ b → Rg r) (hn : 0 ≤ n) : -1000000 ≤ (npF n a b).2.1 ∧ (npF n a b).2.1 < 1000000 ∧ -1000000 ≤ (npF n a b).2.2 ∧ (npF n a b).2.2 < 1000000 := by
  have key : ∀ s : Bool × Int × Int, NpOk n a b s → (s.1 = false → s.2 = (0, 0)) → -1000000 ≤ s.2.1 ∧ s.2.1 < 1000000 ∧ -1000000 ≤ s.2.2 ∧ s.2.2 < 1000000 := by
    intro s h h0
    cases hs : s.1
    · rw [h0 hs]; simp
    · obtain ⟨x, hx, y, hy, hi, e1, e2⟩ := h hs
      have h1 := ha x hx
      have h2 := hb y hy
      unfold Rg at h1 h2
      simp only [npIn, Bool.and_eq_true, decide_eq_true_eq] at hi
      rw [e1, e2]
      simp only [npX, npY] at *
      omega
  refine key _ (npF_ok n a b) ?_
  have st : ∀ (s : Bool × Int × Int) (x y : R4), (s.1 = false → s.2 = (0, 0)) → ((npStep n s x y).1 = false → (npStep n s x y).2 = (0, 0)) := by
    intro s x y h
    unfold npStep
    split
    · intro h; cases h
    · exact h
  have rw_ : ∀ (c : List R4) (s : Bool × Int × Int) (x : R4), (s.1 = false → s.2 = (0, 0)) → ((npRow n x s c).1 = false → (npRow n x s c).2 = (0, 0)) := by
    intro c
    induction c with
    | nil => intro s x h; exact h
    | cons y c ih => intro s x h; simp only [npRow, List.foldl_cons]; exact ih _ x (st s x y h)
  have al : ∀ (c : List R4) (s : Bool × Int × Int), (s.1 = false → s.2 = (0, 0)) → ((npAll n b s c).1 = false → (npAll n b s c).2 = (0, 0)) := by
    intro c
    induction c with
    | nil => intro s h; exact h
    | cons x c ih => intro s h; simp only [npAll, List.foldl_cons]; exact ih _ (rw_ b s x h)
  exact al a (false, 0, 0) (fun _ => rfl)
/-- Where the regions are at most n apart, the least square lies in the one, and near a square of the other one. -/
theorem npF_sq {n : Int} {a b : List R4} (ha : ∀ r, r ∈ a → Rg r) (hb : ∀ r, r ∈ b → Rg r) (hn : 0 ≤ n) (h : ∃ x, x ∈ a ∧ ∃ y, y ∈ b ∧ farR x y ≤ n) :
    inR a (npF n a b).2.1 (npF n a b).2.2 ∧ ∃ y, y ∈ b ∧ y.x0 - n ≤ (npF n a b).2.1 ∧ (npF n a b).2.1 < y.x1 + n ∧ y.y0 - n ≤ (npF n a b).2.2 ∧ (npF n a b).2.2 < y.y1 + n := by
  obtain ⟨x, hx, y, hy, hf⟩ := h
  have hfound : (npF n a b).1 = true := npAll_found a (.inr ⟨x, hx, y, hy, (npIn_iff (ha x hx) (hb y hy) hn).2 hf⟩)
  obtain ⟨u, hu, v, hv, hi, e1, e2⟩ := npF_ok n a b hfound
  have g1 := ha u hu
  have g2 := hb v hv
  rw [e1, e2]
  unfold Rg at g1 g2
  simp only [npIn, Bool.and_eq_true, decide_eq_true_eq] at hi
  refine ⟨⟨u, hu, ?_⟩, v, hv, ?_⟩
  · simp only [R4.has, npX, npY] at *; omega
  · simp only [npX, npY] at *; omega

/-! ## Gaps -/
structure G7 where
  a : Int
  b : Int
  d : Int
  fx : Int
  fy : Int
  tx : Int
  ty : Int
def sqAt (x y : Int) : R4 := ⟨x, y, x + 1, y + 1⟩
def gapOf (i j : Nat) (a b : List R4) : G7 :=
  let n := farRs a b
  let f := npF n a b
  let t := npF n b [sqAt f.2.1 f.2.2]
  ⟨i, j, n - 1, f.2.1, f.2.2, t.2.1, t.2.2⟩
def gapStep (below : Int) (i j : Nat) (a b : List R4) (s : List G7) : Option (List G7) :=
  if a.length = 0 ∨ b.length = 0 then some s else if farRs a b = 0 then none else if farRs a b - 1 < below then some (s ++ [gapOf i j a b]) else some s
def gapRow (below : Int) (i : Nat) (a : List R4) : Nat → List (List R4) → List G7 → Option (List G7)
  | _, [], s => some s
  | j, b :: t, s => (gapStep below i j a b s).bind (gapRow below i a (j + 1) t)
def gapAll (below : Int) : Nat → List (List R4) → List G7 → Option (List G7)
  | _, [], s => some s
  | i, a :: t, s => (gapRow below i a (i + 1) t s).bind (gapAll below (i + 1) t)
theorem gapStep_len {below : Int} {i j : Nat} {a b : List R4} {s t : List G7} (h : gapStep below i j a b s = some t) : t.length ≤ s.length + 1 := by
  unfold gapStep at h
  split at h
  · cases h; omega
  · split at h
    · cases h
    · split at h
      · cases h; simp
      · cases h; omega
theorem sq_rg {n : Int} {a b : List R4} (ha : ∀ r, r ∈ a → Rg r) (hb : ∀ r, r ∈ b → Rg r) (hn : 0 ≤ n) : Rg (sqAt (npF n a b).2.1 (npF n a b).2.2) := by
  have := npF_range ha hb hn
  simp only [Rg, sqAt]
  omega
/-- Both squares of a gap lie where they must. -/
theorem gap_sq {a b : List R4} (pa : 0 < a.length) (pb : 0 < b.length) (ha : ∀ r, r ∈ a → Rg r) (hb : ∀ r, r ∈ b → Rg r) (i j : Nat) :
    inR a (gapOf i j a b).fx (gapOf i j a b).fy ∧ inR b (gapOf i j a b).tx (gapOf i j a b).ty := by
  have hn := (farRs_bound pa pb ha hb).1
  obtain ⟨x, hx, y, hy, e⟩ := farRs_mem pa pb
  obtain ⟨h1, z, hz, q⟩ := npF_sq ha hb hn ⟨x, hx, y, hy, by omega⟩
  refine ⟨h1, ?_⟩
  have hs := sq_rg ha hb hn
  refine (npF_sq (a := b) (b := [sqAt (npF (farRs a b) a b).2.1 (npF (farRs a b) a b).2.2]) hb (fun r hr => by rw [List.mem_singleton.1 hr]; exact hs) hn ⟨z, hz, _, List.mem_singleton.2 rfl, ?_⟩).1
  have := hb z hz
  unfold Rg at this
  simp only [farR, farI, sqAt]
  omega
end Go.Proofs.Ytjcbngpgmgeanaa

/- Plain lemmas on regions of unit squares in their canonical form: spans of a row, bands of rows; a canonical form is fixed by its set of squares. No condition. -/
import Derived.Below
namespace Go.Proofs.Ytmgcahoamcheoaa
namespace Reg

/-- A rectangle. -/
structure R4 where
  x0 : Int
  y0 : Int
  x1 : Int
  y1 : Int
  deriving DecidableEq

abbrev Span := Int × Int

/-- An X lies in spans. -/
def inS (l : List Span) (x : Int) : Prop := ∃ s, s ∈ l ∧ s.1 ≤ x ∧ x < s.2

/-- Spans in order that do not touch, all of them right of 'lo'. -/
def SepF : Int → List Span → Prop
  | _, [] => True
  | lo, s :: l => lo < s.1 ∧ s.1 < s.2 ∧ SepF s.2 l

theorem SepF.gt {l : List Span} : ∀ {lo : Int}, SepF lo l → ∀ {x}, inS l x → lo < x := by
  induction l with
  | nil => rintro lo _ x ⟨s, hs, _⟩; cases hs
  | cons s l ih =>
    rintro lo ⟨h1, h2, h3⟩ x ⟨t, ht, ha, hb⟩
    rcases List.mem_cons.1 ht with rfl | ht
    · omega
    · have := ih h3 ⟨t, ht, ha, hb⟩
      omega

theorem SepF.mono {l : List Span} {lo lo' : Int} (h : SepF lo l) (hl : lo' ≤ lo) : SepF lo' l := by
  cases l with
  | nil => trivial
  | cons s l => exact ⟨by have := h.1; omega, h.2⟩

theorem inS_cons {s : Span} {l : List Span} {x : Int} : inS (s :: l) x ↔ (s.1 ≤ x ∧ x < s.2) ∨ inS l x := by
  constructor
  · rintro ⟨t, ht, h⟩
    rcases List.mem_cons.1 ht with rfl | ht
    · exact .inl h
    · exact .inr ⟨t, ht, h⟩
  · rintro (h | ⟨t, ht, h⟩)
    · exact ⟨s, List.mem_cons_self, h⟩
    · exact ⟨t, List.mem_cons_of_mem _ ht, h⟩

theorem inS_nil {x : Int} : ¬ inS [] x := by rintro ⟨_, h, _⟩; cases h

/-- A row's spans are fixed by the row. -/
theorem SepF.unique {a : List Span} : ∀ {b : List Span} {lo lo' : Int}, SepF lo a → SepF lo' b → (∀ x, inS a x ↔ inS b x) → a = b := by
  induction a with
  | nil =>
    intro b lo lo' _ hb h
    cases b with
    | nil => rfl
    | cons t m => exact absurd ((h t.1).2 (inS_cons.2 (.inl ⟨Int.le_refl _, hb.2.1⟩))) inS_nil
  | cons s l ih =>
    intro b lo lo' ha hb h
    cases b with
    | nil => exact absurd ((h s.1).1 (inS_cons.2 (.inl ⟨Int.le_refl _, ha.2.1⟩))) inS_nil
    | cons t m =>
      obtain ⟨_, a2, a3⟩ := ha
      obtain ⟨_, b2, b3⟩ := hb
      have hge1 : ∀ x, inS (s :: l) x → s.1 ≤ x := fun x hx => by
        rcases inS_cons.1 hx with hx | hx
        · exact hx.1
        · have := a3.gt hx; omega
      have hge2 : ∀ x, inS (t :: m) x → t.1 ≤ x := fun x hx => by
        rcases inS_cons.1 hx with hx | hx
        · exact hx.1
        · have := b3.gt hx; omega
      have e1 : s.1 = t.1 := by
        have := hge2 _ ((h s.1).1 (inS_cons.2 (.inl ⟨Int.le_refl _, a2⟩)))
        have := hge1 _ ((h t.1).2 (inS_cons.2 (.inl ⟨Int.le_refl _, b2⟩)))
        omega
      have e2 : s.2 = t.2 := by
        rcases Int.lt_trichotomy s.2 t.2 with hlt | he | hlt
        · exfalso
          rcases inS_cons.1 ((h s.2).2 (inS_cons.2 (.inl ⟨by omega, hlt⟩))) with hx | hx
          · omega
          · have := a3.gt hx; omega
        · exact he
        · exfalso
          rcases inS_cons.1 ((h t.2).1 (inS_cons.2 (.inl ⟨by omega, hlt⟩))) with hx | hx
          · omega
          · have := b3.gt hx; omega
      have e : s = t := Prod.ext e1 e2
      subst e
      rw [ih a3 b3 (fun x => ⟨fun hx => ?_, fun hx => ?_⟩)]
      · rcases inS_cons.1 ((h x).1 (inS_cons.2 (.inr hx))) with hy | hy
        · have := a3.gt hx; omega
        · exact hy
      · rcases inS_cons.1 ((h x).2 (inS_cons.2 (.inr hx))) with hy | hy
        · have := b3.gt hx; omega
        · exact hy

/-- What a region is between two heights. -/
structure Band where
  lo : Int
  hi : Int
  sp : List Span
  deriving DecidableEq

def inB (l : List Band) (x y : Int) : Prop := ∃ b, b ∈ l ∧ b.lo ≤ y ∧ y < b.hi ∧ inS b.sp x

/-- Bands in canonical form, all of them from 'lo' on; where the first one begins at 'lo' it has not the spans 'prev'. -/
def CanF : Int → List Span → List Band → Prop
  | _, _, [] => True
  | lo, prev, b :: l => lo ≤ b.lo ∧ (b.lo = lo → b.sp ≠ prev) ∧ b.lo < b.hi ∧ b.sp ≠ [] ∧ (∃ z, SepF z b.sp) ∧ CanF b.hi b.sp l

theorem CanF.ge {l : List Band} : ∀ {lo : Int} {p : List Span}, CanF lo p l → ∀ {x y}, inB l x y → lo ≤ y := by
  induction l with
  | nil => rintro lo p _ x y ⟨s, hs, _⟩; cases hs
  | cons b l ih =>
    rintro lo p ⟨h1, _, h2, _, _, h3⟩ x y ⟨t, ht, ha, hb, hx⟩
    rcases List.mem_cons.1 ht with rfl | ht
    · omega
    · have := ih h3 ⟨t, ht, ha, hb, hx⟩
      omega

theorem inB_cons {b : Band} {l : List Band} {x y : Int} : inB (b :: l) x y ↔ (b.lo ≤ y ∧ y < b.hi ∧ inS b.sp x) ∨ inB l x y := by
  constructor
  · rintro ⟨t, ht, h⟩
    rcases List.mem_cons.1 ht with rfl | ht
    · exact .inl h
    · exact .inr ⟨t, ht, h⟩
  · rintro (h | ⟨t, ht, h⟩)
    · exact ⟨b, List.mem_cons_self, h⟩
    · exact ⟨t, List.mem_cons_of_mem _ ht, h⟩

theorem inB_nil {x y : Int} : ¬ inB [] x y := by rintro ⟨_, h, _⟩; cases h

theorem sep_some {l : List Span} {z : Int} (h : SepF z l) (hn : l ≠ []) : ∃ x, inS l x := by
  cases l with
  | nil => exact absurd rfl hn
  | cons s l => exact ⟨s.1, inS_cons.2 (.inl ⟨Int.le_refl _, h.2.1⟩)⟩

/-- The row at the head's beginning is the head's. -/
theorem head_row {b : Band} {l : List Band} {lo : Int} {p : List Span} (h : CanF lo p (b :: l)) (x y : Int) (h1 : b.lo ≤ y) (h2 : y < b.hi) : inB (b :: l) x y ↔ inS b.sp x := by
  constructor
  · intro hx
    rcases inB_cons.1 hx with hx | hx
    · exact hx.2.2
    · have := h.2.2.2.2.2.ge hx; omega
  · intro hx
    exact inB_cons.2 (.inl ⟨h1, h2, hx⟩)

/-- The row at the head's end is not the head's. -/
theorem next_row {b : Band} {l : List Band} {lo : Int} {p : List Span} (h : CanF lo p (b :: l)) : ¬ ∀ x, inB (b :: l) x b.hi ↔ inS b.sp x := by
  intro hr
  obtain ⟨_, _, h2, h4, ⟨z, h5⟩, h6⟩ := h
  have hl : ∀ x, inB l x b.hi ↔ inS b.sp x := fun x => by
    rw [← hr x, inB_cons]
    constructor
    · exact .inr
    · rintro (hx | hx)
      · omega
      · exact hx
  obtain ⟨x0, hx0⟩ := sep_some h5 h4
  cases l with
  | nil => exact inB_nil ((hl x0).2 hx0)
  | cons c m =>
    have hc := (hl x0).2 hx0
    obtain ⟨c1, c2, c3, c4, ⟨z', c5⟩, c6⟩ := h6
    have hlo : c.lo = b.hi := by
      rcases inB_cons.1 hc with hx | hx
      · omega
      · have := c6.ge hx; omega
    refine c2 hlo (SepF.unique c5 h5 fun x => ?_)
    rw [← hl x, head_row (p := b.sp) (lo := b.hi) ⟨c1, c2, c3, c4, ⟨z', c5⟩, c6⟩ x b.hi (by omega) (by omega)]

/-- A CANONICAL FORM IS FIXED BY ITS SET OF SQUARES. -/
theorem CanF.unique {a : List Band} : ∀ {b : List Band} {lo lo' : Int} {p p' : List Span}, CanF lo p a → CanF lo' p' b → (∀ x y, inB a x y ↔ inB b x y) → a = b := by
  induction a with
  | nil =>
    intro b lo lo' p p' _ hb h
    cases b with
    | nil => rfl
    | cons t m =>
      obtain ⟨_, _, b3, b4, ⟨z, b5⟩, b6⟩ := hb
      obtain ⟨x0, hx0⟩ := sep_some b5 b4
      exact absurd ((h x0 t.lo).2 (inB_cons.2 (.inl ⟨Int.le_refl _, b3, hx0⟩))) inB_nil
  | cons s l ih =>
    intro b lo lo' p p' ha hb h
    have ha' := ha
    have hb' := hb
    obtain ⟨_, _, a3, a4, ⟨z, a5⟩, a6⟩ := ha
    obtain ⟨x0, hx0⟩ := sep_some a5 a4
    cases b with
    | nil => exact absurd ((h x0 s.lo).1 (inB_cons.2 (.inl ⟨Int.le_refl _, a3, hx0⟩))) inB_nil
    | cons t m =>
      obtain ⟨_, _, b3, b4, ⟨z', b5⟩, b6⟩ := hb
      obtain ⟨x1, hx1⟩ := sep_some b5 b4
      have hge1 : ∀ x y, inB (s :: l) x y → s.lo ≤ y := fun x y hx => by
        rcases inB_cons.1 hx with hx | hx
        · exact hx.1
        · have := a6.ge hx; omega
      have hge2 : ∀ x y, inB (t :: m) x y → t.lo ≤ y := fun x y hx => by
        rcases inB_cons.1 hx with hx | hx
        · exact hx.1
        · have := b6.ge hx; omega
      have e1 : s.lo = t.lo := by
        have := hge2 _ _ ((h x0 s.lo).1 (inB_cons.2 (.inl ⟨Int.le_refl _, a3, hx0⟩)))
        have := hge1 _ _ ((h x1 t.lo).2 (inB_cons.2 (.inl ⟨Int.le_refl _, b3, hx1⟩)))
        omega
      have e2 : s.sp = t.sp := SepF.unique a5 b5 fun x => by
        rw [← head_row ha' x s.lo (Int.le_refl _) a3, h x s.lo, head_row hb' x s.lo (by omega) (by omega)]
      have e3 : s.hi = t.hi := by
        rcases Int.lt_trichotomy s.hi t.hi with hlt | he | hlt
        · exact absurd (fun x => by rw [h x s.hi, head_row hb' x s.hi (by omega) hlt, e2]) (next_row ha')
        · exact he
        · exact absurd (fun x => by rw [← h x t.hi, head_row ha' x t.hi (by omega) hlt, e2]) (next_row hb')
      have e : s = t := by
        cases s; cases t; simp only at e1 e2 e3; subst e1 e2 e3; rfl
      subst e
      rw [ih a6 b6 (fun x y => ⟨fun hx => ?_, fun hx => ?_⟩)]
      · have := a6.ge hx
        rcases inB_cons.1 ((h x y).1 (inB_cons.2 (.inr hx))) with hy | hy
        · omega
        · exact hy
      · have := b6.ge hx
        rcases inB_cons.1 ((h x y).2 (inB_cons.2 (.inr hx))) with hy | hy
        · omega
        · exact hy

/-- The spans with one more, joined with those that it touches, from the first that it touches on. -/
def absorbL : List Span → Span → List Span
  | [], s => [s]
  | t :: l, s => if t.1 ≤ s.2 then absorbL l (min s.1 t.1, max s.2 t.2) else s :: t :: l

/-- The spans with one more. -/
def joinedL : List Span → Span → List Span
  | [], s => [s]
  | t :: l, s => if t.2 < s.1 then t :: joinedL l s else absorbL (t :: l) s

theorem absorb_ok {l : List Span} : ∀ {lo : Int} {s : Span}, SepF lo l → lo < s.1 → s.1 < s.2 → (∀ t, t ∈ l → s.1 ≤ t.2) →
    SepF lo (absorbL l s) ∧ ∀ x, inS (absorbL l s) x ↔ (s.1 ≤ x ∧ x < s.2) ∨ inS l x := by
  induction l with
  | nil =>
    intro lo s _ h1 h2 _
    exact ⟨⟨h1, h2, trivial⟩, fun x => inS_cons⟩
  | cons t l ih =>
    intro lo s ⟨a1, a2, a3⟩ h1 h2 h3
    unfold absorbL
    split
    · rename_i ht
      have h4 := h3 t List.mem_cons_self
      obtain ⟨k1, k2⟩ := ih (lo := lo) (s := (min s.1 t.1, max s.2 t.2)) (a3.mono (by omega)) (by simp only; omega) (by simp only; omega) (fun u hu => by
        have := h3 u (List.mem_cons_of_mem _ hu); simp only; omega)
      refine ⟨k1, fun x => ?_⟩
      rw [k2 x, inS_cons]
      simp only
      constructor
      · rintro (h | h)
        · by_cases hx : s.1 ≤ x ∧ x < s.2
          · exact .inl hx
          · exact .inr (.inl (by omega))
        · exact .inr (.inr h)
      · rintro (h | h | h)
        · exact .inl (by omega)
        · exact .inl (by omega)
        · exact .inr h
    · rename_i ht
      exact ⟨⟨h1, h2, by omega, a2, a3⟩, fun x => inS_cons⟩

theorem joined_ok {l : List Span} : ∀ {lo : Int} {s : Span}, SepF lo l → lo < s.1 → s.1 < s.2 →
    SepF lo (joinedL l s) ∧ ∀ x, inS (joinedL l s) x ↔ (s.1 ≤ x ∧ x < s.2) ∨ inS l x := by
  induction l with
  | nil =>
    intro lo s _ h1 h2
    exact ⟨⟨h1, h2, trivial⟩, fun x => inS_cons⟩
  | cons t l ih =>
    intro lo s ⟨a1, a2, a3⟩ h1 h2
    unfold joinedL
    split
    · rename_i ht
      obtain ⟨k1, k2⟩ := ih a3 ht h2
      refine ⟨⟨a1, a2, k1⟩, fun x => ?_⟩
      rw [inS_cons, k2 x, inS_cons]
      constructor
      · rintro (h | h | h)
        · exact .inr (.inl h)
        · exact .inl h
        · exact .inr (.inr h)
      · rintro (h | h | h)
        · exact .inr (.inl h)
        · exact .inl h
        · exact .inr (.inr h)
    · rename_i ht
      refine absorb_ok ⟨a1, a2, a3⟩ h1 h2 (fun u hu => ?_)
      rcases List.mem_cons.1 hu with rfl | hu
      · omega
      · have hin : inS l (u.1) ∨ True := .inr trivial
        have : ∀ (m : List Span) (lo : Int), SepF lo m → ∀ u, u ∈ m → lo < u.2 := by
          intro m
          induction m with
          | nil => intro _ _ u hu; cases hu
          | cons v m ihm =>
            intro lo ⟨b1, b2, b3⟩ u hu
            rcases List.mem_cons.1 hu with rfl | hu
            · omega
            · have := ihm _ b3 u hu; omega
        have := this l _ a3 u hu
        omega

/-- A square lies in a rectangle. -/
def R4.has (r : R4) (x y : Int) : Prop := r.x0 ≤ x ∧ x < r.x1 ∧ r.y0 ≤ y ∧ y < r.y1
/-- A square lies in one of some rectangles. -/
def inR (l : List R4) (x y : Int) : Prop := ∃ r, r ∈ l ∧ r.has x y
/-- The rectangles are right ones. -/
def Good (l : List R4) : Prop := ∀ r, r ∈ l → r.x0 < r.x1 ∧ r.y0 < r.y1

/-- The spans of rectangles at a height, so far. -/
def rowFrom (y : Int) : List Span → List R4 → List Span
  | acc, [] => acc
  | acc, r :: l => rowFrom y (if r.y0 ≤ y ∧ y < r.y1 then joinedL acc (r.x0, r.x1) else acc) l
def rowL (l : List R4) (y : Int) : List Span := rowFrom y [] l

theorem SepF.low {l : List Span} {z : Int} (h : SepF z l) (n : Int) : ∃ z', z' < n ∧ SepF z' l := ⟨min z (n - 1), by omega, h.mono (by omega)⟩

theorem rowFrom_ok (y : Int) (l : List R4) : ∀ (acc : List Span), (∃ z, SepF z acc) → Good l →
    (∃ z, SepF z (rowFrom y acc l)) ∧ ∀ x, inS (rowFrom y acc l) x ↔ inS acc x ∨ inR l x y := by
  induction l with
  | nil =>
    intro acc h _
    exact ⟨h, fun x => ⟨.inl, fun h => h.elim id (by rintro ⟨_, h, _⟩; cases h)⟩⟩
  | cons r l ih =>
    intro acc ⟨z, hz⟩ hg
    have hr := hg r List.mem_cons_self
    have hgl : Good l := fun u hu => hg u (List.mem_cons_of_mem _ hu)
    unfold rowFrom
    by_cases hy : r.y0 ≤ y ∧ y < r.y1
    · rw [if_pos hy]
      obtain ⟨z', h1, h2⟩ := hz.low r.x0
      obtain ⟨k1, k2⟩ := joined_ok (s := (r.x0, r.x1)) h2 h1 hr.1
      obtain ⟨m1, m2⟩ := ih _ ⟨_, k1⟩ hgl
      refine ⟨m1, fun x => ?_⟩
      rw [m2 x, k2 x]
      constructor
      · rintro ((h | h) | ⟨u, hu, h⟩)
        · exact .inr ⟨r, List.mem_cons_self, h.1, h.2, hy.1, hy.2⟩
        · exact .inl h
        · exact .inr ⟨u, List.mem_cons_of_mem _ hu, h⟩
      · rintro (h | ⟨u, hu, h⟩)
        · exact .inl (.inr h)
        · rcases List.mem_cons.1 hu with rfl | hu
          · exact .inl (.inl ⟨h.1, h.2.1⟩)
          · exact .inr ⟨u, hu, h⟩
    · rw [if_neg hy]
      obtain ⟨m1, m2⟩ := ih _ ⟨_, hz⟩ hgl
      refine ⟨m1, fun x => ?_⟩
      rw [m2 x]
      constructor
      · rintro (h | ⟨u, hu, h⟩)
        · exact .inl h
        · exact .inr ⟨u, List.mem_cons_of_mem _ hu, h⟩
      · rintro (h | ⟨u, hu, h⟩)
        · exact .inl h
        · rcases List.mem_cons.1 hu with rfl | hu
          · exact absurd ⟨h.2.2.1, h.2.2.2⟩ hy
          · exact .inr ⟨u, hu, h⟩

theorem rowL_ok {l : List R4} (hg : Good l) (y : Int) : (∃ z, SepF z (rowL l y)) ∧ ∀ x, inS (rowL l y) x ↔ inR l x y := by
  obtain ⟨h1, h2⟩ := rowFrom_ok y l [] ⟨0, trivial⟩ hg
  exact ⟨h1, fun x => by rw [rowL, h2 x]; exact ⟨fun h => h.elim (fun h => absurd h inS_nil) id, .inr⟩⟩

/-- A number put to others, in order, once. -/
def putL : List Int → Int → List Int
  | [], n => [n]
  | a :: l, n => if a < n then a :: putL l n else if a = n then a :: l else n :: a :: l

theorem mem_putL {l : List Int} {n x : Int} : x ∈ putL l n ↔ x = n ∨ x ∈ l := by
  induction l with
  | nil => simp [putL]
  | cons a l ih =>
    unfold putL
    split
    · simp [ih]; constructor <;> rintro (h | h | h) <;> simp [h]
    · split
      · rename_i h; subst h; simp
      · simp

theorem putL_sorted {l : List Int} {n : Int} (h : l.Pairwise (· < ·)) : (putL l n).Pairwise (· < ·) := by
  induction l with
  | nil => simp [putL]
  | cons a l ih =>
    have h' := List.pairwise_cons.1 h
    unfold putL
    split
    · rename_i ha
      refine List.pairwise_cons.2 ⟨fun x hx => ?_, ih h'.2⟩
      rcases mem_putL.1 hx with rfl | hx
      · exact ha
      · exact h'.1 x hx
    · split
      · exact h
      · refine List.pairwise_cons.2 ⟨fun x hx => ?_, h⟩
        rcases List.mem_cons.1 hx with rfl | hx
        · omega
        · have := h'.1 x hx; omega

def heightsFrom : List Int → List R4 → List Int
  | acc, [] => acc
  | acc, r :: l => heightsFrom (putL (putL acc r.y0) r.y1) l
def heightsL (l : List R4) : List Int := heightsFrom [] l

theorem heightsFrom_ok (l : List R4) : ∀ acc : List Int, acc.Pairwise (· < ·) → (heightsFrom acc l).Pairwise (· < ·) ∧ ∀ y, y ∈ heightsFrom acc l ↔ y ∈ acc ∨ ∃ r, r ∈ l ∧ (y = r.y0 ∨ y = r.y1) := by
  induction l with
  | nil => intro acc h; exact ⟨h, fun y => by simp [heightsFrom]⟩
  | cons r l ih =>
    intro acc h
    unfold heightsFrom
    obtain ⟨h1, h2⟩ := ih _ (putL_sorted (n := r.y1) (putL_sorted (n := r.y0) h))
    refine ⟨h1, fun y => ?_⟩
    rw [h2 y, mem_putL, mem_putL]
    constructor
    · rintro ((h | h | h) | ⟨u, hu, h⟩)
      · exact .inr ⟨r, List.mem_cons_self, .inr h⟩
      · exact .inr ⟨r, List.mem_cons_self, .inl h⟩
      · exact .inl h
      · exact .inr ⟨u, List.mem_cons_of_mem _ hu, h⟩
    · rintro (h | ⟨u, hu, h⟩)
      · exact .inl (.inr (.inr h))
      · rcases List.mem_cons.1 hu with rfl | hu
        · rcases h with h | h
          · exact .inl (.inr (.inl h))
          · exact .inl (.inl h)
        · exact .inr ⟨u, hu, h⟩
/-- A band put above others. -/
def stackL : List Band → Band → List Band
  | [], b => if b.sp = [] then [] else [b]
  | [c], b => if b.sp = [] then [c] else if c.hi = b.lo ∧ c.sp = b.sp then [⟨c.lo, b.hi, c.sp⟩] else [c, b]
  | c :: d :: l, b => c :: stackL (d :: l) b

def endOf : Int → List Band → Int
  | lo, [] => lo
  | _, b :: l => endOf b.hi l

theorem CanF.le_end {l : List Band} : ∀ {lo : Int} {p : List Span}, CanF lo p l → lo ≤ endOf lo l := by
  induction l with
  | nil => intro lo p _; exact Int.le_refl _
  | cons b l ih =>
    rintro lo p ⟨h1, _, h3, _, _, h6⟩
    have := ih h6
    simp only [endOf]
    omega

theorem stackL_cons {c d : Band} {l : List Band} {b : Band} : stackL (c :: d :: l) b = c :: stackL (d :: l) b := rfl

theorem stack_ok {l : List Band} : ∀ {lo : Int} {p : List Span} {b : Band}, CanF lo p l → endOf lo l ≤ b.lo → b.lo < b.hi → (∃ z, SepF z b.sp) → (l = [] → b.lo = lo → b.sp ≠ [] → b.sp ≠ p) →
    CanF lo p (stackL l b) ∧ endOf lo (stackL l b) ≤ b.hi ∧ ∀ x y, inB (stackL l b) x y ↔ inB l x y ∨ (b.lo ≤ y ∧ y < b.hi ∧ inS b.sp x) := by
  induction l with
  | nil =>
    intro lo p b _ h2 h3 h4 h5
    simp only [stackL]
    split
    · rename_i he
      refine ⟨trivial, by simp only [endOf] at *; omega, fun x y => ⟨.inl, fun h => h.elim id fun h => ?_⟩⟩
      rw [he] at h
      exact absurd h.2.2 inS_nil
    · rename_i he
      refine ⟨⟨h2, fun e => h5 rfl e he, h3, he, h4, trivial⟩, Int.le_refl _, fun x y => ?_⟩
      rw [inB_cons]
      exact ⟨fun h => h.elim .inr .inl, fun h => h.elim .inr .inl⟩
  | cons c l ih =>
    intro lo p b h1 h2 h3 h4 h5
    cases l with
    | nil =>
      obtain ⟨c1, c2, c3, c4, c5, c6⟩ := h1
      simp only [endOf] at h2
      simp only [stackL]
      split
      · rename_i he
        refine ⟨⟨c1, c2, c3, c4, c5, trivial⟩, by simp only [endOf]; omega, fun x y => ⟨.inl, fun h => h.elim id fun h => ?_⟩⟩
        rw [he] at h
        exact absurd h.2.2 inS_nil
      · rename_i he
        split
        · rename_i hj
          refine ⟨⟨c1, c2, by simp only; omega, c4, c5, trivial⟩, Int.le_refl _, fun x y => ?_⟩
          rw [inB_cons, inB_cons, ← hj.2]
          simp only
          constructor
          · rintro (h | h)
            · by_cases hy : y < c.hi
              · exact .inl (.inl ⟨h.1, hy, h.2.2⟩)
              · exact .inr ⟨by omega, h.2⟩
            · exact absurd h inB_nil
          · rintro ((h | h) | h)
            · exact .inl ⟨h.1, by omega, h.2.2⟩
            · exact absurd h inB_nil
            · exact .inl ⟨by omega, h.2⟩
        · rename_i hj
          refine ⟨⟨c1, c2, c3, c4, c5, h2, fun e es => hj ⟨e.symm, es.symm⟩, h3, he, h4, trivial⟩, Int.le_refl _, fun x y => ?_⟩
          rw [inB_cons, inB_cons, inB_cons]
          constructor
          · rintro (h | h | h)
            · exact .inl (.inl h)
            · exact .inr h
            · exact absurd h inB_nil
          · rintro ((h | h) | h)
            · exact .inl h
            · exact absurd h inB_nil
            · exact .inr (.inl h)
    | cons d l =>
      obtain ⟨c1, c2, c3, c4, c5, c6⟩ := h1
      obtain ⟨k1, k2, k3⟩ := ih (b := b) c6 h2 h3 h4 (fun e => by cases e)
      rw [stackL_cons]
      refine ⟨⟨c1, c2, c3, c4, c5, k1⟩, k2, fun x y => ?_⟩
      rw [inB_cons, k3 x y, inB_cons (b := c)]
      constructor
      · rintro (h | h | h)
        · exact .inl (.inl h)
        · exact .inl (.inr h)
        · exact .inr h
      · rintro ((h | h) | h)
        · exact .inl h
        · exact .inr (.inl h)
        · exact .inr (.inr h)

/-- The bands of rows between heights, put above others. -/
def bandsFrom (row : Int → List Span) : List Band → List Int → List Band
  | acc, [] => acc
  | acc, [_] => acc
  | acc, a :: b :: ys => bandsFrom row (stackL acc ⟨a, b, row a⟩) (b :: ys)

/-- y lies between two heights that follow one another, the row there being that of the lower one. -/
def between (row : Int → List Span) : List Int → Int → Int → Prop
  | [], _, _ => False
  | [_], _, _ => False
  | a :: b :: ys, x, y => (a ≤ y ∧ y < b ∧ inS (row a) x) ∨ between row (b :: ys) x y

theorem bandsFrom_ok (row : Int → List Span) (hrow : ∀ y, ∃ z, SepF z (row y)) (ys : List Int) : ∀ (acc : List Band) (lo : Int), CanF lo [] acc → (∀ y, ys.head? = some y → endOf lo acc ≤ y) → ys.Pairwise (· < ·) →
    CanF lo [] (bandsFrom row acc ys) ∧ ∀ x y, inB (bandsFrom row acc ys) x y ↔ inB acc x y ∨ between row ys x y := by
  induction ys with
  | nil => intro acc lo h _ _; exact ⟨h, fun x y => ⟨.inl, fun h => h.elim id False.elim⟩⟩
  | cons a ys ih =>
    intro acc lo h he hp
    cases ys with
    | nil => exact ⟨h, fun x y => ⟨.inl, fun h => h.elim id False.elim⟩⟩
    | cons b ys =>
      have hp' := List.pairwise_cons.1 hp
      have hab : a < b := hp'.1 b List.mem_cons_self
      obtain ⟨k1, k2, k3⟩ := stack_ok (b := ⟨a, b, row a⟩) h (he a rfl) hab (hrow a) (fun _ _ hn => hn)
      obtain ⟨m1, m2⟩ := ih _ lo k1 (fun y hy => by simp at hy; subst hy; exact k2) hp'.2
      refine ⟨m1, fun x y => ?_⟩
      rw [bandsFrom, m2 x y, k3 x y, between]
      constructor
      · rintro ((h | h) | h)
        · exact .inl h
        · exact .inr (.inl h)
        · exact .inr (.inr h)
      · rintro (h | h | h)
        · exact .inl (.inl h)
        · exact .inl (.inr h)
        · exact .inr h

/-- The bands of rectangles, and the canonical form. -/
def bandsC (l : List R4) : List Band := bandsFrom (rowL l) [] (heightsL l)
def rectsOf (b : Band) : List R4 := b.sp.map fun s => ⟨s.1, b.lo, s.2, b.hi⟩
def told (l : List Band) : List R4 := l.flatMap rectsOf
def canonL (l : List R4) : List R4 := told (bandsC l)

theorem inR_told {l : List Band} {x y : Int} : inR (told l) x y ↔ inB l x y := by
  constructor
  · rintro ⟨r, hr, hx⟩
    obtain ⟨b, hb, hr⟩ := List.mem_flatMap.1 hr
    obtain ⟨s, hs, rfl⟩ := List.mem_map.1 hr
    exact ⟨b, hb, hx.2.2.1, hx.2.2.2, s, hs, hx.1, hx.2.1⟩
  · rintro ⟨b, hb, h1, h2, s, hs, h3, h4⟩
    exact ⟨_, List.mem_flatMap.2 ⟨b, hb, List.mem_map.2 ⟨s, hs, rfl⟩⟩, h3, h4, h1, h2⟩

theorem between_of {l : List R4} (ys : List Int) : ys.Pairwise (· < ·) → (∀ r, r ∈ l → (r.y0 ∈ ys ∨ ∀ z, z ∈ ys → r.y0 < z) ∧ (r.y1 ∈ ys ∨ ∀ z, z ∈ ys → r.y1 < z)) → Good l →
    ∀ x y, (∃ z, z ∈ ys ∧ z ≤ y) → (between (rowL l) ys x y ↔ inR l x y ∧ ∃ z, z ∈ ys ∧ y < z) := by
  intro hp hl hg x
  induction ys with
  | nil => rintro y ⟨z, hz, _⟩; cases hz
  | cons a ys ih =>
    intro y hz
    have hp' := List.pairwise_cons.1 hp
    have hay : a ≤ y := by
      obtain ⟨z, hz, hzy⟩ := hz
      rcases List.mem_cons.1 hz with rfl | hz
      · exact hzy
      · have := hp'.1 z hz; omega
    cases ys with
    | nil =>
      simp only [between, false_iff, not_and]
      rintro _ ⟨z, hz, hzy⟩
      rcases List.mem_cons.1 hz with rfl | hz
      · omega
      · cases hz
    | cons b ys =>
      have hab : a < b := hp'.1 b List.mem_cons_self
      have hl' : ∀ r, r ∈ l → (r.y0 ∈ b :: ys ∨ ∀ z, z ∈ b :: ys → r.y0 < z) ∧ (r.y1 ∈ b :: ys ∨ ∀ z, z ∈ b :: ys → r.y1 < z) := by
        intro r hr
        obtain ⟨h1, h2⟩ := hl r hr
        refine ⟨?_, ?_⟩
        · rcases h1 with h | h
          · rcases List.mem_cons.1 h with h | h
            · exact .inr fun z hz => by have := hp'.1 z hz; omega
            · exact .inl h
          · exact .inr fun z hz => h z (List.mem_cons_of_mem _ hz)
        · rcases h2 with h | h
          · rcases List.mem_cons.1 h with h | h
            · exact .inr fun z hz => by have := hp'.1 z hz; omega
            · exact .inl h
          · exact .inr fun z hz => h z (List.mem_cons_of_mem _ hz)
      rw [between]
      by_cases hyb : y < b
      · have hrow : inS (rowL l a) x ↔ inR l x y := by
          rw [(rowL_ok hg a).2 x]
          have key : ∀ r, r ∈ l → ∀ v, (v = r.y0 ∨ v = r.y1) → (v ≤ a ↔ v ≤ y) := by
            intro r hr v hv
            have hm : v ∈ a :: b :: ys ∨ ∀ z, z ∈ a :: b :: ys → v < z := by
              rcases hv with rfl | rfl
              · exact (hl r hr).1
              · exact (hl r hr).2
            rcases hm with hm | hm
            · rcases List.mem_cons.1 hm with rfl | hm
              · omega
              · rcases List.mem_cons.1 hm with rfl | hm
                · omega
                · have := (List.pairwise_cons.1 hp'.2).1 v hm; omega
            · have := hm a List.mem_cons_self; omega
          constructor
          · rintro ⟨r, hr, h1, h2, h3, h4⟩
            have k0 := key r hr r.y0 (.inl rfl)
            have k1 := key r hr r.y1 (.inr rfl)
            exact ⟨r, hr, h1, h2, by omega, by omega⟩
          · rintro ⟨r, hr, h1, h2, h3, h4⟩
            have k0 := key r hr r.y0 (.inl rfl)
            have k1 := key r hr r.y1 (.inr rfl)
            exact ⟨r, hr, h1, h2, by omega, by omega⟩
        rw [hrow]
        constructor
        · rintro (h | h)
          · exact ⟨h.2.2, b, by simp, hyb⟩
          · exfalso
            -- a row further up lies not below b
            have hno : ∀ (m : List Int) (c : Int), (c :: m).Pairwise (· < ·) → y < c → ¬ between (rowL l) (c :: m) x y := by
              intro m
              induction m with
              | nil => intro c _ _ h; exact h
              | cons d m ihm =>
                intro c hpc hyc h
                have hpc' := List.pairwise_cons.1 hpc
                have := hpc'.1 d List.mem_cons_self
                rcases h with h | h
                · omega
                · exact ihm d hpc'.2 (by omega) h
            exact hno ys b hp'.2 hyb h
        · rintro ⟨h, _⟩
          exact .inl ⟨hay, hyb, h⟩
      · rw [ih hp'.2 hl' y ⟨b, List.mem_cons_self, by omega⟩]
        constructor
        · rintro (h | ⟨h, z, hz, hzy⟩)
          · exact absurd h.2.1 hyb
          · exact ⟨h, z, List.mem_cons_of_mem _ hz, hzy⟩
        · rintro ⟨h, z, hz, hzy⟩
          refine .inr ⟨h, z, ?_, hzy⟩
          rcases List.mem_cons.1 hz with rfl | hz
          · omega
          · exact hz

theorem bandsC_ok {l : List R4} (hg : Good l) : (∃ z, CanF z [] (bandsC l)) ∧ ∀ x y, inB (bandsC l) x y ↔ inR l x y := by
  obtain ⟨h1, h2⟩ := heightsFrom_ok l [] List.Pairwise.nil
  have hm : ∀ r, r ∈ l → (r.y0 ∈ heightsL l) ∧ (r.y1 ∈ heightsL l) := fun r hr => ⟨(h2 _).2 (.inr ⟨r, hr, .inl rfl⟩), (h2 _).2 (.inr ⟨r, hr, .inr rfl⟩)⟩
  have hend : ∃ z, ∀ y, (heightsL l).head? = some y → z ≤ y := by
    cases (heightsL l).head? with
    | none => exact ⟨0, fun y h => by cases h⟩
    | some v => exact ⟨v, fun y h => by injection h with h; omega⟩
  obtain ⟨z, hz⟩ := hend
  obtain ⟨k1, k2⟩ := bandsFrom_ok (rowL l) (fun y => (rowL_ok hg y).1) (heightsL l) [] z trivial hz h1
  refine ⟨⟨z, k1⟩, fun x y => ?_⟩
  rw [bandsC, k2 x y]
  constructor
  · rintro (h | h)
    · exact absurd h inB_nil
    · have hex : ∃ z, z ∈ heightsL l ∧ z ≤ y := by
        revert h
        generalize heightsL l = ys
        intro h
        induction ys with
        | nil => exact absurd h id
        | cons a ys ih =>
          cases ys with
          | nil => exact absurd h id
          | cons b ys =>
            rcases h with h | h
            · exact ⟨a, List.mem_cons_self, h.1⟩
            · obtain ⟨z, hz, hzy⟩ := ih h
              exact ⟨z, List.mem_cons_of_mem _ hz, hzy⟩
      exact ((between_of (heightsL l) h1 (fun r hr => ⟨.inl (hm r hr).1, .inl (hm r hr).2⟩) hg x y hex).1 h).1
  · intro h
    obtain ⟨r, hr, h3, h4, h5, h6⟩ := h
    exact .inr ((between_of (heightsL l) h1 (fun r hr => ⟨.inl (hm r hr).1, .inl (hm r hr).2⟩) hg x y ⟨r.y0, (hm r hr).1, h5⟩).2 ⟨⟨r, hr, h3, h4, h5, h6⟩, r.y1, (hm r hr).2, h6⟩)
theorem sep_mem {l : List Span} : ∀ {z : Int}, SepF z l → ∀ s, s ∈ l → s.1 < s.2 := by
  induction l with
  | nil => intro _ _ s hs; cases hs
  | cons t l ih =>
    intro z ⟨_, h2, h3⟩ s hs
    rcases List.mem_cons.1 hs with rfl | hs
    · exact h2
    · exact ih h3 s hs
theorem CanF.mem {l : List Band} : ∀ {lo : Int} {p : List Span}, CanF lo p l → ∀ b, b ∈ l → b.lo < b.hi ∧ b.sp ≠ [] ∧ (∃ z, SepF z b.sp) ∧ lo ≤ b.lo := by
  induction l with
  | nil => intro _ _ _ b hb; cases hb
  | cons c l ih =>
    intro lo p ⟨h1, _, h3, h4, h5, h6⟩ b hb
    rcases List.mem_cons.1 hb with rfl | hb
    · exact ⟨h3, h4, h5, h1⟩
    · obtain ⟨k1, k2, k3, k4⟩ := ih h6 b hb
      exact ⟨k1, k2, k3, by omega⟩
theorem good_told {l : List Band} {lo : Int} {p : List Span} (h : CanF lo p l) : Good (told l) := by
  intro r hr
  obtain ⟨b, hb, hr⟩ := List.mem_flatMap.1 hr
  obtain ⟨s, hs, rfl⟩ := List.mem_map.1 hr
  obtain ⟨h1, _, ⟨z, h3⟩, _⟩ := h.mem b hb
  exact ⟨sep_mem h3 s hs, h1⟩
/-- What is told by bands in canonical form is its own canonical form. -/
theorem canonL_told {l : List Band} {lo : Int} {p : List Span} (h : CanF lo p l) : canonL (told l) = told l := by
  obtain ⟨⟨z, h1⟩, h2⟩ := bandsC_ok (good_told h)
  rw [canonL, CanF.unique h1 h fun x y => by rw [h2 x y, inR_told]]

/-- How many rectangles at the beginning have the height of the first one. -/
def bandLen : List R4 → Nat
  | [] => 1
  | r :: t => 1 + (t.takeWhile fun u => decide (u.y0 = r.y0)).length
def evenFrom (h : Int) : R4 → List R4 → Bool
  | _, [] => true
  | r, u :: t => decide (u.y1 = h) && decide (r.x1 < u.x0) && evenFrom h u t
def evenB : List R4 → Bool
  | [] => true
  | r :: t => evenFrom r.y1 r t
def spanOf (r : R4) : Span := (r.x0, r.x1)
def mayF : List R4 → List R4 → Bool
  | b :: bf, c :: band => decide (b.y1 < c.y0) || (decide (b.y1 = c.y0) && !decide ((b :: bf).map spanOf = (c :: band).map spanOf))
  | _, _ => true
def progC : Nat → List R4 → List R4 → Bool
  | 0, _, _ => true
  | _ + 1, _, [] => true
  | n + 1, bf, r :: t => evenB ((r :: t).take (bandLen (r :: t))) && mayF bf ((r :: t).take (bandLen (r :: t))) && progC n ((r :: t).take (bandLen (r :: t))) ((r :: t).drop (bandLen (r :: t)))

theorem mem_tw {p : R4 → Bool} {l : List R4} {u : R4} (h : u ∈ l.takeWhile p) : p u = true := by
  induction l with
  | nil => cases h
  | cons a l ih =>
    rw [List.takeWhile_cons] at h
    split at h
    · rcases List.mem_cons.1 h with rfl | h
      · assumption
      · exact ih h
    · cases h

theorem take_len (r : R4) (t : List R4) : (r :: t).take (bandLen (r :: t)) = r :: t.takeWhile (fun u => decide (u.y0 = r.y0)) ∧ (r :: t).drop (bandLen (r :: t)) = t.dropWhile (fun u => decide (u.y0 = r.y0)) := by
  simp only [bandLen]
  rw [Nat.add_comm 1, List.take_succ_cons, List.drop_succ_cons]
  have key : ∀ (m : List R4) (p : R4 → Bool), m.take (m.takeWhile p).length = m.takeWhile p ∧ m.drop (m.takeWhile p).length = m.dropWhile p := by
    intro m p
    induction m with
    | nil => exact ⟨rfl, rfl⟩
    | cons a m ih =>
      rw [List.takeWhile_cons, List.dropWhile_cons]
      split
      · rw [List.length_cons, List.take_succ_cons, List.drop_succ_cons, ih.1, ih.2]
        exact ⟨rfl, rfl⟩
      · exact ⟨rfl, rfl⟩
  rw [(key _ _).1, (key _ _).2]
  exact ⟨rfl, rfl⟩

/-- An even row of rectangles is that of a band. -/
theorem even_band {t : List R4} : ∀ {r : R4} {z : Int}, evenFrom r.y1 r t = true → (∀ u, u ∈ t → u.y0 = r.y0) → Good (r :: t) → z < r.x0 →
    r :: t = rectsOf ⟨r.y0, r.y1, (r :: t).map spanOf⟩ ∧ SepF z ((r :: t).map spanOf) := by
  induction t with
  | nil =>
    intro r z _ _ hg hz
    exact ⟨rfl, hz, (hg r List.mem_cons_self).1, trivial⟩
  | cons u t ih =>
    intro r z he hy hg hz
    simp only [evenFrom, Bool.and_eq_true, decide_eq_true_eq] at he
    obtain ⟨⟨h1, h2⟩, h3⟩ := he
    have hu := hy u List.mem_cons_self
    rw [← h1] at h3
    obtain ⟨k1, k2⟩ := ih (z := r.x1) h3 (fun v hv => by rw [hy v (List.mem_cons_of_mem _ hv), hu]) (fun v hv => hg v (List.mem_cons_of_mem _ hv)) h2
    refine ⟨?_, hz, (hg r List.mem_cons_self).1, k2⟩
    rw [hu, h1] at k1
    simp only [rectsOf, List.map_cons] at k1 ⊢
    rw [← k1]
    rfl

theorem even_of_band {b : Band} : ∀ {sp : List Span} {s : Span} {z : Int}, SepF z (s :: sp) → evenFrom b.hi ⟨s.1, b.lo, s.2, b.hi⟩ (sp.map fun s => (⟨s.1, b.lo, s.2, b.hi⟩ : R4)) = true := by
  intro sp
  induction sp with
  | nil => intro s z _; rfl
  | cons t sp ih =>
    intro s z ⟨_, _, h3⟩
    simp only [List.map_cons, evenFrom, Bool.and_eq_true, decide_eq_true_eq]
    exact ⟨⟨trivial, h3.1⟩, ih h3⟩

/-- What comes before a region's next band: where that ends, and its spans. -/
def Fits (bf : List R4) (l : List Band) : Prop :=
  match bf with
  | [] => ∃ z, CanF z [] l
  | b :: t => CanF b.y1 ((b :: t).map spanOf) l

theorem progC_bands (n : Nat) : ∀ (bf l : List R4), l.length ≤ n → Good l → progC n bf l = true → ∃ bs, l = told bs ∧ Fits bf bs := by
  induction n with
  | zero =>
    intro bf l hn _ _
    have : l = [] := List.eq_nil_of_length_eq_zero (by omega)
    subst this
    refine ⟨[], rfl, ?_⟩
    cases bf with
    | nil => exact ⟨0, trivial⟩
    | cons b t => exact trivial
  | succ n ih =>
    intro bf l hn hg h
    cases l with
    | nil =>
      refine ⟨[], rfl, ?_⟩
      cases bf with
      | nil => exact ⟨0, trivial⟩
      | cons b t => exact trivial
    | cons r t =>
      obtain ⟨e1, e2⟩ := take_len r t
      simp only [progC, Bool.and_eq_true] at h
      rw [e1, e2] at h
      obtain ⟨⟨h1, h2⟩, h3⟩ := h
      have hsub : ∀ u, u ∈ t.takeWhile (fun u => decide (u.y0 = r.y0)) → u.y0 = r.y0 ∧ u ∈ t := by
        intro u hu
        have ha := mem_tw hu
        exact ⟨by simpa using ha, (List.takeWhile_sublist _).subset hu⟩
      have hgb : Good (r :: t.takeWhile (fun u => decide (u.y0 = r.y0))) := by
        intro u hu
        rcases List.mem_cons.1 hu with rfl | hu
        · exact hg _ List.mem_cons_self
        · exact hg u (List.mem_cons_of_mem _ (hsub u hu).2)
      obtain ⟨k1, k2⟩ := even_band (z := r.x0 - 1) h1 (fun u hu => (hsub u hu).1) hgb (by omega)
      have hgd : Good (t.dropWhile (fun u => decide (u.y0 = r.y0))) := fun u hu => hg u (List.mem_cons_of_mem _ ((List.dropWhile_sublist _).subset hu))
      have hlen : (t.dropWhile (fun u => decide (u.y0 = r.y0))).length ≤ n := by
        have := (List.dropWhile_sublist (fun u : R4 => decide (u.y0 = r.y0)) (l := t)).length_le
        simp only [List.length_cons] at hn
        omega
      obtain ⟨bs, m1, m2⟩ := ih _ _ hlen hgd h3
      have hcan : CanF r.y1 ((r :: t.takeWhile (fun u => decide (u.y0 = r.y0))).map spanOf) bs := m2
      have hy := (hg r List.mem_cons_self).2
      refine ⟨⟨r.y0, r.y1, (r :: t.takeWhile (fun u => decide (u.y0 = r.y0))).map spanOf⟩ :: bs, ?_, ?_⟩
      · have : r :: t = (r :: t.takeWhile (fun u => decide (u.y0 = r.y0))) ++ t.dropWhile (fun u => decide (u.y0 = r.y0)) := by
          rw [List.cons_append, List.takeWhile_append_dropWhile]
        rw [this, told, List.flatMap_cons, ← k1, ← told, ← m1]
      · cases bf with
        | nil => exact ⟨r.y0 - 1, by simp only; omega, fun e => by simp only at e; omega, hy, by simp, ⟨_, k2⟩, hcan⟩
        | cons b bf =>
          simp only [mayF, Bool.or_eq_true, Bool.and_eq_true, decide_eq_true_eq, Bool.not_eq_true', decide_eq_false_iff_not] at h2
          refine ⟨by simp only; omega, fun e hs => ?_, hy, by simp, ⟨_, k2⟩, hcan⟩
          simp only at e hs
          rcases h2 with h2 | h2
          · omega
          · exact h2.2 hs.symm

theorem takeWhile_told {b : Band} {bs : List Band} {p : List Span} (h : CanF b.hi p bs) (hb : b.lo < b.hi) (sp : List Span) :
    ((sp.map fun s => (⟨s.1, b.lo, s.2, b.hi⟩ : R4)) ++ told bs).takeWhile (fun u => decide (u.y0 = b.lo)) = (sp.map fun s => (⟨s.1, b.lo, s.2, b.hi⟩ : R4)) ∧
    ((sp.map fun s => (⟨s.1, b.lo, s.2, b.hi⟩ : R4)) ++ told bs).dropWhile (fun u => decide (u.y0 = b.lo)) = told bs := by
  have hno : ∀ u, u ∈ told bs → ¬ u.y0 = b.lo := by
    intro u hu
    obtain ⟨c, hc, hu⟩ := List.mem_flatMap.1 hu
    obtain ⟨s, hs, rfl⟩ := List.mem_map.1 hu
    have := (h.mem c hc).2.2.2
    simp only
    omega
  induction sp with
  | nil =>
    cases ht : told bs with
    | nil => exact ⟨rfl, rfl⟩
    | cons u t =>
      have := hno u (by rw [ht]; exact List.mem_cons_self)
      simp [this]
  | cons s sp ih => simp [ih.1, ih.2]

theorem bands_progC (n : Nat) : ∀ (bf : List R4) (bs : List Band), (told bs).length ≤ n → Fits bf bs → progC n bf (told bs) = true := by
  induction n with
  | zero => intro bf bs _ _; rfl
  | succ n ih =>
    intro bf bs hn hf
    cases bs with
    | nil => rfl
    | cons b bs =>
      have hc : ∃ lo p, CanF lo p (b :: bs) ∧ (mayF bf (rectsOf b) = true) := by
        cases bf with
        | nil =>
          obtain ⟨z, hz⟩ := hf
          exact ⟨z, [], hz, by cases h : rectsOf b <;> rfl⟩
        | cons c bf =>
          refine ⟨c.y1, _, hf, ?_⟩
          obtain ⟨h1, h2, h3, h4, h5, h6⟩ := hf
          have hm : (rectsOf b).map spanOf = b.sp := by simp [rectsOf, spanOf, Function.comp_def]
          cases hr : rectsOf b with
          | nil => rfl
          | cons d m =>
            have hd : d ∈ rectsOf b := by rw [hr]; exact List.mem_cons_self
            obtain ⟨s, hs, e⟩ := List.mem_map.1 hd
            subst e
            simp only [mayF, Bool.or_eq_true, Bool.and_eq_true, decide_eq_true_eq, Bool.not_eq_true', decide_eq_false_iff_not]
            by_cases he : b.lo = c.y1
            · refine .inr ⟨he.symm, fun e => h2 he ?_⟩
              rw [← hm, hr, ← e]
            · exact .inl (by omega)
      obtain ⟨lo, p, ⟨h1, h2, h3, h4, ⟨z, h5⟩, h6⟩, hmay⟩ := hc
      have hsp : ∃ s sp, b.sp = s :: sp := by
        cases h : b.sp with
        | nil => exact absurd h h4
        | cons s sp => exact ⟨s, sp, rfl⟩
      obtain ⟨s, sp, hs⟩ := hsp
      have htold : told (b :: bs) = ⟨s.1, b.lo, s.2, b.hi⟩ :: ((sp.map fun s => (⟨s.1, b.lo, s.2, b.hi⟩ : R4)) ++ told bs) := by
        simp [told, rectsOf, hs]
      have hrects : rectsOf b = ⟨s.1, b.lo, s.2, b.hi⟩ :: (sp.map fun s => (⟨s.1, b.lo, s.2, b.hi⟩ : R4)) := by simp [rectsOf, hs]
      rw [htold] at hn ⊢
      obtain ⟨e1, e2⟩ := take_len ⟨s.1, b.lo, s.2, b.hi⟩ ((sp.map fun s => (⟨s.1, b.lo, s.2, b.hi⟩ : R4)) ++ told bs)
      obtain ⟨t1, t2⟩ := takeWhile_told h6 h3 sp
      simp only at e1 e2
      rw [t1] at e1
      rw [t2] at e2
      simp only [progC, Bool.and_eq_true]
      rw [e1, e2, ← hrects]
      refine ⟨⟨?_, hmay⟩, ih _ _ ?_ ?_⟩
      · rw [hrects]
        rw [hs] at h5
        exact even_of_band h5
      · simp only [List.length_cons, List.length_append] at hn
        omega
      · rw [hrects]
        have hm : (rectsOf b).map spanOf = b.sp := by simp [rectsOf, spanOf, Function.comp_def]
        rw [hrects] at hm
        simp only [Fits]
        rw [hm]
        exact h6

/-- THE PROGRAM's LOOK AT EACH BAND AND THE ONE BEFORE IT TELLS WHETHER THE RECTANGLES ARE THE CANONICAL FORM OF THEIR SET. -/
theorem progC_iff {l : List R4} (hg : Good l) : progC l.length [] l = true ↔ l = canonL l := by
  constructor
  · intro h
    obtain ⟨bs, e, z, hz⟩ := progC_bands _ _ _ (Nat.le_refl _) hg h
    rw [e, canonL_told hz]
  · intro h
    obtain ⟨⟨z, h1⟩, _⟩ := bandsC_ok hg
    have e : l = told (bandsC l) := h
    rw [e]
    exact bands_progC _ _ _ (Nat.le_refl _) ⟨z, h1⟩
end Reg
end Go.Proofs.Ytmgcahoamcheoaa

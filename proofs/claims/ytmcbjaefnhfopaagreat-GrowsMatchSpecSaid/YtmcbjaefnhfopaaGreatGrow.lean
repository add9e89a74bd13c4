/- The plain mathematics of growing: along X, along Y, and rectangles that are stacked between. -/
import Derived.Test.YtmcbjaefnhfopaaGreatCanon
namespace Go.Proofs.YtmcbjaefnhfopaaGreat
open Reg (R4 inR canonL)
set_option linter.unusedSimpArgs false
set_option linter.unusedVariables false

def wideX (n : Int) (r : R4) : R4 := ⟨r.x0 - n, r.y0, r.x1 + n, r.y1⟩
def wideY (n : Int) (r : R4) : R4 := ⟨r.x0, r.y0 - n, r.x1, r.y1 + n⟩
theorem wideX_good {n : Int} (hn : 0 ≤ n) {l : List R4} (h : Reg.Good l) : Reg.Good (l.map (wideX n)) := by
  intro r hr
  obtain ⟨s, hs, rfl⟩ := List.mem_map.1 hr
  have := h s hs
  simp only [wideX]
  omega
theorem wideY_good {n : Int} (hn : 0 ≤ n) {l : List R4} (h : Reg.Good l) : Reg.Good (l.map (wideY n)) := by
  intro r hr
  obtain ⟨s, hs, rfl⟩ := List.mem_map.1 hr
  have := h s hs
  simp only [wideY]
  omega
theorem wideX_inR {n : Int} (hn : 0 ≤ n) {l : List R4} (h : Reg.Good l) (x y : Int) : inR (l.map (wideX n)) x y ↔ ∃ u, u - n ≤ x ∧ x ≤ u + n ∧ inR l u y := by
  constructor
  · rintro ⟨r, hr, h1⟩
    obtain ⟨s, hs, rfl⟩ := List.mem_map.1 hr
    have hg := h s hs
    simp only [wideX, R4.has] at h1
    by_cases hx : x < s.x0
    · exact ⟨s.x0, by omega, by omega, s, hs, by simp only [R4.has]; omega⟩
    · by_cases hx2 : x < s.x1
      · exact ⟨x, by omega, by omega, s, hs, by simp only [R4.has]; omega⟩
      · exact ⟨s.x1 - 1, by omega, by omega, s, hs, by simp only [R4.has]; omega⟩
  · rintro ⟨u, h1, h2, s, hs, h3⟩
    exact ⟨wideX n s, List.mem_map.2 ⟨s, hs, rfl⟩, by simp only [wideX, R4.has] at h3 ⊢; omega⟩
theorem wideY_inR {n : Int} (hn : 0 ≤ n) {l : List R4} (h : Reg.Good l) (x y : Int) : inR (l.map (wideY n)) x y ↔ ∃ v, v - n ≤ y ∧ y ≤ v + n ∧ inR l x v := by
  constructor
  · rintro ⟨r, hr, h1⟩
    obtain ⟨s, hs, rfl⟩ := List.mem_map.1 hr
    have hg := h s hs
    simp only [wideY, R4.has] at h1
    by_cases hx : y < s.y0
    · exact ⟨s.y0, by omega, by omega, s, hs, by simp only [R4.has]; omega⟩
    · by_cases hx2 : y < s.y1
      · exact ⟨y, by omega, by omega, s, hs, by simp only [R4.has]; omega⟩
      · exact ⟨s.y1 - 1, by omega, by omega, s, hs, by simp only [R4.has]; omega⟩
  · rintro ⟨u, h1, h2, s, hs, h3⟩
    exact ⟨wideY n s, List.mem_map.2 ⟨s, hs, rfl⟩, by simp only [wideY, R4.has] at h3 ⊢; omega⟩

/-! ## Rectangles that lie one over the other -/
abbrev Roof := Int × Int × Int
def updK (f : Roof → Option Nat) (k : Roof) (v : Nat) : Roof → Option Nat := fun j => if j = k then some v else f j
def topAt (out : List R4) (k : Nat) (y : Int) : List R4 := match out[k]? with
  | some r => out.set k ⟨r.x0, r.y0, r.x1, y⟩
  | none => out
def pileGo : List R4 → (Roof → Option Nat) → List R4 → List R4
  | out, _, [] => out
  | out, f, x :: l => match f (x.x0, x.x1, x.y0) with
    | some k => pileGo (topAt out k x.y1) (updK f (x.x0, x.x1, x.y1) k) l
    | none => pileGo (out ++ [x]) (updK f (x.x0, x.x1, x.y1) out.length) l
def pileL (l : List R4) : List R4 := pileGo [] (fun _ => none) l
/-- A roof is that of its rectangle, or nothing that is left begins there. -/
def RoofOk (out : List R4) (f : Roof → Option Nat) (l : List R4) : Prop :=
  ∀ (j : Roof) (k : Nat), f j = some k → ∃ r, out[k]? = some r ∧ r.x0 = j.1 ∧ r.x1 = j.2.1 ∧ (r.y1 = j.2.2 ∨ ∀ z, z ∈ l → ¬ (z.x0 = j.1 ∧ z.y0 = j.2.2))
def Starts (l : List R4) : Prop := l.Pairwise fun a b => ¬ (b.x0 = a.x0 ∧ b.y0 = a.y0)
theorem topAt_some {out : List R4} {k : Nat} {r : R4} (h : out[k]? = some r) (y : Int) : topAt out k y = out.set k ⟨r.x0, r.y0, r.x1, y⟩ := by
  unfold topAt
  rw [h]
theorem inR_set {out : List R4} {k : Nat} {r s : R4} (h : out[k]? = some r) (x y : Int) (hrs : (r.x0 ≤ x ∧ x < r.x1 ∧ r.y0 ≤ y ∧ y < r.y1) → (s.x0 ≤ x ∧ x < s.x1 ∧ s.y0 ≤ y ∧ y < s.y1)) :
    inR (out.set k s) x y ↔ inR out x y ∨ (s.x0 ≤ x ∧ x < s.x1 ∧ s.y0 ≤ y ∧ y < s.y1) := by
  obtain ⟨hk, hr⟩ := List.getElem?_eq_some_iff.1 h
  constructor
  · rintro ⟨t, ht, h1⟩
    obtain ⟨i, hi, rfl⟩ := List.mem_iff_getElem.1 ht
    rw [List.getElem_set] at h1
    split at h1
    · exact .inr h1
    · exact .inl ⟨_, List.getElem_mem _, h1⟩
  · rintro (⟨t, ht, h1⟩ | h1)
    · obtain ⟨i, hi, rfl⟩ := List.mem_iff_getElem.1 ht
      by_cases hik : k = i
      · subst hik
        rw [hr] at h1
        exact ⟨s, List.mem_iff_getElem.2 ⟨k, by simpa using hk, by simp⟩, hrs h1⟩
      · exact ⟨out[i], List.mem_iff_getElem.2 ⟨i, by simpa using hi, by rw [List.getElem_set, if_neg hik]⟩, h1⟩
    · exact ⟨s, List.mem_iff_getElem.2 ⟨k, by simpa using hk, by simp⟩, h1⟩
theorem pileGo_ok (l : List R4) : ∀ (out : List R4) (f : Roof → Option Nat), Reg.Good out → Reg.Good l → Starts l → RoofOk out f l →
    Reg.Good (pileGo out f l) ∧ (pileGo out f l).length ≤ out.length + l.length ∧ ∀ x y, inR (pileGo out f l) x y ↔ inR out x y ∨ inR l x y := by
  induction l with
  | nil => intro out f h1 _ _ _; exact ⟨h1, Nat.le_refl _, fun x y => ⟨.inl, fun h => h.elim id fun h => by obtain ⟨r, hr, _⟩ := h; cases hr⟩⟩
  | cons s l ih =>
    intro out f h1 h2 h3 h4
    have hs := h2 s (by simp)
    have h2' : Reg.Good l := fun r hr => h2 r (List.mem_cons_of_mem _ hr)
    have h3' := List.pairwise_cons.1 h3
    have hcons : ∀ x y, inR (s :: l) x y ↔ (s.x0 ≤ x ∧ x < s.x1 ∧ s.y0 ≤ y ∧ y < s.y1) ∨ inR l x y := by
      intro x y
      constructor
      · rintro ⟨r, hr, h⟩
        rcases List.mem_cons.1 hr with rfl | hr
        · exact .inl h
        · exact .inr ⟨r, hr, h⟩
      · rintro (h | ⟨r, hr, h⟩)
        · exact ⟨s, by simp, h⟩
        · exact ⟨r, List.mem_cons_of_mem _ hr, h⟩
    rw [pileGo]
    cases hf : f (s.x0, s.x1, s.y0) with
    | none =>
      simp only
      have hr4 : RoofOk (out ++ [s]) (updK f (s.x0, s.x1, s.y1) out.length) l := by
        intro j k hj
        unfold updK at hj
        by_cases hjk : j = (s.x0, s.x1, s.y1)
        · rw [if_pos hjk] at hj
          injection hj with hj
          subst hj hjk
          exact ⟨s, by simp, rfl, rfl, .inl rfl⟩
        · rw [if_neg hjk] at hj
          obtain ⟨r, g1, g2, g3, g4⟩ := h4 j k hj
          have hk := (List.getElem?_eq_some_iff.1 g1).1
          exact ⟨r, by rw [List.getElem?_append_left hk]; exact g1, g2, g3, g4.imp id fun h z hz => h z (List.mem_cons_of_mem _ hz)⟩
      obtain ⟨i1, i2, i3⟩ := ih (out ++ [s]) _ (fun r hr => by rcases List.mem_append.1 hr with hr | hr; exact h1 r hr; simp at hr; subst hr; exact hs) h2' h3'.2 hr4
      refine ⟨i1, by simp at i2 ⊢; omega, fun x y => ?_⟩
      rw [i3, hcons]
      have : inR (out ++ [s]) x y ↔ inR out x y ∨ (s.x0 ≤ x ∧ x < s.x1 ∧ s.y0 ≤ y ∧ y < s.y1) := by
        constructor
        · rintro ⟨r, hr, h⟩
          rcases List.mem_append.1 hr with hr | hr
          · exact .inl ⟨r, hr, h⟩
          · simp at hr; subst hr; exact .inr h
        · rintro (⟨r, hr, h⟩ | h)
          · exact ⟨r, List.mem_append_left _ hr, h⟩
          · exact ⟨s, by simp, h⟩
      rw [this, or_assoc]
    | some k =>
      simp only
      obtain ⟨r, g1, g2, g3, g4⟩ := h4 _ _ hf
      simp only at g2 g3 g4
      have g5 : r.y1 = s.y0 := by
        rcases g4 with h | h
        · exact h
        · exact absurd ⟨rfl, rfl⟩ (h s (by simp))
      have hrg := h1 r (List.mem_of_getElem? g1)
      rw [topAt_some g1]
      have hk := (List.getElem?_eq_some_iff.1 g1).1
      have hr4 : RoofOk (out.set k ⟨r.x0, r.y0, r.x1, s.y1⟩) (updK f (s.x0, s.x1, s.y1) k) l := by
        intro j k' hj
        unfold updK at hj
        by_cases hjk : j = (s.x0, s.x1, s.y1)
        · rw [if_pos hjk] at hj
          injection hj with hj
          subst hj hjk
          exact ⟨⟨r.x0, r.y0, r.x1, s.y1⟩, List.getElem?_set_self hk, g2, g3, .inl rfl⟩
        · rw [if_neg hjk] at hj
          obtain ⟨r', e1, e2, e3, e4⟩ := h4 j k' hj
          by_cases hkk : k = k'
          · subst hkk
            rw [g1] at e1
            injection e1 with e1
            subst e1
            refine ⟨⟨r.x0, r.y0, r.x1, s.y1⟩, List.getElem?_set_self hk, e2, e3, .inr fun z hz hh => ?_⟩
            rcases e4 with e4 | e4
            · exact h3'.1 z hz ⟨by omega, by omega⟩
            · exact e4 z (List.mem_cons_of_mem _ hz) hh
          · exact ⟨r', by rw [List.getElem?_set_ne hkk]; exact e1, e2, e3, e4.imp id fun h z hz => h z (List.mem_cons_of_mem _ hz)⟩
      obtain ⟨i1, i2, i3⟩ := ih (out.set k ⟨r.x0, r.y0, r.x1, s.y1⟩) _ (fun t ht => by
        rcases List.mem_or_eq_of_mem_set ht with ht | rfl
        · exact h1 t ht
        · exact ⟨hrg.1, by simp only; omega⟩) h2' h3'.2 hr4
      refine ⟨i1, by simp at i2 ⊢; omega, fun x y => ?_⟩
      rw [i3, hcons, inR_set g1 x y (fun h => by simp only; omega)]
      constructor
      · rintro ((h | h) | h)
        · exact .inl h
        · simp only at h
          by_cases hy : y < r.y1
          · exact .inl ⟨r, List.mem_of_getElem? g1, by simp only [R4.has]; omega⟩
          · exact .inr (.inl (by omega))
        · exact .inr (.inr h)
      · rintro (h | h | h)
        · exact .inl (.inl h)
        · exact .inl (.inr (by simp only; omega))
        · exact .inr h
theorem pileL_ok {l : List R4} (h : Reg.Good l) (hs : Starts l) : Reg.Good (pileL l) ∧ (pileL l).length ≤ l.length ∧ ∀ x y, inR (pileL l) x y ↔ inR l x y := by
  obtain ⟨h1, h2, h3⟩ := pileGo_ok l [] (fun _ => none) (fun r hr => by cases hr) h hs (fun j k hj => by cases hj)
  refine ⟨h1, by simpa [pileL] using h2, fun x y => (h3 x y).trans ⟨fun h => h.elim (fun h => by obtain ⟨r, hr, _⟩ := h; cases hr) id, .inr⟩⟩
/-- No two rectangles of a region begin at one square. -/
theorem starts_canon {l : List R4} (h : Reg.Good l) : Starts (canonL l) := by
  obtain ⟨⟨z, h1⟩, -⟩ := Reg.bandsK_ok (keep := Reg.inFirstK) rfl h (b := []) (fun r hr => by cases hr)
  rw [← Reg.sweep_first h, Reg.sweepL]
  refine List.Pairwise.imp (fun {p u} hpu => ?_) (told_pair h1)
  have := lessYX_iff.1 hpu
  omega
/-- All squares that are at most n away from one of l. -/
def near (n : Int) (l : List R4) (x y : Int) : Prop := ∃ u v, u - n ≤ x ∧ x ≤ u + n ∧ v - n ≤ y ∧ y ≤ v + n ∧ inR l u v
def grownL (n : Int) (l : List R4) : List R4 := (pileL (canonL (l.map (wideX n)))).map (wideY n)
theorem canon_inR {l : List R4} (h : Reg.Good l) (x y : Int) : inR (canonL l) x y ↔ inR l x y := by
  rw [← Reg.sweep_first h, Reg.sweepL_inR (keep := Reg.inFirstK) rfl h (fun r hr => by cases hr)]
  simp [Reg.Kept, Reg.inFirstK, Reg.cntR_pos]
theorem canon_good {l : List R4} (h : Reg.Good l) : Reg.Good (canonL l) := by
  rw [← Reg.sweep_first h]
  exact Reg.sweepL_good (keep := Reg.inFirstK) rfl h (fun r hr => by cases hr)
theorem grownL_ok {n : Int} (hn : 0 ≤ n) {l : List R4} (h : Reg.Good l) : Reg.Good (grownL n l) ∧ ∀ x y, inR (grownL n l) x y ↔ near n l x y := by
  have g1 := wideX_good hn h
  have g2 := canon_good g1
  obtain ⟨p1, -, p3⟩ := pileL_ok g2 (starts_canon g1)
  refine ⟨wideY_good hn p1, fun x y => ?_⟩
  rw [grownL, wideY_inR hn p1]
  constructor
  · rintro ⟨v, h1, h2, h3⟩
    rw [p3, canon_inR g1, wideX_inR hn h] at h3
    obtain ⟨u, h4, h5, h6⟩ := h3
    exact ⟨u, v, h4, h5, h1, h2, h6⟩
  · rintro ⟨u, v, h1, h2, h3, h4, h5⟩
    exact ⟨v, h3, h4, by rw [p3, canon_inR g1, wideX_inR hn h]; exact ⟨u, h1, h2, h5⟩⟩
/-- What is not near to a square beside the region has all that is so far away in it: the nearest squares beside it suffice. -/
theorem shrunk_iff {n : Int} (hn : 0 ≤ n) {l o : List R4} {X0 Y0 X1 Y1 : Int} (hb : ∀ x y, inR l x y → X0 ≤ x ∧ x < X1 ∧ Y0 ≤ y ∧ y < Y1) (ho : ∀ x y, inR o x y ↔ (X0 - 1 ≤ x ∧ x < X1 + 1 ∧ Y0 - 1 ≤ y ∧ y < Y1 + 1) ∧ ¬ inR l x y) (x y : Int) :
    (inR l x y ∧ ¬ near n o x y) ↔ ∀ u v, u - n ≤ x → x ≤ u + n → v - n ≤ y → y ≤ v + n → inR l u v := by
  constructor
  · rintro ⟨h1, h2⟩ u v e1 e2 e3 e4
    have hbb := hb x y h1
    false_or_by_contra
    rename_i hne
    refine h2 ⟨max (X0 - 1) (min u X1), max (Y0 - 1) (min v Y1), by omega, by omega, by omega, by omega, (ho _ _).2 ⟨by omega, fun hin => ?_⟩⟩
    have hc := hb _ _ hin
    have eu : max (X0 - 1) (min u X1) = u := by omega
    have ev : max (Y0 - 1) (min v Y1) = v := by omega
    rw [eu, ev] at hin
    exact hne hin
  · intro h
    refine ⟨h x y (by omega) (by omega) (by omega) (by omega), ?_⟩
    rintro ⟨u, v, h1, h2, h3, h4, h5⟩
    exact ((ho u v).1 h5).2 (h u v h1 h2 h3 h4)
end Go.Proofs.YtmcbjaefnhfopaaGreat

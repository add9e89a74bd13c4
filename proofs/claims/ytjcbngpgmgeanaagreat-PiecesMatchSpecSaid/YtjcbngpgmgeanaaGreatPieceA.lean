/- Several texts in one: Union, PcP, Root, FirA, FirC, FirB. -/
import Derived.Below
import Derived.Test.YtjcbngpgmgeanaaGreatReg
import Derived.Test.YtjcbngpgmgeanaaGreatSweepH
import Derived.Test.YtjcbngpgmgeanaaGreatSweepA
import Derived.Maps.OwnRows
import Derived.Maps.GroupsBeside
import Derived.Maps.Views
import Derived.Deep.AppendLies
import Derived.Deep.DeepCutAuto
import Derived.Test.YtjcbngpgmgeanaaGreatGapP
/- Plain mathematics of classes: a row of numbers each of which leads to a lesser one, or stays; classes that are joined by pairs. No condition. -/
namespace Go.Proofs.YtjcbngpgmgeanaaGreat
set_option linter.unusedSimpArgs false
set_option linter.unusedVariables false

/-! ## Where a row of numbers leads -/
def rtF (T : List Nat) : Nat → Nat → Nat
  | 0, i => i
  | n + 1, i => if T.getD i i < i then rtF T n (T.getD i i) else i
def rt (T : List Nat) (i : Nat) : Nat := rtF T i i
theorem rtF_enough (T : List Nat) : ∀ (n i : Nat), i ≤ n → rtF T n i = rt T i := by
  intro n
  induction n using Nat.strongRecOn with
  | ind n ih =>
    intro i hi
    unfold rt
    cases n with
    | zero => obtain rfl : i = 0 := by omega
              rfl
    | succ n =>
      cases i with
      | zero => simp [rtF]
      | succ i =>
        simp only [rtF]
        by_cases h : T.getD (i + 1) (i + 1) < i + 1
        · rw [if_pos h, if_pos h, ih n (by omega) _ (by omega)]
          by_cases h2 : i < n + 1
          · rw [ih i (by omega) _ (by omega)]
          · obtain rfl : i = n := by omega
            rw [ih i (by omega) _ (by omega)]
        · rw [if_neg h, if_neg h]
theorem rt_eq (T : List Nat) (i : Nat) : rt T i = if T.getD i i < i then rt T (T.getD i i) else i := by
  cases i with
  | zero => simp [rt, rtF]
  | succ i =>
    unfold rt
    simp only [rtF]
    by_cases h : T.getD (i + 1) (i + 1) < i + 1
    · rw [if_pos h, if_pos h]
      exact rtF_enough T _ _ (by omega)
    · rw [if_neg h, if_neg h]
/-- Each number leads to none above it. -/
def Dn (T : List Nat) : Prop := ∀ i, T.getD i i ≤ i
theorem rt_le (T : List Nat) : ∀ i, rt T i ≤ i := by
  intro i
  induction i using Nat.strongRecOn with
  | ind i ih =>
    rw [rt_eq]
    split
    · rename_i h; have := ih _ h; omega
    · exact Nat.le_refl _
theorem rt_stays {T : List Nat} (h : Dn T) : ∀ i, T.getD (rt T i) (rt T i) = rt T i := by
  intro i
  induction i using Nat.strongRecOn with
  | ind i ih =>
    rw [rt_eq]
    split
    · rename_i h2; exact ih _ h2
    · rename_i h2; have := h i; omega
theorem rt_root {T : List Nat} {i : Nat} (h : T.getD i i = i) : rt T i = i := by rw [rt_eq, if_neg (by omega)]
theorem rt_rt {T : List Nat} (h : Dn T) (i : Nat) : rt T (rt T i) = rt T i := rt_root (rt_stays h i)
theorem getD_set (T : List Nat) (i v j : Nat) (hi : i < T.length) : (T.set i v).getD j j = if j = i then v else T.getD j j := by
  by_cases h : j = i
  · subst h; simp [List.getD, hi]
  · rw [if_neg h]
    simp only [List.getD]
    rw [List.getElem?_set_ne (by omega)]
/-- A row that leads where another one leads, and stays where that one had come to its end. -/
structure Leads (T T' : List Nat) : Prop where
  len : T'.length = T.length
  dn : Dn T'
  rt : ∀ j, rt T' j = rt T j
  fin : ∀ j, T.getD j j = Go.Proofs.YtjcbngpgmgeanaaGreat.rt T j → T'.getD j j = Go.Proofs.YtjcbngpgmgeanaaGreat.rt T j
theorem Leads.refl {T : List Nat} (h : Dn T) : Leads T T := ⟨rfl, h, fun _ => rfl, fun _ h => h⟩
theorem Leads.trans {T U V : List Nat} (h : Leads T U) (k : Leads U V) : Leads T V :=
  ⟨k.len.trans h.len, k.dn, fun j => (k.rt j).trans (h.rt j), fun j hj => by
    have h1 := h.fin j hj
    have h2 := k.fin j (by rw [h.rt]; exact h1)
    rw [h.rt] at h2
    exact h2⟩
/-- One number is sent on to where another one of its way leads. -/
theorem leads_set {T : List Nat} (hd : Dn T) {i u : Nat} (hi : i < T.length) (hu : u ≤ i) (hr : rt T u = rt T i) (hf : T.getD i i = rt T i → u = rt T i) (hc : u = i → rt T i = i) : Leads T (T.set i u) := by
  have hg := getD_set T i u
  refine ⟨by simp, fun j => ?_, fun j => ?_, fun j hj => ?_⟩
  · rw [hg j hi]
    by_cases h : j = i
    · rw [if_pos h]; omega
    · rw [if_neg h]; exact hd j
  · induction j using Nat.strongRecOn with
    | ind j ih =>
      rw [rt_eq (T.set i u), hg j hi]
      by_cases h : j = i
      · subst h
        rw [if_pos rfl]
        by_cases h2 : u < j
        · rw [if_pos h2, ih u h2, hr]
        · rw [if_neg h2]
          exact (hc (by omega)).symm
      · rw [if_neg h, rt_eq T j]
        by_cases h2 : T.getD j j < j
        · rw [if_pos h2, if_pos h2, ih _ h2]
        · rw [if_neg h2, if_neg h2]
  · rw [hg j hi]
    by_cases h : j = i
    · subst h; rw [if_pos rfl]; exact hf hj
    · rw [if_neg h]; exact hj
/-- One step of a search: a number is sent on by two. -/
theorem leads_half {T : List Nat} (hd : Dn T) {i : Nat} (hi : i < T.length) (hn : ¬ T.getD i i = i) : Leads T (T.set i (T.getD (T.getD i i) (T.getD i i))) := by
  have h1 := hd i
  have h2 := hd (T.getD i i)
  have e1 : rt T i = rt T (T.getD i i) := by rw [rt_eq, if_pos (by omega)]
  have e2 : rt T (T.getD i i) = rt T (T.getD (T.getD i i) (T.getD i i)) := by
    rw [rt_eq T (T.getD i i)]
    split
    · rfl
    · rename_i h
      have e : T.getD (T.getD i i) (T.getD i i) = T.getD i i := by omega
      rw [e]
      exact (rt_root e).symm
  refine leads_set hd hi (by omega) (by rw [e1, e2]) (fun h => ?_) (fun h => by omega)
  rw [h]
  exact rt_stays hd i
/-- Two ends are joined. -/
theorem rt_join {T : List Nat} (hd : Dn T) {a b : Nat} (ha : T.getD a a = a) (hb : T.getD b b = b) (hl : max a b < T.length) :
    (T.set (max a b) (min a b)).length = T.length ∧ Dn (T.set (max a b) (min a b)) ∧ ∀ j, rt (T.set (max a b) (min a b)) j = if rt T j = max a b then min a b else rt T j := by
  have hg := fun j => getD_set T (max a b) (min a b) j hl
  refine ⟨by simp, fun j => ?_, fun j => ?_⟩
  · rw [hg]
    split
    · omega
    · exact hd j
  · induction j using Nat.strongRecOn with
    | ind j ih =>
      rw [rt_eq (T.set (max a b) (min a b)), hg]
      by_cases h : j = max a b
      · subst h
        have hm : rt T (max a b) = max a b := rt_root (by
          rcases Nat.le_total a b with h | h
          · rw [Nat.max_eq_right h]; exact hb
          · rw [Nat.max_eq_left h]; exact ha)
        have hn : rt T (min a b) = min a b := rt_root (by
          rcases Nat.le_total a b with h | h
          · rw [Nat.min_eq_left h]; exact ha
          · rw [Nat.min_eq_right h]; exact hb)
        rw [if_pos rfl, if_pos hm]
        by_cases h2 : min a b < max a b
        · rw [if_pos h2, ih _ h2, hn]
          split <;> rfl
        · rw [if_neg h2]; omega
      · rw [if_neg h]
        by_cases h2 : T.getD j j < j
        · rw [if_pos h2, ih _ h2]
          rw [show rt T j = rt T (T.getD j j) from by rw [rt_eq, if_pos h2]]
        · rw [if_neg h2]
          rw [show rt T j = j from rt_root (by have := hd j; omega), if_neg h]

/-! ## Classes -/
def uni (f : Nat → Nat) (p : Nat × Nat) : Nat → Nat := fun x => if f x = max (f p.1) (f p.2) then min (f p.1) (f p.2) else f x
def unis (f : Nat → Nat) (ps : List (Nat × Nat)) : Nat → Nat := ps.foldl uni f
/-- A way from one number to another one, over numbers that are joined. -/
inductive Way (E : Nat → Nat → Prop) : Nat → Nat → Prop
  | stay (x : Nat) : Way E x x
  | go {x y z : Nat} (h : E x y ∨ E y x) (k : Way E y z) : Way E x z
theorem Way.trans {E : Nat → Nat → Prop} {x y z : Nat} (h : Way E x y) (k : Way E y z) : Way E x z := by
  induction h with
  | stay _ => exact k
  | go h _ ih => exact .go h (ih k)
theorem Way.one {E : Nat → Nat → Prop} {x y : Nat} (h : E x y ∨ E y x) : Way E x y := .go h (.stay _)
theorem Way.back {E : Nat → Nat → Prop} {x y : Nat} (h : Way E x y) : Way E y x := by
  induction h with
  | stay _ => exact .stay _
  | go h _ ih => exact ih.trans (.one h.symm)
theorem Way.mono {E F : Nat → Nat → Prop} (hm : ∀ x y, E x y → F x y) {x y : Nat} (h : Way E x y) : Way F x y := by
  induction h with
  | stay _ => exact .stay _
  | go h _ ih => exact .go (h.imp (hm _ _) (hm _ _)) ih
/-- Classes that tell just what is joined, each by its least number. -/
structure Cls (E : Nat → Nat → Prop) (f : Nat → Nat) : Prop where
  le : ∀ x, f x ≤ x
  ff : ∀ x, f (f x) = f x
  iff : ∀ x y, f x = f y ↔ Way E x y
theorem Cls.start : Cls (fun _ _ => False) id := ⟨fun _ => Nat.le_refl _, fun _ => rfl, fun x y => ⟨fun h => by cases h; exact .stay _, fun h => by
  induction h with
  | stay _ => rfl
  | go h _ _ => rcases h with h | h <;> cases h⟩⟩
theorem Cls.uni {E : Nat → Nat → Prop} {f : Nat → Nat} (h : Cls E f) (p : Nat × Nat) : Cls (fun x y => E x y ∨ (x = p.1 ∧ y = p.2)) (Go.Proofs.YtjcbngpgmgeanaaGreat.uni f p) := by
  obtain ⟨a, b⟩ := p
  have ha := h.ff a
  have hb := h.ff b
  have up : ∀ {x y}, Way E x y → Way (fun x y => E x y ∨ (x = a ∧ y = b)) x y := fun k => k.mono fun _ _ => .inl
  have mx : f (max (f a) (f b)) = max (f a) (f b) := by
    rcases Nat.le_total (f a) (f b) with k | k
    · rw [Nat.max_eq_right k]; exact hb
    · rw [Nat.max_eq_left k]; exact ha
  have mn : f (min (f a) (f b)) = min (f a) (f b) := by
    rcases Nat.le_total (f a) (f b) with k | k
    · rw [Nat.min_eq_left k]; exact ha
    · rw [Nat.min_eq_right k]; exact hb
  have ab : Way (fun x y => E x y ∨ (x = a ∧ y = b)) (max (f a) (f b)) (min (f a) (f b)) := by
    have ka : Way E a (f a) := (h.iff a (f a)).1 ha.symm
    have kb : Way E b (f b) := (h.iff b (f b)).1 hb.symm
    have kab : Way (fun x y => E x y ∨ (x = a ∧ y = b)) (f a) (f b) := (up ka).back.trans ((Way.one (.inl (.inr ⟨rfl, rfl⟩))).trans (up kb))
    rcases Nat.le_total (f a) (f b) with k | k
    · rw [Nat.max_eq_right k, Nat.min_eq_left k]; exact kab.back
    · rw [Nat.max_eq_left k, Nat.min_eq_right k]; exact kab
  have own : ∀ x, Way (fun x y => E x y ∨ (x = a ∧ y = b)) x (Go.Proofs.YtjcbngpgmgeanaaGreat.uni f (a, b) x) := by
    intro x
    have kx : Way E x (f x) := (h.iff x (f x)).1 (h.ff x).symm
    simp only [Go.Proofs.YtjcbngpgmgeanaaGreat.uni]
    split
    · rename_i e
      exact (up kx).trans (by rw [e]; exact ab)
    · exact up kx
  refine ⟨fun x => ?_, fun x => ?_, fun x y => ⟨fun e => ?_, fun k => ?_⟩⟩
  · have := h.le x
    simp only [Go.Proofs.YtjcbngpgmgeanaaGreat.uni]
    split <;> omega
  · simp only [Go.Proofs.YtjcbngpgmgeanaaGreat.uni]
    by_cases e : f x = max (f a) (f b)
    · rw [if_pos e, mn]
      split <;> rfl
    · rw [if_neg e, h.ff x, if_neg e]
  · have k1 := own x
    have k2 := own y
    rw [e] at k1
    exact k1.trans k2.back
  · induction k with
    | stay _ => rfl
    | go hs _ ih =>
      rw [← ih]
      rename_i x y z _
      have step : ∀ u v, (E u v ∨ (u = a ∧ v = b)) → Go.Proofs.YtjcbngpgmgeanaaGreat.uni f (a, b) u = Go.Proofs.YtjcbngpgmgeanaaGreat.uni f (a, b) v := by
        rintro u v (e | ⟨rfl, rfl⟩)
        · have := (h.iff u v).2 (.one (.inl e))
          simp only [Go.Proofs.YtjcbngpgmgeanaaGreat.uni, this]
        · simp only [Go.Proofs.YtjcbngpgmgeanaaGreat.uni]
          rcases Nat.lt_trichotomy (f u) (f v) with k | k | k
          · rw [if_neg (by omega), if_pos (by omega)]; omega
          · rw [k]
          · rw [if_pos (by omega), if_neg (by omega)]; omega
      rcases hs with e | e
      · exact step _ _ e
      · exact (step _ _ e).symm
theorem Cls.unis (ps : List (Nat × Nat)) : ∀ {E : Nat → Nat → Prop} {f : Nat → Nat}, Cls E f → Cls (fun x y => E x y ∨ (x, y) ∈ ps) (Go.Proofs.YtjcbngpgmgeanaaGreat.unis f ps) := by
  induction ps with
  | nil =>
    intro E f h
    have e : (fun x y => E x y ∨ (x, y) ∈ ([] : List (Nat × Nat))) = E := by
      funext x y; simp
    rw [e]
    exact h
  | cons p ps ih =>
    intro E f h
    have k := ih (h.uni p)
    have e : (fun x y => (E x y ∨ (x = p.1 ∧ y = p.2)) ∨ (x, y) ∈ ps) = fun x y => E x y ∨ (x, y) ∈ p :: ps := by
      funext x y
      simp only [List.mem_cons, eq_iff_iff]
      have : (x, y) = p ↔ x = p.1 ∧ y = p.2 := by
        obtain ⟨a, b⟩ := p
        simp
      rw [this]
      constructor
      · rintro ((h | h) | h)
        · exact .inl h
        · exact .inr (.inl h)
        · exact .inr (.inr h)
      · rintro (h | h | h)
        · exact .inl (.inl h)
        · exact .inl (.inr h)
        · exact .inr h
    rw [e] at k
    exact k
/-- The classes of pairs. -/
def clsF (ps : List (Nat × Nat)) : Nat → Nat := unis id ps
theorem clsF_ok (ps : List (Nat × Nat)) : Cls (fun x y => (x, y) ∈ ps) (clsF ps) := by
  have h := Cls.start.unis ps
  have e : (fun x y => False ∨ (x, y) ∈ ps) = fun x y => (x, y) ∈ ps := by funext x y; simp
  rw [e] at h
  exact h
end Go.Proofs.YtjcbngpgmgeanaaGreat
/- Plain mathematics of pieces: squares that hang together, rectangles that hang together, and what they have to do with each other. No condition. -/
namespace Go.Proofs.YtjcbngpgmgeanaaGreat
open Reg (R4 Span Band SepF CanF inR told rectsOf canonL)
set_option linter.unusedSimpArgs false
set_option linter.unusedVariables false

/-! ## Rows of a canonical region -/
theorem sep_right {l : List Span} : ∀ {z : Int}, SepF z l → ∀ s, s ∈ l → z < s.1 ∧ s.1 < s.2 := by
  induction l with
  | nil => intro z _ s hs; cases hs
  | cons a l ih =>
    rintro z ⟨h1, h2, h3⟩ s hs
    rcases List.mem_cons.1 hs with rfl | hs
    · exact ⟨h1, h2⟩
    · have := ih h3 s hs; omega
theorem sep_apart {l : List Span} : ∀ {z : Int}, SepF z l → ∀ s, s ∈ l → ∀ t, t ∈ l → s = t ∨ s.2 < t.1 ∨ t.2 < s.1 := by
  induction l with
  | nil => intro z _ s hs; cases hs
  | cons a l ih =>
    rintro z ⟨h1, h2, h3⟩ s hs t ht
    have hr := sep_right h3
    rcases List.mem_cons.1 hs with e | hs' <;> rcases List.mem_cons.1 ht with k | ht'
    · exact .inl (e.trans k.symm)
    · exact .inr (.inl (by rw [e]; exact (hr t ht').1))
    · exact .inr (.inr (by rw [k]; exact (hr s hs').1))
    · exact ih h3 s hs' t ht'
theorem told_from {bs : List Band} : ∀ {lo : Int} {p : List Span}, CanF lo p bs → ∀ r, r ∈ told bs → lo ≤ r.y0 := by
  induction bs with
  | nil => intro lo p _ r hr; cases hr
  | cons b l ih =>
    intro lo p h r hr
    obtain ⟨h1, _, h3, _, _, h6⟩ := h
    rw [told, List.flatMap_cons, List.mem_append] at hr
    rcases hr with hr | hr
    · obtain ⟨s, _, rfl⟩ := List.mem_map.1 hr
      exact h1
    · have := ih h6 r hr
      omega
/-- Two rectangles that meet in a row are one, or do not touch in it. -/
def Rowed (l : List R4) : Prop := ∀ r, r ∈ l → ∀ s, s ∈ l → ∀ y, r.y0 ≤ y → y < r.y1 → s.y0 ≤ y → y < s.y1 → r = s ∨ r.x1 < s.x0 ∨ s.x1 < r.x0
theorem told_rowed {bs : List Band} : ∀ {lo : Int} {p : List Span}, CanF lo p bs → Rowed (told bs) := by
  induction bs with
  | nil => intro lo p _ r hr; cases hr
  | cons b l ih =>
    intro lo p h
    obtain ⟨_, _, h3, _, ⟨z, h5⟩, h6⟩ := h
    have hl := told_from h6
    have hi := ih h6
    have sp : ∀ r, r ∈ told (b :: l) → (∃ s, s ∈ b.sp ∧ r = ⟨s.1, b.lo, s.2, b.hi⟩) ∨ r ∈ told l := fun r hr => by
      rw [told, List.flatMap_cons, List.mem_append] at hr
      rcases hr with hr | hr
      · obtain ⟨s, hs, rfl⟩ := List.mem_map.1 hr
        exact .inl ⟨s, hs, rfl⟩
      · exact .inr hr
    intro r hr s hs y a1 a2 a3 a4
    rcases sp r hr with ⟨t, ht, rfl⟩ | h1 <;> rcases sp s hs with ⟨u, hu, rfl⟩ | h2
    · rcases sep_apart h5 t ht u hu with rfl | h | h
      · exact .inl rfl
      · exact .inr (.inl h)
      · exact .inr (.inr h)
    · have := hl s h2; simp only at a1 a2; omega
    · have := hl r h1; simp only at a3 a4; omega
    · exact hi r h1 s h2 y a1 a2 a3 a4
theorem canon_rowed {l : List R4} (hg : Reg.Good l) : Rowed (canonL l) := by
  obtain ⟨⟨z, h⟩, _⟩ := Reg.bandsC_ok hg
  exact told_rowed h
theorem Rowed.sub {l m : List R4} (h : Rowed l) (hs : ∀ r, r ∈ m → r ∈ l) : Rowed m := fun r hr s hs' y => h r (hs r hr) s (hs s hs') y
theorem Rowed.one {l : List R4} (h : Rowed l) {r s : R4} (hr : r ∈ l) (hs : s ∈ l) {x y : Int} (h1 : r.has x y) (h2 : s.has x y) : r = s := by
  simp only [R4.has] at h1 h2
  rcases h r hr s hs y h1.2.2.1 h1.2.2.2 h2.2.2.1 h2.2.2.2 with e | e | e
  · exact e
  · omega
  · omega

/-! ## Squares that hang together -/
/-- The second square lies to the right of the first one, or above it. -/
def Nxt (x y u v : Int) : Prop := (u = x + 1 ∧ v = y) ∨ (u = x ∧ v = y + 1)
inductive SqWay (l : List R4) : Int → Int → Int → Int → Prop
  | stay {x y : Int} (h : inR l x y) : SqWay l x y x y
  | go {x y u v p q : Int} (h : inR l x y) (n : Nxt x y u v ∨ Nxt u v x y) (k : SqWay l u v p q) : SqWay l x y p q
theorem SqWay.first {l : List R4} {x y u v : Int} (h : SqWay l x y u v) : inR l x y := by cases h <;> assumption
theorem SqWay.last {l : List R4} {x y u v : Int} (h : SqWay l x y u v) : inR l u v := by
  induction h with
  | stay h => exact h
  | go _ _ _ ih => exact ih
theorem SqWay.trans {l : List R4} {x y u v p q : Int} (h : SqWay l x y u v) (k : SqWay l u v p q) : SqWay l x y p q := by
  induction h with
  | stay _ => exact k
  | go h n _ ih => exact .go h n (ih k)
theorem SqWay.back {l : List R4} {x y u v : Int} (h : SqWay l x y u v) : SqWay l u v x y := by
  induction h with
  | stay h => exact .stay h
  | go h n k ih => exact ih.trans (.go k.first n.symm (.stay h))
theorem SqWay.to {l m : List R4} (hm : ∀ x y, inR l x y → inR m x y) {x y u v : Int} (h : SqWay l x y u v) : SqWay m x y u v := by
  induction h with
  | stay h => exact .stay (hm _ _ h)
  | go h n _ ih => exact .go (hm _ _ h) n ih
theorem along {l : List R4} {r : R4} (hr : r ∈ l) (y : Int) (n : Nat) : ∀ x : Int, r.has x y → r.has (x + n) y → SqWay l x y (x + n) y := by
  induction n with
  | zero => intro x h1 _; rw [show x + ((0 : Nat) : Int) = x from by omega]; exact .stay ⟨r, hr, h1⟩
  | succ n ih =>
    intro x h1 h2
    have h3 : r.has (x + 1) y := by simp only [R4.has] at *; omega
    have k := ih (x + 1) h3 (by rw [show x + 1 + (n : Int) = x + ((n + 1 : Nat) : Int) from by omega]; exact h2)
    rw [show x + 1 + (n : Int) = x + ((n + 1 : Nat) : Int) from by omega] at k
    exact .go ⟨r, hr, h1⟩ (.inl (.inl ⟨rfl, rfl⟩)) k
theorem upward {l : List R4} {r : R4} (hr : r ∈ l) (x : Int) (n : Nat) : ∀ y : Int, r.has x y → r.has x (y + n) → SqWay l x y x (y + n) := by
  induction n with
  | zero => intro y h1 _; rw [show y + ((0 : Nat) : Int) = y from by omega]; exact .stay ⟨r, hr, h1⟩
  | succ n ih =>
    intro y h1 h2
    have h3 : r.has x (y + 1) := by simp only [R4.has] at *; omega
    have k := ih (y + 1) h3 (by rw [show y + 1 + (n : Int) = y + ((n + 1 : Nat) : Int) from by omega]; exact h2)
    rw [show y + 1 + (n : Int) = y + ((n + 1 : Nat) : Int) from by omega] at k
    exact .go ⟨r, hr, h1⟩ (.inl (.inr ⟨rfl, rfl⟩)) k
/-- All squares of a rectangle hang together. -/
theorem rect_sq {l : List R4} {r : R4} (hr : r ∈ l) {x y u v : Int} (h1 : r.has x y) (h2 : r.has u v) : SqWay l x y u v := by
  have h3 : r.has u y := by simp only [R4.has] at *; omega
  have k1 : SqWay l x y u y := by
    rcases Int.le_total x u with h | h
    · have k := along hr y (u - x).toNat x h1 (by rw [show x + ((u - x).toNat : Int) = u from by omega]; exact h3)
      rw [show x + ((u - x).toNat : Int) = u from by omega] at k
      exact k
    · have k := along hr y (x - u).toNat u h3 (by rw [show u + ((x - u).toNat : Int) = x from by omega]; exact h1)
      rw [show u + ((x - u).toNat : Int) = x from by omega] at k
      exact k.back
  have k2 : SqWay l u y u v := by
    rcases Int.le_total y v with h | h
    · have k := upward hr u (v - y).toNat y h3 (by rw [show y + ((v - y).toNat : Int) = v from by omega]; exact h2)
      rw [show y + ((v - y).toNat : Int) = v from by omega] at k
      exact k
    · have k := upward hr u (y - v).toNat v h2 (by rw [show v + ((y - v).toNat : Int) = y from by omega]; exact h3)
      rw [show v + ((y - v).toNat : Int) = y from by omega] at k
      exact k.back
  exact k1.trans k2

/-! ## Rectangles that hang together -/
/-- The second rectangle begins where the first one ends, and they have a side in common. -/
def Tch (r s : R4) : Prop := s.y0 = r.y1 ∧ r.x0 < s.x1 ∧ s.x0 < r.x1
instance (r s : R4) : Decidable (Tch r s) := inferInstanceAs (Decidable (_ ∧ _ ∧ _))
theorem tch_sq {l : List R4} (hg : Reg.Good l) {r s : R4} (hr : r ∈ l) (hs : s ∈ l) (h : Tch r s) {x y u v : Int} (h1 : r.has x y) (h2 : s.has u v) : SqWay l x y u v := by
  obtain ⟨a, b, c⟩ := h
  have g1 := hg r hr
  have g2 := hg s hs
  have q1 : r.has (max r.x0 s.x0) (r.y1 - 1) := by simp only [R4.has]; omega
  have q2 : s.has (max r.x0 s.x0) r.y1 := by simp only [R4.has]; omega
  exact (rect_sq hr h1 q1).trans (.go ⟨r, hr, q1⟩ (.inl (.inr ⟨rfl, by omega⟩)) (rect_sq hs q2 h2))
/-- Squares side by side lie in one rectangle, or in two that touch. -/
theorem next_rects {l : List R4} (hw : Rowed l) {r s : R4} (hr : r ∈ l) (hs : s ∈ l) {x y u v : Int} (h1 : r.has x y) (h2 : s.has u v) (hn : Nxt x y u v) : r = s ∨ Tch r s := by
  have k1 := h1
  have k2 := h2
  simp only [R4.has] at h1 h2
  rcases hn with ⟨rfl, rfl⟩ | ⟨rfl, rfl⟩
  · rcases hw r hr s hs v (by omega) (by omega) (by omega) (by omega) with e | e | e
    · exact .inl e
    · omega
    · omega
  · by_cases a : y + 1 < r.y1
    · rcases hw r hr s hs (y + 1) (by omega) (by omega) (by omega) (by omega) with e | e | e
      · exact .inl e
      · omega
      · omega
    · by_cases b : s.y0 ≤ y
      · rcases hw r hr s hs y (by omega) (by omega) (by omega) (by omega) with e | e | e
        · exact .inl e
        · omega
        · omega
      · exact .inr ⟨by omega, by omega, by omega⟩
/-- Two places of a list whose rectangles touch. -/
def TchAt (l : List R4) (i j : Nat) : Prop := ∃ r s, l[i]? = some r ∧ l[j]? = some s ∧ Tch r s
theorem way_sq {l : List R4} (hg : Reg.Good l) {i j : Nat} (h : Way (TchAt l) i j) : ∀ {r s : R4} {x y u v : Int}, l[i]? = some r → l[j]? = some s → r.has x y → s.has u v → SqWay l x y u v := by
  induction h with
  | stay i =>
    intro r s x y u v h1 h2 h3 h4
    rw [h1] at h2
    cases h2
    exact rect_sq (List.mem_of_getElem? h1) h3 h4
  | go h k ih =>
    intro r s x y u v h1 h2 h3 h4
    rcases h with ⟨a, b, e1, e2, ht⟩ | ⟨a, b, e1, e2, ht⟩
    · rw [h1] at e1
      cases e1
      have gb := hg b (List.mem_of_getElem? e2)
      have hb : b.has b.x0 b.y0 := by simp only [R4.has]; omega
      exact (tch_sq hg (List.mem_of_getElem? h1) (List.mem_of_getElem? e2) ht h3 hb).trans (ih e2 h2 hb h4)
    · rw [h1] at e2
      cases e2
      have ga := hg a (List.mem_of_getElem? e1)
      have ha : a.has a.x0 a.y0 := by simp only [R4.has]; omega
      exact (tch_sq hg (List.mem_of_getElem? e1) (List.mem_of_getElem? h1) ht ha h3).back.trans (ih e1 h2 ha h4)
theorem sq_way {l : List R4} (hw : Rowed l) (hn : l.Nodup) {x y u v : Int} (h : SqWay l x y u v) : ∀ {i j : Nat} {r s : R4}, l[i]? = some r → l[j]? = some s → r.has x y → s.has u v → Way (TchAt l) i j := by
  have same : ∀ {i j : Nat} {r : R4}, l[i]? = some r → l[j]? = some r → i = j := by
    intro i j r h1 h2
    obtain ⟨hi, e1⟩ := List.getElem?_eq_some_iff.1 h1
    obtain ⟨hj, e2⟩ := List.getElem?_eq_some_iff.1 h2
    have hp := List.pairwise_iff_getElem.1 hn
    rcases Nat.lt_trichotomy i j with h | h | h
    · exact absurd (e1.trans e2.symm) (hp i j hi hj h)
    · exact h
    · exact absurd (e2.trans e1.symm) (hp j i hj hi h)
  induction h with
  | stay h =>
    intro i j r s h1 h2 h3 h4
    have e := hw.one (List.mem_of_getElem? h1) (List.mem_of_getElem? h2) h3 h4
    subst e
    rw [same h1 h2]
    exact .stay _
  | go h n k ih =>
    intro i j r s h1 h2 h3 h4
    obtain ⟨t, ht, hh⟩ := k.first
    obtain ⟨m, hm, e⟩ := List.getElem_of_mem ht
    have e' : l[m]? = some t := by rw [List.getElem?_eq_getElem hm, e]
    have k2 := ih e' h2 hh h4
    have k1 : Way (TchAt l) i m := by
      rcases n with n | n
      · rcases next_rects hw (List.mem_of_getElem? h1) ht h3 hh n with e | e
        · subst e; rw [same h1 e']; exact .stay _
        · exact .one (.inl ⟨r, t, h1, e', e⟩)
      · rcases next_rects hw ht (List.mem_of_getElem? h1) hh h3 n with e | e
        · subst e; rw [same h1 e']; exact .stay _
        · exact .one (.inr ⟨t, r, e', h1, e⟩)
    exact k1.trans k2

/-! ## The pieces -/
/-- The pairs that are joined: each rectangle with those above it that touch it. -/
def prsOf (l : List R4) : List (Nat × Nat) := (List.range l.length).flatMap fun i => ((List.range l.length).filter fun j => decide (Tch (l.getD i ⟨0, 0, 0, 0⟩) (l.getD j ⟨0, 0, 0, 0⟩))).map fun j => (i, j)
theorem prs_mem {l : List R4} {i j : Nat} : (i, j) ∈ prsOf l ↔ TchAt l i j := by
  simp only [prsOf, List.mem_flatMap, List.mem_map, List.mem_filter, List.mem_range, decide_eq_true_eq, Prod.mk.injEq]
  constructor
  · rintro ⟨a, ha, b, ⟨hb, ht⟩, rfl, rfl⟩
    rw [List.getD_eq_getElem?_getD, List.getD_eq_getElem?_getD, List.getElem?_eq_getElem ha, List.getElem?_eq_getElem hb] at ht
    exact ⟨l[a], l[b], List.getElem?_eq_getElem ha, List.getElem?_eq_getElem hb, ht⟩
  · rintro ⟨r, s, h1, h2, ht⟩
    obtain ⟨hi, e1⟩ := List.getElem?_eq_some_iff.1 h1
    obtain ⟨hj, e2⟩ := List.getElem?_eq_some_iff.1 h2
    refine ⟨i, hi, j, ⟨hj, ?_⟩, rfl, rfl⟩
    rw [List.getD_eq_getElem?_getD, List.getD_eq_getElem?_getD, h1, h2]
    exact ht
/-- The number of the first rectangle that hangs together with one. -/
def fst_ (l : List R4) : Nat → Nat := clsF (prsOf l)
theorem fst_ok (l : List R4) : Cls (TchAt l) (fst_ l) := by
  have h := clsF_ok (prsOf l)
  have e : (fun x y => (x, y) ∈ prsOf l) = TchAt l := by funext x y; exact propext prs_mem
  rw [e] at h
  exact h
/-- The rectangles that hang together with the i-th one, where this is the first of them. -/
def own_ (l : List R4) (i : Nat) : List R4 := ((List.range l.length).filter fun j => decide (fst_ l j = i)).map fun j => l.getD j ⟨0, 0, 0, 0⟩
theorem mem_own {l : List R4} {i : Nat} {r : R4} : r ∈ own_ l i ↔ ∃ j, l[j]? = some r ∧ fst_ l j = i := by
  simp only [own_, List.mem_map, List.mem_filter, List.mem_range, decide_eq_true_eq]
  constructor
  · rintro ⟨j, ⟨hj, h⟩, rfl⟩
    exact ⟨j, by rw [List.getD_eq_getElem?_getD, List.getElem?_eq_getElem hj]; rfl, h⟩
  · rintro ⟨j, h1, h2⟩
    obtain ⟨hj, e⟩ := List.getElem?_eq_some_iff.1 h1
    exact ⟨j, ⟨hj, h2⟩, by rw [List.getD_eq_getElem?_getD, h1]; rfl⟩
/-- The pieces of a region. -/
def pcsL (l : List R4) : List (List R4) := ((List.range l.length).filter fun i => decide (fst_ l i = i)).map fun i => canonL (own_ l i)
theorem own_sub {l : List R4} {i : Nat} : ∀ r, r ∈ own_ l i → r ∈ l := fun r hr => by
  obtain ⟨j, h, _⟩ := mem_own.1 hr
  exact List.mem_of_getElem? h
theorem own_good {l : List R4} (hg : Reg.Good l) (i : Nat) : Reg.Good (own_ l i) := fun r hr => hg r (own_sub r hr)
/-- Squares of a piece hang together within it. -/
theorem own_way {l : List R4} (hw : Rowed l) (hn : l.Nodup) (i : Nat) {x y u v : Int} (h : SqWay l x y u v) : inR (own_ l i) x y → SqWay (own_ l i) x y u v := by
  induction h with
  | stay h => intro k; exact .stay k
  | go h n k ih =>
    intro hk
    refine .go hk n (ih ?_)
    obtain ⟨r, hr, h1⟩ := hk
    obtain ⟨a, ha, e⟩ := mem_own.1 hr
    obtain ⟨t, ht, h2⟩ := k.first
    obtain ⟨m, hm, e2⟩ := List.getElem_of_mem ht
    have e' : l[m]? = some t := by rw [List.getElem?_eq_getElem hm, e2]
    refine ⟨t, mem_own.2 ⟨m, e', ?_⟩, h2⟩
    rw [← e]
    exact ((fst_ok l).iff m a).2 (sq_way hw hn (SqWay.go (x := _) (y := _) h n (.stay k.first)) ha e' h1 h2).back
/-- The rectangles of a piece, in whatever canonical form, hang together. -/
theorem piece_one {l : List R4} (hg : Reg.Good l) (hw : Rowed l) (hn : l.Nodup) {i : Nat} (hp : (canonL (own_ l i)).Nodup) {a b : Nat} {r s : R4} (ha : (canonL (own_ l i))[a]? = some r) (hb : (canonL (own_ l i))[b]? = some s) :
    fst_ (canonL (own_ l i)) a = fst_ (canonL (own_ l i)) b := by
  have go := own_good hg i
  have gc : Reg.Good (canonL (own_ l i)) := by
    obtain ⟨⟨z, h⟩, _⟩ := Reg.bandsC_ok go
    exact Reg.good_told h
  have same : ∀ x y, inR (canonL (own_ l i)) x y ↔ inR (own_ l i) x y := fun x y => by
    unfold canonL
    rw [Reg.inR_told]
    exact (Reg.bandsC_ok go).2 x y
  have g1 := gc r (List.mem_of_getElem? ha)
  have g2 := gc s (List.mem_of_getElem? hb)
  have h1 : r.has r.x0 r.y0 := by simp only [R4.has]; omega
  have h2 : s.has s.x0 s.y0 := by simp only [R4.has]; omega
  obtain ⟨p, hp1, hp2⟩ := (same _ _).1 ⟨r, List.mem_of_getElem? ha, h1⟩
  obtain ⟨q, hq1, hq2⟩ := (same _ _).1 ⟨s, List.mem_of_getElem? hb, h2⟩
  obtain ⟨m, em, fm⟩ := mem_own.1 hp1
  obtain ⟨k, ek, fk⟩ := mem_own.1 hq1
  have w1 : SqWay l r.x0 r.y0 s.x0 s.y0 := way_sq hg (((fst_ok l).iff m k).1 (fm.trans fk.symm)) em ek hp2 hq2
  have w2 := own_way hw hn i w1 ⟨p, hp1, hp2⟩
  have w3 := w2.to (fun x y h => (same x y).2 h)
  exact ((fst_ok _).iff a b).2 (sq_way (canon_rowed go) hp w3 ha hb h1 h2)
end Go.Proofs.YtjcbngpgmgeanaaGreat
/- The closure of package shape's firsts that finds the end of a way, whatever the world. -/
namespace Go.Proofs.YtjcbngpgmgeanaaGreat
open Go.RowKit
open Reg (R4)
set_option linter.unusedSimpArgs false
set_option linter.unusedVariables false

/-- A block holds a row of numbers. -/
structure NumsAt (w : World) (g : Nat) (T : List Nat) : Prop where
  c : ∀ (j v : Nat), T[j]? = some v → w.cell? ⟨g, j, none⟩ = some (.int .i64 (v : Int))
  f : ∀ j, w.frozen? ⟨g, j, none⟩ = false
  l : g < w.heap.size
theorem NumsAt.keeps {w w' : World} {g : Nat} {T : List Nat} {S : Nat → Prop} (h : NumsAt w g T) (k : Keeps S w w') (hn : ¬ S g) : NumsAt w' g T where
  c j v hj := (k.cell h.l hn j).trans (h.c j v hj)
  f j := (k.frozen h.l hn j).trans (h.f j)
  l := Nat.lt_of_lt_of_le h.l k.size
theorem NumsAt.drew {w : World} {g : Nat} {T : List Nat} (h : NumsAt w g T) : NumsAt w.drew g T := ⟨h.c, h.f, h.l⟩
theorem NumsAt.set {w : World} {g : Nat} {T : List Nat} (h : NumsAt w g T) {j u : Nat} (hj : j < T.length) : NumsAt (w.setCell ⟨g, j, none⟩ (.int .i64 (u : Int))) g (T.set j u) where
  c i v hi := by
    by_cases e : j = i
    · subst e
      have hv : u = v := by simpa [hj] using hi
      subst hv
      rw [World.cell?_setCell_same' _ _ _ (by rw [h.c j _ (List.getElem?_eq_getElem hj)]; rfl)]
    · rw [World.cell?_setCell_other _ _ _ _ (by simp [e])]
      rw [List.getElem?_set_ne e] at hi
      exact h.c i v hi
  f i := by rw [World.frozen?_setCell]; exact h.f i
  l := by simpa using h.l
/-- What a search for the end of a way does. -/
def RootPost (w : World) (g : Nat) (T : List Nat) (i : Nat) (e : Ending) (w' : World) : Prop := ∃ T', Leads T T' ∧ e = .returned (.int .i64 (rt T i : Nat)) ∧ NumsAt w' g T' ∧ Keeps (fun x => x = g) w w'
theorem rt_half {T : List Nat} (hd : Dn T) (i : Nat) : rt T (T.getD (T.getD i i) (T.getD i i)) = rt T i := by
  have h1 := hd i
  have h2 := hd (T.getD i i)
  have e1 : rt T i = rt T (T.getD i i) := by
    rw [rt_eq T i]
    split
    · rfl
    · rename_i h
      have e : T.getD i i = i := by omega
      rw [e]
      exact (rt_root e).symm
  have e2 : rt T (T.getD i i) = rt T (T.getD (T.getD i i) (T.getD i i)) := by
    rw [rt_eq T (T.getD i i)]
    split
    · rfl
    · rename_i h
      have e : T.getD (T.getD i i) (T.getD i i) = T.getD i i := by omega
      rw [e]
      exact (rt_root e).symm
  rw [e1, e2]
theorem getD_some {T : List Nat} {i v : Nat} (h : T[i]? = some v) (d : Nat) : T.getD i d = v := by rw [List.getD_eq_getElem?_getD, h]; rfl

set_option maxRecDepth 100000 in
set_option maxHeartbeats 2000000 in
theorem root_any (gb g c : Nat) (T : List Nat) (i : Nat) (w : World) (hd : Dn T) (hi : i < T.length) (hT : T.length ≤ 100000) (hgb : gb < w.heap.size) (hne : gb ≠ g) (hb : w.cell? ⟨gb, 0, none⟩ = some (.slice (some ⟨g, 0, none⟩) T.length c)) (h : NumsAt w g T) :
    Calls Tryz.prog 85 #[.int .i64 i, .pointer (some ⟨gb, 0, none⟩)] w (RootPost w g T i) := by
  have H0 := Lib.hid h
  have HB := Lib.hid hb
  have HD := Lib.hid hd
  clear h hb hd
  unfold RootPost
  obtain ⟨R, hR⟩ : ∃ R, R = rt T i := ⟨_, rfl⟩
  rw [← hR]
  have HR := Lib.hid hR
  clear hR
  go_enter Tryz.func85, Tryz.ntmps85
  go_wp2_with fail
  go_loopw [0] (fun v wr => ∃ (k : Nat) (T' : List Nat), v = .int .i64 k ∧ k < T.length ∧ Leads T T' ∧ R = rt T k ∧ NumsAt wr g T' ∧ Keeps (fun x => x = g) w wr) (fun v _ => (intOf v).toNat)
  case atStart => exact ⟨i, T, rfl, hi, .refl HD.out, HR.out, H0.out, .refl _ _⟩
  case round =>
    obtain ⟨k, T', rfl, hk, hL, hr, hN, hK⟩ := hrel
    have HL := Lib.hid hL
    have HN := Lib.hid hN
    have HK := Lib.hid hK
    have HRk := Lib.hid hr
    have hlen := hL.len
    have hk' : k < T'.length := by omega
    have hgk : wr.cell? ⟨gb, 0, none⟩ = some (.slice (some ⟨g, 0, none⟩) T.length c) := (hK.cell hgb hne 0).trans HB.out
    have hz : gb < wr.heap.size := Nat.lt_of_lt_of_le hgb hK.size
    have gl := hN.l
    obtain ⟨v, hv⟩ : ∃ v, T'[k]? = some v := ⟨_, List.getElem?_eq_getElem hk'⟩
    have hvk : v ≤ k := by have := hL.dn k; rw [getD_some hv] at this; exact this
    obtain ⟨u, hu⟩ : ∃ u, T'[v]? = some u := ⟨_, List.getElem?_eq_getElem (by omega)⟩
    have huv : u ≤ v := by have := hL.dn v; rw [getD_some hu] at this; exact this
    have c1 := hN.c k v hv
    have c2 := hN.c v u hu
    have f1 := hN.f k
    have HV := Lib.hid hv
    have HU := Lib.hid hu
    have HE := Lib.hid hlen
    clear hv hu hL hN hr hK hlen
    have b0 : (0 : Int) ≤ (k : Int) := by omega
    have b1 : (k : Int) < (T.length : Int) := by omega
    have b2 : (0 : Int) ≤ (v : Int) := by omega
    have b3 : (v : Int) < (T.length : Int) := by omega
    have n1 : ¬ gb = g := hne
    have n2 : ¬ g = gb := fun h => hne h.symm
    have hv4 : v < T.length := by omega
    by_cases hvk2 : v = k
    · have hend : R = k := by
        rw [HRk.out, ← HL.out.rt k]
        exact rt_root (by rw [getD_some HV.out]; exact hvk2)
      clear c2
      subst hvk2
      subst hend
      go_wp2_with fail
      go_ret
      exact ⟨T', HL.out, rfl, HN.out, HK.out⟩
    · have hd1 : ((v : Int) != (k : Int)) = true := by simp; omega
      have hd2 : ((v : Int) == (k : Int)) = false := by simp; omega
      go_wp2_with fail
      go_still_tail 9, (by kernel_rfl)
      change wpList _ _ _ _ _ wr.drew
      go_wp2_with fail
      go_roundw
      case rel =>
        have hh := leads_half HL.out.dn hk' (by rw [getD_some HV.out]; exact hvk2)
        rw [getD_some HV.out, getD_some HU.out] at hh
        have hr2 := rt_half HL.out.dn k
        rw [getD_some HV.out, getD_some HU.out] at hr2
        refine ⟨u, T'.set k u, rfl, by omega, HL.out.trans hh, ?_, HN.out.drew.set hk', keeps_set (keeps_drew HK.out) (fun _ => rfl) _⟩
        rw [HRk.out, ← HL.out.rt k, ← hr2, HL.out.rt u]
      case measure => simp [intOf]; omega
end Go.Proofs.YtjcbngpgmgeanaaGreat
/- Rectangles grouped by where they begin: the map of package shape's firsts, and the laws at its operations. -/
namespace Go.Proofs.YtjcbngpgmgeanaaGreat
open Go.RowKit Go.ChangeShapes
open Reg (R4)
set_option linter.unusedSimpArgs false
set_option linter.unusedVariables false

section
variable {H : Type} {P : Program} {k : TypeId} {w w' : World} {base : Nat} {e : TypeId} {q : IntKind} {b n : Nat} {D : DataW H}
/-- A look-up hangs on the map's own block alone. -/
theorem look_again {t E : TypeId} {key v : Value} {kl : Lit} (h : w.ownsGroups P k base e q b n D) (K : Maps.Keyed P k) (ht : P.underlying t = some (.map k E)) (hz : ∀ W, (zeroValue E).run P W = .ok (.slice none 0 0) W) (hkey : keyOf P k key = some kl)
    (hrun : (Instr.lookup t (.map (some b)) key false).run P w = .ok v w) (hb : w'.heap[b]? = w.heap[b]?) : (Instr.lookup t (.map (some b)) key false).run P w' = .ok v w' := by
  obtain ⟨es, clock, hb0, F, _⟩ := h
  have hap := Maps.fit_apart K F
  rcases Maps.fit_look false K ht (hz w) hb0 F hkey with ⟨r1, n1, _⟩ | ⟨e0, y0, m0, k0, r1, hy0, _⟩ <;> rcases Maps.fit_look false K ht (hz w') (hb.trans hb0) F hkey with ⟨r2, n2, _⟩ | ⟨e1, y1, m1, k1, r2, hy1, _⟩
  · rw [hrun] at r1
    simp at r1
    rw [r2, r1]
    simp
  · exact absurd k1 (n1 e1 m1)
  · exact absurd k0 (n2 e0 m0)
  · have e : e0 = e1 := by
      obtain ⟨i, hi, ei⟩ := List.getElem_of_mem m0
      obtain ⟨j, hj, ej⟩ := List.getElem_of_mem m1
      have hp := List.pairwise_iff_getElem.1 hap
      have hk : ∀ x, x ∈ es.toList → x.key = key → (WideElems.rg P k (rowElem (H := H) w base e q) x).1 = kl := fun x hx hxk => by
        obtain ⟨y, hy⟩ := F.reads x hx
        have := WideElems.rd_key hy
        rw [hxk, hkey] at this
        rw [WideElems.rg_of hy]
        exact (Option.some.inj this).symm
      have ea := hk e0 m0 k0
      have eb := hk e1 m1 k1
      rcases Nat.lt_trichotomy i j with h | h | h
      · have := hp i j (by simpa using hi) (by simpa using hj) h
        simp only [List.getElem_map, ei, ej] at this
        exact absurd (ea.trans eb.symm) this
      · subst h; exact ei.symm.trans ej
      · have := hp j i (by simpa using hj) (by simpa using hi) h
        simp only [List.getElem_map, ei, ej] at this
        exact absurd (eb.trans ea.symm) this
    subst e
    rw [hrun] at r1
    simp at r1
    rw [r2, r1]
    simp
end

/-- The places of the first k rectangles that begin at a height. -/
def grp (l : List R4) (k : Nat) (y : Int) : List Int := ((List.range k).filter fun j => decide ((l.getD j ⟨0, 0, 0, 0⟩).y0 = y)).map fun j : Nat => (j : Int)
theorem grp_succ (l : List R4) (k : Nat) (y : Int) : grp l (k + 1) y = grp l k y ++ if (l.getD k ⟨0, 0, 0, 0⟩).y0 = y then [(k : Int)] else [] := by
  unfold grp
  rw [List.range_succ, List.filter_append, List.map_append]
  congr 1
  by_cases h : (l.getD k ⟨0, 0, 0, 0⟩).y0 = y
  · rw [if_pos h, List.filter_cons, if_pos (decide_eq_true h)]; rfl
  · rw [if_neg h, List.filter_cons, if_neg (by rw [decide_eq_false h]; simp)]; rfl
theorem grp_len (l : List R4) (k : Nat) (y : Int) : (grp l k y).length ≤ k := by
  unfold grp
  rw [List.length_map]
  have := List.length_filter_le (fun j => decide ((l.getD j ⟨0, 0, 0, 0⟩).y0 = y)) (List.range k)
  rwa [List.length_range] at this
/-- What a row of numbers reads as. -/
def gdat (zs : List Int) : DataW Unit := if zs = [] then .nil else .slice (lits .i64 zs) []
theorem lits_inj {a b : List Int} (h : lits (H := Unit) .i64 a = lits .i64 b) : a = b := by
  unfold lits at h
  exact (List.map_inj_right (fun x y e => by simpa using e)).1 h
theorem row_gdat {w : World} {base : Nat} {e : TypeId} {v : Value} {zs zs' : List Int} (ho : w.ownsInts base e .i64 v zs) (h : gdat zs' = rowDatum .i64 v zs) : zs = zs' := by
  unfold gdat at h
  rcases ho.datum (H := Unit) with ⟨h1, rfl⟩ | h1
  · rw [h1] at h
    split at h
    · rename_i e; exact e.symm
    · cases h
  · rw [h1] at h
    split at h
    · cases h
    · have := lits_inj (by simpa using h)
      exact this.symm
/-- A map reads as the groups of the first k rectangles. -/
def GrpD (l : List R4) (k : Nat) (D : DataW Unit) : Prop := Maps.IsMap D ∧ ∀ y : Int, D.atKey (.int .i64 y) .nil = gdat (grp l k y)
theorem grpD_start (l : List R4) : GrpD l 0 (.map []) := ⟨Maps.isMap_empty, fun y => by simp [DataW.atKey, gdat, grp]⟩
theorem grpD_put {l : List R4} {k : Nat} {D : DataW Unit} (h : GrpD l k D) {y : Int} (hy : (l.getD k ⟨0, 0, 0, 0⟩).y0 = y) {w : World} {base : Nat} {e : TypeId} {v : Value} (ho : w.ownsInts base e .i64 v (grp l k y ++ [(k : Int)])) :
    GrpD l (k + 1) (D.put (.int .i64 y) (rowDatum .i64 v (grp l k y ++ [(k : Int)]))) := by
  refine ⟨h.1.put _ _, fun z => ?_⟩
  rw [ho.datum_pos (by simp)]
  by_cases e : z = y
  · subst e
    rw [Maps.atKey_put_same h.1 (by simp [WideAt.IsKeyLit]), grp_succ, if_pos hy]
    unfold gdat
    rw [if_neg (by simp)]
  · rw [Maps.atKey_put_other (by simpa using e), h.2, grp_succ, if_neg (by rw [hy]; exact fun e2 => e e2.symm), List.append_nil]
theorem grownBy_keeps {w w' : World} {g : Nat} (h : Keeps (fun x => x = g) w w') : w.grownBy w' (some g) := ⟨h.os, h.tape, h.output, h.size, fun k hk hn => h.block k hk (fun e => hn (by rw [e]))⟩
theorem grownBy_setAt (w : World) (g j : Nat) (v : Value) : w.grownBy (w.setCell ⟨g, j, none⟩ v) (some g) := grownBy_keeps (keeps_set (S := fun x => x = g) (Keeps.refl _ w) (fun _ => rfl) v)
end Go.Proofs.YtjcbngpgmgeanaaGreat
/- Plain lemmas on the joining of rectangles in the order of package shape's firsts. -/
namespace Go.Proofs.YtjcbngpgmgeanaaGreat
open Go.RowKit
open Reg (R4)
set_option linter.unusedSimpArgs false
set_option linter.unusedVariables false

/-- Heights that can be keys. -/
def Ry (r : R4) : Prop := (-2000000 ≤ r.y0 ∧ r.y0 ≤ 2000000) ∧ (-2000000 ≤ r.y1 ∧ r.y1 ≤ 2000000)
/-- What is joined behind k rectangles. -/
def EK (l : List R4) (k : Nat) : Nat → Nat → Prop := fun a b => a < k ∧ TchAt l a b
/-- What is joined behind k rectangles, and the first m of those that begin where the next one ends. -/
def EKm (l : List R4) (k : Nat) (zs : List Int) (m : Nat) : Nat → Nat → Prop := fun a b => EK l k a b ∨ (a = k ∧ TchAt l k b ∧ (b : Int) ∈ zs.take m)
theorem cls_id (T : List Nat) (h : ∀ j, T.getD j j = j) (l : List R4) : Cls (EK l 0) (rt T) := by
  have e1 : rt T = id := funext fun j => rt_root (h j)
  have e2 : EK l 0 = fun _ _ => False := by funext a b; simp [EK]
  rw [e1, e2]
  exact Cls.start
theorem cls_in {l : List R4} {k : Nat} {zs : List Int} {f : Nat → Nat} (h : Cls (EK l k) f) : Cls (EKm l k zs 0) f := by
  have e : EKm l k zs 0 = EK l k := by funext a b; simp [EKm]
  rw [e]; exact h
theorem grp_mem {l : List R4} {n : Nat} {y : Int} {b : Nat} : (b : Int) ∈ grp l n y ↔ b < n ∧ (l.getD b ⟨0, 0, 0, 0⟩).y0 = y := by
  simp only [grp, List.mem_map, List.mem_filter, List.mem_range, decide_eq_true_eq]
  constructor
  · rintro ⟨a, h, e⟩
    have : a = b := by omega
    subst this; exact h
  · intro h; exact ⟨b, h, rfl⟩
theorem cls_out {l : List R4} {k : Nat} {x : R4} (hx : l[k]? = some x) {f : Nat → Nat} (h : Cls (EKm l k (grp l l.length x.y1) (grp l l.length x.y1).length) f) : Cls (EK l (k + 1)) f := by
  have e : EKm l k (grp l l.length x.y1) (grp l l.length x.y1).length = EK l (k + 1) := by
    funext a b
    simp only [EKm, EK, List.take_length, eq_iff_iff]
    constructor
    · rintro (⟨h1, h2⟩ | ⟨rfl, h2, _⟩)
      · exact ⟨by omega, h2⟩
      · exact ⟨by omega, h2⟩
    · rintro ⟨h1, h2⟩
      by_cases ha : a < k
      · exact .inl ⟨ha, h2⟩
      · have : a = k := by omega
        subst this
        refine .inr ⟨rfl, h2, grp_mem.2 ?_⟩
        obtain ⟨r, s, h3, h4, ht⟩ := h2
        rw [hx] at h3
        cases h3
        have hb := (List.getElem?_eq_some_iff.1 h4).1
        refine ⟨hb, ?_⟩
        rw [List.getD_eq_getElem?_getD, h4]
        exact ht.1
  rw [e] at h
  exact h
theorem take_mem {zs : List Int} {m : Nat} {j : Int} (h : zs[m]? = some j) (b : Int) : b ∈ zs.take (m + 1) ↔ b ∈ zs.take m ∨ b = j := by
  obtain ⟨hm, e⟩ := List.getElem?_eq_some_iff.1 h
  rw [List.take_succ_eq_append_getElem hm, List.mem_append, List.mem_singleton, e]
theorem cls_skip {l : List R4} {k j m : Nat} {zs : List Int} {f : Nat → Nat} (hz : zs[m]? = some (j : Int)) (hn : ¬ TchAt l k j) (h : Cls (EKm l k zs m) f) : Cls (EKm l k zs (m + 1)) f := by
  have e : EKm l k zs (m + 1) = EKm l k zs m := by
    funext a b
    simp only [EKm, take_mem hz, eq_iff_iff]
    constructor
    · rintro (h | ⟨h1, h2, h3 | h3⟩)
      · exact .inl h
      · exact .inr ⟨h1, h2, h3⟩
      · have : b = j := by omega
        subst this; exact absurd h2 hn
    · rintro (h | ⟨h1, h2, h3⟩)
      · exact .inl h
      · exact .inr ⟨h1, h2, .inl h3⟩
  rw [e]; exact h
theorem cls_step {l : List R4} {k j m : Nat} {zs : List Int} {f : Nat → Nat} (hz : zs[m]? = some (j : Int)) (ht : TchAt l k j) (h : Cls (EKm l k zs m) f) : Cls (EKm l k zs (m + 1)) (uni f (k, j)) := by
  have e : (fun x y => EKm l k zs m x y ∨ (x = (k, j).1 ∧ y = (k, j).2)) = EKm l k zs (m + 1) := by
    funext a b
    simp only [EKm, take_mem hz, eq_iff_iff]
    constructor
    · rintro ((h | ⟨h1, h2, h3⟩) | ⟨rfl, rfl⟩)
      · exact .inl h
      · exact .inr ⟨h1, h2, .inl h3⟩
      · exact .inr ⟨rfl, ht, .inr rfl⟩
    · rintro (h | ⟨h1, h2, h3 | h3⟩)
      · exact .inl (.inl h)
      · exact .inl (.inr ⟨h1, h2, h3⟩)
      · exact .inr ⟨h1, by omega⟩
  have k1 := h.uni (k, j)
  rw [e] at k1
  exact k1
theorem Cls.unique {E : Nat → Nat → Prop} {f g : Nat → Nat} (h : Cls E f) (k : Cls E g) : f = g := by
  funext x
  have h1 : g (f x) = g x := (k.iff _ _).2 ((h.iff _ _).1 (h.ff x))
  have h2 : f (g x) = f x := (h.iff _ _).2 ((k.iff _ _).1 (k.ff x))
  have := k.le (f x)
  have := h.le (g x)
  omega
theorem cls_end {l : List R4} {f : Nat → Nat} (h : Cls (EK l l.length) f) : f = fst_ l := by
  have e : EK l l.length = TchAt l := by
    funext a b
    simp only [EK, eq_iff_iff]
    constructor
    · exact fun h => h.2
    · rintro ⟨r, s, h1, h2, ht⟩
      exact ⟨(List.getElem?_eq_some_iff.1 h1).1, r, s, h1, h2, ht⟩
  rw [e] at h
  exact h.unique (fst_ok l)
/-- Two ends are joined, in the words of classes. -/
theorem join_uni {T : List Nat} (hd : Dn T) {k j : Nat} (hk : k < T.length) (hj : j < T.length) :
    (T.set (max (rt T k) (rt T j)) (min (rt T k) (rt T j))).length = T.length ∧ Dn (T.set (max (rt T k) (rt T j)) (min (rt T k) (rt T j))) ∧ rt (T.set (max (rt T k) (rt T j)) (min (rt T k) (rt T j))) = uni (rt T) (k, j) := by
  have h1 := rt_le T k
  have h2 := rt_le T j
  obtain ⟨a, b, c⟩ := rt_join hd (rt_stays hd k) (rt_stays hd j) (by omega)
  exact ⟨a, b, funext c⟩
end Go.Proofs.YtjcbngpgmgeanaaGreat
/- firsts of package shape, whatever the world. -/
namespace Go.Proofs.YtjcbngpgmgeanaaGreat
open Go.RowKit Go.ChangeShapes
open Reg (R4)
set_option linter.unusedSimpArgs false
set_option linter.unusedVariables false

theorem zeroInts (w : World) : (zeroValue 73).run Tryz.prog w = .ok (.slice none 0 0) w := by kernel_rfl
/-- The numbers of the first k rectangles are laid. -/
def upTo_ (n k : Nat) : List Nat := (List.range n).map fun j => if j < k then j else 0
theorem nums_made {w : World} {base g n : Nat} {xs : List Value} (h : w.ownsRow base 3 1 (.slice (some ⟨g, 0, none⟩) n n) n xs) {T : List Nat} (hT : ∀ (j v : Nat), T[j]? = some v → xs[j]? = some (.int .i64 (v : Int))) (hg : g < w.heap.size) (hn : T.length ≤ n) : NumsAt w g T := by
  rcases own_open h with ⟨e, _⟩ | ⟨g', cap, cur, e, _, hb, _⟩
  · cases e
  · simp only [Value.slice.injEq, Option.some.injEq, Addr.mk.injEq] at e
    obtain ⟨⟨rfl, _⟩, _⟩ := e
    obtain ⟨A, c, e2, _, _, h3⟩ := own_cells h
    cases e2
    refine ⟨fun j v hj => ?_, hb.frozen, hg⟩
    have hlt := (List.getElem?_eq_some_iff.1 hj).1
    obtain ⟨g2, e3, _, _, hc⟩ := h3 (by omega)
    cases e3
    exact hc j _ (hT j v hj)
theorem zeros_made (n : Nat) : ∀ (j v : Nat), (upTo_ n 0)[j]? = some v → (madeCells (Value.int .i64 0).cells (n * 1)).toList[j]? = some (.int .i64 (v : Int)) := by
  intro j v h
  have hj : j < n := by have := (List.getElem?_eq_some_iff.1 h).1; simpa [upTo_] using this
  have hv : v = 0 := by simp [upTo_, hj] at h; exact h.symm
  subst hv
  have h1 : j % 1 = 0 := Nat.mod_one j
  simp [madeCells, Value.cells, hj, h1]
theorem upTo_len (n k : Nat) : (upTo_ n k).length = n := by simp [upTo_]
theorem upTo_get {n k j : Nat} (h : j < n) : (upTo_ n k)[j]? = some (if j < k then j else 0) := by simp [upTo_, h]
theorem upTo_set {n k : Nat} (h : k < n) : (upTo_ n k).set k k = upTo_ n (k + 1) := by
  apply List.ext_getElem?
  intro j
  by_cases e : k = j
  · subst e
    rw [List.getElem?_set_self (by rw [upTo_len]; exact h), upTo_get h, if_pos (by omega)]
  · rw [List.getElem?_set_ne e]
    by_cases hj : j < n
    · rw [upTo_get hj, upTo_get hj]
      by_cases h2 : j < k
      · rw [if_pos h2, if_pos (by omega)]
      · rw [if_neg h2, if_neg (by omega)]
    · rw [List.getElem?_eq_none (by rw [upTo_len]; omega), List.getElem?_eq_none (by rw [upTo_len]; omega)]
/-- The world while the rectangles are grouped. -/
structure FirW (w : World) (len gt gb gm : Nat) (T : List Nat) (D : DataW Unit) (n : Nat) (wr : World) : Prop where
  t : NumsAt wr gt T
  b : wr.cell? ⟨gb, 0, none⟩ = some (.slice (some ⟨gt, 0, none⟩) len len)
  lb : gb < wr.heap.size
  m : wr.ownsGroups (H := Unit) Tryz.prog 3 (gm + 1) 3 .i64 gm n D
  lm : gm < wr.heap.size
  z : Below w.heap.size w wr
theorem FirW.alloc {w : World} {len gt gb gm n : Nat} {T : List Nat} {D : DataW Unit} {wr : World} (h : FirW w len gt gb gm T D n wr) (h1 : gt < gm) (h2 : gb < gm) (hz : w.heap.size ≤ gt) (x : Obj) : FirW w len gt gb gm T D n (wr.alloc x) where
  t := h.t.keeps (keeps_alloc (Keeps.refl (fun _ => False) _) x) (fun h => h)
  b := (World.cell?_alloc_lt _ _ _ h.lb).trans h.b
  lb := by rw [World.size_alloc]; have := h.lb; omega
  m := h.m.kept (World.grownBy_alloc _ _ none) (by simp) (h.m.rowsAbove (fun j hj => by cases hj))
  lm := by rw [World.size_alloc]; have := h.lm; omega
  z := h.z.alloc (by have := h.lm; omega) _
theorem FirW.set {w : World} {len gt gb gm n : Nat} {T : List Nat} {D : DataW Unit} {wr : World} (h : FirW w len gt gb gm T D n wr) (h1 : gt < gm) (h3 : gt ≠ gb) (hz : w.heap.size ≤ gt) {j u : Nat} (hj : j < T.length) : FirW w len gt gb gm (T.set j u) D n (wr.setCell ⟨gt, j, none⟩ (.int .i64 (u : Int))) where
  t := h.t.set hj
  b := (World.cell?_setCell_far _ _ _ _ (by simpa using h3)).trans h.b
  lb := by simpa using h.lb
  m := h.m.kept (grownBy_setAt _ _ _ _) (by simp; omega) (h.m.rowsAbove (fun j hj => by cases hj; omega))
  lm := by simpa using h.lm
  z := h.z.setCell (by simpa using hz) _

theorem NumsAt.grown {w w' : World} {g : Nat} {T : List Nat} {row : Option Nat} (h : NumsAt w g T) (k : w.grownBy w' row) (hn : some g ≠ row) : NumsAt w' g T where
  c j v hj := (World.cell?_of_block (a := ⟨g, j, none⟩) (k.block g h.l hn)).trans (h.c j v hj)
  f j := (World.frozen?_of_block (a := ⟨g, j, none⟩) (k.block g h.l hn)).trans (h.f j)
  l := Nat.lt_of_lt_of_le h.l k.size
theorem FirW.next {w : World} {len gt gb gm n n' : Nat} {T : List Nat} {D D' : DataW Unit} {wc wa w2 : World} {row : Option Nat} (h : FirW w len gt gb gm T D n wc) (h1 : gt < gm) (h2 : gb < gm) (hz : w.heap.size ≤ gt) (hg : wc.grownBy wa row) (hr : ∀ j, row = some j → gm < j)
    (hg2 : wa.grownBy w2 (some gm)) (hm : w2.ownsGroups (H := Unit) Tryz.prog 3 (gm + 1) 3 .i64 gm n' D') : FirW w len gt gb gm T D' n' w2 := by
  have a1 : ∀ g, g < gm → some g ≠ row := fun g hg e => by have := hr g e.symm; omega
  have a2 : ∀ g, g < gm → some g ≠ some gm := fun g hg e => by cases e; omega
  have s1 := hg.size
  have s2 := hg2.size
  have lb := h.lb
  have lm := h.lm
  exact ⟨(h.t.grown hg (a1 _ h1)).grown hg2 (a2 _ h1), (World.cell?_of_block (a := ⟨gb, 0, none⟩) (hg2.block gb (by omega) (a2 _ h2))).trans ((World.cell?_of_block (a := ⟨gb, 0, none⟩) (hg.block gb lb (a1 _ h2))).trans h.b), by omega, hm, by omega,
    (h.z.grown hg (by omega) (fun j hj => by have := hr j hj; omega)).grown hg2 (by omega) (fun j hj => by cases hj; omega)⟩

/-- The world while the slots are joined. -/
theorem FirW.keep {w : World} {len gt gb gm n : Nat} {T T' : List Nat} {D : DataW Unit} {wr w' : World} (h : FirW w len gt gb gm T D n wr) (h1 : gt < gm) (h3 : gt ≠ gb) (hz : w.heap.size ≤ gt) (hN : NumsAt w' gt T') (hK : Keeps (fun x => x = gt) wr w') : FirW w len gt gb gm T' D n w' where
  t := hN
  b := (hK.cell h.lb (fun e => h3 e.symm) 0).trans h.b
  lb := Nat.lt_of_lt_of_le h.lb hK.size
  m := h.m.kept (grownBy_keeps hK) (by simp; omega) (h.m.rowsAbove (fun j hj => by cases hj; omega))
  lm := Nat.lt_of_lt_of_le h.lm hK.size
  z := h.z.grown (grownBy_keeps hK) (by have := h.t.l; omega) (fun j hj => by cases hj; exact hz)
theorem FirW.drew {w : World} {len gt gb gm n : Nat} {T : List Nat} {D : DataW Unit} {wr : World} (h : FirW w len gt gb gm T D n wr) (h1 : gt < gm) (h3 : gt ≠ gb) (hz : w.heap.size ≤ gt) (N : Nat) : FirW w len gt gb gm T D n (wr.drewN N) :=
  h.keep h1 h3 hz (h.t.keeps (keeps_drewN (Keeps.refl (fun _ => False) _) N) (fun h => h)) (keeps_drewN (Keeps.refl _ _) N)
/-- A row of numbers in a block of its own lies so. -/
def RowAt (w : World) (A : Option Addr) (lo : Nat) (zs : List Int) : Prop := 0 < zs.length → ∃ g, A = some ⟨g, 0, none⟩ ∧ lo < g ∧ g < w.heap.size ∧ ∀ q z, zs[q]? = some z → w.cell? ⟨g, q, none⟩ = some (.int .i64 z)
theorem row_at {w : World} {base : Nat} {e : TypeId} {v : Value} {zs : List Int} (h : w.ownsInts base e .i64 v zs) {lo : Nat} (hl : lo < base) : ∃ A c, v = .slice A zs.length c ∧ RowAt w A lo zs := by
  obtain ⟨A, c, e, _, _, h3⟩ := own_cells h.1
  refine ⟨A, c, e, fun h0 => ?_⟩
  obtain ⟨g, e2, h4, h5, hc⟩ := h3 h0
  exact ⟨g, e2, by omega, h5, fun q z hz => hc q _ (by rw [List.getElem?_map, hz]; rfl)⟩
theorem RowAt.keeps {w w' : World} {A : Option Addr} {lo : Nat} {zs : List Int} (h : RowAt w A lo zs) {g : Nat} (hK : Keeps (fun x => x = g) w w') (hg : g ≤ lo) : RowAt w' A lo zs := by
  intro h0
  obtain ⟨g', e2, h4, h5, hc⟩ := h h0
  exact ⟨g', e2, h4, Nat.lt_of_lt_of_le h5 hK.size, fun q z hz => (hK.cell h5 (by omega) q).trans (hc q z hz)⟩
theorem grp_get {l : List R4} {n : Nat} {y : Int} {q : Nat} (h : q < (grp l n y).length) : ∃ j : Nat, (grp l n y)[q]? = some (j : Int) ∧ j < n ∧ (l.getD j ⟨0, 0, 0, 0⟩).y0 = y := by
  have hm := List.getElem_mem h
  obtain ⟨j, _, e⟩ := List.mem_map.1 hm
  have e : (grp l n y)[q] = (j : Int) := e.symm
  rw [e] at hm
  exact ⟨j, by rw [List.getElem?_eq_getElem h, e], grp_mem.1 hm⟩
theorem tch_at {l : List R4} {k j : Nat} {x s : R4} (hx : l[k]? = some x) (hs : l[j]? = some s) (hy : (l.getD j ⟨0, 0, 0, 0⟩).y0 = x.y1) : TchAt l k j ↔ x.x0 < s.x1 ∧ s.x0 < x.x1 := by
  rw [List.getD_eq_getElem?_getD, hs] at hy
  constructor
  · rintro ⟨r, u, h1, h2, _, h3, h4⟩
    rw [hx] at h1; rw [hs] at h2; cases h1; cases h2
    exact ⟨h3, h4⟩
  · exact fun h => ⟨x, s, hx, hs, hy, h.1, h.2⟩
/-- The box of a rectangle. -/
def BoxAt (w : World) (b : Nat) (x : R4) : Prop := b < w.heap.size ∧ w.cell? ⟨b, 0, none⟩ = some (.int .i64 x.x0) ∧ w.cell? ⟨b, 2, none⟩ = some (.int .i64 x.x1) ∧ w.cell? ⟨b, 3, none⟩ = some (.int .i64 x.y1)
theorem BoxAt.keeps {w w' : World} {b g : Nat} {x : R4} (h : BoxAt w b x) (hK : Keeps (fun x => x = g) w w') (hn : b ≠ g) : BoxAt w' b x :=
  ⟨Nat.lt_of_lt_of_le h.1 hK.size, (hK.cell h.1 hn _).trans h.2.1, (hK.cell h.1 hn _).trans h.2.2.1, (hK.cell h.1 hn _).trans h.2.2.2⟩
theorem join_all {T T1 T2 : List Nat} (h1 : Leads T T1) (h2 : Leads T1 T2) {k j : Nat} (hk : k < T.length) (hj : j < T.length) :
    (T2.set (max (rt T k) (rt T1 j)) (min (rt T k) (rt T1 j))).length = T.length ∧ Dn (T2.set (max (rt T k) (rt T1 j)) (min (rt T k) (rt T1 j))) ∧ rt (T2.set (max (rt T k) (rt T1 j)) (min (rt T k) (rt T1 j))) = uni (rt T) (k, j) := by
  have hl : T2.length = T.length := h2.len.trans h1.len
  have e : rt T2 = rt T := funext fun i => (h2.rt i).trans (h1.rt i)
  have := join_uni h2.dn (show k < T2.length by omega) (show j < T2.length by omega)
  rw [e, hl, ← h1.rt j] at this
  exact this
theorem join_facts {w : World} {g n : Nat} {T : List Nat} (h : NumsAt w g T) (hn : T.length = n) {a b : Nat} (ha : a < n) (hb : b < n) :
    (0 ≤ max (a : Int) (b : Int) ∧ max (a : Int) (b : Int) < (n : Int)) ∧ w.frozen? ⟨g, (max (a : Int) (b : Int)).toNat, none⟩ = false ∧ ∃ v, w.cell? ⟨g, (max (a : Int) (b : Int)).toNat, none⟩ = some v :=
  ⟨by omega, h.f _, _, h.c _ _ (List.getElem?_eq_getElem (by omega))⟩
theorem join_set {w : World} {g : Nat} {T : List Nat} (h : NumsAt w g T) {a b : Nat} (ha : a < T.length) (hb : b < T.length) :
    NumsAt (w.setCell ⟨g, (max (a : Int) (b : Int)).toNat, none⟩ (.int .i64 (min (a : Int) (b : Int)))) g (T.set (max a b) (min a b)) := by
  have e1 : (max (a : Int) (b : Int)).toNat = max a b := by omega
  have e2 : min (a : Int) (b : Int) = ((min a b : Nat) : Int) := by omega
  rw [e1, e2]
  exact h.set (by omega)
theorem slots_end {T U : List Nat} {l : List R4} (hl : U.length = l.length) (h : ∀ j, j < l.length → U.getD j j = rt T j) (hf : rt T = fst_ l) : U = (List.range l.length).map (fst_ l) := by
  apply List.ext_getElem?
  intro j
  by_cases hj : j < l.length
  · have h1 := h j hj
    rw [List.getD_eq_getElem?_getD, List.getElem?_eq_getElem (by omega)] at h1
    rw [List.getElem?_eq_getElem (by omega), List.getElem?_map, List.getElem?_range hj, ← hf]
    exact congrArg some h1
  · rw [List.getElem?_eq_none (by omega), List.getElem?_eq_none (by simp; omega)]
theorem slots_next {T U U1 : List Nat} (hL : Leads T U) (hL1 : Leads U U1) {m : Nat} (hm : m < U1.length) (hE : ∀ j, j < m → U.getD j j = rt T j) :
    Leads T (U1.set m (rt U m)) ∧ ∀ j, j < m + 1 → (U1.set m (rt U m)).getD j j = rt T j := by
  have e : rt U m = rt U1 m := (hL1.rt m).symm
  have hs : Leads U1 (U1.set m (rt U m)) := by
    rw [e]
    exact leads_set hL1.dn hm (rt_le U1 m) (rt_root (rt_stays hL1.dn m)) (fun _ => rfl) (fun h => h)
  refine ⟨(hL.trans hL1).trans hs, fun j hj => ?_⟩
  rw [getD_set _ _ _ _ hm]
  by_cases h : j = m
  · subst h
    rw [if_pos rfl]
    exact hL.rt j
  · rw [if_neg h, hL1.fin j ((hE j (by omega)).trans (hL.rt j).symm)]
    exact hL.rt j

set_option maxRecDepth 100000 in
set_option maxHeartbeats 4000000 in
theorem firsts_any (A : Option Addr) (l : List R4) (c : Nat) (w : World) (hl : l.length ≤ 20000) (hin : ∀ r, r ∈ l → Ry r) (h : Rd w A l) :
    Calls Tryz.prog 45 #[.slice A l.length c] w fun e w' => ∃ g cc, e = .returned (.slice (some ⟨g, 0, none⟩) l.length cc) ∧ NumsAt w' g ((List.range l.length).map (fst_ l)) ∧ w.heap.size ≤ g ∧ Below w.heap.size w w' := by
  obtain ⟨i0, hi0, hz0, hz1, hz2⟩ := info_parts infoI
  have hmm := @run_makeMap Tryz.prog
  have H0 := Lib.hid h
  have HIN := Lib.hid (fun (r : R4) (hr : r ∈ l) => (show (-2000000 ≤ r.y0 ∧ r.y0 ≤ 2000000) ∧ (-2000000 ≤ r.y1 ∧ r.y1 ≤ 2000000) from hin r hr))
  clear h hin
  go_enter Tryz.func45, Tryz.ntmps45
  go_wp2_with (first | (at_make; refine wpList_make_full _ rfl (.tmp 16) (.tmp 16) 73 rfl w.heap.size 3 i0 (.int .i64 0) 1 Tryz.underlying73 hi0 hz0 hz1 .i64 .i64 (l.length : Int) (l.length : Int) l.length rfl rfl rfl rfl ?m1 ?m2 ?m3 ?_; (case m1 => rw [hz2]; omega); (case m2 => simp only [maxLen]; omega); (case m3 => omega); intro w1 hown hg; have HO := Lib.hid hown; have HG := Lib.hid hg; clear hown hg))
  have lt0 := (HO.out.lt w.heap.size rfl).2
  have l1 : w.heap.size < w1.heap.size := lt0
  have BW := (Below.refl w.heap.size w).grown HG.out (Nat.le_refl _) (fun j hj => by cases hj)
  have D0 := Lib.hid (grpD_start l)
  have N0 := Lib.hid (nums_made HO.out (zeros_made l.length) lt0 (by rw [upTo_len]; exact Nat.le_refl _))
  go_loopw [21] (fun i wr => ∃ (k : Nat) (D : DataW Unit), k ≤ l.length ∧ i = .int .i64 k ∧ GrpD l k D ∧ FirW w l.length w.heap.size w1.heap.size (w1.heap.size + 1) (upTo_ l.length k) D k wr) (fun i _ => l.length - (intOf i).toNat)
  case atStart =>
    refine ⟨0, .map [], Nat.zero_le _, rfl, D0.out, ⟨?_, by simp [go_sem], by simp; omega, ?_, by simp, by (repeat' (first | (with_reducible exact Below.refl _ _) | (with_reducible assumption) | (with_reducible refine Below.alloc ?_ ?_ _) | (with_reducible refine Below.drew ?_) | (with_reducible refine below_drewN ?_ _) | (with_reducible refine Below.setCell ?_ ?_ _) | (with_reducible exact Nat.le_refl _) | omega | (simp only [World.size_alloc, World.size_setCell, World.size_drew]; omega) | (simp; omega) | (simp; done)))⟩⟩
    · exact (N0.out.keeps (keeps_alloc (Keeps.refl (fun _ => False) _) _) (fun h => h)).keeps (keeps_alloc (Keeps.refl (fun _ => False) _) _) (fun h => h)
    · have := World.ownsGroups_made (H := Unit) (w1.alloc (.cells #[.slice (some ⟨w.heap.size, 0, none⟩) l.length l.length] 73)) Tryz.prog 3 3 .i64
      simpa using this
  case round =>
    obtain ⟨k, D, hk, rfl, hD, hW⟩ := hrel
    have HD := Lib.hid hD
    have HW := Lib.hid hW
    clear hD hW D0 N0
    have zw := HW.out.z.size
    have hkz : (0 : Int) ≤ (k : Int) := by omega
    have hbox := HW.out.b
    have lbox := HW.out.lb
    have lmap := HW.out.lm
    by_cases hlt : k < l.length
    · obtain ⟨b, off, e, hb, hc⟩ := H0.out.below HW.out.z (by omega)
      subst e
      have hi := List.getElem?_eq_getElem hlt
      obtain ⟨d0, d1, d2, d3⟩ := hc k _ hi
      have HY := Lib.hid (show (l.getD k ⟨0, 0, 0, 0⟩).y0 = l[k].y0 from by rw [List.getD_eq_getElem?_getD, hi]; rfl)
      have hmem : l[k] ∈ l := List.getElem_mem hlt
      clear hc hi
      generalize l[k] = x at *
      have hklt : (k : Int) < (l.length : Int) := by omega
      have hz : 0 < l.length := by omega
      obtain ⟨cz, hcz⟩ : ∃ v, wr.cell? ⟨w.heap.size, k, none⟩ = some v := ⟨_, HW.out.t.c k _ (upTo_get hlt)⟩
      have fz := HW.out.t.f k
      have l2 : w.heap.size < wr.heap.size := HW.out.t.l
      have n1 : ¬ w.heap.size = w1.heap.size := Nat.ne_of_lt l1
      have n2 : ¬ w1.heap.size = w.heap.size := fun h => n1 h.symm
      have n3 : ¬ w1.heap.size = wr.heap.size := by omega
      have n4 : ¬ wr.heap.size = w1.heap.size := by omega
      have n5 : ¬ w.heap.size = wr.heap.size := by omega
      have n6 : ¬ wr.heap.size = w.heap.size := by omega
      obtain ⟨w8, rfl⟩ : ∃ w8, w8 = wr := ⟨wr, rfl⟩
      go_upto_region 6 with fail
      go_cut [] (fun wx => FirW w l.length w.heap.size w1.heap.size (w1.heap.size + 1) (upTo_ l.length (k + 1)) D k wx ∧ wx.cell? ⟨w8.heap.size, 1, none⟩ = some (.int .i64 x.y0) ∧ wx.heap[w8.heap.size]? = some (.cells #[.int .i64 x.x0, .int .i64 x.y0, .int .i64 x.x1, .int .i64 x.y1] 30) ∧ w8.heap.size < wx.heap.size)
      case first =>
        go_wp2_with fail
        go_meet
        exact ⟨by rw [← upTo_set hlt]; exact (HW.out.set (by omega) (Nat.ne_of_lt l1) (Nat.le_refl _) (by rw [upTo_len]; exact hlt)).alloc (by omega) (by omega) (Nat.le_refl _) _, by simp [go_sem], by simpa using heap_alloc_new (w8.setCell ⟨w.heap.size, k, none⟩ (.int .i64 (k : Int))) (.cells #[.int .i64 x.x0, .int .i64 x.y0, .int .i64 x.x1, .int .i64 x.y1] 30), by (first | (with_reducible exact Nat.le_refl _) | (with_reducible assumption) | omega | (simp only [World.size_alloc, World.size_setCell, World.size_drew]; omega) | (simp; omega) | (simp; done))⟩
      case rest =>
        obtain ⟨hF, hx, hxh, hxl⟩ := hcut
        have HF := Lib.hid hF
        have hwf : (Lit.int .i64 x.y0).wf = true := WalkArith.wf_i64 (by have := HIN.out x hmem; omega)
        have hM := hF.m
        have zc := hF.z.size
        have lc := hF.lm
        clear hF
        obtain ⟨v, zs, hrun, hat, hoi, hzl, hback⟩ := hM.at (Maps.int_keyed Tryz.underlying3) Tryz.underlying119 (zeroInts _) (by unfold maxLen; omega) (key := .int .i64 x.y0) (kl := .int .i64 x.y0) (Maps.keyOf_int_mk Tryz.underlying3 hwf)
        have hzs := row_gdat hoi ((HD.out.2 x.y0).symm.trans hat)
        subst hzs
        have ag : v.ownBlock ≠ some w8.heap.size := by
          intro e
          rcases own_open hoi.1 with ⟨rfl, _⟩ | ⟨g', cap, cur, rfl, _, hb', _⟩
          · cases e
          · simp only [Value.ownBlock, Option.some.injEq] at e
            subst e
            unfold Blk at hb'
            rw [hxh] at hb'
            simp at hb'
        have LK := Lib.hid (fun W (hb : W.heap[w1.heap.size + 1]? = wc.heap[w1.heap.size + 1]?) => look_again (w' := W) hM (Maps.int_keyed Tryz.underlying3) Tryz.underlying119 zeroInts (Maps.keyOf_int_mk Tryz.underlying3 hwf) hrun hb)
        have L1 := LK.out wc.drew rfl
        have L2 := fun o => LK.out (wc.alloc o).drew (by show (wc.alloc o).heap[_]? = _; simp only [World.alloc]; rw [Array.getElem?_push_lt lc, ← Array.getElem?_eq_getElem])
        have HAT := Lib.hid hat
        have HXH := Lib.hid hxh
        have glen := grp_len l k x.y0
        have HOI := Lib.hid hoi
        have HBK := Lib.hid hback
        clear LK hat hxh hrun hoi hback
        generalize hZ : grp l k x.y0 = zs at *
        go_wp2_with fail
        go_region_held3 (fun w' => w'.cell? ⟨w8.heap.size, 1, none⟩ = some (.int .i64 x.y0)) (first | (focus ((with_reducible assumption); done)) | (focus (rw [hgrow2.cell_far _ (by simp; omega) (by simp; omega)]; assumption)) | (focus (rw [hgrow.cell_far _ (by simp; omega) (Ne.symm ag)]; assumption)) | go_keep)
          (first
            | (refine step_append_lies _ rfl (.tmp 36) (.tmp 38) 73 rfl (w1.heap.size + 1 + 1) 3 i0 (.int .i64 0) 1 8 Tryz.underlying73 hi0 hz0 hz1 hz2 rfl (by omega) v zs.length (zs.map (Value.int .i64)) rfl ((HOI.out.1.alloc _).drew) ⟨wc.heap.size, 0, none⟩ 1 1 [.int .i64 k] rfl rfl (cell_one_new _ _ _) (by simp [Value.oneCell']) (by omega) (by unfold maxLen; omega) (by omega) (by simp; omega) (wc.heap.size + 1) (by simp) ?_; intro gg cap w5 hown5 hgrow hat5 hlt5; have y5 := hgrow.size; (try simp only [World.size_alloc, World.size_setCell, World.size_drew] at y5); obtain ⟨w2, hrun2, hown2, hgrow2⟩ := HBK.out w5 (.slice (some ⟨gg, 0, none⟩) (zs.length + 1) cap) (zs ++ [(k : Int)]) ((gb_drew (World.grownBy_alloc wc _ v.ownBlock)).trans hgrow) (HOI.out.appended hown5 (WalkArith.wf_i64 (by omega))) (by simp; omega) (hat5.imp (fun h => h.symm) (fun h => ⟨gg, rfl, by omega⟩))))
        go_wp2_with fail
        all_goals
          refine ⟨⟨k + 1, D.put (.int .i64 x.y0) (rowDatum .i64 (.slice (some ⟨gg, 0, none⟩) (zs.length + 1) cap) (zs ++ [(k : Int)])), by omega, by go_num, ?_, HF.out.next (by omega) (by omega) (Nat.le_refl _) ((gb_drew (World.grownBy_alloc wc _ v.ownBlock)).trans hgrow) (fun j hj => by have := (HOI.out.1.lt j hj).1; omega) hgrow2 hown2⟩, by simp [intOf]; omega⟩
          have h9 := grpD_put (v := .slice (some ⟨gg, 0, none⟩) (zs.length + 1) cap) (w := w5) (base := w1.heap.size + 1 + 1) (e := 3) HD.out HY.out (by rw [hZ]; exact HOI.out.appended hown5 (WalkArith.wf_i64 (by omega)))
          rw [hZ] at h9
          exact h9
    · obtain rfl : k = l.length := by omega
      clear hlt hk hkz zw hbox lbox lmap
      have hg1 : w.heap.size ≠ w1.heap.size := Nat.ne_of_lt l1
      have hg2 : w.heap.size < w1.heap.size + 1 := by omega
      go_wp2_with fail
      go_loopw [44] (fun i wx => ∃ (m : Nat) (T : List Nat), m ≤ l.length ∧ i = .int .i64 m ∧ Cls (EK l m) (rt T) ∧ Dn T ∧ T.length = l.length ∧ FirW w l.length w.heap.size w1.heap.size (w1.heap.size + 1) T D l.length wx) (fun i _ => l.length - (intOf i).toNat)
      case atStart =>
        have hid : ∀ j, (upTo_ l.length l.length).getD j j = j := fun j => by
          by_cases hj : j < l.length
          · rw [List.getD_eq_getElem?_getD, upTo_get hj, if_pos hj]; rfl
          · rw [List.getD_eq_getElem?_getD, List.getElem?_eq_none (by rw [upTo_len]; omega)]; rfl
        exact ⟨0, _, Nat.zero_le _, rfl, cls_id _ hid l, fun j => by rw [hid j]; exact Nat.le_refl _, upTo_len _ _, HW.out⟩
      case round =>
        clear HW
        obtain ⟨k, T, hk, rfl, hC, hd, hT, hW⟩ := hrel
        have HC := Lib.hid hC
        have HDn := Lib.hid hd
        have HT := Lib.hid hT
        have HW := Lib.hid hW
        clear hC hd hT hW
        have zw := HW.out.z.size
        have hkz : (0 : Int) ≤ (k : Int) := by omega
        have hbox := HW.out.b
        have lbox := HW.out.lb
        have lmap := HW.out.lm
        by_cases hlt : k < l.length
        · obtain ⟨b, off, e, hb, hc⟩ := H0.out.below HW.out.z (by omega)
          subst e
          have hi := List.getElem?_eq_getElem hlt
          obtain ⟨d0, d1, d2, d3⟩ := hc k _ hi
          have HX := Lib.hid hi
          have hmem : l[k] ∈ l := List.getElem_mem hlt
          clear hc hi
          generalize l[k] = x at *
          have hklt : (k : Int) < (l.length : Int) := by omega
          obtain ⟨w8, rfl⟩ : ∃ w8, w8 = wr := ⟨wr, rfl⟩
          go_upto_region 12 with fail
          go_cut [8, 9] (fun s8 s9 wx => s8 = .int .i64 k ∧ s9 = .pointer (some ⟨w8.heap.size, 0, none⟩) ∧ FirW w l.length w.heap.size w1.heap.size (w1.heap.size + 1) T D l.length wx ∧ BoxAt wx w8.heap.size x)
          case first =>
            go_wp2_with fail
            go_meet
            exact ⟨rfl, rfl, HW.out.alloc (by omega) (by omega) (Nat.le_refl _) _, by (first | (with_reducible exact Nat.le_refl _) | (with_reducible assumption) | omega | (simp only [World.size_alloc, World.size_setCell, World.size_drew]; omega) | (simp; omega) | (simp; done)), by simp [go_sem], by simp [go_sem], by simp [go_sem]⟩
          case rest =>
            obtain ⟨rfl, rfl, hF, hX⟩ := hcut
            have hzx : w8.heap.size ≠ w.heap.size := by omega
            have HF := Lib.hid hF
            have HB := Lib.hid hX
            have hwf : (Lit.int .i64 x.y1).wf = true := WalkArith.wf_i64 (by have := HIN.out x hmem; omega)
            obtain ⟨v, zs, hrun, hat, hoi, hzl, hback⟩ := hF.m.at (Maps.int_keyed Tryz.underlying3) Tryz.underlying119 (zeroInts _) (by unfold maxLen; omega) (key := .int .i64 x.y1) (kl := .int .i64 x.y1) (Maps.keyOf_int_mk Tryz.underlying3 hwf)
            have hzs := row_gdat hoi ((HD.out.2 x.y1).symm.trans hat)
            subst hzs
            obtain ⟨A2, c2, rfl, hR⟩ := row_at hoi (lo := w.heap.size) (by omega)
            have HR := Lib.hid hR
            have hx3 := hX.2.2.2
            clear hF hX hR hoi hback hat HW hbox lbox lmap d0 d1 d2 d3
            generalize w8.heap.size = bx at *
            clear zw
            go_wp2_with fail
            go_loopw [54] (fun i wy => ∃ (q : Nat) (U : List Nat), q ≤ (grp l l.length x.y1).length ∧ i = .int .i64 q ∧ Cls (EKm l k (grp l l.length x.y1) q) (rt U) ∧ Dn U ∧ U.length = l.length ∧ FirW w l.length w.heap.size w1.heap.size (w1.heap.size + 1) U D l.length wy ∧ BoxAt wy bx x ∧ RowAt wy A2 w.heap.size (grp l l.length x.y1)) (fun i _ => (grp l l.length x.y1).length - (intOf i).toNat)
            case atStart => exact ⟨0, T, Nat.zero_le _, rfl, cls_in HC.out, HDn.out, HT.out, HF.out, HB.out, HR.out⟩
            case round =>
              clear HF HB HR HC HDn HT hx3
              obtain ⟨q, U, hq, rfl, hC, hd, hU, hF, hB, hR⟩ := hrel
              have HC := Lib.hid hC
              have HDn := Lib.hid hd
              have HU := Lib.hid hU
              have HF := Lib.hid hF
              have HB := Lib.hid hB
              have HR := Lib.hid hR
              have zw := hF.z.size
              have hbox := hF.b
              have lbox := hF.lb
              have lmap := hF.lm
              have hqz : (0 : Int) ≤ (q : Int) := by omega
              obtain ⟨lB, x0, x2, x3⟩ := hB
              clear hC hd hU hF x3
              by_cases hqlt : q < (grp l l.length x.y1).length
              · obtain ⟨j, hj, hjl, hjy⟩ := grp_get hqlt
                obtain ⟨gr, rfl, hgr1, hgr2, hgr3⟩ := hR (by omega)
                have hrow := hgr3 q _ hj
                clear hgr3 hR
                obtain ⟨b', off', e', hb, hc⟩ := H0.out.below HF.out.z (by omega)
                simp only [Option.some.injEq, Addr.mk.injEq] at e'
                obtain ⟨rfl, rfl, _⟩ := e'
                have hs := List.getElem?_eq_getElem hjl
                obtain ⟨d0, d1, d2, d3⟩ := hc j _ hs
                have htch := tch_at HX.out hs hjy
                have HJ := Lib.hid hj
                clear hc hs hjy d1 d3 hj
                generalize l[j] = s at *
                have hHT := Lib.hid htch
                clear htch
                have hqlt' : (q : Int) < ((grp l l.length x.y1).length : Int) := by omega
                have hjl' : (j : Int) < (l.length : Int) := by omega
                have hjz : (0 : Int) ≤ (j : Int) := by omega
                by_cases c1 : x.x0 < s.x1
                · have c1' : decide (x.x0 < s.x1) = true := by simp; omega
                  by_cases c2 : s.x0 < x.x1
                  · have c2' : decide (s.x0 < x.x1) = true := by simp; omega
                    have hU9 := HU.out
                    have C1 := Lib.hid (fun N => root_any w1.heap.size w.heap.size l.length U k (wr.drewN N) HDn.out (by omega) (by omega) lbox hg1.symm (by rw [hU9]; exact hbox) (HF.out.drew (by omega) hg1 (Nat.le_refl _) N).t)
                    have ra : rt U k ≤ k := rt_le U k
                    have rb : rt U j ≤ j := rt_le U j
                    clear hU9
                    go_wp2_with fail
                    go_quiet (fail)
                    go_wp2_with (first | (go_at_call_of 85 (Value.int .i64 (k : Int)); refine (C1.out _).mono ?_; rintro e wa ⟨U1, hL1, rfl, hN1, hK1⟩; have HL1 := Lib.hid hL1; have HN1 := Lib.hid hN1; have HK1 := Lib.hid hK1; clear hL1 hN1 hK1; have HF1 := Lib.hid ((HF.out.drew (by omega) hg1 (Nat.le_refl _) _).keep (by omega) hg1 (Nat.le_refl _) HN1.out HK1.out)) | (go_at_call_of 85 (Value.int .i64 (j : Int)); refine (root_any w1.heap.size w.heap.size l.length U1 j wa HL1.out.dn (by rw [HL1.out.len, HU.out]; exact hjl) (by rw [HL1.out.len, HU.out]; omega) HF1.out.lb hg1.symm (by rw [HL1.out.len, HU.out]; exact HF1.out.b) HN1.out).mono ?_; rintro e wb ⟨U2, hL2, rfl, hN2, hK2⟩; have HL2 := Lib.hid hL2; have HN2 := Lib.hid hN2; have HK2 := Lib.hid hK2; clear hL2 hN2 hK2; have HF2 := Lib.hid (HF1.out.keep (by omega) hg1 (Nat.le_refl _) HN2.out HK2.out); have hbox2 := HF2.out.b; have lbox2 := HF2.out.lb; obtain ⟨hm1, hm2, cv, hm3⟩ := join_facts (n := l.length) HN2.out (by rw [HL2.out.len, HL1.out.len, HU.out]) (a := rt U k) (b := rt U1 j) (by omega) (by rw [HL1.out.rt]; omega)))
                    go_roundw
                    case rel =>
                      obtain ⟨j1, j2, j3⟩ := join_all HL1.out HL2.out (k := k) (j := j) (by rw [HU.out]; exact hlt) (by rw [HU.out]; exact hjl)
                      have l2 : U2.length = l.length := by rw [HL2.out.len, HL1.out.len, HU.out]
                      have kk := keeps_set (S := fun x => x = w.heap.size) (p := ⟨w.heap.size, (max (rt U k : Int) (rt U1 j : Int)).toNat, none⟩) (Keeps.refl _ wb) (fun _ => rfl) (.int .i64 (min (rt U k : Int) (rt U1 j : Int)))
                      have k0 : Keeps (fun x => x = w.heap.size) wr _ := ((keeps_drewN (Keeps.refl _ _) nq).trans HK1.out (fun _ _ h => h)).trans (HK2.out.trans kk (fun _ _ h => h)) (fun _ _ h => h)
                      exact ⟨q + 1, _, by omega, by go_num, by rw [j3]; exact cls_step HJ.out (hHT.out.2 ⟨c1, c2⟩) HC.out, j2, by rw [j1]; exact HU.out, HF2.out.keep (by omega) hg1 (Nat.le_refl _) (join_set HN2.out (by omega) (by rw [HL1.out.rt]; omega)) kk, HB.out.keeps k0 hzx, HR.out.keeps k0 (Nat.le_refl _)⟩
                    case measure => simp [intOf]; omega
                  · have c2' : decide (s.x0 < x.x1) = false := by simp; omega
                    go_wp2_with fail
                    go_quiet (fail)
                    go_wp2_with fail
                    go_roundw
                    case rel => exact ⟨q + 1, U, by omega, by go_num, cls_skip HJ.out (fun h => by have := hHT.out.1 h; omega) HC.out, HDn.out, HU.out, HF.out.drew (by omega) hg1 (Nat.le_refl _) _, HB.out.keeps (keeps_drewN (Keeps.refl (fun x => x = w.heap.size) _) _) hzx, HR.out.keeps (keeps_drewN (Keeps.refl (fun x => x = w.heap.size) _) _) (Nat.le_refl _)⟩
                    case measure => simp [intOf]; omega
                · have c1' : decide (x.x0 < s.x1) = false := by simp; omega
                  go_wp2_with fail
                  go_quiet (fail)
                  go_wp2_with fail
                  go_roundw
                  case rel => exact ⟨q + 1, U, by omega, by go_num, cls_skip HJ.out (fun h => by have := hHT.out.1 h; omega) HC.out, HDn.out, HU.out, HF.out.drew (by omega) hg1 (Nat.le_refl _) _, HB.out.keeps (keeps_drewN (Keeps.refl (fun x => x = w.heap.size) _) _) hzx, HR.out.keeps (keeps_drewN (Keeps.refl (fun x => x = w.heap.size) _) _) (Nat.le_refl _)⟩
                  case measure => simp [intOf]; omega
              · obtain rfl : q = (grp l l.length x.y1).length := by omega
                go_wp2_with fail
                go_roundw
                case rel => exact ⟨k + 1, U, by omega, by go_num, cls_out HX.out HC.out, HDn.out, HU.out, HF.out⟩
                case measure => simp [intOf]; omega
        · obtain rfl : k = l.length := by omega
          clear hlt hk hkz zw hbox lbox lmap
          have hbox := HW.out.b
          have lbox := HW.out.lb
          have hTl := HT.out
          go_wp2_with fail
          go_loopw [94] (fun i wx => ∃ (m : Nat) (U : List Nat), m ≤ l.length ∧ i = .int .i64 m ∧ Leads T U ∧ (∀ j, j < m → U.getD j j = rt T j) ∧ FirW w l.length w.heap.size w1.heap.size (w1.heap.size + 1) U D l.length wx) (fun i _ => l.length - (intOf i).toNat)
          case atStart => exact ⟨0, T, Nat.zero_le _, rfl, .refl HDn.out, fun j h => absurd h (by omega), HW.out⟩
          case round =>
            clear HW hbox lbox
            obtain ⟨m, U, hm, rfl, hL, hE, hW⟩ := hrel
            have HL := Lib.hid hL
            have HE := Lib.hid hE
            have HW := Lib.hid hW
            have hU : U.length = l.length := hL.len.trans hTl
            have hbox := hW.b
            have lbox := hW.lb
            have zw := hW.z.size
            have hmz : (0 : Int) ≤ (m : Int) := by omega
            clear hL hE hW
            by_cases hlt : m < l.length
            · have hml : (m : Int) < (l.length : Int) := by omega
              have C1 := Lib.hid (fun N => root_any w1.heap.size w.heap.size l.length U m (wr.drewN N) HL.out.dn (by omega) (by omega) lbox hg1.symm (by rw [hU]; exact hbox) (HW.out.drew (by omega) hg1 (Nat.le_refl _) N).t)
              have HU := Lib.hid hU
              have HTl := Lib.hid hTl
              clear hU hTl
              go_wp2_with fail
              go_region_held3 (fun w' => w'.cell? ⟨w1.heap.size, 0, none⟩ = some (.slice (some ⟨w.heap.size, 0, none⟩) l.length l.length)) (first | (focus ((with_reducible assumption); done)) | go_keep)
                (first | (go_at_call_of 85 (Value.int .i64 (m : Int)); refine (C1.out _).mono ?_; rintro e wa ⟨U1, hL1, rfl, hN1, hK1⟩; have HL1 := Lib.hid hL1; have HN1 := Lib.hid hN1; have HK1 := Lib.hid hK1; clear hL1 hN1 hK1; have HF1 := Lib.hid ((HW.out.drew (by omega) hg1 (Nat.le_refl _) _).keep (by omega) hg1 (Nat.le_refl _) HN1.out HK1.out); have hbox1 := HF1.out.b; have lbox1 := HF1.out.lb; have fz := HN1.out.f m; obtain ⟨cv, hcv⟩ : ∃ v, wa.cell? ⟨w.heap.size, m, none⟩ = some v := ⟨_, HN1.out.c m _ (List.getElem?_eq_getElem (by rw [HL1.out.len, HU.out]; exact hlt))⟩))
              go_wp2_with fail
              all_goals
                go_roundw
                case rel =>
                  have l2 : U1.length = l.length := by rw [HL1.out.len, HU.out]
                  obtain ⟨n1, n2⟩ := slots_next HL.out HL1.out (m := m) (by omega) HE.out
                  exact ⟨m + 1, _, by omega, by go_num, n1, n2, HF1.out.set (by omega) hg1 (Nat.le_refl _) (by omega)⟩
                case measure => simp [intOf]; omega
            · obtain rfl : m = l.length := by omega
              have hend := Lib.hid (slots_end hU HE.out (cls_end HC.out))
              clear hU
              go_wp2_with fail
              go_ret
              refine ⟨_, _, rfl, ?_, Nat.le_refl _, HW.out.z⟩
              have h9 := HW.out.t
              rw [hend.out] at h9
              exact h9
end Go.Proofs.YtjcbngpgmgeanaaGreat

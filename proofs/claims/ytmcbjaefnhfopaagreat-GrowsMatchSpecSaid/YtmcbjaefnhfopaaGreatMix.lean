/- The plain mathematics of the reference's way to combine two regions. -/
import Derived.Test.YtmcbjaefnhfopaaGreatSweep
import Derived.Test.YtmcbjaefnhfopaaGreatRefI
namespace Go.Proofs.YtmcbjaefnhfopaaGreat
open Reg (R4 Span Band inR inS told rowL heightsL bandsFrom SepF joinedL putL Kept sweepL)
set_option linter.unusedSimpArgs false
set_option linter.unusedVariables false

/-- Points of spans, in order, once each. -/
def ptsFrom : List Int → List Span → List Int
  | acc, [] => acc
  | acc, s :: l => ptsFrom (putL (putL acc s.1) s.2) l
theorem ptsFrom_ok (l : List Span) : ∀ acc : List Int, acc.Pairwise (· < ·) → (ptsFrom acc l).Pairwise (· < ·) ∧ ∀ y, y ∈ ptsFrom acc l ↔ y ∈ acc ∨ ∃ s, s ∈ l ∧ (y = s.1 ∨ y = s.2) := by
  induction l with
  | nil => intro acc h; exact ⟨h, fun y => by simp [ptsFrom]⟩
  | cons s l ih =>
    intro acc h
    obtain ⟨h1, h2⟩ := ih _ (Reg.putL_sorted (Reg.putL_sorted h))
    refine ⟨h1, fun y => ?_⟩
    rw [ptsFrom, h2, Reg.mem_putL, Reg.mem_putL]
    simp only [List.mem_cons, exists_eq_or_imp]
    constructor
    · rintro ((h | h | h) | h)
      · exact .inr (.inl (.inr h))
      · exact .inr (.inl (.inl h))
      · exact .inl h
      · exact .inr (.inr h)
    · rintro (h | (h | h) | h)
      · exact .inl (.inr (.inr h))
      · exact .inl (.inr (.inl h))
      · exact .inl (.inl h)
      · exact .inr h
def joinFrom (ks : Int → Bool) : List Span → List Int → List Span
  | acc, p :: q :: t => joinFrom ks (if ks p then joinedL acc (p, q) else acc) (q :: t)
  | acc, _ => acc
def betweenS (ks : Int → Bool) : List Int → Int → Prop
  | p :: q :: t, x => (p ≤ x ∧ x < q ∧ ks p = true) ∨ betweenS ks (q :: t) x
  | _, _ => False
theorem joinFrom_ok (ks : Int → Bool) : ∀ (ys : List Int) (acc : List Span), (∃ z, SepF z acc) → ys.Pairwise (· < ·) → (∃ z, SepF z (joinFrom ks acc ys)) ∧ ∀ x, inS (joinFrom ks acc ys) x ↔ inS acc x ∨ betweenS ks ys x
  | [], acc, h, _ => ⟨h, fun x => by simp [joinFrom, betweenS]⟩
  | [p], acc, h, _ => ⟨h, fun x => by simp [joinFrom, betweenS]⟩
  | p :: q :: t, acc, h, hp => by
    have hp2 := (List.pairwise_cons.1 hp)
    have hpq : p < q := hp2.1 q (by simp)
    by_cases hk : ks p = true
    · obtain ⟨z, hz⟩ := h
      obtain ⟨z', hz1, hz2⟩ := hz.low p
      obtain ⟨j1, j2⟩ := Reg.joined_ok (s := (p, q)) hz2 hz1 hpq
      obtain ⟨i1, i2⟩ := joinFrom_ok ks (q :: t) (joinedL acc (p, q)) ⟨_, j1⟩ hp2.2
      rw [joinFrom, if_pos hk]
      refine ⟨i1, fun x => ?_⟩
      rw [i2, j2, betweenS]
      simp only [hk, and_true]
      constructor
      · rintro ((h | h) | h)
        · exact .inr (.inl h)
        · exact .inl h
        · exact .inr (.inr h)
      · rintro (h | h | h)
        · exact .inl (.inr h)
        · exact .inl (.inl h)
        · exact .inr h
    · obtain ⟨i1, i2⟩ := joinFrom_ok ks (q :: t) acc h hp2.2
      rw [joinFrom, if_neg hk]
      refine ⟨i1, fun x => ?_⟩
      rw [i2, betweenS]
      simp only [hk, and_false, false_or]
      simp
theorem betweenS_head {ks : Int → Bool} {x : Int} : ∀ {ys : List Int} {p : Int}, (p :: ys).Pairwise (· < ·) → betweenS ks (p :: ys) x → p ≤ x
  | [], p, _, h => by simp [betweenS] at h
  | q :: t, p, hp, h => by
    rw [betweenS] at h
    rcases h with h | h
    · exact h.1
    · have := betweenS_head (List.pairwise_cons.1 hp).2 h
      have := (List.pairwise_cons.1 hp).1 q (by simp)
      omega
theorem betweenS_iff {ks : Int → Bool} {P : Int → Prop} : ∀ (ys : List Int), ys.Pairwise (· < ·) → ∀ x, (∀ p, p ∈ ys → p ≤ x → (∀ r, r ∈ ys → r ≤ p ∨ x < r) → (ks p = true ↔ P x)) → ((∀ q, q ∈ ys → q ≤ x) → ¬ P x) → ((∀ p, p ∈ ys → x < p) → ¬ P x) → (betweenS ks ys x ↔ P x)
  | [], _, x, _, h2, _ => by
    have := h2 (fun q hq => by simp at hq)
    simp [betweenS, this]
  | [p], _, x, _, h2, h3 => by
    have hn : ¬ P x := by
      by_cases hpx : p ≤ x
      · exact h2 fun q hq => by simp at hq; omega
      · exact h3 fun q hq => by simp at hq; omega
    simp [betweenS, hn]
  | p :: q :: t, hp, x, h1, h2, h3 => by
    have hp2 := List.pairwise_cons.1 hp
    have hp3 := List.pairwise_cons.1 hp2.2
    have hpq : p < q := hp2.1 q (by simp)
    rw [betweenS]
    by_cases hxp : x < p
    · have hn : ¬ P x := h3 fun r hr => by
        rcases List.mem_cons.1 hr with rfl | hr
        · exact hxp
        · have := hp2.1 r hr; omega
      have hb : ¬ betweenS ks (q :: t) x := fun h => by have := betweenS_head hp2.2 h; omega
      simp [hn, hb]
      omega
    · by_cases hxq : x < q
      · have hb : ¬ betweenS ks (q :: t) x := fun h => by have := betweenS_head hp2.2 h; omega
        have hk := h1 p (by simp) (by omega) fun r hr => by
          rcases List.mem_cons.1 hr with rfl | hr
          · exact .inl (Int.le_refl _)
          · rcases List.mem_cons.1 hr with rfl | hr
            · exact .inr hxq
            · have := hp3.1 r hr; exact .inr (by omega)
        rw [← hk]
        constructor
        · rintro (h | h)
          · exact h.2.2
          · exact absurd h hb
        · exact fun h => .inl ⟨by omega, hxq, h⟩
      · have ih := betweenS_iff (ks := ks) (P := P) (q :: t) hp2.2 x (fun r hr hrx hall => h1 r (List.mem_cons_of_mem _ hr) hrx fun s hs => by
            rcases List.mem_cons.1 hs with rfl | hs
            · have := hp2.1 r hr; exact .inl (by omega)
            · exact hall s hs)
          (fun hall => h2 fun s hs => by
            rcases List.mem_cons.1 hs with rfl | hs
            · omega
            · exact hall s hs)
          (fun hall => absurd (hall q (by simp)) hxq)
        rw [ih]
        constructor
        · rintro (h | h)
          · exact absurd h.2.1 hxq
          · exact h
        · exact .inr
/-- Which ways there are. -/
def wayB (way : Int) (p q : Bool) : Bool := ((way == 1) && (p || q)) || ((way == 2) && p && q) || ((way == 3) && p && !q)
def mixedL (way : Int) (a b : List Span) : List Span := joinFrom (fun x => wayB way (insB a x) (insB b x)) [] (ptsFrom (ptsFrom [] a) b)
theorem insB_step {l : List Span} {p x : Int} (hpx : p ≤ x) (h : ∀ s, s ∈ l → (s.1 ≤ p ∨ x < s.1) ∧ (s.2 ≤ p ∨ x < s.2)) : insB l p = insB l x := by
  unfold insB
  rw [Bool.eq_iff_iff, List.any_eq_true, List.any_eq_true]
  constructor
  · rintro ⟨s, hs, h1⟩
    have := h s hs
    simp only [Bool.and_eq_true, decide_eq_true_eq] at h1
    exact ⟨s, hs, by simp; omega⟩
  · rintro ⟨s, hs, h1⟩
    have := h s hs
    simp only [Bool.and_eq_true, decide_eq_true_eq] at h1
    exact ⟨s, hs, by simp; omega⟩
theorem insB_not {l : List Span} {x : Int} (h : (∀ s, s ∈ l → s.2 ≤ x) ∨ ∀ s, s ∈ l → x < s.1) : insB l x = false := by
  cases hb : insB l x with
  | false => rfl
  | true =>
    exfalso
    unfold insB at hb
    rw [List.any_eq_true] at hb
    obtain ⟨s, hs, h1⟩ := hb
    simp only [Bool.and_eq_true, decide_eq_true_eq] at h1
    rcases h with h | h
    · have := h s hs; omega
    · have := h s hs; omega
theorem mixedL_ok (way : Int) (a b : List Span) : (∃ z, SepF z (mixedL way a b)) ∧ ∀ x, inS (mixedL way a b) x ↔ wayB way (insB a x) (insB b x) = true := by
  obtain ⟨p1, p2⟩ := ptsFrom_ok a [] List.Pairwise.nil
  obtain ⟨q1, q2⟩ := ptsFrom_ok b _ p1
  obtain ⟨j1, j2⟩ := joinFrom_ok (fun x => wayB way (insB a x) (insB b x)) _ [] ⟨0, trivial⟩ q1
  refine ⟨j1, fun x => ?_⟩
  have hm : ∀ s, (s ∈ a ∨ s ∈ b) → s.1 ∈ ptsFrom (ptsFrom [] a) b ∧ s.2 ∈ ptsFrom (ptsFrom [] a) b := by
    rintro s (hs | hs)
    · exact ⟨(q2 _).2 (.inl ((p2 _).2 (.inr ⟨s, hs, .inl rfl⟩))), (q2 _).2 (.inl ((p2 _).2 (.inr ⟨s, hs, .inr rfl⟩)))⟩
    · exact ⟨(q2 _).2 (.inr ⟨s, hs, .inl rfl⟩), (q2 _).2 (.inr ⟨s, hs, .inr rfl⟩)⟩
  have hw : wayB way false false = false := by simp [wayB]
  show inS (joinFrom _ [] _) x ↔ _
  rw [j2]
  have hb := betweenS_iff (ks := fun x => wayB way (insB a x) (insB b x)) (P := fun x => wayB way (insB a x) (insB b x) = true) _ q1 x
    (fun p hp hpx hall => by
      have e1 : insB a p = insB a x := insB_step hpx fun s hs => ⟨hall _ (hm s (.inl hs)).1, hall _ (hm s (.inl hs)).2⟩
      have e2 : insB b p = insB b x := insB_step hpx fun s hs => ⟨hall _ (hm s (.inr hs)).1, hall _ (hm s (.inr hs)).2⟩
      rw [e1, e2])
    (fun hall => by
      rw [insB_not (l := a) (.inl fun s hs => hall _ (hm s (.inl hs)).2), insB_not (l := b) (.inl fun s hs => hall _ (hm s (.inr hs)).2), hw]
      exact Bool.false_ne_true)
    (fun hall => by
      rw [insB_not (l := a) (.inr fun s hs => hall _ (hm s (.inl hs)).1), insB_not (l := b) (.inr fun s hs => hall _ (hm s (.inr hs)).1), hw]
      exact Bool.false_ne_true)
  rw [hb]
  have : ¬ inS [] x := Reg.inS_nil
  simp [this]
def rowM (way : Int) (a b : List R4) (y : Int) : List Span := mixedL way (rowL a y) (rowL b y)
def combL (way : Int) (a b : List R4) : List R4 := told (bandsFrom (rowM way a b) [] (heightsL (a ++ b)))
/-- The reference's way gives what the sweep gives. -/
theorem combL_sweep {keep : Int → Int → Bool} (hk : keep 0 0 = false) {way : Int} {a b : List R4} (ga : Reg.Good a) (gb : Reg.Good b) (h : ∀ x y, wayB way (insB (rowL a y) x) (insB (rowL b y) x) = true ↔ Kept keep a b x y) : combL way a b = sweepL keep a b := by
  obtain ⟨⟨z, c1⟩, c2⟩ := Reg.kept_bands (row := rowM way a b) hk (fun y => (mixedL_ok way _ _).1) (fun x y => ((mixedL_ok way _ _).2 x).trans (h x y))
  obtain ⟨⟨z', d1⟩, d2⟩ := Reg.bandsK_ok hk ga gb
  exact Reg.told_unique c1 d1 fun x y => by rw [Reg.inR_told, Reg.inR_told, c2, d2]
theorem ptsFrom_len (l : List Span) : ∀ acc : List Int, (ptsFrom acc l).length ≤ acc.length + 2 * l.length := by
  induction l with
  | nil => intro acc; exact Nat.le_refl _
  | cons s l ih =>
    intro acc
    rw [ptsFrom]
    have h1 := ih (putL (putL acc s.1) s.2)
    have h2 := putL_len acc s.1
    have h3 := putL_len (putL acc s.1) s.2
    rw [List.length_cons]
    omega
theorem joinFrom_len (ks : Int → Bool) : ∀ (acc : List Span) (ys : List Int), (joinFrom ks acc ys).length ≤ acc.length + ys.length
  | acc, [] => Nat.le_refl _
  | acc, [p] => Nat.le_add_right _ _
  | acc, p :: q :: t => by
    rw [joinFrom]
    have h := joinFrom_len ks (if ks p then Reg.joinedL acc (p, q) else acc) (q :: t)
    have h2 := joinedL_len acc (p, q)
    rw [List.length_cons]
    split at h <;> split <;> simp_all <;> omega
theorem mixedL_len (way : Int) (a b : List Span) : (mixedL way a b).length ≤ 2 * a.length + 2 * b.length := by
  have h1 := joinFrom_len (fun x => wayB way (insB a x) (insB b x)) [] (ptsFrom (ptsFrom [] a) b)
  have h2 := ptsFrom_len a []
  have h3 := ptsFrom_len b (ptsFrom [] a)
  unfold mixedL
  simp only [List.length_nil] at h1 h2
  omega
end Go.Proofs.YtmcbjaefnhfopaaGreat

/- A sub-board is found, or made: in one word. -/
import Derived.Test.YtnjcahdelcdcfaaBrdC
namespace Go.Proofs.Ytnjcahdelcdcfaa
open Go.RowKit Go.Maps
set_option linter.unusedSimpArgs false
set_option linter.unusedVariables false
set_option maxRecDepth 100000

def abl (L : List Brd) : List AB := L.map Brd.ab
theorem abl_any (a b : Int) : ∀ L : List Brd, (abl L).any (keyB a b) = (L.find? (hit a b)).isSome
  | [] => rfl
  | r :: L => by
    have ih := abl_any a b L
    have : keyB a b r.ab = hit a b r := rfl
    unfold abl at ih ⊢
    rw [List.map_cons, List.any_cons, List.find?_cons, this, ih]
    cases hit a b r <;> rfl
theorem abl_set {a b : Int} {g : AB → AB} : ∀ {L : List Brd} {i : Nat} {r r' : Brd}, L.Pairwise ApartB → L[i]? = some r → hit a b r = true → r'.ab = g r.ab → abl (L.set i r') = (abl L).map (fun x => if keyB a b x then g x else x)
  | [], i, r, r', _, h, _, _ => by simp at h
  | q :: L, 0, r, r', hp, h, hh, he => by
    simp at h
    subst h
    obtain ⟨h1, h2⟩ := List.pairwise_cons.1 hp
    have e1 : keyB a b q.ab = true := hh
    simp only [abl, List.set_cons_zero, List.map_cons, e1, if_true, he, List.cons.injEq, true_and, List.map_map]
    symm
    apply List.map_congr_left
    intro z hz
    have hn := (h1 z hz).1
    have e2 : keyB a b z.ab = false := by
      rw [Bool.eq_false_iff]
      intro k
      have k1 : (decide (z.a = a) && decide (z.b = b)) = true := k
      have k2 : (decide (q.a = a) && decide (q.b = b)) = true := hh
      rw [Bool.and_eq_true] at k1 k2
      exact hn ⟨(of_decide_eq_true k2.1).trans (of_decide_eq_true k1.1).symm, (of_decide_eq_true k2.2).trans (of_decide_eq_true k1.2).symm⟩
    simp [e2]
  | q :: L, i + 1, r, r', hp, h, hh, he => by
    obtain ⟨h1, h2⟩ := List.pairwise_cons.1 hp
    have hi : L[i]? = some r := by simpa using h
    have hn := (h1 r (List.mem_of_getElem? hi)).1
    have e2 : keyB a b q.ab = false := by
      rw [Bool.eq_false_iff]
      intro k
      have k1 : (decide (q.a = a) && decide (q.b = b)) = true := k
      have k2 : (decide (r.a = a) && decide (r.b = b)) = true := hh
      rw [Bool.and_eq_true] at k1 k2
      exact hn ⟨(of_decide_eq_true k1.1).trans (of_decide_eq_true k2.1).symm, (of_decide_eq_true k1.2).trans (of_decide_eq_true k2.2).symm⟩
    have ih := abl_set (g := g) h2 hi hh he
    unfold abl at ih ⊢
    simp only [List.set_cons_succ, List.map_cons, e2, Bool.false_eq_true, if_false, ih]
theorem find_index {α : Type} {p : α → Bool} : ∀ {l : List α} {x : α}, l.find? p = some x → ∃ i : Nat, l[i]? = some x
  | [], _, h => by simp at h
  | y :: l, x, h => by
    rw [List.find?_cons] at h
    cases hp : p y
    · rw [hp] at h
      obtain ⟨i, hi⟩ := find_index h
      exact ⟨i + 1, by simpa using hi⟩
    · rw [hp] at h
      exact ⟨0, by simpa using h⟩
/-- What comes of asking for a sub-board. -/
def BoardPost (base M F n : Nat) (L : List Brd) (a b : Int) (w : World) (e : Ending) (w' : World) : Prop :=
  ∃ n' f' L' i r, e = .returned (.pointer (some ⟨r.blk, 0, none⟩)) ∧ BrdW base M F n' f' L' w' ∧ L'[i]? = some r ∧ n' ≤ n + 1 ∧ L'.length ≤ L.length + 1 ∧ (∀ (g : AB → AB) (r' : Brd), r'.ab = g r.ab → abl (L'.set i r') = upd a b g (abl L)) ∧ Below base w w'
theorem board_any {base M F n : Nat} {f : Lit → Option Value} {L : List Brd} {w : World} (h : BrdW base M F n f L w) (hbs : base ≤ w.heap.size) (hn : n ≤ 1000000) {a b : Int} (wa : W64 a) (wb : W64 b) :
    Calls Try.prog 103 #[.int .i64 a, .int .i64 b, .pointer (some ⟨F, 0, none⟩)] w (BoardPost base M F n L a b w) := by
  cases hf : L.find? (hit a b) with
  | some r =>
    refine (board_got h wa wb hf).mono fun e w' ⟨he, hb⟩ => ?_
    obtain ⟨i, hi⟩ := find_index hf
    have hh : hit a b r = true := by simpa using List.find?_some hf
    refine ⟨n, f, L, i, r, he, h.old hb, hi, Nat.le_succ _, Nat.le_succ _, fun g r' hr' => ?_, hb.mono hbs⟩
    rw [abl_set h.d hi hh hr']
    unfold upd
    rw [abl_any, hf]
    rfl
  | none =>
    refine (board_new h hbs hn wa wb hf).mono fun e w' ⟨B, he, hw, hb⟩ => ?_
    refine ⟨n + 1, _, _, L.length, ⟨B, a, b, false, .slice none 0 0, []⟩, he, hw, by simp, Nat.le_refl _, by simp, fun g r' hr' => ?_, hb⟩
    unfold upd
    rw [abl_any, hf]
    have e1 : (L ++ [(⟨B, a, b, false, .slice none 0 0, []⟩ : Brd)]).set L.length r' = L ++ [r'] := by
      rw [List.set_append_right _ _ (Nat.le_refl _), Nat.sub_self]
      rfl
    rw [e1]
    unfold abl
    rw [List.map_append, List.map_singleton, hr']
    rfl
end Go.Proofs.Ytnjcahdelcdcfaa

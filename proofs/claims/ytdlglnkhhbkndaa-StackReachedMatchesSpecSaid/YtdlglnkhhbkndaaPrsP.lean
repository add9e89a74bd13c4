/- Pressings as plain lists: the sub-boards in the order of pressing, and the fault of spans. -/
import Derived.Test.YtdlglnkhhbkndaaBrG
import Derived.Test.YtdlglnkhhbkndaaEndC
import Derived.Test.YtdlglnkhhbkndaaCmC
namespace Go.Proofs.Ytdlglnkhhbkndaa
open Go.RowKit Go.Maps
set_option linter.unusedSimpArgs false
set_option linter.unusedVariables false
set_option maxRecDepth 100000

def AB.bq (y : AB) : Bq := ⟨y.a, y.b, y.core, .slice none 0 0⟩
def turnA (y : AB) : Int := turnQ y.bq
def rAB (x y : AB) : Prop := turnA x < turnA y ∨ (turnA x = turnA y ∧ x.a ≤ y.a)
theorem sort_one {α : Type} {r : α → α → Prop} : ∀ {S T : List α}, S.Perm T → S.Pairwise r → T.Pairwise r → (∀ x ∈ S, ∀ y ∈ S, r x y → r y x → x = y) → S = T
  | [], T, h, _, _, _ => by rw [List.nil_perm.1 h]
  | a :: S, [], h, _, _, _ => by have := h.length_eq; simp at this
  | a :: S, b :: T, h, hs, ht, hr => by
    obtain ⟨s1, s2⟩ := List.pairwise_cons.1 hs
    obtain ⟨t1, t2⟩ := List.pairwise_cons.1 ht
    have hab : a = b := by
      have ha : a ∈ b :: T := h.subset (List.mem_cons_self ..)
      have hb : b ∈ a :: S := h.symm.subset (List.mem_cons_self ..)
      rcases List.mem_cons.1 ha with e | ha
      · exact e
      · rcases List.mem_cons.1 hb with e | hb
        · exact e.symm
        · exact hr a (List.mem_cons_self ..) b (List.mem_cons_of_mem _ hb) (s1 b hb) (t1 a ha)
    subst hab
    rw [sort_one (h.cons_inv) s2 t2 fun x hx y hy => hr x (List.mem_cons_of_mem _ hx) y (List.mem_cons_of_mem _ hy)]
/-- In what order the sub-boards are pressed. -/
noncomputable def pressL (R : List Row) (l : List Thr) : List AB := open Classical in if h : ∃ S : List AB, S.Perm (boardsF R l) ∧ S.Pairwise rAB then h.choose else []
/-- The sub-boards in the order of pressing are the sub-boards. -/
def OrdL (R : List Row) (l : List Thr) : Prop := (pressL R l).Perm (boardsF R l) ∧ (pressL R l).Pairwise rAB
theorem bd_anti {n : Int} {l : List Thr} {k : Nat} {L : List AB} (h : Bd n l k L) : ∀ x ∈ L, ∀ y ∈ L, rAB x y → rAB y x → x = y := by
  intro x hx y hy h1 h2
  obtain ⟨e1, e2⟩ : turnA x = turnA y ∧ x.a = y.a := by
    unfold rAB at h1 h2
    omega
  by_cases hxy : x = y
  · exact hxy
  · exfalso
    have hne : apAB x y := by
      have hg := List.pairwise_iff_getElem.1 h.d
      obtain ⟨i, hi, ei⟩ := List.getElem_of_mem hx
      obtain ⟨j, hj, ej⟩ := List.getElem_of_mem hy
      rcases Nat.lt_trichotomy i j with hij | hij | hij
      · have := hg i j hi hj hij
        rw [ei, ej] at this
        exact this
      · subst hij
        exact absurd (ei.symm.trans ej) hxy
      · have := hg j i hj hi hij
        rw [ei, ej] at this
        exact fun e => this ⟨e.1.symm, e.2.symm⟩
    apply hne
    refine ⟨e2, ?_⟩
    have rx := h.r x hx
    have ry := h.r y hy
    have tx : turnA x = if x.core then 0 else x.b - x.a := rfl
    have ty : turnA y = if y.core then 0 else y.b - y.a := rfl
    cases hcx : x.core <;> cases hcy : y.core <;> rw [hcx] at tx <;> rw [hcy] at ty <;> simp at tx ty
    · omega
    · omega
    · omega
    · have := h.core x hx hcx
      have := h.core y hy hcy
      omega
theorem press_is {R : List Row} {l : List Thr} {n : Int} {k : Nat} (hb : Bd n l k (boardsF R l)) {S : List AB} (hp : S.Perm (boardsF R l)) (hs : S.Pairwise rAB) : S = pressL R l := by
  unfold pressL
  have hex : ∃ S : List AB, S.Perm (boardsF R l) ∧ S.Pairwise rAB := ⟨S, hp, hs⟩
  rw [dif_pos hex]
  obtain ⟨c1, c2⟩ := hex.choose_spec
  exact sort_one (hp.trans c1.symm) hs c2 fun x hx y hy => bd_anti hb x (hp.subset hx) y (hp.subset hy)
/-- Two boards that agree but for where their holes lie. -/
def eqQ (x y : Bq) : Prop := x.a = y.a ∧ x.b = y.b ∧ x.c = y.c
theorem eqQ_clash {x x' y y' : Bq} (h : eqQ x x') (h2 : eqQ y y') : clashQ x y = clashQ x' y' := by
  unfold clashQ inQ
  rw [h.1, h.2.1, h2.1, h2.2.1]
theorem eqQ_holds {x x' y y' : Bq} (k : Int) (h : eqQ x x') (h2 : eqQ y y') : holdQ x y k = holdQ x' y' k := by
  unfold holdQ inQ
  rw [h.1, h.2.1, h2.1, h2.2.1]
theorem any_map {α β : Type} (f : α → β) (p : β → Bool) (l : List α) : (l.map f).any p = l.any fun x => p (f x) := by
  induction l with
  | nil => rfl
  | cons x l ih => rw [List.map_cons, List.any_cons, List.any_cons, ih]
def Brd.aq (r : Brd) : Bq := r.ab.bq
theorem brd_eq (r : Brd) : eqQ r.bq r.aq := ⟨rfl, rfl, rfl⟩
theorem pair_brd : ∀ (P S : List Brd), pairF (P.map Brd.bq) (S.map Brd.bq) = pairF (P.map Brd.aq) (S.map Brd.aq)
  | _, [] => rfl
  | P, x :: S => by
    have ih := pair_brd (P ++ [x]) S
    rw [List.map_append, List.map_append] at ih
    simp only [List.map_cons, List.map_nil] at ih ⊢
    rw [pairF, pairF, ih, any_map, any_map]
    congr 1
theorem loose_brd (x : Brd) (S : List Brd) : looseQ x.bq (S.map Brd.bq) = looseQ x.aq (S.map Brd.aq) := by
  have go : ∀ n k, looseGo x.bq (S.map Brd.bq) n k = looseGo x.aq (S.map Brd.aq) n k := by
    intro n
    induction n with
    | zero => intro k; rfl
    | succ n ih =>
      intro k
      rw [looseGo, looseGo, ih, any_map, any_map]
      congr 1
  exact go _ _
theorem made_brd (S : List Brd) : madeF (S.map Brd.bq) = madeF (S.map Brd.aq) := by
  unfold madeF
  have h1 := pair_brd [] S
  simp only [List.map_nil] at h1
  rw [h1, any_map, any_map]
  congr 2
  rw [show (S.any fun x => looseQ x.bq (S.map Brd.bq)) = S.any fun x => looseQ x.aq (S.map Brd.aq) from by
    congr 1
    funext x
    exact loose_brd x S]
/-- The fault of spans. -/
noncomputable def pressedF (m : List Mat) (s : List Lay) (l : List Thr) : Int :=
  if stackF m s = 0 then (if thrF (cus (rowsOf m s)).length l = 0 then madeF ((pressL (rowsOf m s) l).map AB.bq) else thrF (cus (rowsOf m s)).length l) else stackF m s
theorem thrGo_zero {n : Int} : ∀ {q l : List Thr}, thrGo n q l = 0 → ∀ x ∈ l, 1 ≤ x.a ∧ x.a < x.b ∧ x.b ≤ n
  | _, [], _, _, h => by cases h
  | q, y :: l, h, x, hx => by
    have hb : ¬ badT n y := fun hb => by rw [thrGo_bad hb] at h; cases h
    have hq : q.any (fun p => !afterT y p) = false := by
      cases e : q.any (fun p => !afterT y p)
      · rfl
      · rw [thrGo_order hb e] at h
        cases h
    rw [thrGo_go hb hq] at h
    rcases List.mem_cons.1 hx with rfl | hx
    · unfold badT at hb
      omega
    · exact thrGo_zero h x hx
theorem thrF_zero {n : Int} {l : List Thr} (h : thrF n l = 0) : l.length ≤ 200 ∧ ∀ x ∈ l, 1 ≤ x.a ∧ x.a < x.b ∧ x.b ≤ n := by
  unfold thrF at h
  split at h
  · cases h
  · exact ⟨by omega, thrGo_zero h⟩
theorem stackF_form {m : List Mat} {s : List Lay} (h : stackF m s = 0) : formB (rowsOf m s) = true := by
  have hm := stackF_mats h
  unfold stackF at h
  rw [if_pos hm] at h
  split at h
  · cases h
  · split at h
    · split at h
      · rename_i hf
        exact hf
      · cases h
    · rename_i h1
      exact absurd h h1
theorem form_two {R : List Row} (h : formB R = true) : 2 ≤ (cus R).length := by
  unfold formB at h
  simp only [Bool.and_eq_true, decide_eq_true_eq] at h
  exact h.1.1
end Go.Proofs.Ytdlglnkhhbkndaa

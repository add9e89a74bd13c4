/- Several texts in one: BfsP, InsR, BfsW, Tch, Bfs. -/
import Derived.Test.YtjcbngpgmgeanaaGreatPieceC
import Derived.Test.YtjcbngpgmgeanaaGreatRefE
import Derived.Deep.DeepCutAuto
import Derived.Test.YtjcbngpgmgeanaaGreatShapeF
import Derived.Test.YtjcbngpgmgeanaaGreatRefH
/- Plain mathematics of the reference's way to pieces: a search from each rectangle that is not done yet. -/
namespace Go.Proofs.YtjcbngpgmgeanaaGreat
open Go.RowKit
open Reg (R4 inR canonL)
set_option linter.unusedSimpArgs false
set_option linter.unusedVariables false

def tchB (a b : R4) : Bool := (decide (max a.x0 b.x0 < min a.x1 b.x1) && decide (max a.y0 b.y0 ≤ min a.y1 b.y1)) || (decide (max a.x0 b.x0 ≤ min a.x1 b.x1) && decide (max a.y0 b.y0 < min a.y1 b.y1))
theorem tchB_iff {l : List R4} (hg : Reg.Good l) (hw : Rowed l) {r s : R4} (hr : r ∈ l) (hs : s ∈ l) : tchB r s = true ↔ r = s ∨ Tch r s ∨ Tch s r := by
  have g1 := hg r hr
  have g2 := hg s hs
  simp only [tchB, Bool.or_eq_true, Bool.and_eq_true, decide_eq_true_eq, Tch]
  constructor
  · rintro (⟨h1, h2⟩ | ⟨h1, h2⟩)
    · by_cases hy : 0 < min r.y1 s.y1 - max r.y0 s.y0
      · rcases hw r hr s hs (max r.y0 s.y0) (by omega) (by omega) (by omega) (by omega) with e | e | e
        · exact .inl e
        · omega
        · omega
      · refine .inr ?_
        by_cases h3 : r.y1 ≤ s.y0
        · exact .inl ⟨by omega, by omega, by omega⟩
        · exact .inr ⟨by omega, by omega, by omega⟩
    · rcases hw r hr s hs (max r.y0 s.y0) (by omega) (by omega) (by omega) (by omega) with e | e | e
      · exact .inl e
      · omega
      · omega
  · rintro (rfl | ⟨h1, h2, h3⟩ | ⟨h1, h2, h3⟩)
    · exact .inl ⟨by omega, by omega⟩
    · exact .inl ⟨by omega, by omega⟩
    · exact .inl ⟨by omega, by omega⟩

def isDn (dn : List Bool) (k : Nat) : Prop := dn[k]? = some true
theorem isDn_set {dn : List Bool} {i k : Nat} (hi : i < dn.length) : isDn (dn.set i true) k ↔ k = i ∨ isDn dn k := by
  unfold isDn
  by_cases h : i = k
  · subst h
    simp [hi]
  · rw [List.getElem?_set_ne h]
    constructor
    · exact .inr
    · rintro (e | e)
      · exact absurd e.symm h
      · exact e
/-- What is done before the i-th rectangle is looked at. -/
structure DnP (l : List R4) (i : Nat) (dn : List Bool) : Prop where
  n : dn.length = l.length
  d : ∀ k, k < l.length → (isDn dn k ↔ fst_ l k < i)
theorem DnP.start (l : List R4) : DnP l 0 (List.replicate l.length false) := by
  refine ⟨by simp, fun k hk => ?_⟩
  unfold isDn
  simp [hk]
theorem DnP.skip {l : List R4} {i : Nat} {dn : List Bool} (h : DnP l i dn) (hi : i < l.length) (hd : isDn dn i) : DnP l (i + 1) dn ∧ fst_ l i ≠ i := by
  have h1 := (h.d i hi).1 hd
  refine ⟨⟨h.n, fun k hk => ?_⟩, by omega⟩
  rw [h.d k hk]
  have h2 : fst_ l k ≠ i := fun e => by
    have := (fst_ok l).ff k
    rw [e] at this
    omega
  omega
theorem DnP.first {l : List R4} {i : Nat} {dn : List Bool} (h : DnP l i dn) (hi : i < l.length) (hd : ¬ isDn dn i) : fst_ l i = i := by
  have h1 := (fst_ok l).le i
  have h2 := mt (h.d i hi).2 hd
  omega
/-- The search from the i-th rectangle: which ones are found, and which are done. -/
structure Bf (l : List R4) (i : Nat) (q : List Nat) (dn : List Bool) : Prop where
  n : dn.length = l.length
  c : ∀ a, a ∈ q → a < l.length ∧ fst_ l a = i
  d : ∀ k, k < l.length → (isDn dn k ↔ fst_ l k < i ∨ k ∈ q)
  u : q.Nodup
  i : i ∈ q
theorem Bf.start {l : List R4} {i : Nat} {dn : List Bool} (h : DnP l i dn) (hi : i < l.length) (hd : ¬ isDn dn i) : Bf l i [i] (dn.set i true) := by
  refine ⟨by rw [List.length_set]; exact h.n, fun a ha => ?_, fun k hk => ?_, by simp, by simp⟩
  · simp at ha
    subst ha
    exact ⟨hi, h.first hi hd⟩
  · rw [isDn_set (by rw [h.n]; exact hi), h.d k hk, List.mem_singleton]
    exact Or.comm
theorem Bf.few {l : List R4} {i : Nat} {q : List Nat} {dn : List Bool} (h : Bf l i q dn) : q.length ≤ l.length := by
  have := inj_len id q (List.range l.length) h.u (fun a ha => List.mem_range.2 (h.c a ha).1) (fun _ _ _ _ e => e)
  simpa using this
def atL (l : List R4) (k : Nat) : R4 := l.getD k ⟨0, 0, 0, 0⟩
theorem atL_mem {l : List R4} {k : Nat} (h : k < l.length) : atL l k ∈ l ∧ l[k]? = some (atL l k) := by
  unfold atL
  rw [List.getD_eq_getElem?_getD, List.getElem?_eq_getElem h]
  exact ⟨List.getElem_mem h, rfl⟩
theorem touch_cls {l : List R4} (hg : Reg.Good l) (hw : Rowed l) {a k : Nat} (ha : a < l.length) (hk : k < l.length) (h : tchB (atL l a) (atL l k) = true) : atL l a = atL l k ∨ fst_ l a = fst_ l k := by
  rcases (tchB_iff hg hw (atL_mem ha).1 (atL_mem hk).1).1 h with e | e | e
  · exact .inl e
  · exact .inr (((fst_ok l).iff a k).2 (.one (.inl ⟨_, _, (atL_mem ha).2, (atL_mem hk).2, e⟩)))
  · exact .inr (((fst_ok l).iff a k).2 (.one (.inr ⟨_, _, (atL_mem hk).2, (atL_mem ha).2, e⟩)))
theorem Bf.put {l : List R4} (hg : Reg.Good l) (hw : Rowed l) (hn : l.Nodup) {i a k : Nat} {q : List Nat} {dn : List Bool} (h : Bf l i q dn) (ha : a ∈ q) (hk : k < l.length) (hd : ¬ isDn dn k) (ht : tchB (atL l a) (atL l k) = true) : Bf l i (q ++ [k]) (dn.set k true) := by
  have hkq : k ∉ q := fun e => hd ((h.d k hk).2 (.inr e))
  obtain ⟨a1, a2⟩ := h.c a ha
  have hf : fst_ l k = i := by
    rcases touch_cls hg hw a1 hk ht with e | e
    · have e1 := (atL_mem a1).2
      have e2 := (atL_mem hk).2
      rw [e] at e1
      have : a = k := nodup_at hn e1 e2
      exact absurd (this ▸ ha) hkq
    · omega
  refine ⟨by rw [List.length_set]; exact h.n, fun b hb => ?_, fun j hj => ?_, ?_, List.mem_append_left _ h.i⟩
  · rcases List.mem_append.1 hb with e | e
    · exact h.c b e
    · simp at e
      subst e
      exact ⟨hk, hf⟩
  · rw [isDn_set (by rw [h.n]; exact hk), h.d j hj, List.mem_append, List.mem_singleton]
    constructor
    · rintro (e | e | e)
      · exact .inr (.inr e)
      · exact .inl e
      · exact .inr (.inl e)
    · rintro (e | e | e)
      · exact .inr (.inl e)
      · exact .inr (.inr e)
      · exact .inl e
  · rw [List.nodup_append]
    exact ⟨h.u, by simp, fun b hb c hc e => by simp at hc; subst hc; subst e; exact hkq hb⟩
/-- What those at the first places touch is done. -/
def Seen (l : List R4) (q : List Nat) (dn : List Bool) (at_ : Nat) : Prop := ∀ a, a ∈ q.take at_ → ∀ k, k < l.length → tchB (atL l a) (atL l k) = true → isDn dn k
def SeenTo (l : List R4) (a : Nat) (dn : List Bool) (m : Nat) : Prop := ∀ k, k < m → tchB (atL l a) (atL l k) = true → isDn dn k
theorem Seen.put {l : List R4} {q : List Nat} {dn : List Bool} {at_ k : Nat} (h : Seen l q dn at_) (ha : at_ ≤ q.length) (hk : k < dn.length) : Seen l (q ++ [k]) (dn.set k true) at_ := by
  intro a ha' j hj ht
  rw [List.take_append_of_le_length ha] at ha'
  exact (isDn_set hk).2 (.inr (h a ha' j hj ht))
theorem SeenTo.put {l : List R4} {a : Nat} {dn : List Bool} {m : Nat} (h : SeenTo l a dn m) (hm : m < dn.length) : SeenTo l a (dn.set m true) (m + 1) := by
  intro k hk ht
  refine (isDn_set hm).2 ?_
  by_cases e : k = m
  · exact .inl e
  · exact .inr (h k (by omega) ht)
theorem SeenTo.skip {l : List R4} {a : Nat} {dn : List Bool} {m : Nat} (h : SeenTo l a dn m) (hm : isDn dn m ∨ tchB (atL l a) (atL l m) = false) : SeenTo l a dn (m + 1) := by
  intro k hk ht
  by_cases e : k = m
  · subst e
    rcases hm with e | e
    · exact e
    · rw [ht] at e; cases e
  · exact h k (by omega) ht
theorem Seen.next {l : List R4} {q : List Nat} {dn : List Bool} {at_ a : Nat} (h : Seen l q dn at_) (ha : q[at_]? = some a) (hm : SeenTo l a dn l.length) : Seen l q dn (at_ + 1) := by
  intro b hb k hk ht
  rw [List.take_add_one, ha] at hb
  rcases List.mem_append.1 hb with e | e
  · exact h b e k hk ht
  · simp at e
    subst e
    exact hm k hk ht
/-- Behind the search: just those are found that hang together with the first one. -/
theorem Bf.all {l : List R4} (hg : Reg.Good l) (hw : Rowed l) (hn : l.Nodup) {i : Nat} {q : List Nat} {dn : List Bool} (h : Bf l i q dn) (hs : Seen l q dn q.length) {k : Nat} (hk : k < l.length) (hf : fst_ l k = i) : k ∈ q := by
  have hs' : ∀ a, a ∈ q → ∀ j, j < l.length → tchB (atL l a) (atL l j) = true → j ∈ q := fun a ha j hj ht => by
    rcases (h.d j hj).1 (hs a (by rw [List.take_length]; exact ha) j hj ht) with e | e
    · obtain ⟨a1, a2⟩ := h.c a ha
      rcases touch_cls hg hw a1 hj ht with e2 | e2
      · have e3 := (atL_mem a1).2
        have e4 := (atL_mem hj).2
        rw [e2] at e3
        have : a = j := nodup_at hn e3 e4
        exact this ▸ ha
      · omega
    · exact e
  have hi := (h.c i h.i)
  have w : Way (TchAt l) i k := ((fst_ok l).iff i k).1 (by rw [hi.2, hf])
  have key : ∀ {x y}, Way (TchAt l) x y → x ∈ q → y ∈ q := by
    intro x y w
    induction w with
    | stay _ => exact id
    | @go x y z t _ ih =>
      intro hx
      refine ih ?_
      have hx' := (h.c x hx).1
      rcases t with ⟨r, s, e1, e2, t⟩ | ⟨r, s, e1, e2, t⟩
      · have hy := (List.getElem?_eq_some_iff.1 e2).1
        refine hs' x hx y hy ((tchB_iff hg hw (atL_mem hx').1 (atL_mem hy).1).2 (.inr (.inl ?_)))
        rw [(atL_mem hx').2] at e1
        rw [(atL_mem hy).2] at e2
        cases e1; cases e2
        exact t
      · have hy := (List.getElem?_eq_some_iff.1 e1).1
        refine hs' x hx y hy ((tchB_iff hg hw (atL_mem hx').1 (atL_mem hy).1).2 (.inr (.inr ?_)))
        rw [(atL_mem hx').2] at e2
        rw [(atL_mem hy).2] at e1
        cases e1; cases e2
        exact t
  exact key w h.i
theorem Bf.canon {l : List R4} (h0 : Cn l) {i : Nat} {q : List Nat} {dn : List Bool} (h : Bf l i q dn) (hs : Seen l q dn q.length) : canonL (q.map (atL l)) = canonL (own_ l i) ∧ DnP l (i + 1) dn := by
  have hw := h0.rowed
  have hn := h0.nodup
  have gq : Reg.Good (q.map (atL l)) := fun r hr => by
    obtain ⟨a, ha, rfl⟩ := List.mem_map.1 hr
    exact h0.1 _ (atL_mem (h.c a ha).1).1
  refine ⟨Reg.canon_unique gq (own_good h0.1 i) fun x y => ?_, h.n, fun k hk => ?_⟩
  · constructor
    · rintro ⟨r, hr, hh⟩
      obtain ⟨a, ha, rfl⟩ := List.mem_map.1 hr
      obtain ⟨a1, a2⟩ := h.c a ha
      exact ⟨_, mem_own.2 ⟨a, (atL_mem a1).2, a2⟩, hh⟩
    · rintro ⟨r, hr, hh⟩
      obtain ⟨k, hk, e⟩ := mem_own.1 hr
      have hkl := (List.getElem?_eq_some_iff.1 hk).1
      refine ⟨r, List.mem_map.2 ⟨k, h.all h0.1 hw hn hs hkl e, ?_⟩, hh⟩
      rw [(atL_mem hkl).2] at hk
      cases hk
      rfl
  · rw [h.d k hk]
    constructor
    · rintro (e | e)
      · omega
      · have := (h.c k e).2; omega
    · intro e
      by_cases e2 : fst_ l k < i
      · exact .inl e2
      · exact .inr (h.all h0.1 hw hn hs hk (by omega))
/-- The pieces that begin before the i-th rectangle. -/
def pcsI (l : List R4) (i : Nat) : List (List R4) := ((List.range i).filter fun i => decide (fst_ l i = i)).map fun i => canonL (own_ l i)
theorem pcsI_yes {l : List R4} {i : Nat} (h : fst_ l i = i) : pcsI l (i + 1) = pcsI l i ++ [canonL (own_ l i)] := by
  unfold pcsI
  rw [List.range_succ, List.filter_append, List.map_append]
  simp [h]
theorem pcsI_no {l : List R4} {i : Nat} (h : fst_ l i ≠ i) : pcsI l (i + 1) = pcsI l i := by
  unfold pcsI
  rw [List.range_succ, List.filter_append, List.map_append]
  simp [h]
theorem pcsI_all (l : List R4) : pcsI l l.length = pcsL l := rfl
theorem sorted_at {l : List R4} (h0 : Cn l) {i j : Nat} {r s : R4} (hi : l[i]? = some r) (hj : l[j]? = some s) (hij : i < j) : lessYX r s = true := by
  obtain ⟨⟨z, hc⟩, _⟩ := Reg.bandsC_ok h0.1
  have hp := told_pair hc
  rw [show Reg.told (Reg.bandsC l) = l from h0.2] at hp
  obtain ⟨h1, rfl⟩ := List.getElem?_eq_some_iff.1 hi
  obtain ⟨h2, rfl⟩ := List.getElem?_eq_some_iff.1 hj
  exact List.pairwise_iff_getElem.1 hp i j h1 h2 hij
/-- The first rectangle of a piece begins where the first of its rectangles begins. -/
theorem head_piece {l : List R4} (h0 : Cn l) {i : Nat} (hi : i < l.length) (hf : fst_ l i = i) : ∃ r t, canonL (own_ l i) = r :: t ∧ r.x0 = (atL l i).x0 ∧ r.y0 = (atL l i).y0 := by
  have hm : atL l i ∈ own_ l i := mem_own.2 ⟨i, (atL_mem hi).2, hf⟩
  have go := own_good h0.1 i
  obtain ⟨u, hu, hh⟩ := (cn_own h0 i _ _).2 (good_sq go hm)
  have gl := h0.1 _ (atL_mem hi).1
  cases hL : canonL (own_ l i) with
  | nil => rw [hL] at hu; cases hu
  | cons r t =>
    refine ⟨r, t, rfl, ?_⟩
    have gc := canon_good go
    have hr : r ∈ canonL (own_ l i) := by rw [hL]; simp
    have gr := gc r hr
    obtain ⟨s, hs, hk⟩ := (cn_own h0 i _ _).1 (good_sq gc hr)
    obtain ⟨k, hk2, fk⟩ := mem_own.1 hs
    have hki : i ≤ k := by have := (fst_ok l).le k; omega
    have ls : atL l i = s ∨ lessYX (atL l i) s = true := by
      by_cases e : i = k
      · subst e
        rw [(atL_mem hi).2] at hk2
        cases hk2
        exact .inl rfl
      · exact .inr (sorted_at h0 (atL_mem hi).2 hk2 (by omega))
    have lu : r = u ∨ lessYX r u = true := by
      obtain ⟨⟨z, hc⟩, _⟩ := Reg.bandsC_ok go
      have hp := told_pair hc
      rw [show Reg.told (Reg.bandsC (own_ l i)) = canonL (own_ l i) from rfl, hL] at hp
      rw [hL] at hu
      rcases List.mem_cons.1 hu with e | e
      · exact .inl e.symm
      · exact .inr ((List.pairwise_cons.1 hp).1 u e)
    simp only [R4.has] at hh hk
    have a1 : (atL l i).y0 < s.y0 ∨ ((atL l i).y0 = s.y0 ∧ (atL l i).x0 ≤ s.x0) := by
      rcases ls with e | e
      · rw [e]; exact .inr ⟨rfl, Int.le_refl _⟩
      · rcases lessYX_iff.1 e with k | k
        · exact .inl k
        · exact .inr ⟨k.1, by omega⟩
    have a2 : r.y0 < u.y0 ∨ (r.y0 = u.y0 ∧ r.x0 ≤ u.x0) := by
      rcases lu with e | e
      · rw [e]; exact .inr ⟨rfl, Int.le_refl _⟩
      · rcases lessYX_iff.1 e with k | k
        · exact .inl k
        · exact .inr ⟨k.1, by omega⟩
    omega
/-- A piece that begins later does not stand before one that begins earlier. -/
theorem piece_later {l : List R4} (h0 : Cn l) {i j : Nat} (hij : i < j) (hj : j < l.length) (fi : fst_ l i = i) (fj : fst_ l j = j) : ∃ r t s u, canonL (own_ l i) = r :: t ∧ canonL (own_ l j) = s :: u ∧ lessYX s r = false := by
  obtain ⟨r, t, e1, r1, r2⟩ := head_piece h0 (by omega) fi
  obtain ⟨s, u, e2, s1, s2⟩ := head_piece h0 hj fj
  refine ⟨r, t, s, u, e1, e2, ?_⟩
  have := lessYX_iff.1 (sorted_at h0 (atL_mem (l := l) (k := i) (by omega)).2 (atL_mem hj).2 hij)
  rw [Bool.eq_false_iff]
  intro k
  have := lessYX_iff.1 k
  omega
end Go.Proofs.YtjcbngpgmgeanaaGreat
/- insert of the reference, where what is put in stands last, whatever the world. -/
namespace Go.Proofs.YtjcbngpgmgeanaaGreat
open Go.RowKit Go.ChangeShapes Go.WideShapes Go.ChangeAt
open Reg (R4)
set_option linter.unusedSimpArgs false
set_option linter.unusedVariables false
set_option maxRecDepth 100000

/-- Slices put behind a row of one's own. -/
theorem wpList_put_heads {ops : Array Oper} {rest : List Oper} {o : Oper} {a : Act} {Q : Exit → Act → World → Prop} {w : World} (hgd : o.guard = none) (s x : Operand)
    (ho : o.op = .call { callee := .builtin .append, args := #[s, x], argTypes := #[23, 23] })
    (base : Nat) (v : Value) (n : Nat) (xs : List Value) (hs : a.eval s = v) (hown : w.ownsRow base 22 1 v n xs)
    (A : Option Addr) (m c : Nat) (vals : List Value) (hl : vals.length = m) (hx : a.eval x = .slice A m c) (hA : A = none → m = 0 ∧ c = 0) (hc : ∀ ad, A = some ad → ∀ j u, vals[j]? = some u → w.cell? (ad.add j) = some u)
    (h1 : ∀ u, u ∈ vals → u.oneCell' = true) (hn : n + m ≤ 1000000) (hbase : base ≤ w.heap.size)
    (K : ∀ v' w', w'.ownsRow base 22 1 v' (n + m) (xs ++ vals) → w.grownBy w' v.ownBlock → wpList Tryz.prog ops Q rest (a.put o.dst v') w') : wpList Tryz.prog ops Q (o :: rest) a w := by
  obtain ⟨i0, hi, hz0, hz1, hz2⟩ := info_parts infoSl
  cases A with
  | none =>
    obtain ⟨rfl, rfl⟩ := hA rfl
    have hv : vals = [] := List.length_eq_zero_iff.1 hl
    subst hv
    exact wpList_append_own_none hgd s x 23 ho base 22 i0 1 Tryz.underlying23 hi v n xs hs hown hx (K v w (by simpa using hown) (gb_refl _ _))
  | some ad =>
    exact wpList_append_own w hgd s x 23 ho base 22 i0 (.slice none 0 0) 1 24 Tryz.underlying23 hi hz0 hz1 hz2 rfl (by decide) v n xs hs hown ad m c vals hx (by omega) (hc ad rfl) h1 (by simp only [maxLen]; omega) (by omega) hbase fun v' w' h1 h2 _ => K v' w' h1 h2

def hdsV (L : List (List R4)) (hd : Nat → Option Addr × Nat) : List Value := (List.range L.length).map fun i => .slice (hd i).1 (L.getD i []).length (hd i).2
theorem hdsV_len (L : List (List R4)) (hd : Nat → Option Addr × Nat) : (hdsV L hd).length = L.length := by simp [hdsV]
theorem hdsV_at {L : List (List R4)} {hd : Nat → Option Addr × Nat} {i : Nat} {P : List R4} (h : L[i]? = some P) : (hdsV L hd)[i]? = some (.slice (hd i).1 P.length (hd i).2) := by
  obtain ⟨hl, e⟩ := List.getElem?_eq_some_iff.1 h
  simp [hdsV, hl, List.getD_eq_getElem?_getD, e]
theorem hdsV_get {L : List (List R4)} {hd : Nat → Option Addr × Nat} {i : Nat} {u : Value} (h : (hdsV L hd)[i]? = some u) : ∃ P, L[i]? = some P ∧ u = .slice (hd i).1 P.length (hd i).2 := by
  have hl : i < L.length := by have := (List.getElem?_eq_some_iff.1 h).1; rwa [hdsV_len] at this
  have e := List.getElem?_eq_getElem hl
  rw [hdsV_at e] at h
  exact ⟨_, e, (Option.some.inj h).symm⟩
theorem hdsV_one {L : List (List R4)} {hd : Nat → Option Addr × Nat} : ∀ u, u ∈ hdsV L hd → u.oneCell' = true := by
  intro u hu
  simp only [hdsV, List.mem_map] at hu
  obtain ⟨i, _, rfl⟩ := hu
  simp [Value.oneCell']
theorem rdO_cells {w : World} {A : Option Addr} {L : List (List R4)} {hd : Nat → Option Addr × Nat} (h : RdO w A L hd) : ∀ ad, A = some ad → ∀ j u, (hdsV L hd)[j]? = some u → w.cell? (ad.add j) = some u := by
  intro ad e j u hu
  obtain ⟨P, hP, rfl⟩ := hdsV_get hu
  have hl := (List.getElem?_eq_some_iff.1 hP).1
  obtain ⟨b, off, e2, _, hc⟩ := h.1 (by omega)
  rw [e] at e2
  cases e2
  have := hc j P hP
  simpa [add_plain] using this

theorem head_new (W : World) (v : Value) (t : TypeId) : ∀ ad, some (⟨W.heap.size, 0, none⟩ : Addr) = some ad → ∀ j u, [v][j]? = some u → (W.alloc (.cells #[v] t)).cell? (ad.add j) = some u := by
  intro ad e j u hj
  cases e
  have hj0 : j = 0 := by have := (List.getElem?_eq_some_iff.1 hj).1; simp at this; omega
  subst hj0
  simp at hj
  subst hj
  simp [Addr.add]

set_option maxHeartbeats 4000000 in
theorem insert_none (Ar : Option Addr) (P : List R4) (cr : Nat) (w : World) :
    Calls Tryz.prog 52 #[.slice none 0 0, .slice Ar P.length cr] w fun e w' => ∃ v, e = .returned v ∧ w'.ownsRow w.heap.size 22 1 v 1 [.slice Ar P.length cr] ∧ Below w.heap.size w w' := by
  go_enter Tryz.func52, Tryz.ntmps52
  go_wp2_with fail
  go_loopw [5] (fun i wr => i = .int .i64 0 ∧ Below w.heap.size w wr) (fun _ _ => 0)
  case atStart => exact ⟨rfl, Below.refl _ _⟩
  case round =>
    obtain ⟨rfl, hbw⟩ := hrel
    have zw := hbw.size
    go_wp2_with fail
    go_quiet (fail)
    have hbd : Below w.heap.size w (wr.drewN nq) := below_drewN hbw nq
    have zd := hbd.size
    generalize wr.drewN nq = wd at *
    go_wp2_with (first
      | (at_builtin; refine wpList_put_heads rfl (.tmp 26) (.tmp 29) rfl w.heap.size (.slice none 0 0) 0 [] rfl (own_nilR _ _ _ _) none 0 0 [] rfl rfl (fun _ => ⟨rfl, rfl⟩) (fun ad e => by cases e) (fun u hu => by cases hu) (by omega) (by omega) ?_; intro v1 w3 hown3 hg3; have HO3 := Lib.hid hown3; have hb3 : Below w.heap.size w w3 := hbd.grown hg3 (by omega) (fun j hj => by cases hj); have z3 := hb3.size; clear hown3 hg3)
      | (at_builtin; refine wpList_put_heads rfl (.tmp 31) (.tmp 33) rfl w.heap.size v1 _ _ rfl (own_grown HO3.out (World.grownBy_alloc w3 _ none) (fun g _ e => by cases e)) _ 1 1 [.slice Ar P.length cr] rfl rfl (fun e => by cases e) (head_new _ _ _) (fun u hu => by simp at hu; subst hu; simp [Value.oneCell']) (by omega) (by simp; omega) ?_; intro v2 w4 hown4 hg4; have HO4 := Lib.hid hown4; have HG4 := Lib.hid hg4; clear hown4 hg4)
      | (at_builtin; refine wpList_put_heads rfl (.tmp 35) (.tmp 38) rfl w.heap.size v2 _ _ rfl HO4.out none 0 0 [] rfl rfl (fun _ => ⟨rfl, rfl⟩) (fun ad e => by cases e) (fun u hu => by cases hu) (by omega) (by have := HG4.out.size; simp at this; omega) ?_; intro v3 w5 hown5 hg5; have HO5 := Lib.hid hown5; have HG5 := Lib.hid hg5; clear hown5 hg5))
    go_ret
    refine ⟨v3, rfl, by simpa using HO5.out, ?_⟩
    have k4 := (hb3.alloc (by omega) (.cells #[.slice Ar P.length cr] 22)).grown HG4.out (by simp; omega) (fun j hj => (HO3.out.lt j hj).1)
    exact k4.grown HG5.out k4.size (fun j hj => (HO4.out.lt j hj).1)

set_option maxHeartbeats 4000000 in
theorem insert_some (b off : Nat) (L : List (List R4)) (c n : Nat) (hd : Nat → Option Addr × Nat) (Ar : Option Addr) (P : List R4) (cr : Nat) (p u : R4) (Q : List R4) (w : World) (hn : L.length = n + 1) (hlen : n ≤ 20000) (hc : L.length ≤ c) (hc2 : c ≤ maxLen) (hR : RdO w (some ⟨b, off, none⟩) L hd)
    (hRP : Rd w Ar P) (hp : P[0]? = some p) (hQ : L[n]? = some Q) (hu : Q[0]? = some u) (hord : lessYX p u = false) :
    Calls Tryz.prog 52 #[.slice (some ⟨b, off, none⟩) L.length c, .slice Ar P.length cr] w fun e w' => ∃ v, e = .returned v ∧ w'.ownsRow w.heap.size 22 1 v (L.length + 1) (hdsV L hd ++ [.slice Ar P.length cr]) ∧ Below w.heap.size w w' := by
  have HR := Lib.hid hR
  have HRP := Lib.hid hRP
  have hpp : 0 < P.length := (List.getElem?_eq_some_iff.1 hp).1
  obtain ⟨pb, po, rfl, hpb, hpc⟩ := hRP hpp
  obtain ⟨p0, p1, p2, p3⟩ := hpc 0 p hp
  obtain ⟨b', off', e', hbl, hcell⟩ := hR.1 (by omega)
  cases e'
  have cQ := hcell n Q hQ
  obtain ⟨hrQ, hlQ, hcQ⟩ := hR.2 n Q hQ
  have hqq : 0 < Q.length := (List.getElem?_eq_some_iff.1 hu).1
  obtain ⟨qb, qo, eq, hqb, hqc⟩ := hrQ hqq
  rw [eq] at cQ
  obtain ⟨u0, u1, u2, u3⟩ := hqc 0 u hu
  simp only [Nat.zero_mul, Nat.add_zero] at p0 p1 p2 p3 u0 u1 u2 u3
  have CB := Lib.hid (fun W => hord ▸ before_any p u W)
  have HCell := Lib.hid (rdO_cells hR)
  have hvl := hdsV_len L hd
  have HV1 := Lib.hid (hdsV_one (L := L) (hd := hd))
  have hnz : (0 : Int) ≤ (n : Int) := by omega
  have hqz : (0 : Int) < (Q.length : Int) := by omega
  have hpz : (0 : Int) < (P.length : Int) := by omega
  have HQL := Lib.hid hlQ
  have HVL := Lib.hid (hvl.trans hn)
  clear hR hRP hpc hcell hqc hrQ hQ hp hu hord hvl
  generalize hdsV L hd = vals at *
  rw [hn] at hc ⊢
  clear hn
  have hnn : (n : Int) < (n : Int) + 1 := by omega
  have hn1 : ((n + 1 : Nat) : Int) - 1 = (n : Int) := by omega
  have X1 := IntWalk.i64_in (n : Int) (by omega)
  have X2 := IntWalk.i64_in ((n : Int) + 1) (by omega)
  go_enter Tryz.func52, Tryz.ntmps52
  go_wp2_with fail
  go_loopw [5] (fun i wr => i = .int .i64 ((n + 1 : Nat) : Int) ∧ Below w.heap.size w wr) (fun _ _ => 0)
  case atStart => exact ⟨by simp, Below.refl _ _⟩
  case round =>
    obtain ⟨rfl, hbw⟩ := hrel
    have zw := hbw.size
    have q0 := ((bcell hbw).1 _ _ hpb).trans p0
    have q1 := ((bcell hbw).1 _ _ hpb).trans p1
    have q2 := ((bcell hbw).1 _ _ hpb).trans p2
    have q3 := ((bcell hbw).1 _ _ hpb).trans p3
    have v0 := ((bcell hbw).1 _ _ hqb).trans u0
    have v1 := ((bcell hbw).1 _ _ hqb).trans u1
    have v2 := ((bcell hbw).1 _ _ hqb).trans u2
    have v3 := ((bcell hbw).1 _ _ hqb).trans u3
    have cq := ((bcell hbw).1 _ _ hbl).trans cQ
    have lp8 := Nat.lt_of_lt_of_le hpb zw
    have lq8 := Nat.lt_of_lt_of_le hqb zw
    have lb8 := Nat.lt_of_lt_of_le hbl zw
    clear p0 p1 p2 p3 u0 u1 u2 u3 cQ
    obtain ⟨w8, rfl⟩ : ∃ w8, w8 = wr := ⟨wr, rfl⟩
    go_wp2_with fail
    go_cut [23] (fun s23 wx => s23 = .bool false ∧ Below w8.heap.size w8 wx)
    case first =>
      go_region_held3 (fun w' => w'.cell? ⟨pb, po, none⟩ = some (.int .i64 p.x0) ∧ w'.cell? ⟨pb, po + 1, none⟩ = some (.int .i64 p.y0) ∧ w'.cell? ⟨pb, po + 2, none⟩ = some (.int .i64 p.x1) ∧ w'.cell? ⟨pb, po + 3, none⟩ = some (.int .i64 p.y1) ∧
          w'.cell? ⟨qb, qo, none⟩ = some (.int .i64 u.x0) ∧ w'.cell? ⟨qb, qo + 1, none⟩ = some (.int .i64 u.y0) ∧ w'.cell? ⟨qb, qo + 2, none⟩ = some (.int .i64 u.x1) ∧ w'.cell? ⟨qb, qo + 3, none⟩ = some (.int .i64 u.y1) ∧ w'.cell? ⟨b, off + n, none⟩ = some (.slice (some ⟨qb, qo, none⟩) Q.length (hd n).2)) (first | go_keep | exact ⟨((bcell BX).1 _ _ lp8).trans q0, ((bcell BX).1 _ _ lp8).trans q1, ((bcell BX).1 _ _ lp8).trans q2, ((bcell BX).1 _ _ lp8).trans q3, ((bcell BX).1 _ _ lq8).trans v0, ((bcell BX).1 _ _ lq8).trans v1, ((bcell BX).1 _ _ lq8).trans v2, ((bcell BX).1 _ _ lq8).trans v3, ((bcell BX).1 _ _ lb8).trans cq⟩)
        (first | (go_at_call 48; refine (CB.out _).mono ?_; rintro e w6 ⟨rfl, hbx⟩; have BX := up (B := w8.heap.size) (w := w8) (by (repeat' (first | (with_reducible exact Below.refl _ _) | (with_reducible assumption) | (with_reducible refine Below.alloc ?_ ?_ _) | (with_reducible refine Below.drew ?_) | (with_reducible refine below_drewN ?_ _) | (with_reducible refine Below.setCell ?_ ?_ _) | (with_reducible exact Nat.le_refl _) | omega | (simp only [World.size_alloc, World.size_setCell, World.size_drew]; omega) | (simp; omega) | (simp; done)))) hbx (by (first | (with_reducible exact Nat.le_refl _) | (with_reducible assumption) | omega | (simp only [World.size_alloc, World.size_setCell, World.size_drew]; omega) | (simp; omega) | (simp; done)))))
      go_wp2_with fail
      go_meet
      exact ⟨rfl, by (repeat' (first | (with_reducible exact Below.refl _ _) | (with_reducible assumption) | (with_reducible refine Below.alloc ?_ ?_ _) | (with_reducible refine Below.drew ?_) | (with_reducible refine below_drewN ?_ _) | (with_reducible refine Below.setCell ?_ ?_ _) | (with_reducible exact Nat.le_refl _) | omega | (simp only [World.size_alloc, World.size_setCell, World.size_drew]; omega) | (simp; omega) | (simp; done)))⟩
    case rest =>
      obtain ⟨rfl, hcut⟩ := hcut
      have hbd := hbw.trans (hcut.mono hbw.size)
      have zd := hbd.size
      have HBD := Lib.hid hbd
      have hbl2 : b < w.heap.size := hbl
      clear hcut q0 q1 q2 q3 v0 v1 v2 v3 cq
      have HC2 := Lib.hid (fun ad (e : some (⟨b, off, none⟩ : Addr) = some ad) (j : Nat) (u : Value) (hu : vals[j]? = some u) => (show wc.cell? (ad.add j) = some u from by
        cases e
        have := HCell.out _ rfl j u hu
        rw [add_plain] at this ⊢
        exact ((bcell hbd).1 _ _ hbl).trans this))
      clear hbd
      by_cases hcn : c = n + 1
      · subst hcn
        go_wp2_with (first
          | (at_builtin; refine wpList_put_heads rfl (.tmp 26) (.tmp 29) rfl w.heap.size (.slice none 0 0) 0 [] rfl (own_nilR _ _ _ _) (some ⟨b, off, none⟩) (n + 1) (n + 1) vals HVL.out rfl (fun e => by cases e) HC2.out HV1.out (by omega) (by omega) ?_; intro v1 w3 hown3 hg3; have HO3 := Lib.hid hown3; have hb3 : Below w.heap.size w w3 := HBD.out.grown hg3 (by omega) (fun j hj => by cases hj); have z3 := hb3.size; clear hown3 hg3)
          | (at_builtin; refine wpList_put_heads rfl (.tmp 31) (.tmp 33) rfl w.heap.size v1 _ _ rfl (own_grown HO3.out (World.grownBy_alloc w3 _ none) (fun g _ e => by cases e)) _ 1 1 [.slice (some ⟨pb, po, none⟩) P.length cr] rfl rfl (fun e => by cases e) (head_new _ _ _) (fun u hu => by simp at hu; subst hu; simp [Value.oneCell']) (by omega) (by simp; omega) ?_; intro v2 w4 hown4 hg4; have HO4 := Lib.hid hown4; have HG4 := Lib.hid hg4; clear hown4 hg4)
          | (at_builtin; refine wpList_put_heads rfl (.tmp 35) (.tmp 38) rfl w.heap.size v2 _ _ rfl HO4.out (some _) 0 _ [] rfl rfl (fun e => by cases e) (fun ad e j u hu => by cases hu) (fun u hu => by cases hu) (by omega) (by have := HG4.out.size; simp at this; omega) ?_; intro v3 w5 hown5 hg5; have HO5 := Lib.hid hown5; have HG5 := Lib.hid hg5; clear hown5 hg5))
        go_ret
        refine ⟨v3, rfl, by simpa using HO5.out, ?_⟩
        have k4 := (hb3.alloc (by omega) (.cells #[.slice (some ⟨pb, po, none⟩) P.length cr] 22)).grown HG4.out (by simp; omega) (fun j hj => (HO3.out.lt j hj).1)
        exact k4.grown HG5.out k4.size (fun j hj => (HO4.out.lt j hj).1)
      · have hcn' : ¬ n + 1 = c := fun e => hcn e.symm
        have hcl : ((n : Int) + 1) ≤ (c : Int) := by omega
        go_wp2_with (first
          | (at_builtin; refine wpList_put_heads rfl (.tmp 26) (.tmp 29) rfl w.heap.size (.slice none 0 0) 0 [] rfl (own_nilR _ _ _ _) (some ⟨b, off, none⟩) (n + 1) c vals HVL.out rfl (fun e => by cases e) HC2.out HV1.out (by omega) (by omega) ?_; intro v1 w3 hown3 hg3; have HO3 := Lib.hid hown3; have hb3 : Below w.heap.size w w3 := HBD.out.grown hg3 (by omega) (fun j hj => by cases hj); have z3 := hb3.size; clear hown3 hg3)
          | (at_builtin; refine wpList_put_heads rfl (.tmp 31) (.tmp 33) rfl w.heap.size v1 _ _ rfl (own_grown HO3.out (World.grownBy_alloc w3 _ none) (fun g _ e => by cases e)) _ 1 1 [.slice (some ⟨pb, po, none⟩) P.length cr] rfl rfl (fun e => by cases e) (head_new _ _ _) (fun u hu => by simp at hu; subst hu; simp [Value.oneCell']) (by omega) (by simp; omega) ?_; intro v2 w4 hown4 hg4; have HO4 := Lib.hid hown4; have HG4 := Lib.hid hg4; clear hown4 hg4)
          | (at_builtin; refine wpList_put_heads rfl (.tmp 35) (.tmp 38) rfl w.heap.size v2 _ _ rfl HO4.out (some _) 0 _ [] rfl rfl (fun e => by cases e) (fun ad e j u hu => by cases hu) (fun u hu => by cases hu) (by omega) (by have := HG4.out.size; simp at this; omega) ?_; intro v3 w5 hown5 hg5; have HO5 := Lib.hid hown5; have HG5 := Lib.hid hg5; clear hown5 hg5))
        go_ret
        refine ⟨v3, rfl, by simpa using HO5.out, ?_⟩
        have k4 := (hb3.alloc (by omega) (.cells #[.slice (some ⟨pb, po, none⟩) P.length cr] 22)).grown HG4.out (by simp; omega) (fun j hj => (HO3.out.lt j hj).1)
        exact k4.grown HG5.out k4.size (fun j hj => (HO4.out.lt j hj).1)
end Go.Proofs.YtjcbngpgmgeanaaGreat
/- The world of the reference's way to pieces. -/
namespace Go.Proofs.YtjcbngpgmgeanaaGreat
open Go.RowKit Go.ChangeShapes
open Reg (R4 canonL)
set_option linter.unusedSimpArgs false
set_option linter.unusedVariables false
set_option maxRecDepth 100000

/-- A block of truth values. -/
structure BoolsAt (w : World) (g : Nat) (T : List Bool) : Prop where
  c : ∀ (j : Nat) (v : Bool), T[j]? = some v → w.cell? ⟨g, j, none⟩ = some (.bool v)
  f : ∀ j, w.frozen? ⟨g, j, none⟩ = false
  l : g < w.heap.size
theorem BoolsAt.grown {w w' : World} {g : Nat} {T : List Bool} {row : Option Nat} (h : BoolsAt w g T) (k : w.grownBy w' row) (hn : some g ≠ row) : BoolsAt w' g T where
  c j v hj := (World.cell?_of_block (a := ⟨g, j, none⟩) (k.block g h.l hn)).trans (h.c j v hj)
  f j := (World.frozen?_of_block (a := ⟨g, j, none⟩) (k.block g h.l hn)).trans (h.f j)
  l := Nat.lt_of_lt_of_le h.l k.size
theorem BoolsAt.below {w w' : World} {g : Nat} {T : List Bool} (h : BoolsAt w g T) (k : Below w.heap.size w w') : BoolsAt w' g T where
  c j v hj := ((bcell k).1 g j h.l).trans (h.c j v hj)
  f j := ((bcell k).2 g j h.l).trans (h.f j)
  l := Nat.lt_of_lt_of_le h.l k.size
theorem BoolsAt.set {w : World} {g : Nat} {T : List Bool} (h : BoolsAt w g T) {j : Nat} {u : Bool} (hj : j < T.length) : BoolsAt (w.setCell ⟨g, j, none⟩ (.bool u)) g (T.set j u) where
  c i v hi := by
    by_cases e : j = i
    · subst e
      have hv : u = v := by simpa [hj] using hi
      subst hv
      rw [World.cell?_setCell_same' _ _ _ (by rw [h.c j _ (List.getElem?_eq_getElem hj)]; rfl)]
    · rw [List.getElem?_set_ne e] at hi
      rw [World.cell?_setCell_other _ _ _ _ (by simp)]
      exact h.c i v hi
  f i := by rw [World.frozen?_setCell]; exact h.f i
  l := by simpa using h.l
theorem bools_made {w : World} {base g n : Nat} {xs : List Value} (h : w.ownsRow base 4 1 (.slice (some ⟨g, 0, none⟩) n n) n xs) (hx : ∀ j : Nat, j < n → xs[j]? = some (.bool false)) (hg : g < w.heap.size) : BoolsAt w g (List.replicate n false) := by
  rcases own_open h with ⟨e, _⟩ | ⟨g', cap, cur, e, _, hb, _⟩
  · cases e
  · simp only [Value.slice.injEq, Option.some.injEq, Addr.mk.injEq] at e
    obtain ⟨⟨rfl, _⟩, _⟩ := e
    obtain ⟨A, c, e2, _, _, h3⟩ := own_cells h
    cases e2
    refine ⟨fun j v hj => ?_, hb.frozen, hg⟩
    have hlt : j < n := by have := (List.getElem?_eq_some_iff.1 hj).1; simpa using this
    obtain ⟨g2, e3, _, _, hc⟩ := h3 (by omega)
    cases e3
    refine hc j _ ?_
    have hv : v = false := by
      have := (List.getElem?_eq_some_iff.1 hj).2
      simpa using this.symm
    subst hv
    exact hx j hlt
theorem falses_made (n : Nat) : ∀ j : Nat, j < n → (madeCells (Value.bool false).cells (n * 1)).toList[j]? = some (.bool false) := by
  intro j hj
  have h1 : j % 1 = 0 := Nat.mod_one j
  simp [madeCells, Value.cells, hj, h1]
/-- While the search from one rectangle goes on: what it began with stays but for what is done; the rectangles found. -/
structure BfW (l : List R4) (w8 : World) (g : Nat) (ov : Value) (q : List Nat) (dn : List Bool) (wr : World) : Prop where
  k : w8.grownBy wr (some g)
  o : wr.ownsRow w8.heap.size 30 4 ov (q.map (atL l)).length (cR (q.map (atL l)))
  d : BoolsAt wr g dn
theorem BfW.drew {l : List R4} {w8 wr : World} {g : Nat} {ov : Value} {q : List Nat} {dn : List Bool} (h : BfW l w8 g ov q dn wr) (hg : g < w8.heap.size) {wx : World} (k : Below wr.heap.size wr wx) : BfW l w8 g ov q dn wx where
  k := gb_below h.k k h.k.size
  o := ownsRow_below' h.o k
  d := h.d.below k
theorem BfW.mark {l : List R4} {w8 wr : World} {g : Nat} {ov : Value} {q : List Nat} {dn : List Bool} (h : BfW l w8 g ov q dn wr) (hg : g < w8.heap.size) {j : Nat} (hj : j < dn.length) : BfW l w8 g ov q (dn.set j true) (wr.setCell ⟨g, j, none⟩ (.bool true)) where
  k := gb_set h.k (.inl rfl) _
  o := own_grown h.o (grownBy_setAt wr g j (.bool true)) (fun x e e2 => by have := (h.o.lt x e).1; have := Option.some.inj e2; omega)
  d := h.d.set hj
theorem BfW.put {l : List R4} {w8 wr w5 : World} {g : Nat} {ov nv : Value} {q : List Nat} {dn : List Bool} {j : Nat} (h : BfW l w8 g ov q dn wr) (hg : g < w8.heap.size) (hk : wr.grownBy w5 ov.ownBlock)
    (ho : w5.ownsRow w8.heap.size 30 4 nv ((q.map (atL l)).length + 1) (cR (q.map (atL l)) ++ [.int .i64 (atL l j).x0, .int .i64 (atL l j).y0, .int .i64 (atL l j).x1, .int .i64 (atL l j).y1])) : BfW l w8 g nv (q ++ [j]) dn w5 where
  k := by
    refine ⟨hk.os.trans h.k.os, hk.tape.trans h.k.tape, hk.output.trans h.k.output, Nat.le_trans h.k.size hk.size, fun b hb hn => ?_⟩
    rw [hk.block b (Nat.lt_of_lt_of_le hb h.k.size) (fun e => by have := (h.o.lt b e.symm).1; omega)]
    exact h.k.block b hb hn
  o := by
    rw [List.map_append, List.length_append, cR_append]
    exact ho
  d := h.d.grown hk (fun e => by have := (h.o.lt g e.symm).1; omega)
theorem own_four {w : World} {base : Nat} (hb : base ≤ w.heap.size) (r : R4) : (w.alloc (.cells #[.int .i64 r.x0, .int .i64 r.y0, .int .i64 r.x1, .int .i64 r.y1] 30)).ownsRow base 30 4 (.slice (some ⟨w.heap.size, 0, none⟩) 1 1) 1 [.int .i64 r.x0, .int .i64 r.y0, .int .i64 r.x1, .int .i64 r.y1] :=
  own_mk hb (cur := #[.int .i64 r.x0, .int .i64 r.y0, .int .i64 r.x1, .int .i64 r.y1]) (by unfold Blk; simp only [World.alloc]; exact Array.getElem?_push_size) (Nat.le_refl _) (by unfold maxLen; omega) rfl rfl

/-- Between two searches: the pieces found so far, and which rectangles are done. -/
structure PoW (l : List R4) (w : World) (g i : Nat) (ov : Value) (hd : Nat → Option Addr × Nat) (dn : List Bool) (wr : World) : Prop where
  o : wr.ownsRow (g + 1) 22 1 ov (pcsI l i).length (hdsV (pcsI l i) hd)
  r : ∀ (j : Nat) (P : List R4), (pcsI l i)[j]? = some P → Rd wr (hd j).1 P ∧ P.length ≤ (hd j).2 ∧ (hd j).2 ≤ maxLen ∧ ∀ a, (hd j).1 = some a → g < a.block
  d : BoolsAt wr g dn
  z : Below w.heap.size w wr
theorem rd_grown {w w' : World} {A : Option Addr} {l : List R4} {o : Option Nat} (h : Rd w A l) (k : w.grownBy w' o) (hn : ∀ a, A = some a → o ≠ some a.block) : Rd w' A l := by
  intro hp
  obtain ⟨b, off, rfl, hb, hc⟩ := h hp
  refine ⟨b, off, rfl, Nat.lt_of_lt_of_le hb k.size, fun i r hi => ?_⟩
  have e := k.block b hb (fun e => hn _ rfl e.symm)
  obtain ⟨c0, c1, c2, c3⟩ := hc i r hi
  exact ⟨(World.cell?_of_block (a := ⟨b, _, none⟩) e).trans c0, (World.cell?_of_block (a := ⟨b, _, none⟩) e).trans c1, (World.cell?_of_block (a := ⟨b, _, none⟩) e).trans c2, (World.cell?_of_block (a := ⟨b, _, none⟩) e).trans c3⟩
theorem PoW.later {l : List R4} {w w8 wr : World} {g i : Nat} {ov : Value} {hd : Nat → Option Addr × Nat} {dn dn' : List Bool} (h : PoW l w g i ov hd dn w8) (hg : w.heap.size ≤ g) (k : w8.grownBy wr (some g)) (d : BoolsAt wr g dn') : PoW l w g i ov hd dn' wr where
  o := own_grown h.o k (fun x e e2 => by have := (h.o.lt x e).1; have := Option.some.inj e2; omega)
  r j P hP := by
    obtain ⟨h1, h2, h3, h4⟩ := h.r j P hP
    exact ⟨rd_grown h1 k (fun a e e2 => by have := h4 a e; have := Option.some.inj e2; omega), h2, h3, h4⟩
  d := d
  z := h.z.grown k h.z.size (fun j hj => by have := Option.some.inj hj; omega)
theorem PoW.below {l : List R4} {w wr wx : World} {g i : Nat} {ov : Value} {hd : Nat → Option Addr × Nat} {dn : List Bool} (h : PoW l w g i ov hd dn wr) (k : Below wr.heap.size wr wx) : PoW l w g i ov hd dn wx where
  o := ownsRow_below' h.o k
  r j P hP := by
    obtain ⟨h1, h2, h3, h4⟩ := h.r j P hP
    exact ⟨h1.below k, h2, h3, h4⟩
  d := h.d.below k
  z := h.z.trans (k.mono h.z.size)
theorem PoW.same {l : List R4} {w wr : World} {g i : Nat} {ov : Value} {hd : Nat → Option Addr × Nat} {dn : List Bool} (h : PoW l w g i ov hd dn wr) (e : pcsI l (i + 1) = pcsI l i) : PoW l w g (i + 1) ov hd dn wr where
  o := by rw [e]; exact h.o
  r j P hP := h.r j P (by rw [e] at hP; exact hP)
  d := h.d
  z := h.z
def hdP (hd : Nat → Option Addr × Nat) (n : Nat) (Ar : Option Addr) (cr : Nat) : Nat → Option Addr × Nat := fun j => if j = n then (Ar, cr) else hd j
theorem hdsV_snoc (L : List (List R4)) (hd : Nat → Option Addr × Nat) (P : List R4) (Ar : Option Addr) (cr : Nat) : hdsV (L ++ [P]) (hdP hd L.length Ar cr) = hdsV L hd ++ [.slice Ar P.length cr] := by
  unfold hdsV hdP
  rw [List.length_append, List.length_singleton, List.range_succ, List.map_append]
  congr 1
  · refine List.map_congr_left fun i hi => ?_
    have hi := List.mem_range.1 hi
    rw [if_neg (by omega), List.getD_eq_getElem?_getD, List.getD_eq_getElem?_getD, List.getElem?_append_left hi]
  · simp [List.getD_eq_getElem?_getD]
theorem PoW.put {l : List R4} {w wr wx : World} {g i : Nat} {ov nv : Value} {hd : Nat → Option Addr × Nat} {dn : List Bool} {P : List R4} {Ar : Option Addr} {cr : Nat} (h : PoW l w g i ov hd dn wr) (e : pcsI l (i + 1) = pcsI l i ++ [P]) (k : Below wr.heap.size wr wx)
    (ho : wx.ownsRow wr.heap.size 22 1 nv ((pcsI l i).length + 1) (hdsV (pcsI l i) hd ++ [.slice Ar P.length cr])) (hr : Rd wx Ar P) (h1 : P.length ≤ cr) (h2 : cr ≤ maxLen) (h3 : ∀ a, Ar = some a → g < a.block) :
    PoW l w g (i + 1) nv (hdP hd (pcsI l i).length Ar cr) dn wx where
  o := by
    rw [e, hdsV_snoc, List.length_append]
    exact own_low ho (by have := h.d.l; omega)
  r j Q hQ := by
    rw [e] at hQ
    unfold hdP
    by_cases hj : j < (pcsI l i).length
    · rw [List.getElem?_append_left hj] at hQ
      rw [if_neg (by omega)]
      exact (h.below k).r j Q hQ
    · rw [List.getElem?_append_right (by omega)] at hQ
      have : j - (pcsI l i).length = 0 := by
        have := (List.getElem?_eq_some_iff.1 hQ).1
        simp at this
        omega
      rw [this] at hQ
      simp at hQ
      subst hQ
      rw [if_pos (by omega)]
      exact ⟨hr, h1, h2, h3⟩
  d := h.d.below k
  z := h.z.trans (k.mono h.z.size)
theorem po_rd {l : List R4} {w wr : World} {g i : Nat} {ov : Value} {hd : Nat → Option Addr × Nat} {dn : List Bool} (h : PoW l w g i ov hd dn wr) : ∃ A c, ov = .slice A (pcsI l i).length c ∧ (pcsI l i).length ≤ c ∧ c ≤ maxLen ∧ RdO wr A (pcsI l i) hd ∧ (A = none → c = 0) := by
  have ho := h.o
  rcases own_open ho with ⟨e1, e2⟩ | ⟨g2, cap, cur, e1, e2, e3, e4, e5, e6, e7⟩
  · refine ⟨none, 0, by rw [e1, e2], by omega, by unfold maxLen; omega, ⟨fun hp => by omega, fun j P hP => ?_⟩, fun _ => rfl⟩
    obtain ⟨h1, h2, h3, _⟩ := h.r j P hP
    exact ⟨h1, h2, h3⟩
  · obtain ⟨A, c, e8, h1, h2, h3⟩ := own_cells ho
    rw [e1] at e8
    cases e8
    refine ⟨_, _, e1, h1, h2, ⟨fun hp => ?_, fun j P hP => ?_⟩, fun e => by cases e⟩
    · obtain ⟨g3, e9, _, hlt, hc⟩ := h3 hp
      refine ⟨g3, 0, e9, hlt, fun j P hP => ?_⟩
      rw [Nat.zero_add]
      exact hc j _ (hdsV_at hP)
    · obtain ⟨h1, h2, h3, _⟩ := h.r j P hP
      exact ⟨h1, h2, h3⟩
end Go.Proofs.YtjcbngpgmgeanaaGreat
/- touch of the reference, whatever the world. -/
namespace Go.Proofs.YtjcbngpgmgeanaaGreat
open Go.RowKit
open Reg (R4)
set_option linter.unusedSimpArgs false
set_option linter.unusedVariables false
set_option maxRecDepth 100000

def Rb (r : R4) : Prop := (-2000000 ≤ r.x0 ∧ r.x0 ≤ 2000000) ∧ (-2000000 ≤ r.y0 ∧ r.y0 ≤ 2000000) ∧ (-2000000 ≤ r.x1 ∧ r.x1 ≤ 2000000) ∧ (-2000000 ≤ r.y1 ∧ r.y1 ≤ 2000000)
set_option maxHeartbeats 2000000 in
theorem touch_any (a b : R4) (w : World) (ha : Rb a) (hb : Rb b) :
    Calls Tryz.prog 51 #[.agg #[.int .i64 a.x0, .int .i64 a.y0, .int .i64 a.x1, .int .i64 a.y1], .agg #[.int .i64 b.x0, .int .i64 b.y0, .int .i64 b.x1, .int .i64 b.y1]] w fun e w' => e = .returned (.bool (tchB a b)) ∧ Below w.heap.size w w' := by
  obtain ⟨a0, a1, a2, a3⟩ := a
  obtain ⟨b0, b1, b2, b3⟩ := b
  simp only [Rb] at ha hb
  obtain ⟨⟨p1, p2⟩, ⟨p3, p4⟩, ⟨p5, p6⟩, ⟨p7, p8⟩⟩ := ha
  obtain ⟨⟨q1, q2⟩, ⟨q3, q4⟩, ⟨q5, q6⟩, ⟨q7, q8⟩⟩ := hb
  simp only [tchB]
  have X1 := IntWalk.i64_in (min a2 b2 - max a0 b0) (by omega)
  have Y1 := IntWalk.i64_in (min a3 b3 - max a1 b1) (by omega)
  have hmx : ∀ x y : Int, (if x < y then y else x) = max x y := fun x y => by omega
  have hmn : ∀ x y : Int, (if y < x then y else x) = min x y := fun x y => by omega
  have hmx' : ∀ x y : Int, (if x < y then Value.int .i64 y else Value.int .i64 x) = Value.int .i64 (max x y) := fun x y => by
    rw [← hmx]; split <;> rfl
  have hmn' : ∀ x y : Int, (if y < x then Value.int .i64 y else Value.int .i64 x) = Value.int .i64 (min x y) := fun x y => by
    rw [← hmn]; split <;> rfl
  cases e1 : decide (max a0 b0 < min a2 b2) <;> cases e2 : decide (max a1 b1 ≤ min a3 b3) <;> cases e3 : decide (max a0 b0 ≤ min a2 b2) <;> cases e4 : decide (max a1 b1 < min a3 b3)
  all_goals
    go_enter Tryz.func51, Tryz.ntmps51
    go_wp2_with fail
    go_ret
    exact ⟨rfl, by (repeat' (first | (with_reducible exact Below.refl _ _) | (with_reducible assumption) | (with_reducible refine Below.alloc ?_ ?_ _) | (with_reducible refine Below.drew ?_) | (with_reducible refine below_drewN ?_ _) | (with_reducible refine Below.setCell ?_ ?_ _) | (with_reducible exact Nat.le_refl _) | omega | (simp only [World.size_alloc, World.size_setCell, World.size_drew]; omega) | (simp; omega) | (simp; done)))⟩
end Go.Proofs.YtjcbngpgmgeanaaGreat
/- PiecesOf of the reference, whatever the world. -/
namespace Go.Proofs.YtjcbngpgmgeanaaGreat
open Go.RowKit Go.ChangeShapes
open Reg (R4 canonL)
set_option linter.unusedSimpArgs false
set_option linter.unusedVariables false

theorem infoBo : (Tryz.prog.info? 4).map (fun i => (i.zero, i.size, i.bytes)) = some (some (.bool false), 1, 1) := by kernel_rfl
/-- A function that gives slices of rectangles. -/
def GotPz (w : World) (L : List (List R4)) (e : Ending) (w' : World) : Prop := ∃ A c hd, e = .returned (.slice A L.length c) ∧ L.length ≤ c ∧ c ≤ maxLen ∧ RdO w' A L hd ∧ (A = none → c = 0) ∧ Below w.heap.size w w'
theorem atL_at {l : List R4} {k : Nat} {r : R4} (h : l[k]? = some r) : atL l k = r := by
  unfold atL
  rw [List.getD_eq_getElem?_getD, h]
  rfl

theorem ins_any {l : List R4} (h0 : Cn l) {k : Nat} (hk : k < l.length) (hf : fst_ l k = k) (hlen : l.length ≤ 20000) {Ao : Option Addr} {co : Nat} {hd : Nat → Option Addr × Nat} (hnil : (pcsI l k).length = 0 → (Ao = none ∧ co = 0)) (h1 : (pcsI l k).length ≤ co) (h2 : co ≤ maxLen)
    (A7 : Option Addr) (c7 : Nat) (W : World) (hR : RdO W Ao (pcsI l k) hd) (hr : Rd W A7 (canonL (own_ l k))) :
    Calls Tryz.prog 52 #[.slice Ao (pcsI l k).length co, .slice A7 (canonL (own_ l k)).length c7] W fun e w' => ∃ v, e = .returned v ∧ w'.ownsRow W.heap.size 22 1 v ((pcsI l k).length + 1) (hdsV (pcsI l k) hd ++ [.slice A7 (canonL (own_ l k)).length c7]) ∧ Below W.heap.size W w' := by
  have hsm : (pcsI l k).length ≤ k := by
    unfold pcsI
    rw [List.length_map]
    exact Nat.le_trans (List.length_filter_le _ _) (by simp)
  have hlast : ∀ n Q, (pcsI l k)[n]? = some Q → ∃ i, i < k ∧ fst_ l i = i ∧ Q = canonL (own_ l i) := fun n Q hQ => by
    have hm := List.mem_of_getElem? hQ
    simp only [pcsI, List.mem_map, List.mem_filter, List.mem_range, decide_eq_true_eq] at hm
    obtain ⟨i, ⟨h3, h4⟩, rfl⟩ := hm
    exact ⟨i, h3, h4, rfl⟩
  cases hn : (pcsI l k).length with
  | zero =>
    obtain ⟨rfl, rfl⟩ := hnil hn
    have e : pcsI l k = [] := List.length_eq_zero_iff.1 hn
    rw [e]
    exact insert_none A7 _ c7 W
  | succ n =>
    have hi := List.getElem?_eq_getElem (l := pcsI l k) (i := n) (by omega)
    obtain ⟨i, hik, hfi, hQ⟩ := hlast n _ hi
    obtain ⟨r, t, s, u, e1, e2, hless⟩ := piece_later h0 hik hk hfi hf
    obtain ⟨b, off, rfl, _, _⟩ := hR.1 (by omega)
    rw [← hn]
    refine insert_some b off (pcsI l k) co n hd A7 _ c7 s r _ W hn (by omega) h1 h2 hR hr (by rw [e2]; rfl) hi ?_ hless
    rw [hQ, e1]
    rfl

set_option maxRecDepth 100000 in
set_option maxHeartbeats 8000000 in
theorem piecesOf_any (A : Option Addr) (l : List R4) (c : Nat) (w : World) (h0 : Cn l) (hb : ∀ r, r ∈ l → Rb r) (hl : l.length ≤ 20000) (h : Rd w A l) :
    Calls Tryz.prog 22 #[.slice A l.length c] w (GotPz w (pcsL l)) := by
  obtain ⟨i0, hi0, hz0, hz1, hz2⟩ := info_parts infoBo
  obtain ⟨i1, hi1, hy0, hy1, hy2⟩ := info_parts infoR
  have H0 := Lib.hid h
  have HC := Lib.hid h0
  have HB := Lib.hid hb
  unfold GotPz
  clear h h0 hb
  go_enter Tryz.func22, Tryz.ntmps22
  go_wp2_with (first | (at_make; refine wpList_make_full _ rfl (.tmp 10) (.tmp 10) 76 rfl w.heap.size 4 i0 (.bool false) 1 Tryz.underlying76 hi0 hz0 hz1 .i64 .i64 (l.length : Int) (l.length : Int) l.length rfl rfl rfl rfl ?m1 ?m2 ?m3 ?_; (case m1 => rw [hz2]; omega); (case m2 => simp only [maxLen]; omega); (case m3 => omega); intro w1 hown hg; have HO := Lib.hid hown; have HG := Lib.hid hg; clear hown hg))
  have lt0 := (HO.out.lt w.heap.size rfl).2
  have BW := (Below.refl w.heap.size w).grown HG.out (Nat.le_refl _) (fun j hj => by cases hj)
  have N0 := Lib.hid (bools_made HO.out (falses_made l.length) lt0)
  go_loopw [4, 5] (fun ov i wr => ∃ (k : Nat) (hd : Nat → Option Addr × Nat) (dn : List Bool), k ≤ l.length ∧ i = .int .i64 k ∧ DnP l k dn ∧ PoW l w w.heap.size k ov hd dn wr ∧ ((pcsI l k).length = 0 → ov = .slice none 0 0)) (fun _ i _ => l.length - (intOf i).toNat)
  case atStart => exact ⟨0, fun _ => (none, 0), _, Nat.zero_le _, rfl, DnP.start l, ⟨own_nilR _ _ _ _, fun j P hP => by simp [pcsI] at hP, N0.out, BW⟩, fun _ => rfl⟩
  case round =>
    obtain ⟨k, hd, dn, hk, rfl, hdp, hW, hnil⟩ := hrel
    have HW := Lib.hid hW
    have HD := Lib.hid hdp
    have zw := hW.z.size
    have lg := hW.d.l
    have hkz : (0 : Int) ≤ (k : Int) := by omega
    obtain ⟨Ao, co, hov, ho1, ho2, hRo, hNo⟩ := po_rd hW
    subst hov
    have HNil := Lib.hid hnil
    clear hnil
    have HRo := Lib.hid hRo
    have HNo := Lib.hid hNo
    have ho2' : co ≤ 9223372036854775807 := ho2
    clear hW hdp hRo hNo N0 HO HG ho2
    by_cases hlt : k < l.length
    · have hklt : (k : Int) < (l.length : Int) := by omega
      have hdl : k < dn.length := by rw [HD.out.n]; exact hlt
      have hbk := List.getElem?_eq_getElem hdl
      have ck := HW.out.d.c k _ hbk
      have fk := HW.out.d.f k
      have HBk := Lib.hid hbk
      obtain ⟨w8, rfl⟩ : ∃ w8, w8 = wr := ⟨wr, rfl⟩
      cases hv : dn[k] with
      | true =>
        rw [hv] at ck
        have hdk : isDn dn k := by unfold isDn; rw [hbk, hv]
        obtain ⟨hd1, hd2⟩ := HD.out.skip hlt hdk
        have HD1 := Lib.hid hd1
        have HD2 := Lib.hid hd2
        clear hd1 hd2 hdk hbk hv HBk
        go_wp2_with fail
        go_roundw
        case rel => exact ⟨k + 1, hd, dn, by omega, by go_num, HD1.out, HW.out.same (pcsI_no HD2.out), by rw [pcsI_no HD2.out]; exact HNil.out⟩
        case measure => simp [intOf]; omega
      | false =>
        rw [hv] at ck
        have hdk : ¬ isDn dn k := by unfold isDn; rw [hbk, hv]; simp
        have hff := Lib.hid (HD.out.first hlt hdk)
        have hbf := Bf.start HD.out hlt hdk
        obtain ⟨b, off, eA, hbl, hcs⟩ := H0.out.below HW.out.z (by omega)
        subst eA
        have hi := (atL_mem hlt).2
        obtain ⟨d0, d1, d2, d3⟩ := hcs k _ hi
        have hbw : b < w.heap.size := by
          obtain ⟨b', _, e', hb', _⟩ := H0.out (by omega)
          simp only [Option.some.injEq, Addr.mk.injEq] at e'
          omega
        have hbg : ¬ w.heap.size = b := by omega
        have hgb : ¬ b = w.heap.size := by omega
        have hbl8 := hbl
        clear hdk hbk hv HBk hcs hi
        generalize hr : atL l k = r at *
        have HRk := Lib.hid hr
        clear hr
        have hset : BoolsAt (w8.setCell ⟨w.heap.size, k, none⟩ (.bool true)) w.heap.size (dn.set k true) := HW.out.d.set hdl
        have hz8 : (w8.setCell ⟨w.heap.size, k, none⟩ (.bool true)).heap.size = w8.heap.size := by simp
        have ho4 := own_four (w := w8.setCell ⟨w.heap.size, k, none⟩ (.bool true)) (base := w8.heap.size) (by omega) r
        rw [hz8] at ho4
        have hX0 : BfW l w8 w.heap.size (.slice (some ⟨w8.heap.size, 0, none⟩) 1 1) [k] (dn.set k true) ((w8.setCell ⟨w.heap.size, k, none⟩ (.bool true)).alloc (.cells #[.int .i64 r.x0, .int .i64 r.y0, .int .i64 r.x1, .int .i64 r.y1] 30)) := by
          refine ⟨gb_alloc (gb_set (gb_refl _ _) (.inl rfl) _) _, ?_, hset.grown (World.grownBy_alloc _ _ none) (fun e => by cases e)⟩
          simp only [List.map_cons, List.map_nil, HRk.out]
          exact ho4
        have HX0 := Lib.hid hX0
        have HBf := Lib.hid hbf
        clear hX0 ho4 hz8 hset hbf
        go_wp2_with fail
        go_loopw [6, 7] (fun ov at_ wx => ∃ (p : Nat) (q : List Nat) (dn' : List Bool), p ≤ q.length ∧ at_ = .int .i64 p ∧ Bf l k q dn' ∧ Seen l q dn' p ∧ BfW l w8 w.heap.size ov q dn' wx) (fun _ i _ => l.length - (intOf i).toNat)
        case atStart => exact ⟨0, [k], _, Nat.zero_le _, rfl, HBf.out, fun a ha => by simp at ha, HX0.out⟩
        case round =>
          obtain ⟨p, q, dn', hp, rfl, hB, hS, hX⟩ := hrel
          have HBq := Lib.hid hB
          have HS := Lib.hid hS
          have HX := Lib.hid hX
          have hpz : (0 : Int) ≤ (p : Int) := by omega
          have hfew := hB.few
          obtain ⟨A6, c6, hov6, hle6, hcm6, hrd6, -⟩ := rd_own hX.o
          rw [List.length_map] at hov6 hle6
          subst hov6
          have zx := hX.k.size
          clear hB hS hX hrd6 HX0 HBf
          by_cases hpq : p < q.length
          · have ha := List.getElem?_eq_getElem hpq
            have hal := (HBq.out.c _ (List.getElem_mem hpq)).1
            have HQa := Lib.hid ha
            clear ha
            generalize q[p] = a at *
            have hppq : (p : Int) < (q.length : Int) := by omega
            obtain ⟨w9, rfl⟩ : ∃ w9, w9 = wr := ⟨wr, rfl⟩
            go_wp2_with fail
            go_loopw [6, 8] (fun ov kk wx => ∃ (m : Nat) (q2 : List Nat) (dn2 : List Bool), m ≤ l.length ∧ kk = .int .i64 m ∧ Bf l k q2 dn2 ∧ Seen l q2 dn2 p ∧ p < q2.length ∧ q2[p]? = some a ∧ SeenTo l a dn2 m ∧ BfW l w8 w.heap.size ov q2 dn2 wx) (fun _ i _ => l.length - (intOf i).toNat)
            case atStart => exact ⟨0, q, dn', Nat.zero_le _, rfl, HBq.out, HS.out, hpq, HQa.out, fun k hk => by omega, HX.out⟩
            case round =>
              obtain ⟨m, q2, dn2, hm, rfl, hB2, hS2, hpq2, hq2, hT2, hX2⟩ := hrel
              have HB2 := Lib.hid hB2
              have HS2 := Lib.hid hS2
              have HT2 := Lib.hid hT2
              have HX2 := Lib.hid hX2
              have HQ2 := Lib.hid hq2
              have hmz : (0 : Int) ≤ (m : Int) := by omega
              have hfew2 := hB2.few
              have hn2 := hB2.n
              obtain ⟨A7, c7, hov7, hle7, hcm7, hrd7, -⟩ := rd_own hX2.o
              rw [List.length_map] at hov7 hle7
              subst hov7
              have zx2 := hX2.k.size
              have HN2 := Lib.hid hn2
              clear hB2 hS2 hT2 hX2 hq2 hn2
              by_cases hml : m < l.length
              · have hmlt : (m : Int) < (l.length : Int) := by omega
                have hppq2 : (p : Int) < (q2.length : Int) := by omega
                have hdm : m < dn2.length := by rw [HN2.out]; exact hml
                have hbm := List.getElem?_eq_getElem hdm
                have cm := HX2.out.d.c m _ hbm
                have fm := HX2.out.d.f m
                have lgx := HX2.out.d.l
                have hzx : Below w.heap.size w wr := HW.out.z.grown HX2.out.k HW.out.z.size (fun j hj => by have := Option.some.inj hj; omega)
                obtain ⟨b', off', eA', hbl', hcs'⟩ := H0.out.below hzx (by omega)
                cases eA'
                obtain ⟨e0, e1, e2, e3⟩ := hcs' m _ (atL_mem hml).2
                obtain ⟨ob, oo, eA6, hol, hcs6⟩ := hrd7 (by rw [List.length_map]; omega)
                subst eA6
                obtain ⟨g0, g1, g2, g3⟩ := hcs6 p (atL l a) (by rw [List.getElem?_map, HQ2.out]; rfl)
                have ra := HB.out _ (atL_mem hal).1
                have rm := HB.out _ (atL_mem hml).1
                have hobg : ¬ ob = w.heap.size := by
                  have := (HX2.out.o.lt ob rfl).1
                  omega
                have CT := Lib.hid (fun W => touch_any (atL l a) (atL l m) W ra rm)
                have HXz := Lib.hid hzx
                clear hcs' hcs6 ra rm hrd7 hzx
                obtain ⟨w10, rfl⟩ : ∃ w10, w10 = wr := ⟨wr, rfl⟩
                cases hv2 : dn2[m] with
                | true =>
                  rw [hv2] at cm
                  have hdk2 : isDn dn2 m := by unfold isDn; rw [hbm, hv2]
                  have HT3 := Lib.hid (HT2.out.skip (.inl hdk2))
                  clear hdk2 hbm hv2
                  go_wp2_with fail
                  go_quiet (fail)
                  go_wp2_with fail
                  go_roundw
                  case rel => exact ⟨m + 1, q2, dn2, by omega, by go_num, HB2.out, HS2.out, hpq2, HQ2.out, HT3.out, HX2.out.drew (by omega) (below_drewN (Below.refl _ _) _)⟩
                  case measure => simp [intOf]; omega
                | false =>
                  rw [hv2] at cm
                  have hdk2 : ¬ isDn dn2 m := by unfold isDn; rw [hbm, hv2]; simp
                  have HDK := Lib.hid hdk2
                  clear hdk2 hbm hv2
                  go_wp2_with fail
                  generalize hra : atL l a = ra at *
                  generalize hrm : atL l m = rm at *
                  have HRA := Lib.hid hra
                  have HRM := Lib.hid hrm
                  clear hra hrm
                  go_cut [57] (fun s57 wx => s57 = .bool (tchB ra rm) ∧ Below w10.heap.size w10 wx)
                  case first =>
                    go_region_held3 (fun w' => w'.cell? ⟨w.heap.size, m, none⟩ = some (.bool false) ∧ w'.cell? ⟨ob, oo + p * 4, none⟩ = some (.int .i64 ra.x0) ∧ w'.cell? ⟨ob, oo + p * 4 + 1, none⟩ = some (.int .i64 ra.y0) ∧ w'.cell? ⟨ob, oo + p * 4 + 2, none⟩ = some (.int .i64 ra.x1) ∧ w'.cell? ⟨ob, oo + p * 4 + 3, none⟩ = some (.int .i64 ra.y1) ∧
                        w'.cell? ⟨b, off + m * 4, none⟩ = some (.int .i64 rm.x0) ∧ w'.cell? ⟨b, off + m * 4 + 1, none⟩ = some (.int .i64 rm.y0) ∧ w'.cell? ⟨b, off + m * 4 + 2, none⟩ = some (.int .i64 rm.x1) ∧ w'.cell? ⟨b, off + m * 4 + 3, none⟩ = some (.int .i64 rm.y1))
                      (first | go_keep | exact ⟨((bcell BX).1 _ _ lgx).trans cm, ((bcell BX).1 _ _ hol).trans g0, ((bcell BX).1 _ _ hol).trans g1, ((bcell BX).1 _ _ hol).trans g2, ((bcell BX).1 _ _ hol).trans g3, ((bcell BX).1 _ _ hbl').trans e0, ((bcell BX).1 _ _ hbl').trans e1, ((bcell BX).1 _ _ hbl').trans e2, ((bcell BX).1 _ _ hbl').trans e3⟩)
                      (first | (go_at_call 51; refine (CT.out _).mono ?_; rintro e w6 ⟨rfl, hbx⟩; have BX := up (B := w10.heap.size) (w := w10) (by (repeat' (first | (with_reducible exact Below.refl _ _) | (with_reducible assumption) | (with_reducible refine Below.alloc ?_ ?_ _) | (with_reducible refine Below.drew ?_) | (with_reducible refine below_drewN ?_ _) | (with_reducible refine Below.setCell ?_ ?_ _) | (with_reducible exact Nat.le_refl _) | omega | (simp only [World.size_alloc, World.size_setCell, World.size_drew]; omega) | (simp; omega) | (simp; done)))) hbx (by (first | (with_reducible exact Nat.le_refl _) | (with_reducible assumption) | omega | (simp only [World.size_alloc, World.size_setCell, World.size_drew]; omega) | (simp; omega) | (simp; done)))))
                    go_wp2_with fail
                    go_meet
                    exact ⟨rfl, by (repeat' (first | (with_reducible exact Below.refl _ _) | (with_reducible assumption) | (with_reducible refine Below.alloc ?_ ?_ _) | (with_reducible refine Below.drew ?_) | (with_reducible refine below_drewN ?_ _) | (with_reducible refine Below.setCell ?_ ?_ _) | (with_reducible exact Nat.le_refl _) | omega | (simp only [World.size_alloc, World.size_setCell, World.size_drew]; omega) | (simp; omega) | (simp; done)))⟩
                  case rest =>
                    obtain ⟨rfl, hcut⟩ := hcut
                    have HXc := Lib.hid (HX2.out.drew (by omega) hcut)
                    have zc := hcut.size
                    have cmc := ((bcell hcut).1 _ _ lgx).trans cm
                    have fmc := ((bcell hcut).2 _ _ lgx).trans fm
                    have e0c := ((bcell hcut).1 _ _ hbl').trans e0
                    have e1c := ((bcell hcut).1 _ _ hbl').trans e1
                    have e2c := ((bcell hcut).1 _ _ hbl').trans e2
                    have e3c := ((bcell hcut).1 _ _ hbl').trans e3
                    have lgc := Nat.lt_of_lt_of_le lgx zc
                    have lbc := Nat.lt_of_lt_of_le hbl' zc
                    clear hcut cm fm e0 e1 e2 e3 g0 g1 g2 g3
                    cases ht : tchB ra rm
                    · have HT3 := Lib.hid (HT2.out.skip (.inr (by rw [HRA.out, HRM.out]; exact ht)))
                      clear ht
                      go_wp2_with fail
                      go_roundw
                      case rel => exact ⟨m + 1, q2, dn2, by omega, by go_num, HB2.out, HS2.out, hpq2, HQ2.out, HT3.out, HXc.out⟩
                      case measure => simp [intOf]; omega
                    · have HB3 := Lib.hid (HB2.out.put HC.out.1 HC.out.rowed HC.out.nodup (List.mem_of_getElem? HQ2.out) hml HDK.out (by rw [HRA.out, HRM.out]; exact ht))
                      have HT3 := Lib.hid (HT2.out.put hdm)
                      have HS3 := Lib.hid (HS2.out.put (by omega) hdm)
                      have HM := Lib.hid (HXc.out.mark (by omega) hdm)
                      have hbg2 : ¬ w.heap.size = b := hbg
                      clear ht
                      have hns : (w10.heap.size : Nat) ≤ wc.heap.size := zc
                      generalize hws : wc.setCell ⟨w.heap.size, m, none⟩ (.bool true) = ws at *
                      have f0 : ws.cell? ⟨b, off + m * 4, none⟩ = some (.int .i64 rm.x0) := by rw [← hws, World.cell?_setCell_other _ _ _ _ (by simp [hbg2])]; exact e0c
                      have f1 : ws.cell? ⟨b, off + m * 4 + 1, none⟩ = some (.int .i64 rm.y0) := by rw [← hws, World.cell?_setCell_other _ _ _ _ (by simp [hbg2])]; exact e1c
                      have f2 : ws.cell? ⟨b, off + m * 4 + 2, none⟩ = some (.int .i64 rm.x1) := by rw [← hws, World.cell?_setCell_other _ _ _ _ (by simp [hbg2])]; exact e2c
                      have f3 : ws.cell? ⟨b, off + m * 4 + 3, none⟩ = some (.int .i64 rm.y1) := by rw [← hws, World.cell?_setCell_other _ _ _ _ (by simp [hbg2])]; exact e3c
                      have zs : ws.heap.size = wc.heap.size := by rw [← hws]; simp
                      have HWs := Lib.hid hws
                      have hzz : w8.heap.size ≤ ws.heap.size := by omega
                      have hzb : b < ws.heap.size := by omega
                      clear hws zs
                      go_upto_region 17 with fail
                      rw [HWs.out]
                      go_wp2_with (first
                        | (at_builtin; refine wpList_append_lies _ rfl (.tmp 61) (.tmp 66) 22 rfl w8.heap.size 30 i1 (.agg #[.int .i64 0, .int .i64 0, .int .i64 0, .int .i64 0]) 4 32 Tryz.underlying22 hi1 hy0 hy1 hy2 rfl (by omega) (.slice (some ⟨ob, oo, none⟩) q2.length c7) q2.length (cR (q2.map (atL l))) rfl (by have := HM.out.o; rw [List.length_map] at this; exact own_grown this (World.grownBy_alloc _ _ none) (fun g _ e => by cases e)) ⟨ws.heap.size, 0, none⟩ 1 1 [.int .i64 rm.x0, .int .i64 rm.y0, .int .i64 rm.x1, .int .i64 rm.y1] rfl rfl (four_new _ _ _ _ _ _) (by simp [Value.oneCell']) (by omega) (by unfold maxLen; omega) (by omega) (by simp; omega) (ws.heap.size + 1) (by simp) ?_; intro gg cap w6 hown6 hgrow6 hat6 hlt6; have HO6 := Lib.hid hown6; have HG6 := Lib.hid hgrow6; clear hown6 hgrow6))
                      go_roundw
                      case rel =>
                        refine ⟨m + 1, q2 ++ [m], dn2.set m true, by omega, by go_num, HB3.out, HS3.out, by rw [List.length_append]; omega, by rw [List.getElem?_append_left hpq2]; exact HQ2.out, HT3.out, ?_⟩
                        have hk := (HM.out.drew (by omega) ((Below.refl _ _).alloc (Nat.le_refl _) (.cells #[.int .i64 rm.x0, .int .i64 rm.y0, .int .i64 rm.x1, .int .i64 rm.y1] 30)))
                        refine hk.put (by omega) HG6.out ?_
                        rw [List.length_map, HRM.out]
                        exact HO6.out
                      case measure => simp [intOf]; omega
              · obtain rfl : m = l.length := by omega
                go_wp2_with fail
                go_roundw
                case rel => exact ⟨p + 1, q2, dn2, by omega, by go_num, HB2.out, HS2.out.next HQ2.out HT2.out, HX2.out⟩
                case measure => simp [intOf]; omega
          · obtain rfl : p = q.length := by omega
            obtain ⟨hcan, hdn⟩ := HBq.out.canon HC.out HS.out
            have HDN := Lib.hid hdn
            have HP2 := Lib.hid (HW.out.later (Nat.le_refl _) HX.out.k HX.out.d)
            have C2 := Lib.hid (fun W h => rcanonical_any A6 (q.map (atL l)) c6 W (by rw [List.length_map]; omega) h)
            unfold GotR at C2
            rw [hcan, List.length_map] at C2
            obtain ⟨A9, c9, hov9, -, -, hrd9, -⟩ := rd_own HX.out.o
            rw [List.length_map] at hov9
            obtain ⟨rfl, -, rfl⟩ := Value.slice.inj hov9
            have HRd := Lib.hid hrd9
            have CI := Lib.hid (fun A7 c7 W h1 h2 => ins_any HC.out hlt hff.out hl (Ao := Ao) (co := co) (hd := hd) (fun e => by have := HNil.out e; simp only [Value.slice.injEq] at this; exact ⟨this.1, this.2.2⟩) ho1 ho2' A7 c7 W h1 h2)
            have PY := Lib.hid (pcsI_yes hff.out)
            clear hdn hcan hrd9 hov9
            generalize canonL (own_ l k) = P at *
            have lgx : w.heap.size < wr.heap.size := by omega
            obtain ⟨w9, rfl⟩ : ∃ w9, w9 = wr := ⟨wr, rfl⟩
            go_wp2_with fail
            refine (C2.out _ HRd.out).mono ?_
            rintro e w3 ⟨A7, c7, rfl, m1, m2, hr7, ⟨hb7, -⟩, hb⟩
            have HP3 := Lib.hid (HP2.out.below hb)
            have HR7 := Lib.hid hr7
            have HB7 := Lib.hid hb7
            clear hb hr7 hb7
            obtain ⟨Az, cz, hovz, -, -, hRz, -⟩ := po_rd HP3.out
            obtain ⟨rfl, -, rfl⟩ := Value.slice.inj hovz
            have HRz := Lib.hid hRz
            clear hRz hovz
            go_wp2_with fail
            refine (CI.out _ _ _ HRz.out HR7.out).mono ?_
            rintro e w4 ⟨v4, rfl, ho4, hb4⟩
            have HP4 := Lib.hid (HP3.out.put PY.out hb4 ho4 (HR7.out.below hb4) m1 m2 (fun a ea => by have := HB7.out a ea; omega))
            clear hb4 ho4
            go_wp2_with fail
            go_roundw
            case rel => exact ⟨k + 1, _, dn', by omega, by go_num, HDN.out, HP4.out, fun e => by rw [PY.out, List.length_append] at e; simp at e⟩
            case measure => simp [intOf]; omega
    · obtain rfl : k = l.length := by omega
      rw [pcsI_all] at *
      go_wp2_with fail
      go_ret
      exact ⟨Ao, co, hd, rfl, ho1, ho2', HRo.out, HNo.out, HW.out.z⟩
end Go.Proofs.YtjcbngpgmgeanaaGreat

/- The reference's joined: a span put to others that do not touch, whatever the world. -/
import Derived.Test.YtmcbjaefnhfopaaGreatRefB
import Derived.Deep.DeepCutAuto
import Derived.RegionTactic
import Derived.ChangeAlike
namespace Go.Proofs.YtmcbjaefnhfopaaGreat
open Go.RowKit
open Reg (R4 Span)
set_option linter.unusedSimpArgs false
set_option linter.unusedVariables false

/-- A value that reads as a list of spans. -/
def IsS (w : World) (v : Value) (l : List Span) : Prop :=
  (l = [] ∧ v = .slice none 0 0) ∨ (0 < l.length ∧ ∃ b off c, v = .slice (some ⟨b, off, none⟩) l.length c ∧ l.length ≤ c ∧ c ≤ 9223372036854775807 ∧ b < w.heap.size ∧
    ∀ i s, l[i]? = some s → w.cell? ⟨b, off + i * 2, none⟩ = some (.int .i64 s.1) ∧ w.cell? ⟨b, off + i * 2 + 1, none⟩ = some (.int .i64 s.2))
theorem IsS.below {w w' : World} {v : Value} {l : List Span} (h : IsS w v l) (hb : Below w.heap.size w w') : IsS w' v l := by
  rcases h with h | ⟨h0, b, off, c, e, h1, h2, h3, h4⟩
  · exact .inl h
  · exact .inr ⟨h0, b, off, c, e, h1, h2, Nat.lt_of_lt_of_le h3 hb.size, fun i r hi => ⟨((bcell hb).1 _ _ h3).trans (h4 i r hi).1, ((bcell hb).1 _ _ h3).trans (h4 i r hi).2⟩⟩
theorem IsS.drewN {w : World} {v : Value} {l : List Span} (h : IsS w v l) (n : Nat) : IsS (w.drewN n) v l := h
def GotS (w : World) (l : List Span) (e : Ending) (w' : World) : Prop := ∃ v, e = .returned v ∧ IsS w' v l ∧ (∀ g, v.ownBlock = some g → w.heap.size ≤ g) ∧ Below w.heap.size w w'
/-- The cells of spans. -/
def cS (l : List Span) : List Value := l.flatMap fun s => [.int .i64 s.1, .int .i64 s.2]
theorem cS_len (l : List Span) : (cS l).length = l.length * 2 := by induction l <;> simp [cS] at *; omega
theorem cS_append (a b : List Span) : cS (a ++ b) = cS a ++ cS b := by simp [cS]
theorem cS_at {l : List Span} : ∀ {i : Nat} {s : Span}, l[i]? = some s → (cS l)[i * 2]? = some (.int .i64 s.1) ∧ (cS l)[i * 2 + 1]? = some (.int .i64 s.2) := by
  induction l with
  | nil => intro i s h; simp at h
  | cons a l ih =>
    intro i s h
    cases i with
    | zero => simp at h; subst h; exact ⟨rfl, rfl⟩
    | succ i =>
      simp at h
      have := ih h
      simp only [cS, List.flatMap_cons] at this ⊢
      rw [show (i + 1) * 2 = i * 2 + 1 + 1 from by omega]
      exact this
theorem cS_one (l : List Span) : ∀ u ∈ cS l, u.oneCell' = true := by
  intro u hu
  obtain ⟨s, _, hs⟩ := List.mem_flatMap.1 hu
  simp at hs
  rcases hs with rfl | rfl <;> rfl
theorem cS_find {l : List Span} : ∀ {j : Nat} {u : Value}, (cS l)[j]? = some u → ∃ i s, l[i]? = some s ∧ ((j = i * 2 ∧ u = .int .i64 s.1) ∨ (j = i * 2 + 1 ∧ u = .int .i64 s.2)) := by
  induction l with
  | nil => intro j u h; simp [cS] at h
  | cons a l ih =>
    intro j u h
    simp only [cS, List.flatMap_cons] at h ih
    match j, h with
    | 0, h => simp at h; exact ⟨0, a, rfl, .inl ⟨rfl, h.symm⟩⟩
    | 1, h => simp at h; exact ⟨0, a, rfl, .inr ⟨rfl, h.symm⟩⟩
    | j + 2, h =>
      obtain ⟨i, s, h1, h2⟩ := ih (j := j) (u := u) (by simpa using h)
      refine ⟨i + 1, s, by simpa using h1, ?_⟩
      rcases h2 with ⟨rfl, hu⟩ | ⟨rfl, hu⟩
      · exact .inl ⟨by omega, hu⟩
      · exact .inr ⟨by omega, hu⟩
theorem news_spans {w : World} {b off : Nat} {l : List Span} (h : ∀ i s, l[i]? = some s → w.cell? ⟨b, off + i * 2, none⟩ = some (.int .i64 s.1) ∧ w.cell? ⟨b, off + i * 2 + 1, none⟩ = some (.int .i64 s.2)) :
    ∀ j u, (cS l)[j]? = some u → w.cell? ((⟨b, off, none⟩ : Addr).add j) = some u := by
  intro j u hj
  obtain ⟨i, s, h1, h2⟩ := cS_find hj
  have hh := h i s h1
  rcases h2 with ⟨rfl, rfl⟩ | ⟨rfl, rfl⟩
  · by_cases h0 : i = 0
    · subst h0; simpa [Addr.add] using hh.1
    · have h2 : ¬ i * 2 = 0 := by omega
      simpa [Addr.add, h0, h2] using hh.1
  · simpa [Addr.add, Nat.add_assoc] using hh.2
theorem isS_own {w : World} {base : Nat} {v : Value} {l : List Span} (h : w.ownsRow base 93 2 v l.length (cS l)) (hpos : 0 < l.length) : IsS w v l := by
  obtain ⟨A, c, rfl, h1, h2, h3⟩ := own_cells h
  obtain ⟨g, rfl, hg, hlt, hc⟩ := h3 hpos
  refine .inr ⟨hpos, g, 0, c, rfl, h1, h2, hlt, fun i s hi => ?_⟩
  rw [Nat.zero_add]
  exact ⟨hc _ _ (cS_at hi).1, hc _ _ (cS_at hi).2⟩

theorem infoS : (Tryz.prog.info? 93).map (fun i => (i.zero, i.size, i.bytes)) = some (some (.agg #[.int .i64 0, .int .i64 0]), 2, 16) := by kernel_rfl

theorem two_news {W : World} {g : Nat} {x y : Value} (h0 : W.cell? ⟨g, 0, none⟩ = some x) (h1 : W.cell? ⟨g, 1, none⟩ = some y) : ∀ j u, [x, y][j]? = some u → W.cell? ((⟨g, 0, none⟩ : Addr).add j) = some u := by
  intro j u hj
  match j, hj with
  | 0, hj => simp at hj; subst hj; simpa [Addr.add] using h0
  | 1, hj => simp at hj; subst hj; simpa [Addr.add] using h1
  | j + 2, hj => simp at hj
theorem two_new (W : World) (x y : Value) (t : TypeId) : ∀ j u, [x, y][j]? = some u → (W.alloc (.cells #[x, y] t)).cell? ((⟨W.heap.size, 0, none⟩ : Addr).add j) = some u :=
  two_news (by simp) (by simp)
theorem own_nil {W : World} {base size : Nat} {e : TypeId} : W.ownsRow base e size (.slice none 0 0) 0 [] := ⟨by simp, .inl ⟨rfl, rfl⟩⟩

set_option maxRecDepth 100000 in
set_option maxHeartbeats 1000000 in
theorem joined_nil (x y : Int) (w : World) : Calls Tryz.prog 84 #[.slice none 0 0, .agg #[.int .i64 x, .int .i64 y]] w (GotS w (Reg.joinedL [] (x, y))) := by
  obtain ⟨i0, hi, hz0, hz1, hz2⟩ := info_parts infoS
  go_enter Tryz.func84, Tryz.ntmps84
  go_wp2_with fail
  refine wp_loop_rounds 1 ?_
  rw [rounds_succ]
  go_wp2_with fail
  go_quiet (fail)
  go_wp2_with fail
  refine wp_loop_rounds 1 ?_
  rw [rounds_succ]
  go_wp2_with fail
  go_quiet (fail)
  go_wp2_with (first
    | (at_builtin; refine wpList_append_own _ rfl (.tmp 64) (.tmp 66) 63 rfl (w.heap.size + 1) 93 i0 (.agg #[.int .i64 0, .int .i64 0]) 2 16 Tryz.underlying63 hi hz0 hz1 hz2 rfl (by decide) (.slice none 0 0) 0 [] rfl own_nil ⟨w.heap.size + 1, 0, none⟩ 1 1 [.int .i64 x, .int .i64 y] rfl rfl (two_news ?n0 ?n1) ?o2 ?q4 ?q5 ?b2 ?_; (case n0 => simp [go_sem]); (case n1 => simp [go_sem]); (case o2 => simp [Value.oneCell']); (case q4 => simp [maxLen]); (case q5 => omega); (case b2 => (first | (with_reducible exact Nat.le_refl _) | (with_reducible assumption) | omega | (simp only [World.size_alloc, World.size_setCell, World.size_drew]; omega) | (simp; omega) | (simp; done))); intro v2 w2 hown2 hg2 _; have HO2 := Lib.hid hown2; have B2 := below_app (B := w.heap.size) (w0 := w) (base := w.heap.size + 1) (size := 2) (e := 93) (by (repeat' (first | (with_reducible exact Below.refl _ _) | (with_reducible assumption) | (with_reducible refine Below.alloc ?_ ?_ _) | (with_reducible refine Below.drew ?_) | (with_reducible refine below_drewN ?_ _) | (with_reducible refine Below.setCell ?_ ?_ _) | (with_reducible exact Nat.le_refl _) | omega | (simp only [World.size_alloc, World.size_setCell, World.size_drew]; omega) | (simp; omega) | (simp; done)))) own_nil hg2 (by omega) (by (first | (with_reducible exact Nat.le_refl _) | (with_reducible assumption) | omega | (simp only [World.size_alloc, World.size_setCell, World.size_drew]; omega) | (simp; omega) | (simp; done))); clear hown2 hg2)
    | (at_builtin; refine wpList_append_own_none rfl (.tmp 68) (.tmp 71) 63 rfl (w.heap.size + 1) 93 i0 2 Tryz.underlying63 hi v2 (0 + 1) ([] ++ [.int .i64 x, .int .i64 y]) rfl HO2.out rfl ?_))
  go_ret
  exact ⟨_, rfl, isS_own (l := [(x, y)]) HO2.out (by simp), fun g hg => Nat.le_of_succ_le (HO2.out.lt g hg).1, B2⟩

theorem grown_all {W w' : World} {row : Option Nat} (hg : W.grownBy w' row) {b : Nat} (hb : b < W.heap.size) (hne : some b ≠ row) : (∀ i, w'.cell? ⟨b, i, none⟩ = W.cell? ⟨b, i, none⟩) ∧ (∀ i, w'.frozen? ⟨b, i, none⟩ = W.frozen? ⟨b, i, none⟩) :=
  ⟨fun i => World.cell?_of_block (hg.block b hb hne), fun i => World.frozen?_of_block (hg.block b hb hne)⟩
theorem alloc_all {W : World} (o : Obj) {b : Nat} (hb : b < W.heap.size) : (∀ i, (W.alloc o).cell? ⟨b, i, none⟩ = W.cell? ⟨b, i, none⟩) ∧ (∀ i, (W.alloc o).frozen? ⟨b, i, none⟩ = W.frozen? ⟨b, i, none⟩) :=
  have h : Below W.heap.size W (W.alloc o) := (Below.refl _ _).alloc (Nat.le_refl _) o
  ⟨fun i => (bcell h).1 b i hb, fun i => (bcell h).2 b i hb⟩
/-- An append onto an own row, behind a new block: what a box holds stays. -/
theorem app_box {W w' : World} {o : Obj} {row : Option Nat} {g : Nat} {cs : Array Value} (hg : (W.alloc o).grownBy w' row) (hb : g < W.heap.size) (hne : some g ≠ row) (hc : ∀ i, W.cell? ⟨g, i, none⟩ = cs[i]?) (hf : ∀ i, W.frozen? ⟨g, i, none⟩ = false) :
    (∀ i, w'.cell? ⟨g, i, none⟩ = cs[i]?) ∧ (∀ i, w'.frozen? ⟨g, i, none⟩ = false) := by
  have h1 := grown_all hg (b := g) (Nat.lt_of_lt_of_le hb (by simp)) hne
  have h2 := alloc_all o hb
  exact ⟨fun i => ((h1.1 i).trans (h2.1 i)).trans (hc i), fun i => ((h1.2 i).trans (h2.2 i)).trans (hf i)⟩

theorem box_set {W : World} {g : Nat} {p q a d : Value} (hc : ∀ i, W.cell? ⟨g, i, none⟩ = (#[p, q])[i]?) : ∀ i, ((W.setCell ⟨g, 0, none⟩ a).setCell ⟨g, 1, none⟩ d).cell? ⟨g, i, none⟩ = (#[a, d])[i]? := by
  intro i
  have h0 := hc 0
  have h1 := hc 1
  simp at h0 h1
  match i with
  | 0 => simp [go_sem, h0]
  | 1 => simp [go_sem, h1]
  | i + 2 =>
    have h2 := hc (i + 2)
    simp at h2
    rw [World.cell?_setCell_other _ _ _ _ (by simp), World.cell?_setCell_other _ _ _ _ (by simp), h2]
    simp
theorem frozen_set {W : World} {g : Nat} {a d : Value} (hf : ∀ i, W.frozen? ⟨g, i, none⟩ = false) : ∀ i, ((W.setCell ⟨g, 0, none⟩ a).setCell ⟨g, 1, none⟩ d).frozen? ⟨g, i, none⟩ = false := by
  intro i
  simp [hf]
theorem own_set {W : World} {base n size g : Nat} {e : TypeId} {v : Value} {xs : List Value} (h : W.ownsRow base e size v n xs) (hg : g < base) (a d : Value) : ((W.setCell ⟨g, 0, none⟩ a).setCell ⟨g, 1, none⟩ d).ownsRow base e size v n xs :=
  ownsRow_setCell_below (a := ⟨g, 1, none⟩) (ownsRow_setCell_below (a := ⟨g, 0, none⟩) h hg a) hg d

theorem absorb_stop {l : List Span} {s : Span} (h : ∀ u, l.head? = some u → ¬ u.1 ≤ s.2) : Reg.absorbL l s = s :: l := by
  cases l with
  | nil => rfl
  | cons u l => simp only [Reg.absorbL]; rw [if_neg (h u rfl)]

set_option maxRecDepth 100000 in
set_option maxHeartbeats 2000000 in
theorem joined_some (b off c : Nat) (l : List Span) (x y : Int) (w : World) (hl0 : 0 < l.length) (hl : l.length ≤ c) (hc : c ≤ 9223372036854775807) (hsmall : l.length ≤ 1000000) (hblt : b < w.heap.size)
    (hcs : ∀ i s, l[i]? = some s → w.cell? ⟨b, off + i * 2, none⟩ = some (.int .i64 s.1) ∧ w.cell? ⟨b, off + i * 2 + 1, none⟩ = some (.int .i64 s.2)) :
    Calls Tryz.prog 84 #[.slice (some ⟨b, off, none⟩) l.length c, .agg #[.int .i64 x, .int .i64 y]] w (GotS w (Reg.joinedL l (x, y))) := by
  obtain ⟨i0, hi, hz0, hz1, hz2⟩ := info_parts infoS
  have HC := Lib.hid hcs
  clear hcs
  go_enter Tryz.func84, Tryz.ntmps84
  go_wp2_with fail
  go_loopw [5, 6] (fun v5 v6 wr => ∃ k : Nat, k ≤ l.length ∧ v6 = .int .i64 k ∧ wr.ownsRow (w.heap.size + 1) 93 2 v5 k (cS (l.take k)) ∧ Reg.joinedL l (x, y) = l.take k ++ Reg.joinedL (l.drop k) (x, y) ∧ Below w.heap.size w wr ∧
      (∀ i, wr.cell? ⟨w.heap.size, i, none⟩ = (#[Value.int .i64 x, .int .i64 y])[i]?) ∧ (∀ i, wr.frozen? ⟨w.heap.size, i, none⟩ = false) ∧ w.heap.size + 1 ≤ wr.heap.size) (fun _ v6 _ => l.length - (intOf v6).toNat)
  case atStart => exact ⟨0, Nat.zero_le _, rfl, own_nil, rfl, by (repeat' (first | (with_reducible exact Below.refl _ _) | (with_reducible assumption) | (with_reducible refine Below.alloc ?_ ?_ _) | (with_reducible refine Below.drew ?_) | (with_reducible refine below_drewN ?_ _) | (with_reducible refine Below.setCell ?_ ?_ _) | (with_reducible exact Nat.le_refl _) | omega | (simp only [World.size_alloc, World.size_setCell, World.size_drew]; omega) | (simp; omega) | (simp; done))), fun i => by simp [go_sem], fun i => by simp [go_sem], by simp⟩
  case round =>
    obtain ⟨k, hk, rfl, hown, hf, hbw, hbox, hfz, hsz⟩ := hrel
    have zw := hbw.size
    have HO := Lib.hid hown
    have HF := Lib.hid hf
    have K := Lib.hid (fun i s hi => (show wr.cell? ⟨b, off + i * 2, none⟩ = some (.int .i64 s.1) ∧ wr.cell? ⟨b, off + i * 2 + 1, none⟩ = some (.int .i64 s.2) from ⟨((bcell hbw).1 _ _ hblt).trans (HC.out i s hi).1, ((bcell hbw).1 _ _ hblt).trans (HC.out i s hi).2⟩))
    clear hown hf
    have hkz : (0 : Int) ≤ (k : Int) := by omega
    by_cases hgo : ∃ u, l[k]? = some u ∧ u.2 < x
    · obtain ⟨u, hu, hux⟩ := hgo
      have hlt := (List.getElem?_eq_some_iff.1 hu).1
      obtain ⟨c0, c1⟩ := K.out k u hu
      have hd : l.drop k = u :: l.drop (k + 1) := by rw [List.drop_eq_getElem_cons hlt]; rw [List.getElem?_eq_getElem hlt] at hu; injection hu with hu; rw [hu]
      have ht : l.take (k + 1) = l.take k ++ [u] := by rw [List.take_succ_eq_append_getElem hlt]; rw [List.getElem?_eq_getElem hlt] at hu; injection hu with hu; rw [hu]
      have hn : Reg.joinedL l (x, y) = l.take (k + 1) ++ Reg.joinedL (l.drop (k + 1)) (x, y) := by rw [HF.out, hd, ht]; simp [Reg.joinedL, hux]
      have hc : cS (l.take (k + 1)) = cS (l.take k) ++ [.int .i64 u.1, .int .i64 u.2] := by rw [ht, cS_append]; rfl
      have HN := Lib.hid hn
      have HCC := Lib.hid hc
      clear hd ht hn hc hu
      have hklt : (k : Int) < (l.length : Int) := by omega
      go_wp2_with fail
      go_quiet (fail)
      have HOq := Lib.hid (show (wr.drewN nq).ownsRow (w.heap.size + 1) 93 2 u5 k (cS (l.take k)) from HO.out)
      go_wp2_with (at_builtin; refine wpList_append_own _ rfl (.tmp 21) (.tmp 26) 63 rfl (w.heap.size + 1) 93 i0 (.agg #[.int .i64 0, .int .i64 0]) 2 16 Tryz.underlying63 hi hz0 hz1 hz2 rfl (by decide) u5 k (cS (l.take k)) rfl (HOq.out.alloc _) ⟨wr.heap.size, 0, none⟩ 1 1 [.int .i64 u.1, .int .i64 u.2] rfl rfl (two_new _ _ _ _) ?o2 ?q4 ?q5 ?b2 ?_; (case o2 => simp [Value.oneCell']); (case q4 => simp only [maxLen]; omega); (case q5 => omega); (case b2 => (first | (with_reducible exact Nat.le_refl _) | (with_reducible assumption) | omega | (simp only [World.size_alloc, World.size_setCell, World.size_drew]; omega) | (simp; omega) | (simp; done))); intro v2 w2 hown2 hg2 _; have HO2 := Lib.hid hown2; have HG2 := Lib.hid hg2; clear hown2 hg2)
      have hbx := app_box HG2.out (by simp; omega) (own_far HO.out (by omega)) hbox hfz
      have hb2 : Below w.heap.size w w2 := below_app (B := w.heap.size) (w0 := w) (by (repeat' (first | (with_reducible exact Below.refl _ _) | (with_reducible assumption) | (with_reducible refine Below.alloc ?_ ?_ _) | (with_reducible refine Below.drew ?_) | (with_reducible refine below_drewN ?_ _) | (with_reducible refine Below.setCell ?_ ?_ _) | (with_reducible exact Nat.le_refl _) | omega | (simp only [World.size_alloc, World.size_setCell, World.size_drew]; omega) | (simp; omega) | (simp; done)))) (HOq.out.alloc _) HG2.out (by omega) (by (first | (with_reducible exact Nat.le_refl _) | (with_reducible assumption) | omega | (simp only [World.size_alloc, World.size_setCell, World.size_drew]; omega) | (simp; omega) | (simp; done)))
      have hsz2 := HG2.out.size
      simp at hsz2
      refine ⟨⟨k + 1, by omega, by go_num, by rw [HCC.out]; exact HO2.out, HN.out, hb2, hbx.1, hbx.2, by omega⟩, ?_⟩
      simp [intOf]
      omega
    · have key : Reg.joinedL l (x, y) = l.take k ++ Reg.absorbL (l.drop k) (x, y) := by
        rw [HF.out]
        congr 1
        cases hd : l.drop k with
        | nil => rfl
        | cons u m =>
          have hu : l[k]? = some u := by
            have := congrArg (fun z => z[0]?) hd
            simpa [List.getElem?_drop] using this
          have : ¬ u.2 < x := fun h => hgo ⟨u, hu, h⟩
          simp only [Reg.joinedL]
          rw [if_neg this]
      have KEY := Lib.hid key
      clear key
      have hex : k < l.length → ∃ u, l[k]? = some u ∧ wr.cell? ⟨b, off + k * 2 + 1, none⟩ = some (.int .i64 u.2) ∧ ¬ u.2 < x := fun hlt => by
        have hu : l[k]? = some l[k] := List.getElem?_eq_getElem hlt
        exact ⟨_, hu, (K.out k _ hu).2, fun h => hgo ⟨_, hu, h⟩⟩
      clear hgo
      -- both ways out of the first loop come here
      have rest : ∀ nq : Nat, True := fun _ => trivial
      clear rest
      by_cases hlt : k < l.length
      · obtain ⟨u, _, c1, hux⟩ := hex hlt
        have hklt : (k : Int) < (l.length : Int) := by omega
        go_wp2_with fail
        go_quiet (fail)
        go_wp2_with fail
        go_loopw [6] (fun v6 wr2 => ∃ (j : Nat) (a d : Int), j ≤ l.length ∧ v6 = .int .i64 j ∧ Reg.joinedL l (x, y) = l.take k ++ Reg.absorbL (l.drop j) (a, d) ∧ wr2.ownsRow (w.heap.size + 1) 93 2 u5 k (cS (l.take k)) ∧ Below w.heap.size w wr2 ∧
            (∀ i, wr2.cell? ⟨w.heap.size, i, none⟩ = (#[Value.int .i64 a, .int .i64 d])[i]?) ∧ (∀ i, wr2.frozen? ⟨w.heap.size, i, none⟩ = false) ∧ w.heap.size + 1 ≤ wr2.heap.size) (fun v6 _ => l.length - (intOf v6).toNat)
        case atStart => exact ⟨k, x, y, hk, rfl, KEY.out, HO.out, by (repeat' (first | (with_reducible exact Below.refl _ _) | (with_reducible assumption) | (with_reducible refine Below.alloc ?_ ?_ _) | (with_reducible refine Below.drew ?_) | (with_reducible refine below_drewN ?_ _) | (with_reducible refine Below.setCell ?_ ?_ _) | (with_reducible exact Nat.le_refl _) | omega | (simp only [World.size_alloc, World.size_setCell, World.size_drew]; omega) | (simp; omega) | (simp; done))), hbox, hfz, by simpa using hsz⟩
        case round =>
          obtain ⟨j, a, d, hj, rfl, hkey2, hown2, hbw2, hbox2, hfz2, hsz2⟩ := hrel
          have zw2 := hbw2.size
          have KEY2 := Lib.hid hkey2
          have HO2 := Lib.hid hown2
          clear hkey2 hown2
          have hjz : (0 : Int) ≤ (j : Int) := by omega
          by_cases hlt2 : j < l.length
          · have hu : l[j]? = some l[j] := List.getElem?_eq_getElem hlt2
            have hd2 : l.drop j = l[j] :: l.drop (j + 1) := List.drop_eq_getElem_cons hlt2
            have hc := HC.out j _ hu
            have c0 := ((bcell hbw2).1 _ _ hblt).trans hc.1
            have c1' := ((bcell hbw2).1 _ _ hblt).trans hc.2
            have HD2 := Lib.hid hd2
            clear hc hd2 hu
            generalize l[j] = q at *
            have hjlt : (j : Int) < (l.length : Int) := by omega
            by_cases hle : q.1 ≤ d
            · have hn : Reg.joinedL l (x, y) = l.take k ++ Reg.absorbL (l.drop (j + 1)) (if q.1 < a then q.1 else a, if d < q.2 then q.2 else d) := by
                rw [KEY2.out, HD2.out]
                simp only [Reg.absorbL]
                rw [if_pos hle, show min a q.1 = if q.1 < a then q.1 else a from (by split <;> omega), show max d q.2 = if d < q.2 then q.2 else d from (by split <;> omega)]
              have HN := Lib.hid hn
              clear hn
              go_wp2_with fail
              go_quiet (fail)
              go_wp2_with fail
              go_region
              go_wp2_with fail
              go_roundw
              case rel => exact ⟨j + 1, _, _, by omega, by go_num, HN.out, own_set (show (wr.drewN (nq + 1)).ownsRow _ _ _ _ _ _ from HO2.out) (by omega) _ _, by (repeat' (first | (with_reducible exact Below.refl _ _) | (with_reducible assumption) | (with_reducible refine Below.alloc ?_ ?_ _) | (with_reducible refine Below.drew ?_) | (with_reducible refine below_drewN ?_ _) | (with_reducible refine Below.setCell ?_ ?_ _) | (with_reducible exact Nat.le_refl _) | omega | (simp only [World.size_alloc, World.size_setCell, World.size_drew]; omega) | (simp; omega) | (simp; done))), box_set (W := wr.drewN (nq + 1)) hbox2, frozen_set (W := wr.drewN (nq + 1)) hfz2, by simpa using hsz2⟩
              case measure => simp [intOf]; omega
            · have hstop : ∀ u, (l.drop j).head? = some u → ¬ u.1 ≤ d := by rw [HD2.out]; intro u hu; simp at hu; subst hu; exact hle
              have HST := Lib.hid hstop
              clear hstop HD2
              have hfin : Reg.joinedL l (x, y) = l.take k ++ (a, d) :: l.drop j := by rw [KEY2.out, absorb_stop HST.out]
              have hlenf : (l.take k ++ (a, d) :: l.drop j).length = k + 1 + (l.length - j) := by simp; omega
              have hcf : cS (l.take k ++ (a, d) :: l.drop j) = cS (l.take k) ++ [.int .i64 a, .int .i64 d] ++ cS (l.drop j) := by rw [cS_append]; simp [cS]
              have fin_ : ∀ (v : Value) (w' : World), w'.ownsRow (w.heap.size + 1) 93 2 v (k + 1 + (l.length - j)) (cS (l.take k) ++ [.int .i64 a, .int .i64 d] ++ cS (l.drop j)) → Below w.heap.size w w' → GotS w (Reg.joinedL l (x, y)) (.returned v) w' := fun v w' ho hb => by
                rw [hfin]
                exact ⟨v, rfl, isS_own (by rw [hlenf, hcf]; exact ho) (by rw [hlenf]; omega), fun g hg => Nat.le_of_succ_le (ho.lt g hg).1, hb⟩
              have FIN := Lib.hid fin_
              have P5 : (cS (l.drop j)).length = (l.length - j) * 2 := by rw [cS_len, List.length_drop]
              have HP5 := Lib.hid P5
              clear hfin hlenf hcf fin_ P5
              by_cases hcj : c = j
              · have hdz : l.length - j = 0 := by omega
                clear hdz
                exfalso
                omega
              · have hcj2 : (j : Int) ≤ (c : Int) := by omega
                go_wp2_with fail
                go_quiet (fail)
                have HOq := Lib.hid (show (wr.drewN nq).ownsRow (w.heap.size + 1) 93 2 u5 k (cS (l.take k)) from HO2.out)
                have Bq := below_drewN hbw2 nq
                have Kq := Lib.hid (fun i s hi => (show (wr.drewN nq).cell? ⟨b, off + i * 2, none⟩ = some (.int .i64 s.1) ∧ (wr.drewN nq).cell? ⟨b, off + i * 2 + 1, none⟩ = some (.int .i64 s.2) from ⟨((bcell hbw2).1 _ _ hblt).trans (HC.out i s hi).1, ((bcell hbw2).1 _ _ hblt).trans (HC.out i s hi).2⟩))
                have zq : b < (wr.drewN nq).heap.size := by simp; omega
                have hbq : ∀ i, (wr.drewN nq).cell? ⟨w.heap.size, i, none⟩ = (#[Value.int .i64 a, .int .i64 d])[i]? := hbox2
                have zq1 : w.heap.size + 1 ≤ (wr.drewN nq).heap.size := by simpa using hsz2
                generalize hWq : wr.drewN nq = Wq at *
                clear hWq
                go_wp2_with (first
                  | (at_builtin; refine wpList_append_own _ rfl (.tmp 64) (.tmp 66) 63 rfl (w.heap.size + 1) 93 i0 (.agg #[.int .i64 0, .int .i64 0]) 2 16 Tryz.underlying63 hi hz0 hz1 hz2 rfl (by decide) u5 (k) (cS (l.take k)) rfl (HOq.out.alloc _) ⟨Wq.heap.size, 0, none⟩ 1 (1) ([.int .i64 a, .int .i64 d]) rfl rfl (two_new _ _ _ _) ?o2 ?q4a ?q5a ?b2a ?_; (case o2 => simp [Value.oneCell']); (case q4a => simp only [maxLen]; omega); (case q5a => omega); (case b2a => (first | (with_reducible exact Nat.le_refl _) | (with_reducible assumption) | omega | (simp only [World.size_alloc, World.size_setCell, World.size_drew]; omega) | (simp; omega) | (simp; done))); intro v5 w5 hown5 hg5 _; have HO5 := Lib.hid hown5; have B5 := below_app (B := w.heap.size) (w0 := w) (Bq.alloc (by omega) _) (HOq.out.alloc _) hg5 (by omega) (by (first | (with_reducible exact Nat.le_refl _) | (with_reducible assumption) | omega | (simp only [World.size_alloc, World.size_setCell, World.size_drew]; omega) | (simp; omega) | (simp; done))); have z5 := hg5.size; have K5 := Lib.hid (fun i s hi => And.intro (hg5.cell (alloc_cell (Kq.out i s hi).1 zq _) (own_far HOq.out (Nat.lt_succ_of_lt hblt))) (hg5.cell (alloc_cell (Kq.out i s hi).2 zq _) (own_far HOq.out (Nat.lt_succ_of_lt hblt)))); clear hown5 hg5)
                  | (at_builtin; refine wpList_append_own _ rfl (.tmp 68) (.tmp 71) 63 rfl (w.heap.size + 1) 93 i0 (.agg #[.int .i64 0, .int .i64 0]) 2 16 Tryz.underlying63 hi hz0 hz1 hz2 rfl (by decide) v5 (k + 1) (cS (l.take k) ++ [.int .i64 a, .int .i64 d]) rfl HO5.out ⟨b, off + j * 2, none⟩ (l.length - j) (c - j) (cS (l.drop j)) rfl HP5.out ?n6 (cS_one _) ?q4b ?q5b ?b2b ?_; (case n6 => exact news_spans (fun i s hi => (by rw [show off + j * 2 + i * 2 = off + (j + i) * 2 from by omega]; exact K5.out _ s (by rw [← hi, List.getElem?_drop])))); (case q4b => simp only [maxLen]; omega); (case q5b => omega); (case b2b => simp at z5; omega); intro v6 w6 hown6 hg6 _; have HO6 := Lib.hid hown6; have B6 := below_app (B := w.heap.size) (w0 := w) B5 HO5.out hg6 (by omega) (by simp at z5; omega); clear hown6 hg6))
                go_ret
                exact FIN.out _ _ HO6.out B6
          · have hjlt : ¬ (j : Int) < (l.length : Int) := by omega
            have hstop : ∀ u, (l.drop j).head? = some u → ¬ u.1 ≤ d := by rw [List.drop_eq_nil_of_le (by omega)]; intro u hu; cases hu
            have HST := Lib.hid hstop
            clear hstop
            have hfin : Reg.joinedL l (x, y) = l.take k ++ (a, d) :: l.drop j := by rw [KEY2.out, absorb_stop HST.out]
            have hlenf : (l.take k ++ (a, d) :: l.drop j).length = k + 1 + (l.length - j) := by simp; omega
            have hcf : cS (l.take k ++ (a, d) :: l.drop j) = cS (l.take k) ++ [.int .i64 a, .int .i64 d] ++ cS (l.drop j) := by rw [cS_append]; simp [cS]
            have fin_ : ∀ (v : Value) (w' : World), w'.ownsRow (w.heap.size + 1) 93 2 v (k + 1 + (l.length - j)) (cS (l.take k) ++ [.int .i64 a, .int .i64 d] ++ cS (l.drop j)) → Below w.heap.size w w' → GotS w (Reg.joinedL l (x, y)) (.returned v) w' := fun v w' ho hb => by
              rw [hfin]
              exact ⟨v, rfl, isS_own (by rw [hlenf, hcf]; exact ho) (by rw [hlenf]; omega), fun g hg => Nat.le_of_succ_le (ho.lt g hg).1, hb⟩
            have FIN := Lib.hid fin_
            have P5 : (cS (l.drop j)).length = (l.length - j) * 2 := by rw [cS_len, List.length_drop]
            have HP5 := Lib.hid P5
            clear hfin hlenf hcf fin_ P5
            by_cases hcj : c = j
            · have hdz : l.length - j = 0 := by omega
              clear hdz
              obtain rfl : j = l.length := by omega
              subst hcj
              have hdn : cS (l.drop l.length) = [] := by rw [List.drop_length]; rfl
              have HDN := Lib.hid hdn
              clear hdn HST
              have f0 : ∀ (v : Value) (w' : World), w'.ownsRow (w.heap.size + 1) 93 2 v (k + 1) (cS (l.take k) ++ [.int .i64 a, .int .i64 d] ++ []) → Below w.heap.size w w' → GotS w (Reg.joinedL l (x, y)) (.returned v) w' := fun v w' ho hb => FIN.out v w' (by rw [HDN.out, Nat.sub_self]; exact ho) hb
              have F0 := Lib.hid f0
              clear f0
              go_wp2_with fail
              go_quiet (fail)
              have HOq := Lib.hid (show (wr.drewN nq).ownsRow (w.heap.size + 1) 93 2 u5 k (cS (l.take k)) from HO2.out)
              have Bq := below_drewN hbw2 nq
              have Kq := Lib.hid (fun i s hi => (show (wr.drewN nq).cell? ⟨b, off + i * 2, none⟩ = some (.int .i64 s.1) ∧ (wr.drewN nq).cell? ⟨b, off + i * 2 + 1, none⟩ = some (.int .i64 s.2) from ⟨((bcell hbw2).1 _ _ hblt).trans (HC.out i s hi).1, ((bcell hbw2).1 _ _ hblt).trans (HC.out i s hi).2⟩))
              have zq : b < (wr.drewN nq).heap.size := by simp; omega
              have hbq : ∀ i, (wr.drewN nq).cell? ⟨w.heap.size, i, none⟩ = (#[Value.int .i64 a, .int .i64 d])[i]? := hbox2
              have zq1 : w.heap.size + 1 ≤ (wr.drewN nq).heap.size := by simpa using hsz2
              generalize hWq : wr.drewN nq = Wq at *
              clear hWq
              go_wp2_with (first
                | (at_builtin; refine wpList_append_own _ rfl (.tmp 64) (.tmp 66) 63 rfl (w.heap.size + 1) 93 i0 (.agg #[.int .i64 0, .int .i64 0]) 2 16 Tryz.underlying63 hi hz0 hz1 hz2 rfl (by decide) u5 (k) (cS (l.take k)) rfl (HOq.out.alloc _) ⟨Wq.heap.size, 0, none⟩ 1 (1) ([.int .i64 a, .int .i64 d]) rfl rfl (two_new _ _ _ _) ?o2 ?q4a ?q5a ?b2a ?_; (case o2 => simp [Value.oneCell']); (case q4a => simp only [maxLen]; omega); (case q5a => omega); (case b2a => (first | (with_reducible exact Nat.le_refl _) | (with_reducible assumption) | omega | (simp only [World.size_alloc, World.size_setCell, World.size_drew]; omega) | (simp; omega) | (simp; done))); intro v5 w5 hown5 hg5 _; have HO5 := Lib.hid hown5; have B5 := below_app (B := w.heap.size) (w0 := w) (Bq.alloc (by omega) _) (HOq.out.alloc _) hg5 (by omega) (by (first | (with_reducible exact Nat.le_refl _) | (with_reducible assumption) | omega | (simp only [World.size_alloc, World.size_setCell, World.size_drew]; omega) | (simp; omega) | (simp; done))); have z5 := hg5.size; have K5 := Lib.hid (fun i s hi => And.intro (hg5.cell (alloc_cell (Kq.out i s hi).1 zq _) (own_far HOq.out (Nat.lt_succ_of_lt hblt))) (hg5.cell (alloc_cell (Kq.out i s hi).2 zq _) (own_far HOq.out (Nat.lt_succ_of_lt hblt)))); clear hown5 hg5)
                | (at_builtin; refine wpList_append_own _ rfl (.tmp 68) (.tmp 71) 63 rfl (w.heap.size + 1) 93 i0 (.agg #[.int .i64 0, .int .i64 0]) 2 16 Tryz.underlying63 hi hz0 hz1 hz2 rfl (by decide) v5 (k + 1) (cS (l.take k) ++ [.int .i64 a, .int .i64 d]) rfl HO5.out ⟨b, off, none⟩ 0 (0) ([]) rfl rfl ?n6 ?o6 ?q4b ?q5b ?b2b ?_; (case o6 => simp); (case n6 => intro jj uu hjj; simp at hjj); (case q4b => simp only [maxLen]; omega); (case q5b => omega); (case b2b => simp at z5; omega); intro v6 w6 hown6 hg6 _; have HO6 := Lib.hid hown6; have B6 := below_app (B := w.heap.size) (w0 := w) B5 HO5.out hg6 (by omega) (by simp at z5; omega); clear hown6 hg6))
              go_ret
              exact F0.out _ _ HO6.out B6
            · have hcj2 : (j : Int) ≤ (c : Int) := by omega
              go_wp2_with fail
              go_quiet (fail)
              have HOq := Lib.hid (show (wr.drewN nq).ownsRow (w.heap.size + 1) 93 2 u5 k (cS (l.take k)) from HO2.out)
              have Bq := below_drewN hbw2 nq
              have Kq := Lib.hid (fun i s hi => (show (wr.drewN nq).cell? ⟨b, off + i * 2, none⟩ = some (.int .i64 s.1) ∧ (wr.drewN nq).cell? ⟨b, off + i * 2 + 1, none⟩ = some (.int .i64 s.2) from ⟨((bcell hbw2).1 _ _ hblt).trans (HC.out i s hi).1, ((bcell hbw2).1 _ _ hblt).trans (HC.out i s hi).2⟩))
              have zq : b < (wr.drewN nq).heap.size := by simp; omega
              have hbq : ∀ i, (wr.drewN nq).cell? ⟨w.heap.size, i, none⟩ = (#[Value.int .i64 a, .int .i64 d])[i]? := hbox2
              have zq1 : w.heap.size + 1 ≤ (wr.drewN nq).heap.size := by simpa using hsz2
              generalize hWq : wr.drewN nq = Wq at *
              clear hWq
              go_wp2_with (first
                | (at_builtin; refine wpList_append_own _ rfl (.tmp 64) (.tmp 66) 63 rfl (w.heap.size + 1) 93 i0 (.agg #[.int .i64 0, .int .i64 0]) 2 16 Tryz.underlying63 hi hz0 hz1 hz2 rfl (by decide) u5 (k) (cS (l.take k)) rfl (HOq.out.alloc _) ⟨Wq.heap.size, 0, none⟩ 1 (1) ([.int .i64 a, .int .i64 d]) rfl rfl (two_new _ _ _ _) ?o2 ?q4a ?q5a ?b2a ?_; (case o2 => simp [Value.oneCell']); (case q4a => simp only [maxLen]; omega); (case q5a => omega); (case b2a => (first | (with_reducible exact Nat.le_refl _) | (with_reducible assumption) | omega | (simp only [World.size_alloc, World.size_setCell, World.size_drew]; omega) | (simp; omega) | (simp; done))); intro v5 w5 hown5 hg5 _; have HO5 := Lib.hid hown5; have B5 := below_app (B := w.heap.size) (w0 := w) (Bq.alloc (by omega) _) (HOq.out.alloc _) hg5 (by omega) (by (first | (with_reducible exact Nat.le_refl _) | (with_reducible assumption) | omega | (simp only [World.size_alloc, World.size_setCell, World.size_drew]; omega) | (simp; omega) | (simp; done))); have z5 := hg5.size; have K5 := Lib.hid (fun i s hi => And.intro (hg5.cell (alloc_cell (Kq.out i s hi).1 zq _) (own_far HOq.out (Nat.lt_succ_of_lt hblt))) (hg5.cell (alloc_cell (Kq.out i s hi).2 zq _) (own_far HOq.out (Nat.lt_succ_of_lt hblt)))); clear hown5 hg5)
                | (at_builtin; refine wpList_append_own _ rfl (.tmp 68) (.tmp 71) 63 rfl (w.heap.size + 1) 93 i0 (.agg #[.int .i64 0, .int .i64 0]) 2 16 Tryz.underlying63 hi hz0 hz1 hz2 rfl (by decide) v5 (k + 1) (cS (l.take k) ++ [.int .i64 a, .int .i64 d]) rfl HO5.out ⟨b, off + j * 2, none⟩ (l.length - j) (c - j) (cS (l.drop j)) rfl HP5.out ?n6 (cS_one _) ?q4b ?q5b ?b2b ?_; (case n6 => exact news_spans (fun i s hi => (by rw [show off + j * 2 + i * 2 = off + (j + i) * 2 from by omega]; exact K5.out _ s (by rw [← hi, List.getElem?_drop])))); (case q4b => simp only [maxLen]; omega); (case q5b => omega); (case b2b => simp at z5; omega); intro v6 w6 hown6 hg6 _; have HO6 := Lib.hid hown6; have B6 := below_app (B := w.heap.size) (w0 := w) B5 HO5.out hg6 (by omega) (by simp at z5; omega); clear hown6 hg6))
              go_ret
              exact FIN.out _ _ HO6.out B6
      · have hklt : ¬ (k : Int) < (l.length : Int) := by omega
        go_wp2_with fail
        go_quiet (fail)
        go_wp2_with fail
        go_loopw [6] (fun v6 wr2 => ∃ (j : Nat) (a d : Int), j ≤ l.length ∧ v6 = .int .i64 j ∧ Reg.joinedL l (x, y) = l.take k ++ Reg.absorbL (l.drop j) (a, d) ∧ wr2.ownsRow (w.heap.size + 1) 93 2 u5 k (cS (l.take k)) ∧ Below w.heap.size w wr2 ∧
            (∀ i, wr2.cell? ⟨w.heap.size, i, none⟩ = (#[Value.int .i64 a, .int .i64 d])[i]?) ∧ (∀ i, wr2.frozen? ⟨w.heap.size, i, none⟩ = false) ∧ w.heap.size + 1 ≤ wr2.heap.size) (fun v6 _ => l.length - (intOf v6).toNat)
        case atStart => exact ⟨k, x, y, hk, rfl, KEY.out, HO.out, by (repeat' (first | (with_reducible exact Below.refl _ _) | (with_reducible assumption) | (with_reducible refine Below.alloc ?_ ?_ _) | (with_reducible refine Below.drew ?_) | (with_reducible refine below_drewN ?_ _) | (with_reducible refine Below.setCell ?_ ?_ _) | (with_reducible exact Nat.le_refl _) | omega | (simp only [World.size_alloc, World.size_setCell, World.size_drew]; omega) | (simp; omega) | (simp; done))), hbox, hfz, by simpa using hsz⟩
        case round =>
          obtain ⟨j, a, d, hj, rfl, hkey2, hown2, hbw2, hbox2, hfz2, hsz2⟩ := hrel
          have zw2 := hbw2.size
          have KEY2 := Lib.hid hkey2
          have HO2 := Lib.hid hown2
          clear hkey2 hown2
          have hjz : (0 : Int) ≤ (j : Int) := by omega
          by_cases hlt2 : j < l.length
          · have hu : l[j]? = some l[j] := List.getElem?_eq_getElem hlt2
            have hd2 : l.drop j = l[j] :: l.drop (j + 1) := List.drop_eq_getElem_cons hlt2
            have hc := HC.out j _ hu
            have c0 := ((bcell hbw2).1 _ _ hblt).trans hc.1
            have c1' := ((bcell hbw2).1 _ _ hblt).trans hc.2
            have HD2 := Lib.hid hd2
            clear hc hd2 hu
            generalize l[j] = q at *
            have hjlt : (j : Int) < (l.length : Int) := by omega
            by_cases hle : q.1 ≤ d
            · have hn : Reg.joinedL l (x, y) = l.take k ++ Reg.absorbL (l.drop (j + 1)) (if q.1 < a then q.1 else a, if d < q.2 then q.2 else d) := by
                rw [KEY2.out, HD2.out]
                simp only [Reg.absorbL]
                rw [if_pos hle, show min a q.1 = if q.1 < a then q.1 else a from (by split <;> omega), show max d q.2 = if d < q.2 then q.2 else d from (by split <;> omega)]
              have HN := Lib.hid hn
              clear hn
              go_wp2_with fail
              go_quiet (fail)
              go_wp2_with fail
              go_region
              go_wp2_with fail
              go_roundw
              case rel => exact ⟨j + 1, _, _, by omega, by go_num, HN.out, own_set (show (wr.drewN (nq + 1)).ownsRow _ _ _ _ _ _ from HO2.out) (by omega) _ _, by (repeat' (first | (with_reducible exact Below.refl _ _) | (with_reducible assumption) | (with_reducible refine Below.alloc ?_ ?_ _) | (with_reducible refine Below.drew ?_) | (with_reducible refine below_drewN ?_ _) | (with_reducible refine Below.setCell ?_ ?_ _) | (with_reducible exact Nat.le_refl _) | omega | (simp only [World.size_alloc, World.size_setCell, World.size_drew]; omega) | (simp; omega) | (simp; done))), box_set (W := wr.drewN (nq + 1)) hbox2, frozen_set (W := wr.drewN (nq + 1)) hfz2, by simpa using hsz2⟩
              case measure => simp [intOf]; omega
            · have hstop : ∀ u, (l.drop j).head? = some u → ¬ u.1 ≤ d := by rw [HD2.out]; intro u hu; simp at hu; subst hu; exact hle
              have HST := Lib.hid hstop
              clear hstop HD2
              have hfin : Reg.joinedL l (x, y) = l.take k ++ (a, d) :: l.drop j := by rw [KEY2.out, absorb_stop HST.out]
              have hlenf : (l.take k ++ (a, d) :: l.drop j).length = k + 1 + (l.length - j) := by simp; omega
              have hcf : cS (l.take k ++ (a, d) :: l.drop j) = cS (l.take k) ++ [.int .i64 a, .int .i64 d] ++ cS (l.drop j) := by rw [cS_append]; simp [cS]
              have fin_ : ∀ (v : Value) (w' : World), w'.ownsRow (w.heap.size + 1) 93 2 v (k + 1 + (l.length - j)) (cS (l.take k) ++ [.int .i64 a, .int .i64 d] ++ cS (l.drop j)) → Below w.heap.size w w' → GotS w (Reg.joinedL l (x, y)) (.returned v) w' := fun v w' ho hb => by
                rw [hfin]
                exact ⟨v, rfl, isS_own (by rw [hlenf, hcf]; exact ho) (by rw [hlenf]; omega), fun g hg => Nat.le_of_succ_le (ho.lt g hg).1, hb⟩
              have FIN := Lib.hid fin_
              have P5 : (cS (l.drop j)).length = (l.length - j) * 2 := by rw [cS_len, List.length_drop]
              have HP5 := Lib.hid P5
              clear hfin hlenf hcf fin_ P5
              by_cases hcj : c = j
              · have hdz : l.length - j = 0 := by omega
                clear hdz
                exfalso
                omega
              · have hcj2 : (j : Int) ≤ (c : Int) := by omega
                go_wp2_with fail
                go_quiet (fail)
                have HOq := Lib.hid (show (wr.drewN nq).ownsRow (w.heap.size + 1) 93 2 u5 k (cS (l.take k)) from HO2.out)
                have Bq := below_drewN hbw2 nq
                have Kq := Lib.hid (fun i s hi => (show (wr.drewN nq).cell? ⟨b, off + i * 2, none⟩ = some (.int .i64 s.1) ∧ (wr.drewN nq).cell? ⟨b, off + i * 2 + 1, none⟩ = some (.int .i64 s.2) from ⟨((bcell hbw2).1 _ _ hblt).trans (HC.out i s hi).1, ((bcell hbw2).1 _ _ hblt).trans (HC.out i s hi).2⟩))
                have zq : b < (wr.drewN nq).heap.size := by simp; omega
                have hbq : ∀ i, (wr.drewN nq).cell? ⟨w.heap.size, i, none⟩ = (#[Value.int .i64 a, .int .i64 d])[i]? := hbox2
                have zq1 : w.heap.size + 1 ≤ (wr.drewN nq).heap.size := by simpa using hsz2
                generalize hWq : wr.drewN nq = Wq at *
                clear hWq
                go_wp2_with (first
                  | (at_builtin; refine wpList_append_own _ rfl (.tmp 64) (.tmp 66) 63 rfl (w.heap.size + 1) 93 i0 (.agg #[.int .i64 0, .int .i64 0]) 2 16 Tryz.underlying63 hi hz0 hz1 hz2 rfl (by decide) u5 (k) (cS (l.take k)) rfl (HOq.out.alloc _) ⟨Wq.heap.size, 0, none⟩ 1 (1) ([.int .i64 a, .int .i64 d]) rfl rfl (two_new _ _ _ _) ?o2 ?q4a ?q5a ?b2a ?_; (case o2 => simp [Value.oneCell']); (case q4a => simp only [maxLen]; omega); (case q5a => omega); (case b2a => (first | (with_reducible exact Nat.le_refl _) | (with_reducible assumption) | omega | (simp only [World.size_alloc, World.size_setCell, World.size_drew]; omega) | (simp; omega) | (simp; done))); intro v5 w5 hown5 hg5 _; have HO5 := Lib.hid hown5; have B5 := below_app (B := w.heap.size) (w0 := w) (Bq.alloc (by omega) _) (HOq.out.alloc _) hg5 (by omega) (by (first | (with_reducible exact Nat.le_refl _) | (with_reducible assumption) | omega | (simp only [World.size_alloc, World.size_setCell, World.size_drew]; omega) | (simp; omega) | (simp; done))); have z5 := hg5.size; have K5 := Lib.hid (fun i s hi => And.intro (hg5.cell (alloc_cell (Kq.out i s hi).1 zq _) (own_far HOq.out (Nat.lt_succ_of_lt hblt))) (hg5.cell (alloc_cell (Kq.out i s hi).2 zq _) (own_far HOq.out (Nat.lt_succ_of_lt hblt)))); clear hown5 hg5)
                  | (at_builtin; refine wpList_append_own _ rfl (.tmp 68) (.tmp 71) 63 rfl (w.heap.size + 1) 93 i0 (.agg #[.int .i64 0, .int .i64 0]) 2 16 Tryz.underlying63 hi hz0 hz1 hz2 rfl (by decide) v5 (k + 1) (cS (l.take k) ++ [.int .i64 a, .int .i64 d]) rfl HO5.out ⟨b, off + j * 2, none⟩ (l.length - j) (c - j) (cS (l.drop j)) rfl HP5.out ?n6 (cS_one _) ?q4b ?q5b ?b2b ?_; (case n6 => exact news_spans (fun i s hi => (by rw [show off + j * 2 + i * 2 = off + (j + i) * 2 from by omega]; exact K5.out _ s (by rw [← hi, List.getElem?_drop])))); (case q4b => simp only [maxLen]; omega); (case q5b => omega); (case b2b => simp at z5; omega); intro v6 w6 hown6 hg6 _; have HO6 := Lib.hid hown6; have B6 := below_app (B := w.heap.size) (w0 := w) B5 HO5.out hg6 (by omega) (by simp at z5; omega); clear hown6 hg6))
                go_ret
                exact FIN.out _ _ HO6.out B6
          · have hjlt : ¬ (j : Int) < (l.length : Int) := by omega
            have hstop : ∀ u, (l.drop j).head? = some u → ¬ u.1 ≤ d := by rw [List.drop_eq_nil_of_le (by omega)]; intro u hu; cases hu
            have HST := Lib.hid hstop
            clear hstop
            have hfin : Reg.joinedL l (x, y) = l.take k ++ (a, d) :: l.drop j := by rw [KEY2.out, absorb_stop HST.out]
            have hlenf : (l.take k ++ (a, d) :: l.drop j).length = k + 1 + (l.length - j) := by simp; omega
            have hcf : cS (l.take k ++ (a, d) :: l.drop j) = cS (l.take k) ++ [.int .i64 a, .int .i64 d] ++ cS (l.drop j) := by rw [cS_append]; simp [cS]
            have fin_ : ∀ (v : Value) (w' : World), w'.ownsRow (w.heap.size + 1) 93 2 v (k + 1 + (l.length - j)) (cS (l.take k) ++ [.int .i64 a, .int .i64 d] ++ cS (l.drop j)) → Below w.heap.size w w' → GotS w (Reg.joinedL l (x, y)) (.returned v) w' := fun v w' ho hb => by
              rw [hfin]
              exact ⟨v, rfl, isS_own (by rw [hlenf, hcf]; exact ho) (by rw [hlenf]; omega), fun g hg => Nat.le_of_succ_le (ho.lt g hg).1, hb⟩
            have FIN := Lib.hid fin_
            have P5 : (cS (l.drop j)).length = (l.length - j) * 2 := by rw [cS_len, List.length_drop]
            have HP5 := Lib.hid P5
            clear hfin hlenf hcf fin_ P5
            by_cases hcj : c = j
            · have hdz : l.length - j = 0 := by omega
              clear hdz
              obtain rfl : j = l.length := by omega
              subst hcj
              have hdn : cS (l.drop l.length) = [] := by rw [List.drop_length]; rfl
              have HDN := Lib.hid hdn
              clear hdn HST
              have f0 : ∀ (v : Value) (w' : World), w'.ownsRow (w.heap.size + 1) 93 2 v (k + 1) (cS (l.take k) ++ [.int .i64 a, .int .i64 d] ++ []) → Below w.heap.size w w' → GotS w (Reg.joinedL l (x, y)) (.returned v) w' := fun v w' ho hb => FIN.out v w' (by rw [HDN.out, Nat.sub_self]; exact ho) hb
              have F0 := Lib.hid f0
              clear f0
              go_wp2_with fail
              go_quiet (fail)
              have HOq := Lib.hid (show (wr.drewN nq).ownsRow (w.heap.size + 1) 93 2 u5 k (cS (l.take k)) from HO2.out)
              have Bq := below_drewN hbw2 nq
              have Kq := Lib.hid (fun i s hi => (show (wr.drewN nq).cell? ⟨b, off + i * 2, none⟩ = some (.int .i64 s.1) ∧ (wr.drewN nq).cell? ⟨b, off + i * 2 + 1, none⟩ = some (.int .i64 s.2) from ⟨((bcell hbw2).1 _ _ hblt).trans (HC.out i s hi).1, ((bcell hbw2).1 _ _ hblt).trans (HC.out i s hi).2⟩))
              have zq : b < (wr.drewN nq).heap.size := by simp; omega
              have hbq : ∀ i, (wr.drewN nq).cell? ⟨w.heap.size, i, none⟩ = (#[Value.int .i64 a, .int .i64 d])[i]? := hbox2
              have zq1 : w.heap.size + 1 ≤ (wr.drewN nq).heap.size := by simpa using hsz2
              generalize hWq : wr.drewN nq = Wq at *
              clear hWq
              go_wp2_with (first
                | (at_builtin; refine wpList_append_own _ rfl (.tmp 64) (.tmp 66) 63 rfl (w.heap.size + 1) 93 i0 (.agg #[.int .i64 0, .int .i64 0]) 2 16 Tryz.underlying63 hi hz0 hz1 hz2 rfl (by decide) u5 (k) (cS (l.take k)) rfl (HOq.out.alloc _) ⟨Wq.heap.size, 0, none⟩ 1 (1) ([.int .i64 a, .int .i64 d]) rfl rfl (two_new _ _ _ _) ?o2 ?q4a ?q5a ?b2a ?_; (case o2 => simp [Value.oneCell']); (case q4a => simp only [maxLen]; omega); (case q5a => omega); (case b2a => (first | (with_reducible exact Nat.le_refl _) | (with_reducible assumption) | omega | (simp only [World.size_alloc, World.size_setCell, World.size_drew]; omega) | (simp; omega) | (simp; done))); intro v5 w5 hown5 hg5 _; have HO5 := Lib.hid hown5; have B5 := below_app (B := w.heap.size) (w0 := w) (Bq.alloc (by omega) _) (HOq.out.alloc _) hg5 (by omega) (by (first | (with_reducible exact Nat.le_refl _) | (with_reducible assumption) | omega | (simp only [World.size_alloc, World.size_setCell, World.size_drew]; omega) | (simp; omega) | (simp; done))); have z5 := hg5.size; have K5 := Lib.hid (fun i s hi => And.intro (hg5.cell (alloc_cell (Kq.out i s hi).1 zq _) (own_far HOq.out (Nat.lt_succ_of_lt hblt))) (hg5.cell (alloc_cell (Kq.out i s hi).2 zq _) (own_far HOq.out (Nat.lt_succ_of_lt hblt)))); clear hown5 hg5)
                | (at_builtin; refine wpList_append_own _ rfl (.tmp 68) (.tmp 71) 63 rfl (w.heap.size + 1) 93 i0 (.agg #[.int .i64 0, .int .i64 0]) 2 16 Tryz.underlying63 hi hz0 hz1 hz2 rfl (by decide) v5 (k + 1) (cS (l.take k) ++ [.int .i64 a, .int .i64 d]) rfl HO5.out ⟨b, off, none⟩ 0 (0) ([]) rfl rfl ?n6 ?o6 ?q4b ?q5b ?b2b ?_; (case o6 => simp); (case n6 => intro jj uu hjj; simp at hjj); (case q4b => simp only [maxLen]; omega); (case q5b => omega); (case b2b => simp at z5; omega); intro v6 w6 hown6 hg6 _; have HO6 := Lib.hid hown6; have B6 := below_app (B := w.heap.size) (w0 := w) B5 HO5.out hg6 (by omega) (by simp at z5; omega); clear hown6 hg6))
              go_ret
              exact F0.out _ _ HO6.out B6
            · have hcj2 : (j : Int) ≤ (c : Int) := by omega
              go_wp2_with fail
              go_quiet (fail)
              have HOq := Lib.hid (show (wr.drewN nq).ownsRow (w.heap.size + 1) 93 2 u5 k (cS (l.take k)) from HO2.out)
              have Bq := below_drewN hbw2 nq
              have Kq := Lib.hid (fun i s hi => (show (wr.drewN nq).cell? ⟨b, off + i * 2, none⟩ = some (.int .i64 s.1) ∧ (wr.drewN nq).cell? ⟨b, off + i * 2 + 1, none⟩ = some (.int .i64 s.2) from ⟨((bcell hbw2).1 _ _ hblt).trans (HC.out i s hi).1, ((bcell hbw2).1 _ _ hblt).trans (HC.out i s hi).2⟩))
              have zq : b < (wr.drewN nq).heap.size := by simp; omega
              have hbq : ∀ i, (wr.drewN nq).cell? ⟨w.heap.size, i, none⟩ = (#[Value.int .i64 a, .int .i64 d])[i]? := hbox2
              have zq1 : w.heap.size + 1 ≤ (wr.drewN nq).heap.size := by simpa using hsz2
              generalize hWq : wr.drewN nq = Wq at *
              clear hWq
              go_wp2_with (first
                | (at_builtin; refine wpList_append_own _ rfl (.tmp 64) (.tmp 66) 63 rfl (w.heap.size + 1) 93 i0 (.agg #[.int .i64 0, .int .i64 0]) 2 16 Tryz.underlying63 hi hz0 hz1 hz2 rfl (by decide) u5 (k) (cS (l.take k)) rfl (HOq.out.alloc _) ⟨Wq.heap.size, 0, none⟩ 1 (1) ([.int .i64 a, .int .i64 d]) rfl rfl (two_new _ _ _ _) ?o2 ?q4a ?q5a ?b2a ?_; (case o2 => simp [Value.oneCell']); (case q4a => simp only [maxLen]; omega); (case q5a => omega); (case b2a => (first | (with_reducible exact Nat.le_refl _) | (with_reducible assumption) | omega | (simp only [World.size_alloc, World.size_setCell, World.size_drew]; omega) | (simp; omega) | (simp; done))); intro v5 w5 hown5 hg5 _; have HO5 := Lib.hid hown5; have B5 := below_app (B := w.heap.size) (w0 := w) (Bq.alloc (by omega) _) (HOq.out.alloc _) hg5 (by omega) (by (first | (with_reducible exact Nat.le_refl _) | (with_reducible assumption) | omega | (simp only [World.size_alloc, World.size_setCell, World.size_drew]; omega) | (simp; omega) | (simp; done))); have z5 := hg5.size; have K5 := Lib.hid (fun i s hi => And.intro (hg5.cell (alloc_cell (Kq.out i s hi).1 zq _) (own_far HOq.out (Nat.lt_succ_of_lt hblt))) (hg5.cell (alloc_cell (Kq.out i s hi).2 zq _) (own_far HOq.out (Nat.lt_succ_of_lt hblt)))); clear hown5 hg5)
                | (at_builtin; refine wpList_append_own _ rfl (.tmp 68) (.tmp 71) 63 rfl (w.heap.size + 1) 93 i0 (.agg #[.int .i64 0, .int .i64 0]) 2 16 Tryz.underlying63 hi hz0 hz1 hz2 rfl (by decide) v5 (k + 1) (cS (l.take k) ++ [.int .i64 a, .int .i64 d]) rfl HO5.out ⟨b, off + j * 2, none⟩ (l.length - j) (c - j) (cS (l.drop j)) rfl HP5.out ?n6 (cS_one _) ?q4b ?q5b ?b2b ?_; (case n6 => exact news_spans (fun i s hi => (by rw [show off + j * 2 + i * 2 = off + (j + i) * 2 from by omega]; exact K5.out _ s (by rw [← hi, List.getElem?_drop])))); (case q4b => simp only [maxLen]; omega); (case q5b => omega); (case b2b => simp at z5; omega); intro v6 w6 hown6 hg6 _; have HO6 := Lib.hid hown6; have B6 := below_app (B := w.heap.size) (w0 := w) B5 HO5.out hg6 (by omega) (by simp at z5; omega); clear hown6 hg6))
              go_ret
              exact FIN.out _ _ HO6.out B6
end Go.Proofs.YtmcbjaefnhfopaaGreat

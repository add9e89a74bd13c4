/- The reference's stacked: a band put above others, whatever the world. -/
import Derived.Test.YtmcbjaefnhfopaaGreatRefD
import Derived.Maps.AppendAt
namespace Go.Proofs.YtmcbjaefnhfopaaGreat
open Go.RowKit
open Reg (R4 Span Band)
set_option linter.unusedSimpArgs false
set_option linter.unusedVariables false

theorem ownsRow_below' {B : Nat} {e : TypeId} {k : Nat} {v : Value} {n : Nat} {xs : List Value} {w w' : World} (h : w.ownsRow B e k v n xs) (hb : Below w.heap.size w w') : w'.ownsRow B e k v n xs :=
  h.kept (row := none) ⟨hb.os, hb.tape, hb.output, hb.size, fun k hk _ => hb.block k hk⟩ (by cases hv : v.ownBlock <;> simp)
def Apart (v s : Value) : Prop := ∀ g, v.ownBlock = some g → s.ownBlock ≠ some g
def bandVals (ps : List (Band × Value)) : List Value := ps.flatMap fun p => [.int .i64 p.1.lo, .int .i64 p.1.hi, p.2]
theorem bandVals_len (ps : List (Band × Value)) : (bandVals ps).length = ps.length * 3 := by induction ps <;> simp [bandVals] at *; omega
theorem bandVals_append (a b : List (Band × Value)) : bandVals (a ++ b) = bandVals a ++ bandVals b := by simp [bandVals]
/-- A value that is a row of bands of its own, its spans in other blocks. -/
def IsB (w : World) (B : Nat) (v : Value) (bs : List Band) : Prop :=
  ∃ ps : List (Band × Value), ps.map Prod.fst = bs ∧ w.ownsRow B 67 3 v ps.length (bandVals ps) ∧ ∀ p, p ∈ ps → IsS w p.2 p.1.sp ∧ Apart v p.2
theorem IsB.below {w w' : World} {B : Nat} {v : Value} {bs : List Band} (h : IsB w B v bs) (hb : Below w.heap.size w w') : IsB w' B v bs := by
  obtain ⟨ps, h1, h2, h3⟩ := h
  exact ⟨ps, h1, ownsRow_below' h2 hb, fun p hp => ⟨(h3 p hp).1.below hb, (h3 p hp).2⟩⟩
theorem IsB.nil (w : World) (B : Nat) : IsB w B (.slice none 0 0) [] := ⟨[], rfl, World.ownsRow_nil _ _ _ _, fun p hp => by cases hp⟩
theorem IsS.lt {w : World} {s : Value} {l : List Span} (h : IsS w s l) : ∀ g, s.ownBlock = some g → g < w.heap.size := by
  intro g hg
  rcases h with ⟨_, rfl⟩ | ⟨_, b, off, c, rfl, _, _, h3, _⟩
  · cases hg
  · simp [Value.ownBlock] at hg; subst hg; exact h3
theorem IsS.grown {w w' : World} {s : Value} {l : List Span} {row : Option Nat} (h : IsS w s l) (hg : w.grownBy w' row) (hne : ∀ g, s.ownBlock = some g → some g ≠ row) : IsS w' s l := by
  rcases h with h | ⟨h0, b, off, c, rfl, h1, h2, h3, h4⟩
  · exact .inl h
  · have hb := grown_all hg h3 (hne b rfl)
    exact .inr ⟨h0, b, off, c, rfl, h1, h2, Nat.lt_of_lt_of_le h3 hg.size, fun i r hi => ⟨(hb.1 _).trans (h4 i r hi).1, (hb.1 _).trans (h4 i r hi).2⟩⟩
theorem Apart.row {v s : Value} (h : Apart v s) : ∀ g, s.ownBlock = some g → some g ≠ v.ownBlock := fun g hs e => h g e.symm hs
theorem IsS.alloc {w : World} {s : Value} {l : List Span} (h : IsS w s l) (o : Obj) : IsS (w.alloc o) s l := h.below ((Below.refl _ _).alloc (Nat.le_refl _) o)
theorem isB_app {W w' : World} {B : Nat} {v v' sv : Value} {b : Band} {ps : List (Band × Value)} {o : Obj} (hps : ∀ p, p ∈ ps → IsS W p.2 p.1.sp ∧ Apart v p.2) (hs : IsS W sv b.sp) (hne : Apart v sv)
    (hg : (W.alloc o).grownBy w' v.ownBlock) (hat : v'.ownBlock = v.ownBlock ∨ v'.ownBlock = some (W.alloc o).heap.size) (hown : w'.ownsRow B 67 3 v' (ps.length + 1) (bandVals ps ++ [.int .i64 b.lo, .int .i64 b.hi, sv])) :
    IsB w' B v' (ps.map Prod.fst ++ [b]) := by
  have key : ∀ (s : Value) (l : List Span), IsS W s l → Apart v s → IsS w' s l ∧ Apart v' s := by
    intro s l hs hn
    refine ⟨(hs.alloc o).grown hg hn.row, ?_⟩
    rcases hat with e | e
    · intro g h; rw [e] at h; exact hn g h
    · intro g h h2
      rw [e] at h
      have h3 := hs.lt g h2
      simp at h
      omega
  refine ⟨ps ++ [(b, sv)], by simp, ?_, ?_⟩
  · rw [bandVals_append, List.length_append]
    exact hown
  · intro p hp
    rcases List.mem_append.1 hp with hp | hp
    · exact key _ _ (hps p hp).1 (hps p hp).2
    · simp at hp; subst hp; exact key _ _ hs hne
theorem bandVals_set {ps : List (Band × Value)} {c : Band} {lv : Value} {z : Int} :
    (bandVals (ps ++ [(c, lv)])).set (ps.length * 3 + 1) (.int .i64 z) = bandVals (ps ++ [(⟨c.lo, z, c.sp⟩, lv)]) := by
  rw [bandVals_append, bandVals_append, List.set_append_right _ _ (by rw [bandVals_len]; omega), bandVals_len, Nat.add_sub_cancel_left]
  rfl
theorem isB_set {W : World} {B : Nat} {g cap : Nat} {c : Band} {lv : Value} {ps : List (Band × Value)} {z : Int} (hps : ∀ p, p ∈ ps ++ [(c, lv)] → IsS W p.2 p.1.sp ∧ Apart (.slice (some ⟨g, 0, none⟩) (ps ++ [(c, lv)]).length cap) p.2)
    (hown : W.ownsRow B 67 3 (.slice (some ⟨g, 0, none⟩) (ps ++ [(c, lv)]).length cap) (ps ++ [(c, lv)]).length (bandVals (ps ++ [(c, lv)]))) :
    IsB (W.setCell ⟨g, ps.length * 3 + 1, none⟩ (.int .i64 z)) B (.slice (some ⟨g, 0, none⟩) (ps ++ [(c, lv)]).length cap) (ps.map Prod.fst ++ [⟨c.lo, z, c.sp⟩]) := by
  obtain ⟨h1, h2⟩ := hown.stored (ps.length * 3 + 1) (.int .i64 z)
  rw [bandVals_set] at h1
  refine ⟨ps ++ [(⟨c.lo, z, c.sp⟩, lv)], by simp, by simpa using h1, ?_⟩
  intro p hp
  have key : ∀ (s : Value) (l : List Span), IsS W s l → Apart (.slice (some ⟨g, 0, none⟩) (ps ++ [(c, lv)]).length cap) s → IsS (W.setCell ⟨g, ps.length * 3 + 1, none⟩ (.int .i64 z)) s l := fun s l h1 h3 => h1.grown h2 (h3.row)
  rcases List.mem_append.1 hp with hp | hp
  · obtain ⟨a1, a2⟩ := hps p (List.mem_append_left _ hp)
    exact ⟨key _ _ a1 a2, a2⟩
  · simp at hp; subst hp
    obtain ⟨a1, a2⟩ := hps (c, lv) (by simp)
    exact ⟨key _ _ a1 a2, a2⟩

theorem stackL_nil {b : Band} (h : b.sp = []) : ∀ l : List Band, Reg.stackL l b = l
  | [] => by simp [Reg.stackL, h]
  | [c] => by simp [Reg.stackL, h]
  | c :: d :: l => by rw [Reg.stackL, stackL_nil h (d :: l)]
theorem stackL_last {b c : Band} (h : b.sp ≠ []) : ∀ l : List Band, Reg.stackL (l ++ [c]) b = if c.hi = b.lo ∧ c.sp = b.sp then l ++ [⟨c.lo, b.hi, c.sp⟩] else l ++ [c, b]
  | [] => by simp [Reg.stackL, h]
  | [d] => by simp only [List.cons_append, List.nil_append, Reg.stackL, if_neg h]; split <;> rfl
  | d :: e :: l => by
    have := stackL_last (c := c) h (e :: l)
    simp only [List.cons_append] at this ⊢
    rw [Reg.stackL, this]
    split <;> rfl

theorem infoB : (Tryz.prog.info? 67).map (fun i => (i.zero, i.size, i.bytes)) = some (some (.agg #[.int .i64 0, .int .i64 0, .slice none 0 0]), 3, 40) := by kernel_rfl
theorem three_new (W : World) (x y z : Value) (t : TypeId) : ∀ j u, [x, y, z][j]? = some u → (W.alloc (.cells #[x, y, z] t)).cell? ((⟨W.heap.size, 0, none⟩ : Addr).add j) = some u := by
  intro j u hj
  match j, hj with
  | 0, hj => simp at hj; subst hj; simp [Addr.add]
  | 1, hj => simp at hj; subst hj; simp [Addr.add]
  | 2, hj => simp at hj; subst hj; simp [Addr.add]
  | j + 3, hj => simp at hj

def GotB (w : World) (B : Nat) (bs : List Band) (e : Ending) (w' : World) : Prop := ∃ v, e = .returned v ∧ IsB w' B v bs ∧ Below B w w'

theorem stacked_skip (B : Nat) (v : Value) (bs : List Band) (b : Band) (sv : Value) (w : World) (h : IsB w B v bs) (hs : IsS w sv b.sp) (h0 : b.sp = []) (hB : B ≤ w.heap.size) :
    Calls Tryz.prog 63 #[v, .agg #[.int .i64 b.lo, .int .i64 b.hi, sv]] w (GotB w B (Reg.stackL bs b)) := by
  rw [stackL_nil h0]
  have HI := Lib.hid h
  rcases hs with ⟨_, rfl⟩ | ⟨hp, _⟩
  · obtain ⟨ps, _, h2, _⟩ := h
    obtain ⟨A, c, rfl, _, _, _⟩ := own_cells h2
    clear h2
    go_enter Tryz.func63, Tryz.ntmps63
    go_wp2_with fail
    go_ret
    exact ⟨_, rfl, HI.out.below (by (repeat' (first | (with_reducible exact Below.refl _ _) | (with_reducible assumption) | (with_reducible refine Below.alloc ?_ ?_ _) | (with_reducible refine Below.drew ?_) | (with_reducible refine below_drewN ?_ _) | (with_reducible refine Below.setCell ?_ ?_ _) | (with_reducible exact Nat.le_refl _) | omega | (simp only [World.size_alloc, World.size_setCell, World.size_drew]; omega) | (simp; omega) | (simp; done)))), (by (repeat' (first | (with_reducible exact Below.refl _ _) | (with_reducible assumption) | (with_reducible refine Below.alloc ?_ ?_ _) | (with_reducible refine Below.drew ?_) | (with_reducible refine below_drewN ?_ _) | (with_reducible refine Below.setCell ?_ ?_ _) | (with_reducible exact Nat.le_refl _) | omega | (simp only [World.size_alloc, World.size_setCell, World.size_drew]; omega) | (simp; omega) | (simp; done))))⟩
  · rw [h0] at hp
    exact absurd hp (by simp)

set_option maxRecDepth 100000 in
set_option maxHeartbeats 1000000 in
theorem stacked_first (B : Nat) (v : Value) (b : Band) (sv : Value) (w : World) (h : IsB w B v []) (hs : IsS w sv b.sp) (hne : Apart v sv) (h0 : b.sp ≠ []) (hB : B ≤ w.heap.size) (hlen : b.sp.length ≤ 1000000) :
    Calls Tryz.prog 63 #[v, .agg #[.int .i64 b.lo, .int .i64 b.hi, sv]] w (GotB w B (Reg.stackL [] b)) := by
  have hn : Reg.stackL [] b = [b] := by simp [Reg.stackL, h0]
  rw [hn]
  obtain ⟨i0, hi, hz0, hz1, hz2⟩ := info_parts infoB
  have HS := Lib.hid hs
  obtain ⟨ps, hp, h2, h3⟩ := h
  obtain rfl : ps = [] := by simpa using hp
  have HO := Lib.hid h2
  have HN := Lib.hid hne
  rcases hs with ⟨h, _⟩ | ⟨hpos, sb, so, sc, rfl, k1, k2, k3, _⟩
  · exact absurd h h0
  · obtain ⟨A, c, rfl, _, _, _⟩ := own_cells h2
    clear h2 hn h0 h3 hp hne
    have hl0 : ((b.sp.length : Int) == 0) = false := beq_eq_false_iff_ne.2 (by omega)
    simp only [List.length_nil] at HO HN ⊢
    go_enter Tryz.func63, Tryz.ntmps63
    go_wp2_with fail
    go_quiet (fail)
    have HOq := Lib.hid (show ((w.alloc (.cells #[.int .i64 b.lo, .int .i64 b.hi, Value.slice (some ⟨sb, so, none⟩) b.sp.length sc] 67)).drewN nq).ownsRow B 67 3 (.slice A 0 c) 0 [] from ownsRow_below' HO.out (by (repeat' (first | (with_reducible exact Below.refl _ _) | (with_reducible assumption) | (with_reducible refine Below.alloc ?_ ?_ _) | (with_reducible refine Below.drew ?_) | (with_reducible refine below_drewN ?_ _) | (with_reducible refine Below.setCell ?_ ?_ _) | (with_reducible exact Nat.le_refl _) | omega | (simp only [World.size_alloc, World.size_setCell, World.size_drew]; omega) | (simp; omega) | (simp; done)))))
    have HSq := Lib.hid (show IsS ((w.alloc (.cells #[.int .i64 b.lo, .int .i64 b.hi, Value.slice (some ⟨sb, so, none⟩) b.sp.length sc] 67)).drewN nq) (Value.slice (some ⟨sb, so, none⟩) b.sp.length sc) b.sp from HS.out.below (by (repeat' (first | (with_reducible exact Below.refl _ _) | (with_reducible assumption) | (with_reducible refine Below.alloc ?_ ?_ _) | (with_reducible refine Below.drew ?_) | (with_reducible refine below_drewN ?_ _) | (with_reducible refine Below.setCell ?_ ?_ _) | (with_reducible exact Nat.le_refl _) | omega | (simp only [World.size_alloc, World.size_setCell, World.size_drew]; omega) | (simp; omega) | (simp; done)))))
    have Bq : Below B w ((w.alloc (.cells #[.int .i64 b.lo, .int .i64 b.hi, Value.slice (some ⟨sb, so, none⟩) b.sp.length sc] 67)).drewN nq) := by (repeat' (first | (with_reducible exact Below.refl _ _) | (with_reducible assumption) | (with_reducible refine Below.alloc ?_ ?_ _) | (with_reducible refine Below.drew ?_) | (with_reducible refine below_drewN ?_ _) | (with_reducible refine Below.setCell ?_ ?_ _) | (with_reducible exact Nat.le_refl _) | omega | (simp only [World.size_alloc, World.size_setCell, World.size_drew]; omega) | (simp; omega) | (simp; done)))
    have zq : w.heap.size + 1 ≤ ((w.alloc (.cells #[.int .i64 b.lo, .int .i64 b.hi, Value.slice (some ⟨sb, so, none⟩) b.sp.length sc] 67)).drewN nq).heap.size := by (first | (with_reducible exact Nat.le_refl _) | (with_reducible assumption) | omega | (simp only [World.size_alloc, World.size_setCell, World.size_drew]; omega) | (simp; omega) | (simp; done))
    have kq : ∀ i, ((w.alloc (.cells #[.int .i64 b.lo, .int .i64 b.hi, Value.slice (some ⟨sb, so, none⟩) b.sp.length sc] 67)).drewN nq).cell? ⟨w.heap.size, i, none⟩ = (#[Value.int .i64 b.lo, Value.int .i64 b.hi, Value.slice (some ⟨sb, so, none⟩) b.sp.length sc])[i]? := fun i => by simp [go_sem]
    have fq : ∀ i, ((w.alloc (.cells #[.int .i64 b.lo, .int .i64 b.hi, Value.slice (some ⟨sb, so, none⟩) b.sp.length sc] 67)).drewN nq).frozen? ⟨w.heap.size, i, none⟩ = false := fun i => by simp [go_sem]
    have kq : ∀ i, ((w.alloc (.cells #[.int .i64 b.lo, .int .i64 b.hi, Value.slice (some ⟨sb, so, none⟩) b.sp.length sc] 67)).drewN nq).cell? ⟨w.heap.size, i, none⟩ = (#[Value.int .i64 b.lo, Value.int .i64 b.hi, Value.slice (some ⟨sb, so, none⟩) b.sp.length sc])[i]? := fun i => by simp [go_sem]
    have fq : ∀ i, ((w.alloc (.cells #[.int .i64 b.lo, .int .i64 b.hi, Value.slice (some ⟨sb, so, none⟩) b.sp.length sc] 67)).drewN nq).frozen? ⟨w.heap.size, i, none⟩ = false := fun i => by simp [go_sem]
    generalize hWq : (w.alloc (.cells #[.int .i64 b.lo, .int .i64 b.hi, Value.slice (some ⟨sb, so, none⟩) b.sp.length sc] 67)).drewN nq = Wq at *
    clear hWq
    go_wp2_with (first | (at_builtin; refine wpList_append_own_at _ rfl (.tmp 45) (.tmp 47) 61 rfl B 67 i0 (.agg #[.int .i64 0, .int .i64 0, .slice none 0 0]) 3 40 Tryz.underlying61 hi hz0 hz1 hz2 rfl (by decide) (.slice A 0 c) 0 [] rfl (HOq.out.alloc _) ⟨Wq.heap.size, 0, none⟩ 1 1 [.int .i64 b.lo, .int .i64 b.hi, Value.slice (some ⟨sb, so, none⟩) b.sp.length sc] rfl rfl (three_new _ _ _ _ _) ?o2 ?q4 ?q5 ?b2 ?_; (case o2 => simp [Value.oneCell']); (case q4 => simp only [maxLen]; omega); (case q5 => omega); (case b2 => (first | (with_reducible exact Nat.le_refl _) | (with_reducible assumption) | omega | (simp only [World.size_alloc, World.size_setCell, World.size_drew]; omega) | (simp; omega) | (simp; done))); intro v2 w2 hown2 hg2 _ hat2; have HG2 := Lib.hid hg2; have HT2 := Lib.hid hat2; have HO2 := Lib.hid hown2; have B2 := below_app (B := B) (w0 := w) (Bq.alloc (by omega) _) (HOq.out.alloc _) hg2 (Nat.le_refl _) (by (first | (with_reducible exact Nat.le_refl _) | (with_reducible assumption) | omega | (simp only [World.size_alloc, World.size_setCell, World.size_drew]; omega) | (simp; omega) | (simp; done))); clear hown2 hg2 hat2))
    go_ret
    exact ⟨_, rfl, isB_app (ps := []) (fun p hp => by cases hp) HSq.out HN.out HG2.out HT2.out HO2.out, B2⟩

set_option maxRecDepth 100000 in
set_option maxHeartbeats 1000000 in
theorem stacked_more (B g cap : Nat) (pi : List (Band × Value)) (c : Band) (lv : Value) (b : Band) (sv : Value) (w : World) (hown : w.ownsRow B 67 3 (.slice (some ⟨g, 0, none⟩) (pi.length + 1) cap) (pi.length + 1) (bandVals (pi ++ [(c, lv)]))) (h3 : ∀ p, p ∈ pi ++ [(c, lv)] → IsS w p.2 p.1.sp ∧ Apart (.slice (some ⟨g, 0, none⟩) (pi.length + 1) cap) p.2)
    (hs : IsS w sv b.sp) (hne : Apart (.slice (some ⟨g, 0, none⟩) (pi.length + 1) cap) sv) (h0 : b.sp ≠ []) (hB : B ≤ w.heap.size) (hlen : b.sp.length ≤ 1000000) (hclen : c.sp.length ≤ 1000000) (hmany : pi.length ≤ 1000000) :
    Calls Tryz.prog 63 #[(.slice (some ⟨g, 0, none⟩) (pi.length + 1) cap), .agg #[.int .i64 b.lo, .int .i64 b.hi, sv]] w (GotB w B (Reg.stackL (pi.map Prod.fst ++ [c]) b)) := by
  obtain ⟨i0, hi, hz0, hz1, hz2⟩ := info_parts infoB
  have HS := Lib.hid hs
  have H3 := Lib.hid h3
  have HO := Lib.hid hown
  have HN := Lib.hid hne
  have hst := stackL_last (c := c) h0 (pi.map Prod.fst)
  obtain ⟨hBg, hglt⟩ := hown.lt g rfl
  have hlen3 : (bandVals pi).length = pi.length * 3 := bandVals_len pi
  have hc1 : w.cell? ⟨g, pi.length * 3 + 1, none⟩ = some (.int .i64 c.hi) := by
    rw [hown.cellAt _ (by omega), bandVals_append, List.getElem?_append_right (by omega), hlen3, Nat.add_sub_cancel_left]
    rfl
  have hc2 : w.cell? ⟨g, pi.length * 3 + 2, none⟩ = some lv := by
    rw [hown.cellAt _ (by omega), bandVals_append, List.getElem?_append_right (by omega), hlen3, Nat.add_sub_cancel_left]
    rfl
  have hfz : ∀ i, w.frozen? ⟨g, i, none⟩ = false := fun i => hown.frozenAt i
  rcases hs with ⟨h, _⟩ | ⟨hpos, sb, so, sc, rfl, k1, k2, k3, _⟩
  · exact absurd h h0
  have hl0 : ((b.sp.length : Int) == 0) = false := beq_eq_false_iff_ne.2 (by omega)
  have hcn : pi.length + 1 ≤ cap := by
    rcases hown.2 with ⟨h', _⟩ | ⟨g', cap', cur, h', _, _, h1, _⟩
    · cases h'
    · cases h'; exact h1
  clear hown h3 hne h0 hlen3
  have hs1 : IntKind.i64.wrap (pi.length : Int) = (pi.length : Int) := IntWalk.i64_in _ (by omega)
  have hpz : (0 : Int) ≤ (pi.length : Int) := by omega
  have hpz1 : (0 : Int) < (pi.length : Int) + 1 := by omega
  have hpz2 : (pi.length : Int) < (pi.length : Int) + 1 := by omega
  by_cases he : c.hi = b.lo
  · have C := Lib.hid (fun W (h1 : IsS W lv c.sp) (h2 : IsS W (Value.slice (some ⟨sb, so, none⟩) b.sp.length sc) b.sp) => same_any lv (Value.slice (some ⟨sb, so, none⟩) b.sp.length sc) c.sp b.sp W h1 h2 hclen hlen)
    by_cases hq : c.sp = b.sp
    · have hst2 : Reg.stackL (pi.map Prod.fst ++ [c]) b = pi.map Prod.fst ++ [⟨c.lo, b.hi, c.sp⟩] := by rw [hst, if_pos ⟨he, hq⟩]
      have HST := Lib.hid hst2
      have heb : (c.hi == b.lo) = true := beq_iff_eq.2 he
      rw [show decide (c.sp = b.sp) = true from decide_eq_true hq] at C
      clear hst hst2 he hq
      go_enter Tryz.func63, Tryz.ntmps63
      go_wp2_with fail
      go_region_held3 (fun w' => w'.cell? ⟨g, pi.length * 3 + 1, none⟩ = some (.int .i64 c.hi) ∧ w'.cell? ⟨g, pi.length * 3 + 2, none⟩ = some lv ∧ w'.cell? ⟨w.heap.size, 0, none⟩ = some (.int .i64 b.lo) ∧ w'.cell? ⟨w.heap.size, 1, none⟩ = some (.int .i64 b.hi) ∧ w'.cell? ⟨w.heap.size, 2, none⟩ = some (Value.slice (some ⟨sb, so, none⟩) b.sp.length sc)) (go_keep)
        (first | (go_at_call 82; refine (C.out _ ?hi1 ?hi2).mono ?_; (case hi1 => exact (H3.out (c, lv) (by simp)).1.below (by (repeat' (first | (with_reducible exact Below.refl _ _) | (with_reducible assumption) | (with_reducible refine Below.alloc ?_ ?_ _) | (with_reducible refine Below.drew ?_) | (with_reducible refine below_drewN ?_ _) | (with_reducible refine Below.setCell ?_ ?_ _) | (with_reducible exact Nat.le_refl _) | omega | (simp only [World.size_alloc, World.size_setCell, World.size_drew]; omega) | (simp; omega) | (simp; done))))); (case hi2 => exact HS.out.below (by (repeat' (first | (with_reducible exact Below.refl _ _) | (with_reducible assumption) | (with_reducible refine Below.alloc ?_ ?_ _) | (with_reducible refine Below.drew ?_) | (with_reducible refine below_drewN ?_ _) | (with_reducible refine Below.setCell ?_ ?_ _) | (with_reducible exact Nat.le_refl _) | omega | (simp only [World.size_alloc, World.size_setCell, World.size_drew]; omega) | (simp; omega) | (simp; done))))); rintro e Wq ⟨rfl, hb⟩; have qc1 := kc hb g (by (first | (with_reducible exact Nat.le_refl _) | (with_reducible assumption) | omega | (simp only [World.size_alloc, World.size_setCell, World.size_drew]; omega) | (simp; omega) | (simp; done))); have qc2 := kc hb w.heap.size (by (first | (with_reducible exact Nat.le_refl _) | (with_reducible assumption) | omega | (simp only [World.size_alloc, World.size_setCell, World.size_drew]; omega) | (simp; omega) | (simp; done))); have zc := hb.size; (try simp only [World.size_alloc, World.size_setCell, World.size_drew] at zc); have Bw := up (B := w.heap.size) (w := w) (by (repeat' (first | (with_reducible exact Below.refl _ _) | (with_reducible assumption) | (with_reducible refine Below.alloc ?_ ?_ _) | (with_reducible refine Below.drew ?_) | (with_reducible refine below_drewN ?_ _) | (with_reducible refine Below.setCell ?_ ?_ _) | (with_reducible exact Nat.le_refl _) | omega | (simp only [World.size_alloc, World.size_setCell, World.size_drew]; omega) | (simp; omega) | (simp; done)))) hb (by (first | (with_reducible exact Nat.le_refl _) | (with_reducible assumption) | omega | (simp only [World.size_alloc, World.size_setCell, World.size_drew]; omega) | (simp; omega) | (simp; done))); have Bq := up (B := B) (w := w) (by (repeat' (first | (with_reducible exact Below.refl _ _) | (with_reducible assumption) | (with_reducible refine Below.alloc ?_ ?_ _) | (with_reducible refine Below.drew ?_) | (with_reducible refine below_drewN ?_ _) | (with_reducible refine Below.setCell ?_ ?_ _) | (with_reducible exact Nat.le_refl _) | omega | (simp only [World.size_alloc, World.size_setCell, World.size_drew]; omega) | (simp; omega) | (simp; done)))) hb (by (first | (with_reducible exact Nat.le_refl _) | (with_reducible assumption) | omega | (simp only [World.size_alloc, World.size_setCell, World.size_drew]; omega) | (simp; omega) | (simp; done))); have zq : w.heap.size + 1 ≤ Wq.heap.size := (by (first | (with_reducible exact Nat.le_refl _) | (with_reducible assumption) | omega | (simp only [World.size_alloc, World.size_setCell, World.size_drew]; omega) | (simp; omega) | (simp; done))); have HOq := Lib.hid (ownsRow_below' HO.out Bw); have HSq := Lib.hid (HS.out.below Bw); have HPq := Lib.hid (fun p hp => And.intro ((H3.out p hp).1.below Bw) (H3.out p hp).2); obtain ⟨kq, fq⟩ := kp hb (b := w.heap.size) (cs := #[Value.int .i64 b.lo, Value.int .i64 b.hi, Value.slice (some ⟨sb, so, none⟩) b.sp.length sc]) (by (first | (with_reducible exact Nat.le_refl _) | (with_reducible assumption) | omega | (simp only [World.size_alloc, World.size_setCell, World.size_drew]; omega) | (simp; omega) | (simp; done))) (fun i => by simp [go_sem]) (fun i => by simp [go_sem]); clear hb))
      have hfq : ∀ i, Wq.frozen? ⟨g, i, none⟩ = false := fun i => HOq.out.frozenAt i
      have hgq : g < Wq.heap.size := by (first | (with_reducible exact Nat.le_refl _) | (with_reducible assumption) | omega | (simp only [World.size_alloc, World.size_setCell, World.size_drew]; omega) | (simp; omega) | (simp; done))
      have hd1 : Wq.cell? ⟨g, pi.length * 3 + 1, none⟩ = some (.int .i64 c.hi) := ((bcell Bw).1 _ _ hglt).trans hc1
      go_wp2_with fail
      go_ret
      exact ⟨_, rfl, by rw [HST.out]; simpa using isB_set (ps := pi) (by simpa using HPq.out) (by simpa using HOq.out), Bq.trans (Below.setCell (Below.refl _ _) (by omega) _)⟩
    · have hst2 : Reg.stackL (pi.map Prod.fst ++ [c]) b = pi.map Prod.fst ++ [c, b] := by rw [hst, if_neg (fun h => hq h.2)]
      have HST := Lib.hid hst2
      have heb : (c.hi == b.lo) = true := beq_iff_eq.2 he
      rw [show decide (c.sp = b.sp) = false from decide_eq_false hq] at C
      clear hst hst2 he hq
      go_enter Tryz.func63, Tryz.ntmps63
      go_wp2_with fail
      go_region_held3 (fun w' => w'.cell? ⟨g, pi.length * 3 + 1, none⟩ = some (.int .i64 c.hi) ∧ w'.cell? ⟨g, pi.length * 3 + 2, none⟩ = some lv ∧ w'.cell? ⟨w.heap.size, 0, none⟩ = some (.int .i64 b.lo) ∧ w'.cell? ⟨w.heap.size, 1, none⟩ = some (.int .i64 b.hi) ∧ w'.cell? ⟨w.heap.size, 2, none⟩ = some (Value.slice (some ⟨sb, so, none⟩) b.sp.length sc)) (go_keep)
        (first | (go_at_call 82; refine (C.out _ ?hi1 ?hi2).mono ?_; (case hi1 => exact (H3.out (c, lv) (by simp)).1.below (by (repeat' (first | (with_reducible exact Below.refl _ _) | (with_reducible assumption) | (with_reducible refine Below.alloc ?_ ?_ _) | (with_reducible refine Below.drew ?_) | (with_reducible refine below_drewN ?_ _) | (with_reducible refine Below.setCell ?_ ?_ _) | (with_reducible exact Nat.le_refl _) | omega | (simp only [World.size_alloc, World.size_setCell, World.size_drew]; omega) | (simp; omega) | (simp; done))))); (case hi2 => exact HS.out.below (by (repeat' (first | (with_reducible exact Below.refl _ _) | (with_reducible assumption) | (with_reducible refine Below.alloc ?_ ?_ _) | (with_reducible refine Below.drew ?_) | (with_reducible refine below_drewN ?_ _) | (with_reducible refine Below.setCell ?_ ?_ _) | (with_reducible exact Nat.le_refl _) | omega | (simp only [World.size_alloc, World.size_setCell, World.size_drew]; omega) | (simp; omega) | (simp; done))))); rintro e Wq ⟨rfl, hb⟩; have qc1 := kc hb g (by (first | (with_reducible exact Nat.le_refl _) | (with_reducible assumption) | omega | (simp only [World.size_alloc, World.size_setCell, World.size_drew]; omega) | (simp; omega) | (simp; done))); have qc2 := kc hb w.heap.size (by (first | (with_reducible exact Nat.le_refl _) | (with_reducible assumption) | omega | (simp only [World.size_alloc, World.size_setCell, World.size_drew]; omega) | (simp; omega) | (simp; done))); have zc := hb.size; (try simp only [World.size_alloc, World.size_setCell, World.size_drew] at zc); have Bw := up (B := w.heap.size) (w := w) (by (repeat' (first | (with_reducible exact Below.refl _ _) | (with_reducible assumption) | (with_reducible refine Below.alloc ?_ ?_ _) | (with_reducible refine Below.drew ?_) | (with_reducible refine below_drewN ?_ _) | (with_reducible refine Below.setCell ?_ ?_ _) | (with_reducible exact Nat.le_refl _) | omega | (simp only [World.size_alloc, World.size_setCell, World.size_drew]; omega) | (simp; omega) | (simp; done)))) hb (by (first | (with_reducible exact Nat.le_refl _) | (with_reducible assumption) | omega | (simp only [World.size_alloc, World.size_setCell, World.size_drew]; omega) | (simp; omega) | (simp; done))); have Bq := up (B := B) (w := w) (by (repeat' (first | (with_reducible exact Below.refl _ _) | (with_reducible assumption) | (with_reducible refine Below.alloc ?_ ?_ _) | (with_reducible refine Below.drew ?_) | (with_reducible refine below_drewN ?_ _) | (with_reducible refine Below.setCell ?_ ?_ _) | (with_reducible exact Nat.le_refl _) | omega | (simp only [World.size_alloc, World.size_setCell, World.size_drew]; omega) | (simp; omega) | (simp; done)))) hb (by (first | (with_reducible exact Nat.le_refl _) | (with_reducible assumption) | omega | (simp only [World.size_alloc, World.size_setCell, World.size_drew]; omega) | (simp; omega) | (simp; done))); have zq : w.heap.size + 1 ≤ Wq.heap.size := (by (first | (with_reducible exact Nat.le_refl _) | (with_reducible assumption) | omega | (simp only [World.size_alloc, World.size_setCell, World.size_drew]; omega) | (simp; omega) | (simp; done))); have HOq := Lib.hid (ownsRow_below' HO.out Bw); have HSq := Lib.hid (HS.out.below Bw); have HPq := Lib.hid (fun p hp => And.intro ((H3.out p hp).1.below Bw) (H3.out p hp).2); obtain ⟨kq, fq⟩ := kp hb (b := w.heap.size) (cs := #[Value.int .i64 b.lo, Value.int .i64 b.hi, Value.slice (some ⟨sb, so, none⟩) b.sp.length sc]) (by (first | (with_reducible exact Nat.le_refl _) | (with_reducible assumption) | omega | (simp only [World.size_alloc, World.size_setCell, World.size_drew]; omega) | (simp; omega) | (simp; done))) (fun i => by simp [go_sem]) (fun i => by simp [go_sem]); clear hb))
      go_wp2_with (first | (at_builtin; refine wpList_append_own_at _ rfl (.tmp 45) (.tmp 47) 61 rfl B 67 i0 (.agg #[.int .i64 0, .int .i64 0, .slice none 0 0]) 3 40 Tryz.underlying61 hi hz0 hz1 hz2 rfl (by decide) (.slice (some ⟨g, 0, none⟩) (pi.length + 1) cap) (pi.length + 1) (bandVals (pi ++ [(c, lv)])) rfl (HOq.out.alloc _) ⟨Wq.heap.size, 0, none⟩ 1 1 [.int .i64 b.lo, .int .i64 b.hi, Value.slice (some ⟨sb, so, none⟩) b.sp.length sc] rfl rfl (three_new _ _ _ _ _) ?o2 ?q4 ?q5 ?b2 ?_; (case o2 => simp [Value.oneCell']); (case q4 => simp only [maxLen]; omega); (case q5 => omega); (case b2 => (first | (with_reducible exact Nat.le_refl _) | (with_reducible assumption) | omega | (simp only [World.size_alloc, World.size_setCell, World.size_drew]; omega) | (simp; omega) | (simp; done))); intro v2 w2 hown2 hg2 _ hat2; have HG2 := Lib.hid hg2; have HT2 := Lib.hid hat2; have HO2 := Lib.hid hown2; have B2 := below_app (B := B) (w0 := w) (Bq.alloc (by omega) _) (HOq.out.alloc _) hg2 (Nat.le_refl _) (by (first | (with_reducible exact Nat.le_refl _) | (with_reducible assumption) | omega | (simp only [World.size_alloc, World.size_setCell, World.size_drew]; omega) | (simp; omega) | (simp; done))); clear hown2 hg2 hat2))
      go_ret
      exact ⟨_, rfl, by rw [HST.out]; have hh := isB_app (ps := pi ++ [(c, lv)]) HPq.out HSq.out HN.out HG2.out HT2.out (by simpa using HO2.out); simpa using hh, B2⟩
  · have hst2 : Reg.stackL (pi.map Prod.fst ++ [c]) b = pi.map Prod.fst ++ [c, b] := by rw [hst, if_neg (fun h => he h.1)]
    have HST := Lib.hid hst2
    have heb : (c.hi == b.lo) = false := beq_eq_false_iff_ne.2 he
    clear hst hst2 he
    go_enter Tryz.func63, Tryz.ntmps63
    go_wp2_with fail
    go_quiet (fail)
    have HOq := Lib.hid (show ((w.alloc (.cells #[.int .i64 b.lo, .int .i64 b.hi, Value.slice (some ⟨sb, so, none⟩) b.sp.length sc] 67)).drewN nq).ownsRow B 67 3 (.slice (some ⟨g, 0, none⟩) (pi.length + 1) cap) (pi.length + 1) (bandVals (pi ++ [(c, lv)])) from ownsRow_below' HO.out (by (repeat' (first | (with_reducible exact Below.refl _ _) | (with_reducible assumption) | (with_reducible refine Below.alloc ?_ ?_ _) | (with_reducible refine Below.drew ?_) | (with_reducible refine below_drewN ?_ _) | (with_reducible refine Below.setCell ?_ ?_ _) | (with_reducible exact Nat.le_refl _) | omega | (simp only [World.size_alloc, World.size_setCell, World.size_drew]; omega) | (simp; omega) | (simp; done)))))
    have HSq := Lib.hid (show IsS ((w.alloc (.cells #[.int .i64 b.lo, .int .i64 b.hi, Value.slice (some ⟨sb, so, none⟩) b.sp.length sc] 67)).drewN nq) (Value.slice (some ⟨sb, so, none⟩) b.sp.length sc) b.sp from HS.out.below (by (repeat' (first | (with_reducible exact Below.refl _ _) | (with_reducible assumption) | (with_reducible refine Below.alloc ?_ ?_ _) | (with_reducible refine Below.drew ?_) | (with_reducible refine below_drewN ?_ _) | (with_reducible refine Below.setCell ?_ ?_ _) | (with_reducible exact Nat.le_refl _) | omega | (simp only [World.size_alloc, World.size_setCell, World.size_drew]; omega) | (simp; omega) | (simp; done)))))
    have HPq := Lib.hid (fun p hp => (show IsS ((w.alloc (.cells #[.int .i64 b.lo, .int .i64 b.hi, Value.slice (some ⟨sb, so, none⟩) b.sp.length sc] 67)).drewN nq) p.2 p.1.sp ∧ Apart ((.slice (some ⟨g, 0, none⟩) (pi.length + 1) cap)) p.2 from ⟨(H3.out p hp).1.below (by (repeat' (first | (with_reducible exact Below.refl _ _) | (with_reducible assumption) | (with_reducible refine Below.alloc ?_ ?_ _) | (with_reducible refine Below.drew ?_) | (with_reducible refine below_drewN ?_ _) | (with_reducible refine Below.setCell ?_ ?_ _) | (with_reducible exact Nat.le_refl _) | omega | (simp only [World.size_alloc, World.size_setCell, World.size_drew]; omega) | (simp; omega) | (simp; done)))), (H3.out p hp).2⟩))
    have Bq : Below B w ((w.alloc (.cells #[.int .i64 b.lo, .int .i64 b.hi, Value.slice (some ⟨sb, so, none⟩) b.sp.length sc] 67)).drewN nq) := (by (repeat' (first | (with_reducible exact Below.refl _ _) | (with_reducible assumption) | (with_reducible refine Below.alloc ?_ ?_ _) | (with_reducible refine Below.drew ?_) | (with_reducible refine below_drewN ?_ _) | (with_reducible refine Below.setCell ?_ ?_ _) | (with_reducible exact Nat.le_refl _) | omega | (simp only [World.size_alloc, World.size_setCell, World.size_drew]; omega) | (simp; omega) | (simp; done))))
    have zq : w.heap.size + 1 ≤ ((w.alloc (.cells #[.int .i64 b.lo, .int .i64 b.hi, Value.slice (some ⟨sb, so, none⟩) b.sp.length sc] 67)).drewN nq).heap.size := by (first | (with_reducible exact Nat.le_refl _) | (with_reducible assumption) | omega | (simp only [World.size_alloc, World.size_setCell, World.size_drew]; omega) | (simp; omega) | (simp; done))
    have kq : ∀ i, ((w.alloc (.cells #[.int .i64 b.lo, .int .i64 b.hi, Value.slice (some ⟨sb, so, none⟩) b.sp.length sc] 67)).drewN nq).cell? ⟨w.heap.size, i, none⟩ = (#[Value.int .i64 b.lo, Value.int .i64 b.hi, Value.slice (some ⟨sb, so, none⟩) b.sp.length sc])[i]? := fun i => by simp [go_sem]
    have fq : ∀ i, ((w.alloc (.cells #[.int .i64 b.lo, .int .i64 b.hi, Value.slice (some ⟨sb, so, none⟩) b.sp.length sc] 67)).drewN nq).frozen? ⟨w.heap.size, i, none⟩ = false := fun i => by simp [go_sem]
    generalize hWq : (w.alloc (.cells #[.int .i64 b.lo, .int .i64 b.hi, Value.slice (some ⟨sb, so, none⟩) b.sp.length sc] 67)).drewN nq = Wq at *
    clear hWq
    go_wp2_with (first | (at_builtin; refine wpList_append_own_at _ rfl (.tmp 45) (.tmp 47) 61 rfl B 67 i0 (.agg #[.int .i64 0, .int .i64 0, .slice none 0 0]) 3 40 Tryz.underlying61 hi hz0 hz1 hz2 rfl (by decide) (.slice (some ⟨g, 0, none⟩) (pi.length + 1) cap) (pi.length + 1) (bandVals (pi ++ [(c, lv)])) rfl (HOq.out.alloc _) ⟨Wq.heap.size, 0, none⟩ 1 1 [.int .i64 b.lo, .int .i64 b.hi, Value.slice (some ⟨sb, so, none⟩) b.sp.length sc] rfl rfl (three_new _ _ _ _ _) ?o2 ?q4 ?q5 ?b2 ?_; (case o2 => simp [Value.oneCell']); (case q4 => simp only [maxLen]; omega); (case q5 => omega); (case b2 => (first | (with_reducible exact Nat.le_refl _) | (with_reducible assumption) | omega | (simp only [World.size_alloc, World.size_setCell, World.size_drew]; omega) | (simp; omega) | (simp; done))); intro v2 w2 hown2 hg2 _ hat2; have HG2 := Lib.hid hg2; have HT2 := Lib.hid hat2; have HO2 := Lib.hid hown2; have B2 := below_app (B := B) (w0 := w) (Bq.alloc (by omega) _) (HOq.out.alloc _) hg2 (Nat.le_refl _) (by (first | (with_reducible exact Nat.le_refl _) | (with_reducible assumption) | omega | (simp only [World.size_alloc, World.size_setCell, World.size_drew]; omega) | (simp; omega) | (simp; done))); clear hown2 hg2 hat2))
    go_ret
    exact ⟨_, rfl, by rw [HST.out]; have hh := isB_app (ps := pi ++ [(c, lv)]) HPq.out HSq.out HN.out HG2.out HT2.out (by simpa using HO2.out); simpa using hh, B2⟩

theorem stacked_any (B : Nat) (v : Value) (bs : List Band) (b : Band) (sv : Value) (w : World) (h : IsB w B v bs) (hs : IsS w sv b.sp) (hne : Apart v sv) (hB : B ≤ w.heap.size) (hlen : b.sp.length ≤ 1000000) (hall : ∀ c, c ∈ bs → c.sp.length ≤ 1000000) (hmany : bs.length ≤ 1000000) :
    Calls Tryz.prog 63 #[v, .agg #[.int .i64 b.lo, .int .i64 b.hi, sv]] w (GotB w B (Reg.stackL bs b)) := by
  by_cases h0 : b.sp = []
  · exact stacked_skip B v bs b sv w h hs h0 hB
  · rcases List.eq_nil_or_concat bs with rfl | ⟨bi, c, rfl⟩
    · exact stacked_first B v b sv w h hs hne h0 hB hlen
    · obtain ⟨ps, hp, h2, h3⟩ := h
      rcases List.eq_nil_or_concat ps with rfl | ⟨pi, ⟨c', lv⟩, rfl⟩
      · simp at hp
      · simp only [List.concat_eq_append, List.map_append, List.map_cons, List.map_nil] at hp h2 h3 hall hmany ⊢
        obtain ⟨rfl, hcc⟩ := List.append_inj' hp rfl
        obtain rfl : c' = c := by simpa using hcc
        obtain ⟨A, cap, rfl, _, _, hcell⟩ := own_cells h2
        obtain ⟨g, rfl, _⟩ := hcell (by simp)
        simp only [List.length_append, List.length_cons, List.length_nil, Nat.zero_add] at h2 h3 hne ⊢
        exact stacked_more B g cap pi c' lv b sv w h2 h3 hs hne h0 hB hlen (hall _ (by simp)) (by simp at hmany; omega)
end Go.Proofs.YtmcbjaefnhfopaaGreat

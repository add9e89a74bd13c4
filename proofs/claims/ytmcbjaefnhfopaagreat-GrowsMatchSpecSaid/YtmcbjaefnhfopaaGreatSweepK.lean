/- sweep of package shape says what its plain counterpart says, whatever the world. -/
import Derived.Test.YtmcbjaefnhfopaaGreatSweepJ
namespace Go.Proofs.YtmcbjaefnhfopaaGreat
open Go.RowKit
open Reg (R4 E5 Span Band strG stepOf sumOf addP RelP rowK bandsK sweepL allE aliveL edgesL told stackL heightsL bandsFrom)
set_option linter.unusedSimpArgs false
set_option linter.unusedVariables false

theorem lieE_own {w : World} {base g cap : Nat} {l : List E5} (h : w.ownsRow base 75 5 (.slice (some ⟨g, 0, none⟩) l.length cap) l.length (cE l)) : LieE w g 0 l := by
  refine ⟨(own_lt h (g := g) rfl).2, fun i e hi => ?_⟩
  obtain ⟨a0, a1, a2, a3, a4⟩ := cE_at hi
  simp only [Nat.zero_add]
  exact ⟨(own_cellC h a0).1, (own_cellC h a1).1, (own_cellC h a2).1, (own_cellC h a3).1, (own_cellC h a4).1⟩
theorem lieE_rd {w : World} {g o : Nat} {l : List E5} (h : LieE w g o l) : RdE w (some ⟨g, o, none⟩) l := fun _ => ⟨g, o, rfl, h.1, h.2⟩
theorem LieE.take {w : World} {g o n : Nat} {l : List E5} (h : LieE w g o l) : LieE w g o (l.take n) := ⟨h.1, fun i e hi => h.2 i e (by
  have := (List.getElem?_eq_some_iff.1 hi).1
  simp at this
  rw [List.getElem?_take_of_lt (by omega)] at hi
  exact hi)⟩
theorem LieE.drop {w : World} {g o n : Nat} {l : List E5} (h : LieE w g o l) : LieE w g (o + n * 5) (l.drop n) := ⟨h.1, fun i e hi => by
  rw [List.getElem?_drop] at hi
  have := h.2 _ e hi
  rw [show o + n * 5 + i * 5 = o + (n + i) * 5 from by omega]
  exact this⟩
theorem LieE.none {w : World} {g : Nat} (o : Nat) (h : g < w.heap.size) : LieE w g o [] := ⟨h, fun i e hi => by simp at hi⟩
theorem LieE.keeps {S : Nat → Prop} {w w' : World} {g o : Nat} {l : List E5} (h : LieE w g o l) (k : Keeps S w w') (hn : ¬ S g) : LieE w' g o l :=
  ⟨Nat.lt_of_lt_of_le h.1 k.size, fun i e hi => by
    obtain ⟨a0, a1, a2, a3, a4⟩ := h.2 i e hi
    simp only [k.cell h.1 hn]
    exact ⟨a0, a1, a2, a3, a4⟩⟩
theorem cI_at {l : List Int} {i : Nat} {x : Int} (h : l[i]? = some x) : (cI l)[i]? = some (.int .i64 x) := by simp [cI, h]
theorem heightsE_len (l : List E5) : (heightsE l).length ≤ 2 * l.length := by
  rw [← allY_len l, ← List.length_mergeSort (le := fun x y : Int => decide (x ≤ y)) (allY l)]
  unfold heightsE
  generalize ((allY l).mergeSort fun x y => decide (x ≤ y)) = m
  show (Lib.compactUpTo m.toArray m.length).length ≤ m.length
  unfold Lib.compactUpTo
  rw [List.length_map]
  exact Nat.le_trans (List.length_filter_le _ _) (by simp)
theorem sides_of {a b : List R4} {E : List E5} (ga : Reg.Good a) (gb : Reg.Good b) (hp : E.Perm (allE a b)) (hs : E.Pairwise (fun d e => d.y0 < e.y0 ∨ (d.y0 = e.y0 ∧ d.x ≤ e.x))) (hl : a.length + b.length ≤ 100000) : Sides a b E (heightsE E) := by
  refine ⟨ga, gb, hp, hs, (heightsE_ok E).1, (heightsE_ok E).2, ?_⟩
  rw [hp.length_eq, allE, List.length_append, edgesL_len, edgesL_len]
  omega
theorem rdT_ownC {w : World} {base : Nat} {v : Value} {l : List Span} (h : w.ownsRow base 107 2 v l.length (cT l)) : ∃ A c, v = .slice A l.length c ∧ RdT w A l ∧ ∀ b off, A = some ⟨b, off, none⟩ → base ≤ b := by
  obtain ⟨A, c, rfl, hr⟩ := rdT_own h
  exact ⟨A, c, rfl, hr, fun b off e => (own_lt h (g := b) (by rw [e]; rfl)).1⟩

/-- What the sweep holds while it goes. -/
structure SwW (base hb gc gh ch p : Nat) (E : List E5) (hs : List Int) (nc oc cm : Nat) (v12 : Value) (cr : List E5) (vr : Value) (rs : List R4) (last : Nat) (w0 w : World) : Prop where
  lie : LieE w gc oc (E.drop nc)
  cap : E.length - nc ≤ cm
  own : w.ownsRow base 75 5 v12 cr.length (cE cr)
  high : w.ownsRow hb 3 1 (.slice (some ⟨gh, 0, none⟩) hs.length ch) hs.length (cI hs)
  p0 : w.cell? ⟨p, 0, none⟩ = some vr
  p1 : w.cell? ⟨p, 1, none⟩ = some (.int .i64 last)
  f0 : w.frozen? ⟨p, 0, none⟩ = false
  f1 : w.frozen? ⟨p, 1, none⟩ = false
  rects : w.ownsRow base 28 4 vr rs.length (cR rs)
  sep : ∀ x, v12.ownBlock = some x → x ≠ gc ∧ x ≠ gh ∧ x ≠ p ∧ vr.ownBlock ≠ some x
  sepR : ∀ x, vr.ownBlock = some x → x ≠ gc ∧ x ≠ gh ∧ x ≠ p
  three : gc ≠ gh ∧ gc ≠ p ∧ gh ≠ p
  plt : p < w.heap.size
  low : base ≤ gc ∧ base ≤ gh ∧ base ≤ p
  below : Below base w0 w

theorem SwW.next {base hb gc gh ch p : Nat} {E : List E5} {hs : List Int} {nc oc cm : Nat} {v12 : Value} {cr : List E5} {vr : Value} {rs : List R4} {last : Nat} {w0 w : World} (W : SwW base hb gc gh ch p E hs nc oc cm v12 cr vr rs last w0 w)
    {n oc' : Nat} {v7 v9 : Value} {cr2 : List E5} {rs2 : List R4} {last2 : Nat} {w7 w8 w9 : World} (hb0 : base ≤ w.heap.size) (hoc : LieE w gc oc' (E.drop (nc + n))) (k7 : Keeps (fun x => v12.ownBlock = some x) w w7)
    (o7 : w7.ownsRow base 75 5 v7 cr2.length (cE cr2)) (at7 : ∀ x, v7.ownBlock = some x → v12.ownBlock = some x ∨ w.heap.size ≤ x) (k8 : Keeps (fun x => v12.ownBlock = some x) w w8) (k78 : Keeps (fun _ => False) w7 w8)
    (t0 : w9.cell? ⟨p, 0, none⟩ = some v9) (t1 : w9.cell? ⟨p, 1, none⟩ = some (.int .i64 last2)) (t2 : w9.frozen? ⟨p, 0, none⟩ = false) (t3 : w9.frozen? ⟨p, 1, none⟩ = false) (o9 : w9.ownsRow base 28 4 v9 rs2.length (cR rs2))
    (at9 : ∀ g, v9.ownBlock = some g → vr.ownBlock = some g ∨ w8.heap.size ≤ g) (k9 : Keeps (fun x => x = p ∨ vr.ownBlock = some x) w8 w9) :
    SwW base hb gc gh ch p E hs (nc + n) oc' (cm - n) v7 cr2 v9 rs2 last2 w0 w9 := by
  have hgc := W.lie.1
  have hgh := (own_lt W.high (g := gh) rfl).2
  have hp := W.plt
  have s7 := k7.size
  have s78 := k78.size
  have s89 := k9.size
  have K : Keeps (fun x => v12.ownBlock = some x ∨ x = p ∨ vr.ownBlock = some x) w w9 := (show Keeps (fun x => v12.ownBlock = some x ∨ x = p ∨ vr.ownBlock = some x) w w8 from ⟨k8.os, k8.tape, k8.output, k8.size, fun x hx hn => k8.block x hx (fun e => hn (.inl e))⟩).trans k9 (fun x _ h => .inr h)
  have ngc : ¬ (v12.ownBlock = some gc ∨ gc = p ∨ vr.ownBlock = some gc) := by
    rintro (h | h | h)
    · exact (W.sep _ h).1 rfl
    · exact W.three.2.1 h
    · exact (W.sepR _ h).1 rfl
  have ngh : ¬ (v12.ownBlock = some gh ∨ gh = p ∨ vr.ownBlock = some gh) := by
    rintro (h | h | h)
    · exact (W.sep _ h).2.1 rfl
    · exact W.three.2.2 h
    · exact (W.sepR _ h).2.1 rfl
  have hvr : ∀ x, vr.ownBlock = some x → base ≤ x ∧ x < w.heap.size := fun x h => own_lt W.rects h
  have hv12 : ∀ x, v12.ownBlock = some x → base ≤ x ∧ x < w.heap.size := fun x h => own_lt W.own h
  refine ⟨hoc.keeps K ngc, by have := W.cap; omega, ?_, K.own W.high (fun g hg => by simp [Value.ownBlock] at hg; subst hg; exact ngh), t0, t1, t2, t3, o9, fun x hx => ?_, fun x hx => ?_, W.three, by omega, W.low, W.below.trans (K.below hb0 (fun x hx h => ?_))⟩
  · refine k9.own (k78.own o7 (fun _ _ h => h)) (fun x hx => ?_)
    rcases at7 x hx with h | h
    · rintro (e | e)
      · exact (W.sep x h).2.2.1 e
      · exact (W.sep x h).2.2.2 e
    · rintro (e | e)
      · omega
      · have := (hvr x e).2; omega
  · have hx7 := (own_lt o7 hx).2
    have h9 : v9.ownBlock = some x → vr.ownBlock = some x := fun e => by
      rcases at9 x e with h | h
      · exact h
      · omega
    rcases at7 x hx with h | h
    · obtain ⟨a1, a2, a3, a4⟩ := W.sep x h
      exact ⟨a1, a2, a3, fun e => a4 (h9 e)⟩
    · exact ⟨by omega, by omega, by omega, fun e => by have := (hvr x (h9 e)).2; omega⟩
  · rcases at9 x hx with h | h
    · exact W.sepR x h
    · have := k8.size
      exact ⟨by omega, by omega, by omega⟩
  · have := W.low
    rcases h with h | h | h
    · have := (hv12 x h).1; omega
    · omega
    · have := (hvr x h).1; omega

set_option maxRecDepth 100000 in
set_option maxHeartbeats 4000000 in
theorem sweep_any (keep : Int → Int → Bool) (kf : Nat) (eg : ∀ args w, (callFunc kf args).run Tryz.prog w = .ok (.enter kf args) w)
    (CK : ∀ a b W, Calls Tryz.prog kf #[.int .i64 a, .int .i64 b] W fun e w' => e = .returned (.bool (keep a b)) ∧ Below W.heap.size W w') (hk : keep 0 0 = false)
    (A B : Option Addr) (a b : List R4) (ca cb : Nat) (most : Int) (w : World) (hm0 : 0 ≤ most) (hlen : a.length + b.length ≤ 100000) (ga : Reg.Good a) (gb : Reg.Good b) (h1 : Rd w A a) (h2 : Rd w B b) :
    Calls Tryz.prog 54 #[.slice A a.length ca, .slice B b.length cb, .int .i64 most, .func (.func kf) #[] #[]] w fun e w' => ∃ v,
      e = .returned (.tuple #[v, .bool (decide (((sweepL keep a b).length : Int) ≤ most))]) ∧ Below w.heap.size w w' ∧
      (((sweepL keep a b).length : Int) ≤ most → w'.ownsRow w.heap.size 28 4 v (sweepL keep a b).length (cR (sweepL keep a b))) ∧ (¬ ((sweepL keep a b).length : Int) ≤ most → v = .slice none 0 0) := by
  obtain ⟨i0, hi, hz0, hz1, hz2⟩ := info_parts infoE
  have H1 := Lib.hid h1
  have H2 := Lib.hid h2
  have GA := Lib.hid ga
  have GB := Lib.hid gb
  have HK := Lib.hid hk
  have HCK := Lib.hid CK
  clear h1 h2 ga gb hk CK
  have LA := Lib.hid (edgesL_len 0 a)
  have LB := Lib.hid (edgesL_len 1 b)
  go_enter Tryz.func54, Tryz.ntmps54
  go_wp2_with fail
  refine (edgesOf_any A a ca 0 w (by omega) H1.out).mono ?_
  rintro e w1 ⟨v1, rfl, hnn1, ho1, hb1⟩
  have N1 := Lib.hid hnn1
  have O1 := Lib.hid ho1
  have B1 := Lib.hid hb1
  have z1 := hb1.size
  clear hnn1 ho1 hb1
  go_wp2_with fail
  refine (edgesOf_any B b cb 1 w1 (by omega) (H2.out.below B1.out)).mono ?_
  rintro e w2 ⟨v2, rfl, hnn2, ho2, hb2⟩
  obtain ⟨g2, c2, rfl, hg21, hg22, hg23⟩ := own_slice ho2 hnn2
  have O1' := Lib.hid (own_belowC O1.out hb2)
  have L2 := Lib.hid (lieE_own ho2)
  have B2 := Lib.hid (B1.out.trans (hb2.mono z1))
  have z2 := hb2.size
  clear hnn2 ho2 hb2 O1
  have hbase2 : w.heap.size ≤ w2.heap.size := by omega
  go_wp2_with (first | (at_builtin; refine wpList_append_own_at _ rfl (.tmp 19) (.tmp 21) 71 rfl w.heap.size 75 i0 (.agg #[.int .i64 0, .int .i64 0, .int .i64 0, .int .i64 0, .int .i64 0]) 5 40 Tryz.underlying71 hi hz0 hz1 hz2 rfl (by decide) v1 (edgesL 0 a).length (cE (edgesL 0 a)) rfl O1'.out ⟨g2, 0, none⟩ (edgesL 1 b).length c2 (cE (edgesL 1 b)) rfl ?nl ?nw ?o2 ?q4 ?q5 ?b2 ?_; (case nl => exact cE_len _); (case nw => exact lieE_cells L2.out); (case o2 => exact cE_one _); (case q4 => simp only [maxLen]; have := LA.out; have := LB.out; omega); (case q5 => have := LA.out; have := LB.out; omega); (case b2 => exact hbase2); intro v3 w3 hown3 hg3 hnil3 hat3; have HG3 := Lib.hid hg3; have HO3 := Lib.hid hown3; have HN3 := Lib.hid hnil3; have z3 := hg3.size; clear hown3 hg3 hnil3 hat3))
  -- GEN
  have hnn3 : v3 ≠ .slice none 0 0 := fun e => N1.out (HN3.out.1 e).1
  have hall : (edgesL 0 a).length + (edgesL 1 b).length = (allE a b).length := by rw [allE, List.length_append]
  have ho3 := HO3.out
  rw [hall, ← cE_append] at ho3
  refine (sortOwn_any w.heap.size v3 (allE a b) w3 hnn3 ho3 (by rw [← hall, LA.out, LB.out]; omega)).mono ?_
  rintro e w4 ⟨rfl, E, hp4, hs4, ho4, hg4⟩
  obtain ⟨gc, cc, rfl, hgc1, hgc2, hgc3⟩ := own_slice ho4 hnn3
  have B4 := Lib.hid ((B2.out.trans (below_gb HG3.out (by omega) (fun x hx => (own_lt O1'.out hx).1))).trans (below_gb hg4 (by omega) (fun x hx => (own_lt ho3 hx).1)))
  have z4 := hg4.size
  have S := Lib.hid (sides_of GA.out GB.out hp4 hs4 hlen)
  have O4 := Lib.hid ho4
  have RE := Lib.hid (lieE_rd (lieE_own ho4))
  have hEl := S.out.many
  have HHL := Lib.hid (heightsE_len E)
  clear hall ho3 ho4 hg4 hp4 hs4 hnn3 HO3 HG3 HN3 L2 O1' N1 hgc3
  go_wp2_with fail
  refine (heightsOf_any (some ⟨gc, 0, none⟩) E cc w4 (by omega) RE.out).mono ?_
  rintro e w5 ⟨gh, ch, rfl, hgh, ho5, hb5⟩
  have B5 := Lib.hid (B4.out.trans (hb5.mono (by have := B4.out.size; omega)))
  have z5 := hb5.size
  have hgcl := (own_lt O4.out (g := gc) rfl).2
  have hghl := (own_lt ho5 (g := gh) rfl).2
  have L5 := Lib.hid ((lieE_own O4.out).keeps (keeps_below hb5) (fun h => h))
  have O5 := Lib.hid ho5
  have W0 : SwW w.heap.size w4.heap.size gc gh ch w5.heap.size E (heightsE E) 0 0 cc (.slice none 0 0) [] (.slice none 0 0) [] 0 w (w5.alloc (.cells #[.slice none 0 0, .int .i64 0] 79)) := by
    refine ⟨?_, by omega, ⟨rfl, .inl ⟨rfl, rfl⟩⟩, own_allocC O5.out _, by simp [go_sem], by simp [go_sem], by simp [go_sem], by simp [go_sem], ⟨rfl, .inl ⟨rfl, rfl⟩⟩, (fun x h => by cases h), (fun x h => by cases h), ⟨by omega, by omega, by omega⟩, by simp, ⟨hgc1, by omega, by omega⟩, B5.out.alloc (by omega) _⟩
    exact L5.out.keeps (keeps_alloc (Keeps.refl (fun _ => False) _) _) (fun h => h)
  have HW0 := Lib.hid W0
  have HI0 := Lib.hid (SwI.start (keep := keep) S.out)
  have hhl := HHL.out
  generalize heightsE E = hs at *
  clear W0 ho5 hb5 L5 O5 O4 RE B4 B5 B2 B1 HHL
  go_wp2_with fail
  go_loopw [10, 12, 14] (fun v10 v12 v14 wr => ∃ (i nc oc cm : Nat) (cr : List E5) (rs : List R4) (last : Nat) (bs : List Band) (vr : Value), v14 = .int .i64 i ∧ v10 = .slice (some ⟨gc, oc, none⟩) (E.length - nc) cm ∧ SwI keep a b E hs i nc cr rs last bs ∧ SwW w.heap.size w4.heap.size gc gh ch w5.heap.size E hs nc oc cm v12 cr vr rs last w wr ∧ (rs.length : Int) ≤ most ∧ i ≤ hs.length + 1) (fun _ _ v14 _ => hs.length + 1 - (intOf v14).toNat)
  case atStart => exact ⟨1, 0, 0, cc, [], [], 0, [], _, rfl, by simp, HI0.out, HW0.out, hm0, by omega⟩
  case round =>
    obtain ⟨i, nc, oc, cm, cr, rs, last, bs, vr, rfl, rfl, hI, hW, hmost, hil⟩ := hrel
    have I := Lib.hid hI
    have W := Lib.hid hW
    clear hI hW
    have hi1 := I.out.hi
    have hncl := I.out.ncl
    have hcrl := I.out.crl
    have hrl := I.out.len
    have hiz : (0 : Int) ≤ (i : Int) := by omega
    by_cases hlt : i < hs.length
    · have hltz : (i : Int) < (hs.length : Int) := by omega
      obtain ⟨j, hj⟩ : ∃ j, j = i - 1 := ⟨_, rfl⟩
      have hsub : (i : Int) - 1 = (j : Int) := by omega
      have hjz : (0 : Int) ≤ (j : Int) := by omega
      have hjl : (j : Int) < (hs.length : Int) := by omega
      obtain ⟨lo, hlo⟩ : ∃ lo, hs[i - 1]? = some lo := ⟨_, List.getElem?_eq_getElem (by omega)⟩
      obtain ⟨hi', hhi⟩ : ∃ hi', hs[i]? = some hi' := ⟨_, List.getElem?_eq_getElem hlt⟩
      have q0 := (own_cellC W.out.high (cI_at hlo)).1
      have q1 := (own_cellC W.out.high (cI_at hhi)).1
      rw [← hj] at q0
      have HLO := Lib.hid hlo
      have HHI := Lib.hid hhi
      clear hlo hhi
      have HJ := Lib.hid hj
      clear hj
      go_wp2_with fail
      go_quiet (fail)
      go_wp2_with fail
      have hnle := startN_le lo (E.drop nc)
      rw [List.length_drop] at hnle
      have D1 := Lib.hid (startingAt_any (some ⟨gc, oc, none⟩) (E.drop nc) cm lo (wr.drewN nq) (by rw [List.length_drop]; omega) (lieE_rd W.out.lie))
      rw [List.length_drop] at D1
      refine D1.out.mono ?_
      rintro e w6 ⟨rfl, rfl⟩
      obtain ⟨n, hn⟩ : ∃ n, n = startN lo (E.drop nc) := ⟨_, rfl⟩
      rw [← hn] at hnle ⊢
      have HNS := Lib.hid hn
      have hcap := W.out.cap
      have hnz : (0 : Int) ≤ (n : Int) := by omega
      have hncm : (n : Int) ≤ (cm : Int) := by omega
      have hnE : (n : Int) ≤ ((E.length - nc : Nat) : Int) := by omega
      have hml : ((E.drop nc).take n).length = n := by rw [List.length_take, List.length_drop]; omega
      have hcf : (cr.filter (keepY lo)).length ≤ cr.length := List.length_filter_le _ _
      have DM := Lib.hid (fun (v6 : Value) (W6 : World) hb ho hl hne => merged_any w.heap.size v6 (cr.filter (keepY lo)) ((E.drop nc).take n) gc oc cm W6 hb (by omega) (by omega) ho hl hne)
      simp only [hml] at DM
      have zw := W.out.below.size
      clear hn D1 hml q0 q1
      go_wp2_with fail
      go_region_held3 (fun _ => True) (exact trivial)
        (first | (go_at_call 78; refine (without_any w.heap.size u12 cr lo _ (by omega) ?ow).mono ?_; (case ow => exact W.out.own); rintro e w6 ⟨v6, rfl, ho6, hob6, hg6⟩; have O6 := Lib.hid ho6; have OB6 := Lib.hid hob6; have G6 := Lib.hid hg6; have K6 := Lib.hid (show Keeps (fun x => u12.ownBlock = some x) wr w6 from ⟨hg6.os, hg6.tape, hg6.output, hg6.size, fun x hx hn => hg6.block x hx (fun e => hn e.symm)⟩); clear ho6 hob6 hg6) | (go_at_call 77; refine (DM.out v6 _ ?d1 O6.out ?d2 ?d3).mono ?_; (case d1 => have := K6.out.size; omega); (case d2 => exact (W.out.lie.take).keeps K6.out (fun e => (W.out.sep gc e).1 rfl)); (case d3 => rw [OB6.out]; exact fun e => (W.out.sep gc e).1 rfl); rintro e w7 ⟨v7, cr2, rfl, hp7, hs7, ho7, hg7, hat7⟩; obtain ⟨A7, c7, rfl, -, -, hr7, -⟩ := rdE_own ho7; have P7 := Lib.hid hp7; have S7 := Lib.hid hs7; have O7 := Lib.hid ho7; have G7 := Lib.hid hg7; have AT7 := Lib.hid hat7; have R7 := Lib.hid hr7; clear hp7 hs7 ho7 hg7 hat7 hr7))
      have K7 := Lib.hid (K6.out.trans (keeps_gb G7.out) (fun x _ h => by rw [← OB6.out]; exact h))
      have hz6 := K6.out.size
      have hz7 := G7.out.size
      rw [HNS.out] at P7
      have sx := S7.out (I.out.crs.sublist List.filter_sublist) (by rw [HNS.out]; exact I.out.moreX S.out)
      obtain ⟨s1, s2, s3, s4, s5, s6⟩ := I.out.step HK.out S.out HLO.out HHI.out P7.out sx
      rw [← HNS.out] at s6
      have S1 := Lib.hid s1
      have S2 := Lib.hid s2
      have S3 := Lib.hid s3
      have S6 := Lib.hid s6
      have hla := I.out.la
      have plt := W.out.plt
      have B7 := Lib.hid (show Below w.heap.size w w7 from W.out.below.trans (K7.out.below zw (fun x hx h => by have := (own_lt W.out.own h).1; omega)))
      clear s1 s2 s3 s6 sx
      by_cases hcn : cm = n
      · have hz0 : E.length - nc - n = 0 := by omega
        have hz1 : cm - n = 0 := by omega
        go_wp2_with fail
        refine (stretches_any keep kf eg HCK.out A7 cr2 c7 w7 (by omega) S2.out S3.out R7.out).mono ?_
        rintro e w8 ⟨v8, rfl, ho8, hb8⟩
        rw [S1.out] at ho8
        obtain ⟨A8, c8, rfl, hr8, ha8⟩ := rdT_ownC ho8
        have R8 := Lib.hid hr8
        have HA8 := Lib.hid ha8
        have z8 := hb8.size
        have K8 := Lib.hid (K7.out.trans (keeps_below hb8) (fun x _ h => h.elim))
        have K78 := Lib.hid (keeps_below hb8)
        have B8 := Lib.hid (B7.out.trans (hb8.mono (by have := B7.out.size; omega)))
        clear ho8 hr8 ha8 hb8
        have np : ¬ u12.ownBlock = some w5.heap.size := fun e => (W.out.sep _ e).2.2.1 rfl
        have nR : ∀ x, vr.ownBlock = some x → ¬ u12.ownBlock = some x := fun x hx e => (W.out.sep _ e).2.2.2 hx
        have NR := Lib.hid nR
        have p80 := (K8.out.cell plt np 0).trans W.out.p0
        have p81 := (K8.out.cell plt np 1).trans W.out.p1
        have f80 := (K8.out.frozen plt np 0).trans W.out.f0
        have f81 := (K8.out.frozen plt np 1).trans W.out.f1
        have DA := Lib.hid (add_any w.heap.size w5.heap.size vr rs last lo hi' A8 (rowK keep a b lo) c8 w8 (by have h := Nat.mul_le_mul_right 200000 (show i - 1 ≤ 400000 by omega); omega) (by omega) hla (by have := B8.out.size; omega) (K8.out.own W.out.rects NR.out) (fun e => (W.out.sepR _ e).2.2 rfl) p80 p81 f80 f81 (by omega) R8.out (fun b off e => by
          have h1 := HA8.out b off e
          exact ⟨by omega, fun h => by have := (own_lt W.out.rects h).2; omega⟩))
        clear np nR p80 p81 f80 f81
        go_wp2_with fail
        refine DA.out.mono ?_
        rintro e w9 ⟨rfl, v9, t0, t1, t2, t3, ho9, hat9, hk9⟩
        obtain ⟨A9, c9, rfl, -, -, -, -⟩ := rd_own ho9
        have W2 := Lib.hid (W.out.next (n := n) (oc' := oc) zw (by rw [List.drop_of_length_le (by omega)]; exact LieE.none _ W.out.lie.1) K7.out O7.out (fun x hx => by
          rcases AT7.out with h | h
          · left; rw [← OB6.out, ← h]; exact hx
          · right; rw [h] at hx; injection hx with hx; omega) K8.out K78.out t0 t1 t2 t3 ho9 hat9 hk9)
        generalize (addP rs last lo hi' (rowK keep a b lo)).1 = rs2 at *
        generalize (addP rs last lo hi' (rowK keep a b lo)).2 = last2 at *
        clear ho9 hat9 hk9 t1 t2 t3
        by_cases hmo : (rs2.length : Int) ≤ most
        · have hmo' : ¬ most < (rs2.length : Int) := by omega
          go_wp2_with fail
          go_roundw
          case rel => exact ⟨i + 1, nc + n, oc, cm - n, cr2, rs2, last2, _, _, by go_num, (by rw [show E.length - (nc + n) = 0 from by omega, hz1]), S6.out, W2.out, hmo, by omega⟩
          case measure => simp [intOf]; omega
        · have hmo' : most < (rs2.length : Int) := by omega
          have hgr := S6.out.grows
          have HGR := Lib.hid hgr
          clear hgr
          go_wp2_with fail
          go_ret2
          have hno : ¬ ((sweepL keep a b).length : Int) ≤ most := by have := HGR.out; omega
          exact ⟨.slice none 0 0, by rw [decide_eq_false hno]; rfl, W2.out.below, fun h => absurd h hno, fun _ => rfl⟩
      · have hcn1 : ¬ n = cm := fun e => hcn e.symm
        go_wp2_with fail
        refine (stretches_any keep kf eg HCK.out A7 cr2 c7 w7 (by omega) S2.out S3.out R7.out).mono ?_
        rintro e w8 ⟨v8, rfl, ho8, hb8⟩
        rw [S1.out] at ho8
        obtain ⟨A8, c8, rfl, hr8, ha8⟩ := rdT_ownC ho8
        have R8 := Lib.hid hr8
        have HA8 := Lib.hid ha8
        have z8 := hb8.size
        have K8 := Lib.hid (K7.out.trans (keeps_below hb8) (fun x _ h => h.elim))
        have K78 := Lib.hid (keeps_below hb8)
        have B8 := Lib.hid (B7.out.trans (hb8.mono (by have := B7.out.size; omega)))
        clear ho8 hr8 ha8 hb8
        have np : ¬ u12.ownBlock = some w5.heap.size := fun e => (W.out.sep _ e).2.2.1 rfl
        have nR : ∀ x, vr.ownBlock = some x → ¬ u12.ownBlock = some x := fun x hx e => (W.out.sep _ e).2.2.2 hx
        have NR := Lib.hid nR
        have p80 := (K8.out.cell plt np 0).trans W.out.p0
        have p81 := (K8.out.cell plt np 1).trans W.out.p1
        have f80 := (K8.out.frozen plt np 0).trans W.out.f0
        have f81 := (K8.out.frozen plt np 1).trans W.out.f1
        have DA := Lib.hid (add_any w.heap.size w5.heap.size vr rs last lo hi' A8 (rowK keep a b lo) c8 w8 (by have h := Nat.mul_le_mul_right 200000 (show i - 1 ≤ 400000 by omega); omega) (by omega) hla (by have := B8.out.size; omega) (K8.out.own W.out.rects NR.out) (fun e => (W.out.sepR _ e).2.2 rfl) p80 p81 f80 f81 (by omega) R8.out (fun b off e => by
          have h1 := HA8.out b off e
          exact ⟨by omega, fun h => by have := (own_lt W.out.rects h).2; omega⟩))
        clear np nR p80 p81 f80 f81
        go_wp2_with fail
        refine DA.out.mono ?_
        rintro e w9 ⟨rfl, v9, t0, t1, t2, t3, ho9, hat9, hk9⟩
        obtain ⟨A9, c9, rfl, -, -, -, -⟩ := rd_own ho9
        have W2 := Lib.hid (W.out.next (n := n) (oc' := (oc + n * 5)) zw (by rw [← List.drop_drop]; exact W.out.lie.drop) K7.out O7.out (fun x hx => by
          rcases AT7.out with h | h
          · left; rw [← OB6.out, ← h]; exact hx
          · right; rw [h] at hx; injection hx with hx; omega) K8.out K78.out t0 t1 t2 t3 ho9 hat9 hk9)
        generalize (addP rs last lo hi' (rowK keep a b lo)).1 = rs2 at *
        generalize (addP rs last lo hi' (rowK keep a b lo)).2 = last2 at *
        clear ho9 hat9 hk9 t1 t2 t3
        by_cases hmo : (rs2.length : Int) ≤ most
        · have hmo' : ¬ most < (rs2.length : Int) := by omega
          go_wp2_with fail
          go_roundw
          case rel => exact ⟨i + 1, nc + n, (oc + n * 5), cm - n, cr2, rs2, last2, _, _, by go_num, (by rw [Nat.sub_add_eq]), S6.out, W2.out, hmo, by omega⟩
          case measure => simp [intOf]; omega
        · have hmo' : most < (rs2.length : Int) := by omega
          have hgr := S6.out.grows
          have HGR := Lib.hid hgr
          clear hgr
          go_wp2_with fail
          go_ret2
          have hno : ¬ ((sweepL keep a b).length : Int) ≤ most := by have := HGR.out; omega
          exact ⟨.slice none 0 0, by rw [decide_eq_false hno]; rfl, W2.out.below, fun h => absurd h hno, fun _ => rfl⟩
    · have hrs := I.out.done S.out hlt
      have HRS := Lib.hid hrs
      have p0 := W.out.p0
      clear hrs
      have hltz : ¬ (i : Int) < (hs.length : Int) := by omega
      go_wp2_with fail
      go_ret2
      have hyes : ((sweepL keep a b).length : Int) ≤ most := by rw [← HRS.out]; exact hmost
      exact ⟨vr, by rw [decide_eq_true hyes]; rfl, W.out.below, fun _ => by rw [← HRS.out]; exact W.out.rects, fun h => by omega⟩
end Go.Proofs.YtmcbjaefnhfopaaGreat

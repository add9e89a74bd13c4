/- stretches of package shape says what its plain counterpart says, whatever the world. -/
import Derived.Test.YtmcbjaefnhfopaaGreatSweepF
import Derived.Test.YtmcbjaefnhfopaaGreatSweepD
import Derived.RegionTactic
import Derived.BigRegion
namespace Go.Proofs.YtmcbjaefnhfopaaGreat
open Go.RowKit
open Reg (R4 E5 Span strG stepOf sumOf)
set_option linter.unusedSimpArgs false
set_option linter.unusedVariables false

/-- Where the stretches stand: k sides are behind, a and b are the sums, o the open stretch, d those that are ended. -/
structure StrI (keep : Int → Int → Bool) (es : List E5) (k : Nat) (a b : Int) (o : Option Int) (d : List Span) : Prop where
  eq : strG keep 0 0 none es = d ++ strG keep a b o (es.drop k)
  ha : a = sumOf 0 (es.take k)
  hb : b = sumOf 1 (es.take k)
  ho : es.drop k = [] → o.isSome = true → keep a b = true
theorem StrI.start (keep : Int → Int → Bool) (es : List E5) : StrI keep es 0 0 0 none [] := ⟨rfl, rfl, rfl, fun _ h => by cases h⟩
theorem sumOf_snoc {li : Int} {es : List E5} {k : Nat} {e : E5} (h : es[k]? = some e) : sumOf li (es.take (k + 1)) = sumOf li (es.take k) + stepOf li e := by
  rw [List.take_add_one, h, Reg.sumOf_append]
  simp [sumOf]
section
variable {keep : Int → Int → Bool} {es : List E5} {k : Nat} {a b : Int} {o : Option Int} {d : List Span} {e : E5}
theorem drop_of {es : List E5} {k : Nat} {e : E5} (h : es[k]? = some e) : es.drop k = e :: es.drop (k + 1) := by
  obtain ⟨h1, rfl⟩ := List.getElem?_eq_some_iff.1 h
  exact List.drop_eq_getElem_cons h1
theorem head_drop (es : List E5) (k : Nat) : (es.drop k).head? = es[k]? := by simp
theorem StrI.same (h : StrI keep es k a b o d) (he : es[k]? = some e) {f : E5} (hf : es[k + 1]? = some f) (hx : f.x = e.x) : StrI keep es (k + 1) (a + stepOf 0 e) (b + stepOf 1 e) o d := by
  refine ⟨?_, by rw [sumOf_snoc he, h.ha], by rw [sumOf_snoc he, h.hb], fun hn => ?_⟩
  · rw [h.eq, drop_of he]
    conv => lhs; unfold strG
    rw [if_pos (by rw [head_drop, hf]; simp [hx])]
  · rw [drop_of hf] at hn
    cases hn
def nextG (keep : Int → Int → Bool) (a b : Int) (o : Option Int) (x : Int) (t : List E5) : List Span :=
  match o, keep a b with
  | none, true => strG keep a b (some x) t
  | some f, false => (f, x) :: strG keep a b none t
  | o, _ => strG keep a b o t
theorem StrI.other (h : StrI keep es k a b o d) (he : es[k]? = some e) (hx : ∀ f, es[k + 1]? = some f → f.x ≠ e.x) :
    strG keep 0 0 none es = d ++ nextG keep (a + stepOf 0 e) (b + stepOf 1 e) o e.x (es.drop (k + 1)) := by
  rw [h.eq, drop_of he]
  conv => lhs; unfold strG
  rw [if_neg]
  · rfl
  rw [head_drop]
  cases hf : es[k + 1]? with
  | none => simp
  | some f => have := hx f hf; simpa using this
theorem StrI.opens (h : StrI keep es k a b none d) (he : es[k]? = some e) (hx : ∀ f, es[k + 1]? = some f → f.x ≠ e.x) (hk : keep (a + stepOf 0 e) (b + stepOf 1 e) = true) : StrI keep es (k + 1) (a + stepOf 0 e) (b + stepOf 1 e) (some e.x) d := by
  refine ⟨?_, by rw [sumOf_snoc he, h.ha], by rw [sumOf_snoc he, h.hb], fun _ _ => hk⟩
  rw [h.other he hx]
  unfold nextG
  rw [hk]
theorem StrI.ends {f : Int} (h : StrI keep es k a b (some f) d) (he : es[k]? = some e) (hx : ∀ f, es[k + 1]? = some f → f.x ≠ e.x) (hk : keep (a + stepOf 0 e) (b + stepOf 1 e) = false) : StrI keep es (k + 1) (a + stepOf 0 e) (b + stepOf 1 e) none (d ++ [(f, e.x)]) := by
  refine ⟨?_, by rw [sumOf_snoc he, h.ha], by rw [sumOf_snoc he, h.hb], fun _ h => by cases h⟩
  rw [h.other he hx]
  unfold nextG
  rw [hk]
  simp
theorem StrI.on {f : Int} (h : StrI keep es k a b (some f) d) (he : es[k]? = some e) (hx : ∀ f, es[k + 1]? = some f → f.x ≠ e.x) (hk : keep (a + stepOf 0 e) (b + stepOf 1 e) = true) : StrI keep es (k + 1) (a + stepOf 0 e) (b + stepOf 1 e) (some f) d := by
  refine ⟨?_, by rw [sumOf_snoc he, h.ha], by rw [sumOf_snoc he, h.hb], fun _ _ => hk⟩
  rw [h.other he hx]
  unfold nextG
  rw [hk]
theorem StrI.off (h : StrI keep es k a b none d) (he : es[k]? = some e) (hx : ∀ f, es[k + 1]? = some f → f.x ≠ e.x) (hk : keep (a + stepOf 0 e) (b + stepOf 1 e) = false) : StrI keep es (k + 1) (a + stepOf 0 e) (b + stepOf 1 e) none d := by
  refine ⟨?_, by rw [sumOf_snoc he, h.ha], by rw [sumOf_snoc he, h.hb], fun _ h => by cases h⟩
  rw [h.other he hx]
  unfold nextG
  rw [hk]
theorem StrI.done (h : StrI keep es es.length a b o d) (hk : keep (sumOf 0 es) (sumOf 1 es) = false) : o = none ∧ d = strG keep 0 0 none es := by
  have ha := h.ha
  have hb := h.hb
  rw [List.take_length] at ha hb
  rw [← ha, ← hb] at hk
  have ho : o = none := by
    cases o with
    | none => rfl
    | some f => rw [h.ho List.drop_length rfl] at hk; cases hk
  subst ho
  exact ⟨rfl, by rw [h.eq, List.drop_length]; simp [strG]⟩
end

/-- The cells of stretches. -/
def cT (l : List Span) : List Value := l.flatMap fun s => [.int .i64 s.1, .int .i64 s.2]
theorem cT_len (l : List Span) : (cT l).length = l.length * 2 := by induction l <;> simp [cT] at *; omega
theorem cT_append (a b : List Span) : cT (a ++ b) = cT a ++ cT b := by simp [cT]
/-- The stretches so far, with the open one. -/
def outT (d : List Span) (o : Option Int) : List Span := d ++ (match o with | none => [] | some f => [(f, 0)])
theorem outT_set (d : List Span) (f x : Int) : (cT (outT d (some f))).set (d.length * 2 + 1) (.int .i64 x) = cT (d ++ [(f, x)]) := by
  simp only [outT, cT_append]
  rw [List.set_append_right _ _ (by rw [cT_len]; omega), cT_len]
  rw [show d.length * 2 + 1 - d.length * 2 = 1 from by omega]
  rfl
theorem own_setC {w : World} {base : Nat} {T : TypeId} {size n cap g : Nat} {xs : List Value} (h : w.ownsRow base T size (.slice (some ⟨g, 0, none⟩) n cap) n xs) {j : Nat} (hj : j < n * size) (v : Value) :
    (w.setCell ⟨g, j, none⟩ v).ownsRow base T size (.slice (some ⟨g, 0, none⟩) n cap) n (xs.set j v) := by
  rcases own_open h with ⟨h0, _⟩ | ⟨g', cap', cur, hv, h1, h2, h3, h4, h5, h6⟩
  · cases h0
  · cases hv
    refine own_mk h1 (h2.set j v) h3 h4 (by simpa using h5) ?_
    rw [← h6, Array.toList_setIfInBounds, List.take_set]
theorem own_cellC {w : World} {base : Nat} {T : TypeId} {size n cap g : Nat} {xs : List Value} (h : w.ownsRow base T size (.slice (some ⟨g, 0, none⟩) n cap) n xs) {j : Nat} {v : Value} (hv : xs[j]? = some v) : w.cell? ⟨g, j, none⟩ = some v ∧ w.frozen? ⟨g, j, none⟩ = false := by
  rcases own_open h with ⟨h0, _⟩ | ⟨g', cap', cur, e, h1, h2, h3, h4, h5, h6⟩
  · cases h0
  · cases e
    refine ⟨?_, h2.frozen _⟩
    rw [h2.cell, ← hv, ← h6]
    have hlt : j < n * size := by
      have := (List.getElem?_eq_some_iff.1 hv).1
      rw [h.1] at this
      exact this
    rw [List.getElem?_take_of_lt hlt, Array.getElem?_toList]
theorem outT_len (d : List Span) (f : Int) : (outT d (some f)).length = d.length + 1 := by simp [outT]
theorem outT_last (d : List Span) (f : Int) : (cT (outT d (some f)))[d.length * 2 + 1]? = some (.int .i64 0) := by
  simp only [outT, cT_append]
  rw [List.getElem?_append_right (by rw [cT_len]; omega), cT_len]
  rw [show d.length * 2 + 1 - d.length * 2 = 1 from by omega]
  rfl
theorem own_not_nil {w : World} {base size n : Nat} {T : TypeId} {xs : List Value} (h : w.ownsRow base T size (.slice none 0 0) (n + 1) xs) : False := by
  rcases own_open h with ⟨_, h0⟩ | ⟨g, cap, cur, h0, _⟩
  · cases h0
  · cases h0
theorem own_ne {w : World} {base size n : Nat} {T : TypeId} {v : Value} {xs : List Value} (h : w.ownsRow base T size v n xs) {x : Nat} (hx : x < base) : v.ownBlock ≠ some x := by
  rcases own_open h with ⟨rfl, _⟩ | ⟨g, cap, cur, rfl, h1, _⟩
  · intro e; cases e
  · intro e; simp [Value.ownBlock] at e; omega
theorem own_mono {w : World} {base base' size n : Nat} {T : TypeId} {v : Value} {xs : List Value} (h : w.ownsRow base T size v n xs) (hb : base' ≤ base) : w.ownsRow base' T size v n xs := by
  rcases own_open h with ⟨rfl, rfl⟩ | ⟨g, cap, cur, rfl, h1, h2, h3, h4, h5, h6⟩
  · exact ⟨h.1, .inl ⟨rfl, rfl⟩⟩
  · exact own_mk (Nat.le_trans hb h1) h2 h3 h4 h5 h6
theorem frozen_gb {w w' : World} {o : Option Nat} (h : w.grownBy w' o) {b : Nat} (hb : b < w.heap.size) (hn : o ≠ some b) (j : Nat) : w'.frozen? ⟨b, j, none⟩ = w.frozen? ⟨b, j, none⟩ := by
  simp only [World.frozen?, h.block b hb (Ne.symm hn)]
theorem own_farC {w : World} {base n size h : Nat} {T : TypeId} {v : Value} {xs : List Value} (ho : w.ownsRow base T size v n xs) (hh : h < base) (j : Nat) (u : Value) : (w.setCell ⟨h, j, none⟩ u).ownsRow base T size v n xs := by
  rcases own_open ho with ⟨rfl, rfl⟩ | ⟨g, cap, cur, rfl, h1, h2, h3, h4, h5, h6⟩
  · exact ⟨ho.1, .inl ⟨rfl, rfl⟩⟩
  · exact own_mk h1 (h2.far (by omega) j u) h3 h4 h5 h6
theorem own_allocC {w : World} {base n size : Nat} {T : TypeId} {v : Value} {xs : List Value} (ho : w.ownsRow base T size v n xs) (x : Obj) : (w.alloc x).ownsRow base T size v n xs := by
  rcases own_open ho with ⟨rfl, rfl⟩ | ⟨g, cap, cur, rfl, h1, h2, h3, h4, h5, h6⟩
  · exact ⟨ho.1, .inl ⟨rfl, rfl⟩⟩
  · exact own_mk h1 (h2.alloc x) h3 h4 h5 h6
theorem own_drewC {w : World} {base n size : Nat} {T : TypeId} {v : Value} {xs : List Value} (ho : w.ownsRow base T size v n xs) : w.drew.ownsRow base T size v n xs := ho
theorem own_drewN {w : World} {base n size : Nat} {T : TypeId} {v : Value} {xs : List Value} (ho : w.ownsRow base T size v n xs) (q : Nat) : (w.drewN q).ownsRow base T size v n xs := ho
theorem own_belowC {w w' : World} {base n size : Nat} {T : TypeId} {v : Value} {xs : List Value} (ho : w.ownsRow base T size v n xs) (hb : Below w.heap.size w w') : w'.ownsRow base T size v n xs := by
  rcases own_open ho with ⟨rfl, rfl⟩ | ⟨g, cap, cur, rfl, h1, h2, h3, h4, h5, h6⟩
  · exact ⟨ho.1, .inl ⟨rfl, rfl⟩⟩
  · exact own_mk h1 (h2.below hb h2.lt) h3 h4 h5 h6
theorem infoT : (Tryz.prog.info? 107).map (fun i => (i.zero, i.size, i.bytes)) = some (some (.agg #[.int .i64 0, .int .i64 0]), 2, 16) := by kernel_rfl

set_option maxRecDepth 100000 in
set_option maxHeartbeats 4000000 in
theorem stretches_any (keep : Int → Int → Bool) (kf : Nat) (eg : ∀ args w, (callFunc kf args).run Tryz.prog w = .ok (.enter kf args) w)
    (CK : ∀ a b W, Calls Tryz.prog kf #[.int .i64 a, .int .i64 b] W fun e w' => e = .returned (.bool (keep a b)) ∧ Below W.heap.size W w')
    (A : Option Addr) (es : List E5) (c : Nat) (w : World) (hl : es.length ≤ 1000000) (hr : ∀ e, e ∈ es → (e.li = 0 ∨ e.li = 1) ∧ (e.st = 1 ∨ e.st = -1)) (hk0 : keep (sumOf 0 es) (sumOf 1 es) = false) (h : RdE w A es) :
    Calls Tryz.prog 80 #[.slice A es.length c, .func (.func kf) #[] #[]] w fun e w' => ∃ v, e = .returned v ∧ w'.ownsRow w.heap.size 107 2 v (strG keep 0 0 none es).length (cT (strG keep 0 0 none es)) ∧ Below w.heap.size w w' := by
  obtain ⟨i0, hi, hz0, hz1, hz2⟩ := info_parts infoT
  have H0 := Lib.hid h
  have HCK := Lib.hid CK
  have HR := Lib.hid hr
  have HK0 := Lib.hid hk0
  clear h CK hr hk0
  go_enter Tryz.func80, Tryz.ntmps80
  go_wp2_with fail
  go_loopw [5, 7, 13] (fun v5 v7 i wr => ∃ (k : Nat) (a b : Int) (o : Option Int) (d : List Span), k ≤ es.length ∧ i = .int .i64 k ∧ v7 = .bool o.isSome ∧ StrI keep es k a b o d ∧ -(k : Int) ≤ a ∧ a ≤ k ∧ -(k : Int) ≤ b ∧ b ≤ k ∧
    wr.cell? ⟨w.heap.size, 0, none⟩ = some (.int .i64 a) ∧ wr.cell? ⟨w.heap.size, 1, none⟩ = some (.int .i64 b) ∧ wr.frozen? ⟨w.heap.size, 0, none⟩ = false ∧ wr.frozen? ⟨w.heap.size, 1, none⟩ = false ∧ w.heap.size + 1 ≤ wr.heap.size ∧
    wr.ownsRow (w.heap.size + 1) 107 2 v5 (outT d o).length (cT (outT d o)) ∧ (outT d o).length ≤ k ∧ Below w.heap.size w wr) (fun _ _ i _ => es.length - (intOf i).toNat)
  case atStart => exact ⟨0, 0, 0, none, [], Nat.zero_le _, rfl, rfl, StrI.start _ _, by simp, by simp, by simp, by simp, by simp [go_sem], by simp [go_sem], by simp [go_sem], by simp [go_sem], by simp, ⟨rfl, .inl ⟨rfl, rfl⟩⟩, Nat.zero_le _, by (repeat' (first | (with_reducible exact Below.refl _ _) | (with_reducible assumption) | (with_reducible refine Below.alloc ?_ ?_ _) | (with_reducible refine Below.drew ?_) | (with_reducible refine below_drewN ?_ _) | (with_reducible refine Below.setCell ?_ ?_ _) | (with_reducible exact Nat.le_refl _) | omega | (simp only [World.size_alloc, World.size_setCell, World.size_drew]; omega) | (simp; omega) | (simp; done)))⟩
  case round =>
    obtain ⟨k, a, b, o, d, hk, rfl, rfl, hI, ha0, ha1, hb0, hb1, qa, qb, fa, fb, hsz, hown, hol, hbw⟩ := hrel
    have HI := Lib.hid hI
    have HO := Lib.hid hown
    have HBW := Lib.hid hbw
    have zw := hbw.size
    clear hI hown hbw
    have hkz : (0 : Int) ≤ (k : Int) := by omega
    have lB : w.heap.size < wr.heap.size := by omega
    by_cases hlt : k < es.length
    · obtain ⟨bk, off, rfl, hblt, hcs⟩ := (H0.out.below HBW.out) (by omega)
      obtain ⟨bk', off', e', hbk, -⟩ := H0.out (by omega)
      cases e'
      have hi1 : es[k]? = some es[k] := List.getElem?_eq_getElem hlt
      obtain ⟨c0, c1, c2, c3, c4⟩ := hcs k _ hi1
      have HRK := Lib.hid (HR.out es[k] (List.getElem_mem _))
      have HI1 := Lib.hid hi1
      have HCS := Lib.hid hcs
      clear hi1 hcs
      generalize es[k] = r at *
      have hklt : (k : Int) < (es.length : Int) := by omega
      have nb1 : ¬ bk = w.heap.size := by omega
      have nb2 : ¬ w.heap.size = bk := by omega
      have nw1 : ¬ wr.heap.size = w.heap.size := by omega
      have nw2 : ¬ w.heap.size = wr.heap.size := by omega
      have nw3 : ¬ bk = wr.heap.size := by omega
      have nw4 : ¬ wr.heap.size = bk := by omega
      rcases HRK.out.1 with hli | hli
      · rw [hli] at c3
        have hst : stepOf 0 r = r.st := by simp [stepOf, hli]
        have hst' : stepOf 1 r = 0 := by simp [stepOf, hli]
        obtain ⟨a', hA'⟩ : ∃ a', a' = a + stepOf 0 r := ⟨_, rfl⟩
        obtain ⟨b', hB'⟩ : ∃ b', b' = b + stepOf 1 r := ⟨_, rfl⟩
        have hs1 := HRK.out.2
        have hw : wrap64 (a + r.st) = a' := by rw [hA', hst]; unfold wrap64; omega
        have ha0' : -((k : Int) + 1) ≤ a' := by rw [hA']; rw [hst]; omega
        have ha1' : a' ≤ (k : Int) + 1 := by rw [hA']; rw [hst]; omega
        have hb0' : -((k : Int) + 1) ≤ b' := by rw [hB']; rw [hst']; omega
        have hb1' : b' ≤ (k : Int) + 1 := by rw [hB']; rw [hst']; omega
        have heq : b = b' := by rw [hB', hst']; omega
        rw [heq] at qb
        have HA := Lib.hid hA'
        have HB := Lib.hid hB'
        clear hA' hB' hst hst' hs1 heq
        go_wp2_with fail
        go_region
        obtain ⟨w7, hW7⟩ : ∃ w7, w7 = ((wr.setCell ⟨w.heap.size, 0, none⟩ (Value.int .i64 a')).alloc (.cells #[Value.int .i64 r.x, Value.int .i64 r.y0, Value.int .i64 r.y1, Value.int .i64 0, Value.int .i64 r.st] 75)).drew := ⟨_, rfl⟩
        rw [← hW7]
        have q7a : w7.cell? ⟨w.heap.size, 0, none⟩ = some (.int .i64 a') := by rw [hW7]; simp [go_sem, *]
        have q7b : w7.cell? ⟨w.heap.size, 1, none⟩ = some (.int .i64 b') := by rw [hW7]; simp [go_sem, *]
        have f7a : w7.frozen? ⟨w.heap.size, 0, none⟩ = false := by rw [hW7]; simp [go_sem, *]
        have f7b : w7.frozen? ⟨w.heap.size, 1, none⟩ = false := by rw [hW7]; simp [go_sem, *]
        have e7 : w7.cell? ⟨wr.heap.size, 0, none⟩ = some (.int .i64 r.x) := by rw [hW7]; simp [go_sem]
        have O7 := Lib.hid (show w7.ownsRow (w.heap.size + 1) 107 2 u5 (outT d o).length (cT (outT d o)) from by rw [hW7]; exact own_drewC (own_allocC (own_farC HO.out (by omega) _ _) _))
        have B7 := Lib.hid (show Below w.heap.size w w7 from by rw [hW7]; exact ((HBW.out.setCell (Nat.le_refl _) _).alloc (by simp; omega) _).drew)
        have z7 : w7.heap.size = wr.heap.size + 1 := by rw [hW7]; simp
        clear hW7 qa qb fa fb c0 c1 c2 c3 c4 hw
        by_cases hk1 : k + 1 < es.length
        · have hk1z : (k : Int) + 1 < (es.length : Int) := by omega
          have hr2 : es[k + 1]? = some es[k + 1] := List.getElem?_eq_getElem hk1
          obtain ⟨bk', off', e', _, hcs7⟩ := (H0.out.below B7.out) (by omega)
          cases e'
          obtain ⟨d0, -, -, -, -⟩ := hcs7 (k + 1) _ hr2
          have HR2 := Lib.hid hr2
          clear hcs7 hr2
          generalize es[k + 1] = r2 at *
          cases hxx : (r2.x == r.x)
          · have hne : ∀ f, es[k + 1]? = some f → f.x ≠ r.x := fun f hf => by
              rw [HR2.out] at hf
              injection hf with hf
              subst hf
              simpa using hxx
            have HNE := Lib.hid hne
            clear hne HR2
            go_wp2_with fail
            go_quiet (fail)
            go_wp2_with fail
            refine (HCK.out a' b' _).mono ?_
            rintro e w8 ⟨rfl, hb8⟩
            have q8a := (hb8.cell (p := ⟨w.heap.size, 0, none⟩) (by simp; omega)).trans q7a
            have q8b := (hb8.cell (p := ⟨w.heap.size, 1, none⟩) (by simp; omega)).trans q7b
            have f8a := (hb8.frozen (p := ⟨w.heap.size, 0, none⟩) (by simp; omega)).trans f7a
            have f8b := (hb8.frozen (p := ⟨w.heap.size, 1, none⟩) (by simp; omega)).trans f7b
            have e8 := (hb8.cell (p := ⟨wr.heap.size, 0, none⟩) (by simp; omega)).trans e7
            have O8 := Lib.hid (own_belowC (own_drewN O7.out _) hb8)
            have B8 := Lib.hid ((below_drewN B7.out _).trans (hb8.mono (by simp; omega)))
            have z8 : w7.heap.size ≤ w8.heap.size := hb8.size
            clear hb8 q7a q7b f7a f7b e7 O7 B7
            have zb8 : w.heap.size < w8.heap.size := by omega
            have nb8 : ¬ w8.heap.size = w.heap.size := by omega
            have nb8' : ¬ w.heap.size = w8.heap.size := by omega
            cases hkk : keep a' b'
            · have HKK := Lib.hid hkk
              clear hkk
              cases o with
              | none =>
                go_wp2_with fail
                go_roundw
                case rel => exact ⟨k + 1, a', b', none, d, by omega, by go_num, rfl, by rw [HA.out, HB.out]; exact HI.out.off HI1.out HNE.out (by rw [← HA.out, ← HB.out]; exact HKK.out), by omega, by omega, by omega, by omega, q8a, q8b, f8a, f8b, by omega, O8.out, by omega, B8.out⟩
                case measure => simp [intOf]; omega
              | some f =>
                rw [outT_len] at O8 hol
                obtain ⟨g, cap, rfl, hg1, hg2, hg3⟩ := own_slice O8.out (fun e => by have h := O8.out; rw [e] at h; exact own_not_nil h)
                obtain ⟨oc, of⟩ := own_cellC O8.out (j := d.length * 2 + 1) (v := .int .i64 0) (outT_last d f)
                have hdl : (0 : Int) ≤ (d.length : Int) := by omega
                have ngB : ¬ g = w.heap.size := by omega
                have S8 := Lib.hid (own_setC O8.out (j := d.length * 2 + 1) (by omega) (.int .i64 r.x))
                go_wp2_with fail
                go_roundw
                case rel =>
                  refine ⟨k + 1, a', b', none, d ++ [(f, r.x)], by omega, by go_num, rfl, by rw [HA.out, HB.out]; exact HI.out.ends HI1.out HNE.out (by rw [← HA.out, ← HB.out]; exact HKK.out), by omega, by omega, by omega, by omega, ?_, ?_, ?_, ?_, by simp; omega, ?_, ?_, ?_⟩
                  · rw [World.cell?_setCell_far _ _ _ _ ngB]; exact q8a
                  · rw [World.cell?_setCell_far _ _ _ _ ngB]; exact q8b
                  · rw [World.frozen?_setCell]; exact f8a
                  · rw [World.frozen?_setCell]; exact f8b
                  · have h := S8.out
                    rw [outT_set] at h
                    simpa [outT] using h
                  · simp [outT]; omega
                  · exact B8.out.setCell (by show w.heap.size ≤ g; omega) _
                case measure => simp [intOf]; omega
            · have HKK := Lib.hid hkk
              clear hkk
              cases o with
              | none =>
                go_wp2_with (first | (at_builtin; refine wpList_append_own _ rfl (.tmp 53) (.tmp 57) 84 rfl (w.heap.size + 1) 107 i0 (.agg #[.int .i64 0, .int .i64 0]) 2 16 Tryz.underlying84 hi hz0 hz1 hz2 rfl (by decide) u5 (outT d none).length (cT (outT d none)) rfl ?o1 ⟨w8.heap.size, 0, none⟩ 1 1 [.int .i64 r.x, .int .i64 0] rfl rfl ?nw ?o2 ?q4 ?q5 ?b2 ?_; (case o1 => exact own_allocC O8.out _); (case nw => exact list_new _ _ (by simp) _ _); (case o2 => simp [Value.oneCell']); (case q4 => simp only [maxLen]; omega); (case q5 => omega); (case b2 => simp; omega); intro v2 w9 hown2 hg2 hnil2; have HG2 := Lib.hid hg2; have HO2 := Lib.hid hown2; have z9 := hg2.size; clear hown2 hg2 hnil2))
                go_roundw
                case rel =>
                  have hn : ∀ h, h < w.heap.size + 1 → u5.ownBlock ≠ some h := fun h hh => own_ne O8.out hh
                  refine ⟨k + 1, a', b', some r.x, d, by omega, by go_num, rfl, by rw [HA.out, HB.out]; exact HI.out.opens HI1.out HNE.out (by rw [← HA.out, ← HB.out]; exact HKK.out), by omega, by omega, by omega, by omega, ?_, ?_, ?_, ?_, by simp at z9; omega, ?_, ?_, ?_⟩
                  · rw [cell_gb HG2.out (by simp; omega) (hn _ (by omega)), World.cell?_alloc_lt _ _ _ (by simp; omega)]; exact q8a
                  · rw [cell_gb HG2.out (by simp; omega) (hn _ (by omega)), World.cell?_alloc_lt _ _ _ (by simp; omega)]; exact q8b
                  · rw [frozen_gb HG2.out (by simp; omega) (hn _ (by omega)), World.frozen?_alloc_past _ _ _ (by first | omega | (simp; omega))]; exact f8a
                  · rw [frozen_gb HG2.out (by simp; omega) (hn _ (by omega)), World.frozen?_alloc_past _ _ _ (by first | omega | (simp; omega))]; exact f8b
                  · have h := HO2.out
                    simpa [outT, cT_append, cT] using h
                  · simp [outT] at hol ⊢; omega
                  · exact (B8.out.alloc (by omega) _).trans (below_gb HG2.out (by simp; omega) (fun x hx => Nat.le_of_lt (Nat.lt_of_not_le fun hle => hn x (by omega) hx)))
                case measure => simp [intOf]; omega
              | some f =>
                go_wp2_with fail
                go_roundw
                case rel => exact ⟨k + 1, a', b', some f, d, by omega, by go_num, rfl, by rw [HA.out, HB.out]; exact HI.out.on HI1.out HNE.out (by rw [← HA.out, ← HB.out]; exact HKK.out), by omega, by omega, by omega, by omega, q8a, q8b, f8a, f8b, by omega, O8.out, by omega, B8.out⟩
                case measure => simp [intOf]; omega
          · have hxe : r2.x = r.x := by simpa using hxx
            have HX := Lib.hid hxe
            clear hxe
            go_wp2_with fail
            go_quiet (fail)
            go_wp2_with fail
            go_roundw
            case rel => exact ⟨k + 1, a', b', o, d, by omega, by go_num, rfl, by rw [HA.out, HB.out]; exact HI.out.same HI1.out HR2.out HX.out, by omega, by omega, by omega, by omega, q7a, q7b, f7a, f7b, by simp; omega, own_drewN O7.out _, by omega, below_drewN B7.out _⟩
            case measure => simp [intOf]; omega
        · have hk1z : ¬ (k : Int) + 1 < (es.length : Int) := by omega
          have hk1e : (k : Int) + 1 = (es.length : Int) := by omega
          have hne : ∀ f, es[k + 1]? = some f → f.x ≠ r.x := fun f hf => absurd (List.getElem?_eq_some_iff.1 hf).1 (by omega)
          have HNE := Lib.hid hne
          clear hne
          go_wp2_with fail
          go_quiet (fail)
          go_wp2_with fail
          refine (HCK.out a' b' _).mono ?_
          rintro e w8 ⟨rfl, hb8⟩
          have q8a := (hb8.cell (p := ⟨w.heap.size, 0, none⟩) (by simp; omega)).trans q7a
          have q8b := (hb8.cell (p := ⟨w.heap.size, 1, none⟩) (by simp; omega)).trans q7b
          have f8a := (hb8.frozen (p := ⟨w.heap.size, 0, none⟩) (by simp; omega)).trans f7a
          have f8b := (hb8.frozen (p := ⟨w.heap.size, 1, none⟩) (by simp; omega)).trans f7b
          have e8 := (hb8.cell (p := ⟨wr.heap.size, 0, none⟩) (by simp; omega)).trans e7
          have O8 := Lib.hid (own_belowC (own_drewN O7.out _) hb8)
          have B8 := Lib.hid ((below_drewN B7.out _).trans (hb8.mono (by simp; omega)))
          have z8 : w7.heap.size ≤ w8.heap.size := hb8.size
          clear hb8 q7a q7b f7a f7b e7 O7 B7
          have zb8 : w.heap.size < w8.heap.size := by omega
          have nb8 : ¬ w8.heap.size = w.heap.size := by omega
          have nb8' : ¬ w.heap.size = w8.heap.size := by omega
          cases hkk : keep a' b'
          · have HKK := Lib.hid hkk
            clear hkk
            cases o with
            | none =>
              go_wp2_with fail
              go_roundw
              case rel => exact ⟨k + 1, a', b', none, d, by omega, by go_num, rfl, by rw [HA.out, HB.out]; exact HI.out.off HI1.out HNE.out (by rw [← HA.out, ← HB.out]; exact HKK.out), by omega, by omega, by omega, by omega, q8a, q8b, f8a, f8b, by omega, O8.out, by omega, B8.out⟩
              case measure => simp [intOf]; omega
            | some f =>
              rw [outT_len] at O8 hol
              obtain ⟨g, cap, rfl, hg1, hg2, hg3⟩ := own_slice O8.out (fun e => by have h := O8.out; rw [e] at h; exact own_not_nil h)
              obtain ⟨oc, of⟩ := own_cellC O8.out (j := d.length * 2 + 1) (v := .int .i64 0) (outT_last d f)
              have hdl : (0 : Int) ≤ (d.length : Int) := by omega
              have ngB : ¬ g = w.heap.size := by omega
              have S8 := Lib.hid (own_setC O8.out (j := d.length * 2 + 1) (by omega) (.int .i64 r.x))
              go_wp2_with fail
              go_roundw
              case rel =>
                refine ⟨k + 1, a', b', none, d ++ [(f, r.x)], by omega, by go_num, rfl, by rw [HA.out, HB.out]; exact HI.out.ends HI1.out HNE.out (by rw [← HA.out, ← HB.out]; exact HKK.out), by omega, by omega, by omega, by omega, ?_, ?_, ?_, ?_, by simp; omega, ?_, ?_, ?_⟩
                · rw [World.cell?_setCell_far _ _ _ _ ngB]; exact q8a
                · rw [World.cell?_setCell_far _ _ _ _ ngB]; exact q8b
                · rw [World.frozen?_setCell]; exact f8a
                · rw [World.frozen?_setCell]; exact f8b
                · have h := S8.out
                  rw [outT_set] at h
                  simpa [outT] using h
                · simp [outT]; omega
                · exact B8.out.setCell (by show w.heap.size ≤ g; omega) _
              case measure => simp [intOf]; omega
          · have HKK := Lib.hid hkk
            clear hkk
            cases o with
            | none =>
              go_wp2_with (first | (at_builtin; refine wpList_append_own _ rfl (.tmp 53) (.tmp 57) 84 rfl (w.heap.size + 1) 107 i0 (.agg #[.int .i64 0, .int .i64 0]) 2 16 Tryz.underlying84 hi hz0 hz1 hz2 rfl (by decide) u5 (outT d none).length (cT (outT d none)) rfl ?o1 ⟨w8.heap.size, 0, none⟩ 1 1 [.int .i64 r.x, .int .i64 0] rfl rfl ?nw ?o2 ?q4 ?q5 ?b2 ?_; (case o1 => exact own_allocC O8.out _); (case nw => exact list_new _ _ (by simp) _ _); (case o2 => simp [Value.oneCell']); (case q4 => simp only [maxLen]; omega); (case q5 => omega); (case b2 => simp; omega); intro v2 w9 hown2 hg2 hnil2; have HG2 := Lib.hid hg2; have HO2 := Lib.hid hown2; have z9 := hg2.size; clear hown2 hg2 hnil2))
              go_roundw
              case rel =>
                have hn : ∀ h, h < w.heap.size + 1 → u5.ownBlock ≠ some h := fun h hh => own_ne O8.out hh
                refine ⟨k + 1, a', b', some r.x, d, by omega, by go_num, rfl, by rw [HA.out, HB.out]; exact HI.out.opens HI1.out HNE.out (by rw [← HA.out, ← HB.out]; exact HKK.out), by omega, by omega, by omega, by omega, ?_, ?_, ?_, ?_, by simp at z9; omega, ?_, ?_, ?_⟩
                · rw [cell_gb HG2.out (by simp; omega) (hn _ (by omega)), World.cell?_alloc_lt _ _ _ (by simp; omega)]; exact q8a
                · rw [cell_gb HG2.out (by simp; omega) (hn _ (by omega)), World.cell?_alloc_lt _ _ _ (by simp; omega)]; exact q8b
                · rw [frozen_gb HG2.out (by simp; omega) (hn _ (by omega)), World.frozen?_alloc_past _ _ _ (by first | omega | (simp; omega))]; exact f8a
                · rw [frozen_gb HG2.out (by simp; omega) (hn _ (by omega)), World.frozen?_alloc_past _ _ _ (by first | omega | (simp; omega))]; exact f8b
                · have h := HO2.out
                  simpa [outT, cT_append, cT] using h
                · simp [outT] at hol ⊢; omega
                · exact (B8.out.alloc (by omega) _).trans (below_gb HG2.out (by simp; omega) (fun x hx => Nat.le_of_lt (Nat.lt_of_not_le fun hle => hn x (by omega) hx)))
              case measure => simp [intOf]; omega
            | some f =>
              go_wp2_with fail
              go_roundw
              case rel => exact ⟨k + 1, a', b', some f, d, by omega, by go_num, rfl, by rw [HA.out, HB.out]; exact HI.out.on HI1.out HNE.out (by rw [← HA.out, ← HB.out]; exact HKK.out), by omega, by omega, by omega, by omega, q8a, q8b, f8a, f8b, by omega, O8.out, by omega, B8.out⟩
              case measure => simp [intOf]; omega
      · rw [hli] at c3
        have hst : stepOf 1 r = r.st := by simp [stepOf, hli]
        have hst' : stepOf 0 r = 0 := by simp [stepOf, hli]
        obtain ⟨a', hA'⟩ : ∃ a', a' = a + stepOf 0 r := ⟨_, rfl⟩
        obtain ⟨b', hB'⟩ : ∃ b', b' = b + stepOf 1 r := ⟨_, rfl⟩
        have hs1 := HRK.out.2
        have hw : wrap64 (b + r.st) = b' := by rw [hB', hst]; unfold wrap64; omega
        have ha0' : -((k : Int) + 1) ≤ a' := by rw [hA']; rw [hst']; omega
        have ha1' : a' ≤ (k : Int) + 1 := by rw [hA']; rw [hst']; omega
        have hb0' : -((k : Int) + 1) ≤ b' := by rw [hB']; rw [hst]; omega
        have hb1' : b' ≤ (k : Int) + 1 := by rw [hB']; rw [hst]; omega
        have heq : a = a' := by rw [hA', hst']; omega
        rw [heq] at qa
        have HA := Lib.hid hA'
        have HB := Lib.hid hB'
        clear hA' hB' hst hst' hs1 heq
        go_wp2_with fail
        go_region
        obtain ⟨w7, hW7⟩ : ∃ w7, w7 = ((wr.setCell ⟨w.heap.size, 1, none⟩ (Value.int .i64 b')).alloc (.cells #[Value.int .i64 r.x, Value.int .i64 r.y0, Value.int .i64 r.y1, Value.int .i64 1, Value.int .i64 r.st] 75)).drew := ⟨_, rfl⟩
        rw [← hW7]
        have q7a : w7.cell? ⟨w.heap.size, 0, none⟩ = some (.int .i64 a') := by rw [hW7]; simp [go_sem, *]
        have q7b : w7.cell? ⟨w.heap.size, 1, none⟩ = some (.int .i64 b') := by rw [hW7]; simp [go_sem, *]
        have f7a : w7.frozen? ⟨w.heap.size, 0, none⟩ = false := by rw [hW7]; simp [go_sem, *]
        have f7b : w7.frozen? ⟨w.heap.size, 1, none⟩ = false := by rw [hW7]; simp [go_sem, *]
        have e7 : w7.cell? ⟨wr.heap.size, 0, none⟩ = some (.int .i64 r.x) := by rw [hW7]; simp [go_sem]
        have O7 := Lib.hid (show w7.ownsRow (w.heap.size + 1) 107 2 u5 (outT d o).length (cT (outT d o)) from by rw [hW7]; exact own_drewC (own_allocC (own_farC HO.out (by omega) _ _) _))
        have B7 := Lib.hid (show Below w.heap.size w w7 from by rw [hW7]; exact ((HBW.out.setCell (Nat.le_refl _) _).alloc (by simp; omega) _).drew)
        have z7 : w7.heap.size = wr.heap.size + 1 := by rw [hW7]; simp
        clear hW7 qa qb fa fb c0 c1 c2 c3 c4 hw
        by_cases hk1 : k + 1 < es.length
        · have hk1z : (k : Int) + 1 < (es.length : Int) := by omega
          have hr2 : es[k + 1]? = some es[k + 1] := List.getElem?_eq_getElem hk1
          obtain ⟨bk', off', e', _, hcs7⟩ := (H0.out.below B7.out) (by omega)
          cases e'
          obtain ⟨d0, -, -, -, -⟩ := hcs7 (k + 1) _ hr2
          have HR2 := Lib.hid hr2
          clear hcs7 hr2
          generalize es[k + 1] = r2 at *
          cases hxx : (r2.x == r.x)
          · have hne : ∀ f, es[k + 1]? = some f → f.x ≠ r.x := fun f hf => by
              rw [HR2.out] at hf
              injection hf with hf
              subst hf
              simpa using hxx
            have HNE := Lib.hid hne
            clear hne HR2
            go_wp2_with fail
            go_quiet (fail)
            go_wp2_with fail
            refine (HCK.out a' b' _).mono ?_
            rintro e w8 ⟨rfl, hb8⟩
            have q8a := (hb8.cell (p := ⟨w.heap.size, 0, none⟩) (by simp; omega)).trans q7a
            have q8b := (hb8.cell (p := ⟨w.heap.size, 1, none⟩) (by simp; omega)).trans q7b
            have f8a := (hb8.frozen (p := ⟨w.heap.size, 0, none⟩) (by simp; omega)).trans f7a
            have f8b := (hb8.frozen (p := ⟨w.heap.size, 1, none⟩) (by simp; omega)).trans f7b
            have e8 := (hb8.cell (p := ⟨wr.heap.size, 0, none⟩) (by simp; omega)).trans e7
            have O8 := Lib.hid (own_belowC (own_drewN O7.out _) hb8)
            have B8 := Lib.hid ((below_drewN B7.out _).trans (hb8.mono (by simp; omega)))
            have z8 : w7.heap.size ≤ w8.heap.size := hb8.size
            clear hb8 q7a q7b f7a f7b e7 O7 B7
            have zb8 : w.heap.size < w8.heap.size := by omega
            have nb8 : ¬ w8.heap.size = w.heap.size := by omega
            have nb8' : ¬ w.heap.size = w8.heap.size := by omega
            cases hkk : keep a' b'
            · have HKK := Lib.hid hkk
              clear hkk
              cases o with
              | none =>
                go_wp2_with fail
                go_roundw
                case rel => exact ⟨k + 1, a', b', none, d, by omega, by go_num, rfl, by rw [HA.out, HB.out]; exact HI.out.off HI1.out HNE.out (by rw [← HA.out, ← HB.out]; exact HKK.out), by omega, by omega, by omega, by omega, q8a, q8b, f8a, f8b, by omega, O8.out, by omega, B8.out⟩
                case measure => simp [intOf]; omega
              | some f =>
                rw [outT_len] at O8 hol
                obtain ⟨g, cap, rfl, hg1, hg2, hg3⟩ := own_slice O8.out (fun e => by have h := O8.out; rw [e] at h; exact own_not_nil h)
                obtain ⟨oc, of⟩ := own_cellC O8.out (j := d.length * 2 + 1) (v := .int .i64 0) (outT_last d f)
                have hdl : (0 : Int) ≤ (d.length : Int) := by omega
                have ngB : ¬ g = w.heap.size := by omega
                have S8 := Lib.hid (own_setC O8.out (j := d.length * 2 + 1) (by omega) (.int .i64 r.x))
                go_wp2_with fail
                go_roundw
                case rel =>
                  refine ⟨k + 1, a', b', none, d ++ [(f, r.x)], by omega, by go_num, rfl, by rw [HA.out, HB.out]; exact HI.out.ends HI1.out HNE.out (by rw [← HA.out, ← HB.out]; exact HKK.out), by omega, by omega, by omega, by omega, ?_, ?_, ?_, ?_, by simp; omega, ?_, ?_, ?_⟩
                  · rw [World.cell?_setCell_far _ _ _ _ ngB]; exact q8a
                  · rw [World.cell?_setCell_far _ _ _ _ ngB]; exact q8b
                  · rw [World.frozen?_setCell]; exact f8a
                  · rw [World.frozen?_setCell]; exact f8b
                  · have h := S8.out
                    rw [outT_set] at h
                    simpa [outT] using h
                  · simp [outT]; omega
                  · exact B8.out.setCell (by show w.heap.size ≤ g; omega) _
                case measure => simp [intOf]; omega
            · have HKK := Lib.hid hkk
              clear hkk
              cases o with
              | none =>
                go_wp2_with (first | (at_builtin; refine wpList_append_own _ rfl (.tmp 53) (.tmp 57) 84 rfl (w.heap.size + 1) 107 i0 (.agg #[.int .i64 0, .int .i64 0]) 2 16 Tryz.underlying84 hi hz0 hz1 hz2 rfl (by decide) u5 (outT d none).length (cT (outT d none)) rfl ?o1 ⟨w8.heap.size, 0, none⟩ 1 1 [.int .i64 r.x, .int .i64 0] rfl rfl ?nw ?o2 ?q4 ?q5 ?b2 ?_; (case o1 => exact own_allocC O8.out _); (case nw => exact list_new _ _ (by simp) _ _); (case o2 => simp [Value.oneCell']); (case q4 => simp only [maxLen]; omega); (case q5 => omega); (case b2 => simp; omega); intro v2 w9 hown2 hg2 hnil2; have HG2 := Lib.hid hg2; have HO2 := Lib.hid hown2; have z9 := hg2.size; clear hown2 hg2 hnil2))
                go_roundw
                case rel =>
                  have hn : ∀ h, h < w.heap.size + 1 → u5.ownBlock ≠ some h := fun h hh => own_ne O8.out hh
                  refine ⟨k + 1, a', b', some r.x, d, by omega, by go_num, rfl, by rw [HA.out, HB.out]; exact HI.out.opens HI1.out HNE.out (by rw [← HA.out, ← HB.out]; exact HKK.out), by omega, by omega, by omega, by omega, ?_, ?_, ?_, ?_, by simp at z9; omega, ?_, ?_, ?_⟩
                  · rw [cell_gb HG2.out (by simp; omega) (hn _ (by omega)), World.cell?_alloc_lt _ _ _ (by simp; omega)]; exact q8a
                  · rw [cell_gb HG2.out (by simp; omega) (hn _ (by omega)), World.cell?_alloc_lt _ _ _ (by simp; omega)]; exact q8b
                  · rw [frozen_gb HG2.out (by simp; omega) (hn _ (by omega)), World.frozen?_alloc_past _ _ _ (by first | omega | (simp; omega))]; exact f8a
                  · rw [frozen_gb HG2.out (by simp; omega) (hn _ (by omega)), World.frozen?_alloc_past _ _ _ (by first | omega | (simp; omega))]; exact f8b
                  · have h := HO2.out
                    simpa [outT, cT_append, cT] using h
                  · simp [outT] at hol ⊢; omega
                  · exact (B8.out.alloc (by omega) _).trans (below_gb HG2.out (by simp; omega) (fun x hx => Nat.le_of_lt (Nat.lt_of_not_le fun hle => hn x (by omega) hx)))
                case measure => simp [intOf]; omega
              | some f =>
                go_wp2_with fail
                go_roundw
                case rel => exact ⟨k + 1, a', b', some f, d, by omega, by go_num, rfl, by rw [HA.out, HB.out]; exact HI.out.on HI1.out HNE.out (by rw [← HA.out, ← HB.out]; exact HKK.out), by omega, by omega, by omega, by omega, q8a, q8b, f8a, f8b, by omega, O8.out, by omega, B8.out⟩
                case measure => simp [intOf]; omega
          · have hxe : r2.x = r.x := by simpa using hxx
            have HX := Lib.hid hxe
            clear hxe
            go_wp2_with fail
            go_quiet (fail)
            go_wp2_with fail
            go_roundw
            case rel => exact ⟨k + 1, a', b', o, d, by omega, by go_num, rfl, by rw [HA.out, HB.out]; exact HI.out.same HI1.out HR2.out HX.out, by omega, by omega, by omega, by omega, q7a, q7b, f7a, f7b, by simp; omega, own_drewN O7.out _, by omega, below_drewN B7.out _⟩
            case measure => simp [intOf]; omega
        · have hk1z : ¬ (k : Int) + 1 < (es.length : Int) := by omega
          have hk1e : (k : Int) + 1 = (es.length : Int) := by omega
          have hne : ∀ f, es[k + 1]? = some f → f.x ≠ r.x := fun f hf => absurd (List.getElem?_eq_some_iff.1 hf).1 (by omega)
          have HNE := Lib.hid hne
          clear hne
          go_wp2_with fail
          go_quiet (fail)
          go_wp2_with fail
          refine (HCK.out a' b' _).mono ?_
          rintro e w8 ⟨rfl, hb8⟩
          have q8a := (hb8.cell (p := ⟨w.heap.size, 0, none⟩) (by simp; omega)).trans q7a
          have q8b := (hb8.cell (p := ⟨w.heap.size, 1, none⟩) (by simp; omega)).trans q7b
          have f8a := (hb8.frozen (p := ⟨w.heap.size, 0, none⟩) (by simp; omega)).trans f7a
          have f8b := (hb8.frozen (p := ⟨w.heap.size, 1, none⟩) (by simp; omega)).trans f7b
          have e8 := (hb8.cell (p := ⟨wr.heap.size, 0, none⟩) (by simp; omega)).trans e7
          have O8 := Lib.hid (own_belowC (own_drewN O7.out _) hb8)
          have B8 := Lib.hid ((below_drewN B7.out _).trans (hb8.mono (by simp; omega)))
          have z8 : w7.heap.size ≤ w8.heap.size := hb8.size
          clear hb8 q7a q7b f7a f7b e7 O7 B7
          have zb8 : w.heap.size < w8.heap.size := by omega
          have nb8 : ¬ w8.heap.size = w.heap.size := by omega
          have nb8' : ¬ w.heap.size = w8.heap.size := by omega
          cases hkk : keep a' b'
          · have HKK := Lib.hid hkk
            clear hkk
            cases o with
            | none =>
              go_wp2_with fail
              go_roundw
              case rel => exact ⟨k + 1, a', b', none, d, by omega, by go_num, rfl, by rw [HA.out, HB.out]; exact HI.out.off HI1.out HNE.out (by rw [← HA.out, ← HB.out]; exact HKK.out), by omega, by omega, by omega, by omega, q8a, q8b, f8a, f8b, by omega, O8.out, by omega, B8.out⟩
              case measure => simp [intOf]; omega
            | some f =>
              rw [outT_len] at O8 hol
              obtain ⟨g, cap, rfl, hg1, hg2, hg3⟩ := own_slice O8.out (fun e => by have h := O8.out; rw [e] at h; exact own_not_nil h)
              obtain ⟨oc, of⟩ := own_cellC O8.out (j := d.length * 2 + 1) (v := .int .i64 0) (outT_last d f)
              have hdl : (0 : Int) ≤ (d.length : Int) := by omega
              have ngB : ¬ g = w.heap.size := by omega
              have S8 := Lib.hid (own_setC O8.out (j := d.length * 2 + 1) (by omega) (.int .i64 r.x))
              go_wp2_with fail
              go_roundw
              case rel =>
                refine ⟨k + 1, a', b', none, d ++ [(f, r.x)], by omega, by go_num, rfl, by rw [HA.out, HB.out]; exact HI.out.ends HI1.out HNE.out (by rw [← HA.out, ← HB.out]; exact HKK.out), by omega, by omega, by omega, by omega, ?_, ?_, ?_, ?_, by simp; omega, ?_, ?_, ?_⟩
                · rw [World.cell?_setCell_far _ _ _ _ ngB]; exact q8a
                · rw [World.cell?_setCell_far _ _ _ _ ngB]; exact q8b
                · rw [World.frozen?_setCell]; exact f8a
                · rw [World.frozen?_setCell]; exact f8b
                · have h := S8.out
                  rw [outT_set] at h
                  simpa [outT] using h
                · simp [outT]; omega
                · exact B8.out.setCell (by show w.heap.size ≤ g; omega) _
              case measure => simp [intOf]; omega
          · have HKK := Lib.hid hkk
            clear hkk
            cases o with
            | none =>
              go_wp2_with (first | (at_builtin; refine wpList_append_own _ rfl (.tmp 53) (.tmp 57) 84 rfl (w.heap.size + 1) 107 i0 (.agg #[.int .i64 0, .int .i64 0]) 2 16 Tryz.underlying84 hi hz0 hz1 hz2 rfl (by decide) u5 (outT d none).length (cT (outT d none)) rfl ?o1 ⟨w8.heap.size, 0, none⟩ 1 1 [.int .i64 r.x, .int .i64 0] rfl rfl ?nw ?o2 ?q4 ?q5 ?b2 ?_; (case o1 => exact own_allocC O8.out _); (case nw => exact list_new _ _ (by simp) _ _); (case o2 => simp [Value.oneCell']); (case q4 => simp only [maxLen]; omega); (case q5 => omega); (case b2 => simp; omega); intro v2 w9 hown2 hg2 hnil2; have HG2 := Lib.hid hg2; have HO2 := Lib.hid hown2; have z9 := hg2.size; clear hown2 hg2 hnil2))
              go_roundw
              case rel =>
                have hn : ∀ h, h < w.heap.size + 1 → u5.ownBlock ≠ some h := fun h hh => own_ne O8.out hh
                refine ⟨k + 1, a', b', some r.x, d, by omega, by go_num, rfl, by rw [HA.out, HB.out]; exact HI.out.opens HI1.out HNE.out (by rw [← HA.out, ← HB.out]; exact HKK.out), by omega, by omega, by omega, by omega, ?_, ?_, ?_, ?_, by simp at z9; omega, ?_, ?_, ?_⟩
                · rw [cell_gb HG2.out (by simp; omega) (hn _ (by omega)), World.cell?_alloc_lt _ _ _ (by simp; omega)]; exact q8a
                · rw [cell_gb HG2.out (by simp; omega) (hn _ (by omega)), World.cell?_alloc_lt _ _ _ (by simp; omega)]; exact q8b
                · rw [frozen_gb HG2.out (by simp; omega) (hn _ (by omega)), World.frozen?_alloc_past _ _ _ (by first | omega | (simp; omega))]; exact f8a
                · rw [frozen_gb HG2.out (by simp; omega) (hn _ (by omega)), World.frozen?_alloc_past _ _ _ (by first | omega | (simp; omega))]; exact f8b
                · have h := HO2.out
                  simpa [outT, cT_append, cT] using h
                · simp [outT] at hol ⊢; omega
                · exact (B8.out.alloc (by omega) _).trans (below_gb HG2.out (by simp; omega) (fun x hx => Nat.le_of_lt (Nat.lt_of_not_le fun hle => hn x (by omega) hx)))
              case measure => simp [intOf]; omega
            | some f =>
              go_wp2_with fail
              go_roundw
              case rel => exact ⟨k + 1, a', b', some f, d, by omega, by go_num, rfl, by rw [HA.out, HB.out]; exact HI.out.on HI1.out HNE.out (by rw [← HA.out, ← HB.out]; exact HKK.out), by omega, by omega, by omega, by omega, q8a, q8b, f8a, f8b, by omega, O8.out, by omega, B8.out⟩
              case measure => simp [intOf]; omega
    · obtain rfl : k = es.length := by omega
      obtain ⟨ho, hd⟩ := HI.out.done HK0.out
      subst ho
      have HD := Lib.hid hd
      clear hd
      go_wp2_with fail
      go_ret
      have hO := HO.out
      rw [show outT d none = d from by simp [outT], HD.out] at hO
      exact ⟨_, rfl, own_mono hO (Nat.le_succ _), HBW.out⟩
end Go.Proofs.YtmcbjaefnhfopaaGreat

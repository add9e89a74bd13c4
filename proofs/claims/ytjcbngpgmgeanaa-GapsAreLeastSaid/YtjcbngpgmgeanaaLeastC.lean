/- Several texts in one: GapL, GapsLeast. -/
import Derived.Test.YtjcbngpgmgeanaaTailA
import Derived.Test.YtjcbngpgmgeanaaGapP
import Derived.Test.YtjcbngpgmgeanaaLeastB
import Derived.Test.YtjcbngpgmgeanaaAwake
/- What GapsAreLeast wants: a region that is grown by its distance to another one does not meet this, grown by one more it does. -/
namespace Go.Proofs.Ytjcbngpgmgeanaa
open Go.RowKit
open Reg (R4 inR Kept)
set_option linter.unusedSimpArgs false
set_option linter.unusedVariables false

theorem rg_of {l : List R4} (h : regF l = 0) : ∀ r, r ∈ l → Rg r := fun r hr => by
  have := rect_in (regF_rects h) r hr
  simp only [In6] at this
  unfold Rg
  omega
theorem dist_none {a b : List R4} {d : Int} (ha : ∀ r, r ∈ a → Rg r) (hb : ∀ r, r ∈ b → Rg r) (h0 : 0 ≤ d) (hd : farRs a b = d + 1) (x y : Int) : ¬ (near d a x y ∧ inR b x y) := by
  rintro ⟨⟨u, v, h1, h2, h3, h4, r, hr, hh⟩, s, hs, hk⟩
  have h5 := (farR_le (ha r hr) (hb s hs) h0).2 ⟨u, v, x, y, hh, hk, by omega, by omega, by omega, by omega⟩
  have h6 := farRs_le hr hs
  omega
theorem dist_some {a b : List R4} {d : Int} (pa : 0 < a.length) (pb : 0 < b.length) (ha : ∀ r, r ∈ a → Rg r) (hb : ∀ r, r ∈ b → Rg r) (h0 : 0 ≤ d) (hd : farRs a b = d) : ∃ x y, near d a x y ∧ inR b x y := by
  obtain ⟨r, hr, s, hs, e⟩ := farRs_mem pa pb
  obtain ⟨x, y, u, v, h1, h2, h3, h4, h5, h6⟩ := (farR_le (ha r hr) (hb s hs) h0).1 (by omega)
  exact ⟨u, v, ⟨x, y, by omega, by omega, by omega, by omega, r, hr, h1⟩, s, hs, h2⟩
theorem reg_good {l : List R4} (h : regF l = 0) : Reg.Good l := fun r hr => by
  have := rg_of h r hr
  unfold Rg at this
  omega
theorem both_reg {a b : List R4} (ha : regF a = 0) (hb : regF b = 0) : stF andK a b = 0 ∨ stF andK a b = 2 := by
  unfold stF
  rw [if_pos (bothF_zero.2 ⟨ha, hb⟩)]
  unfold resF
  split
  · exact .inl rfl
  · exact .inr rfl
theorem least_none {a b : List R4} {d : Int} (h1 : regF b = 0) (hg : gwF a d = 0) (hs : stF andK (gwL a d) b = 0) (hd : farRs a b = d + 1) : stL andK (gwL a d) b = [] := by
  obtain ⟨ra, h0, _, rg, _, hn⟩ := gw_ok hg
  obtain ⟨_, _, _, rr, _, hk⟩ := st_ok (keep := andK) rfl hs (fun x y h => .inl (kept_and.1 h).1)
  rcases Nat.eq_zero_or_pos (stL andK (gwL a d) b).length with h | h
  · exact List.length_eq_zero_iff.1 h
  · obtain ⟨x, y, hx⟩ := (pos_inR (reg_good rr)).1 h
    obtain ⟨h2, h3⟩ := kept_and.1 ((hk x y).1 hx)
    exact absurd ⟨(hn x y).1 h2, h3⟩ (dist_none (rg_of ra) (rg_of h1) h0 hd x y)
theorem least_some {a b : List R4} {d : Int} (pa : 0 < a.length) (pb : 0 < b.length) (h1 : regF b = 0) (hg : gwF a d = 0) (hs : stF andK (gwL a d) b = 0) (hd : farRs a b = d) : 0 < (stL andK (gwL a d) b).length := by
  obtain ⟨ra, h0, _, rg, _, hn⟩ := gw_ok hg
  obtain ⟨_, _, _, rr, _, hk⟩ := st_ok (keep := andK) rfl hs (fun x y h => .inl (kept_and.1 h).1)
  obtain ⟨x, y, h2, h3⟩ := dist_some pa pb (rg_of ra) (rg_of h1) h0 hd
  exact (pos_inR (reg_good rr)).2 ⟨x, y, (hk x y).2 (kept_and.2 ⟨(hn x y).2 h2, h3⟩)⟩
/-- A square of a right region is told by the law's own has. -/
theorem hasV_in {l : List R4} (h : regF l = 0) {x y : Int} (hi : inR l x y) : hasV l x y = true := by
  obtain ⟨h1, h2, h3, h4⟩ := inR_range (rectsF_zero.1 (regF_rects h)).2 x y hi
  rw [hasV_of h, okAt_of ⟨h1, by omega⟩, okAt_of ⟨h3, by omega⟩, hasB_iff.2 hi]
  rfl
end Go.Proofs.Ytjcbngpgmgeanaa
/- The law GapsAreLeast: for every two slices of rectangles, the one grown by its distance to the other one does not meet this; grown by one more it does. -/
namespace Go.Proofs.Ytjcbngpgmgeanaa
open Go.ChangeShapes Go.WideShapes Go.ChangeAt Go.RowKit
open Reg (R4 inR Kept)
set_option linter.unusedSimpArgs false
set_option linter.unusedVariables false

/-- Where two slices of rectangles lie. -/
def hd2 (A : Option Addr) (ca : Nat) (B : Option Addr) (cb : Nat) : Nat → Option Addr × Nat := fun i => if i = 0 then (A, ca) else (B, cb)
theorem rdM_two {w : World} {A B : Option Addr} {a b : List R4} {ca cb g : Nat} (hg : g < w.heap.size) (h0 : w.cell? ⟨g, 0, none⟩ = some (.slice A a.length ca)) (h1 : w.cell? ⟨g, 1, none⟩ = some (.slice B b.length cb))
    (la : a.length ≤ ca) (lb : b.length ≤ cb) (ra : ca ≤ 140737488355328) (rb : cb ≤ 140737488355328) (k1 : Rd w A a) (k2 : Rd w B b) : RdM w (some ⟨g, 0, none⟩) [a, b] (hd2 A ca B cb) := by
  refine ⟨fun _ => ⟨g, 0, rfl, hg, fun i l hi => ?_⟩, fun i l hi => ?_⟩
  · match i, hi with
    | 0, hi => simp at hi; subst hi; simpa [hd2] using h0
    | 1, hi => simp at hi; subst hi; simpa [hd2] using h1
    | i + 2, hi => simp at hi
  · match i, hi with
    | 0, hi => simp at hi; subst hi; exact ⟨k1, la, ra⟩
    | 1, hi => simp at hi; subst hi; exact ⟨k2, lb, rb⟩
    | i + 2, hi => simp at hi
theorem gapAll_two (a b : List R4) : gapAll 100000 0 [a, b] [] = gapStep 100000 0 1 a b [] := by
  simp only [gapAll, gapRow]
  cases gapStep 100000 0 1 a b [] <;> rfl
/-- Of two regions there is no gap, or just the one between them. -/
theorem gaps_two (a b : List R4) : gpL [a, b] 100000 = [] ∨ (gpF [a, b] 100000 = 0 ∧ gpL [a, b] 100000 = [gapOf 0 1 a b] ∧ regF a = 0 ∧ regF b = 0 ∧ 0 < a.length ∧ 0 < b.length ∧ 1 ≤ farRs a b ∧ farRs a b ≤ 100000) := by
  unfold gpL gpF
  rw [gapAll_two]
  by_cases h0 : cgF [a, b] 100000 = 0
  · obtain ⟨_, _, hr, _, _⟩ := cgF_zero h0
    have ha := hr a (by simp)
    have hb := hr b (by simp)
    rw [if_pos h0, if_pos h0]
    rcases gap_cases 100000 0 1 a b [] with ⟨e1, e⟩ | ⟨e1, e2, e⟩ | ⟨e1, e2, e3, e⟩ | ⟨e1, e2, e3, e4, e⟩ | ⟨e1, e2, e3, e4, e⟩
    all_goals rw [e]
    · exact .inl rfl
    · exact .inl rfl
    · exact .inl rfl
    · exact .inl rfl
    · have := farRs_bound (by omega) (by omega) (regRg ha) (regRg hb)
      exact .inr ⟨rfl, rfl, ha, hb, by omega, by omega, by omega, by omega⟩
  · rw [if_neg h0]
    exact .inl rfl

set_option maxRecDepth 100000 in
set_option maxHeartbeats 4000000 in
theorem gapsLeast_nil (A B : Option Addr) (a b : List R4) (ca cb : Nat) (w : World) (la : a.length ≤ ca) (ra : ca ≤ 140737488355328) (h1 : Rd w A a) (lb : b.length ≤ cb) (rb : cb ≤ 140737488355328) (h2 : Rd w B b) (hn : gpL [a, b] 100000 = []) :
    Calls Try.prog 6 #[.slice A a.length ca, .slice B b.length cb] w fun e w' => e = .returned (.bool true) ∧ Below w.heap.size w w' := by
  have HA := Lib.hid h1
  have HB := Lib.hid h2
  have C1 := Lib.hid (fun X W h => gaps_any X [a, b] 2 (hd2 A ca B cb) 100000 W (by simp) h)
  have CW := Lib.hid (fun W => awake_any W)
  unfold GotGF at C1
  rw [hn] at C1
  clear hn h1 h2
  generalize gpF [a, b] 100000 = F at *
  simp only [List.length_cons, List.length_nil, Nat.zero_add] at C1
  cases hF : (F == 0)
  all_goals
    have hF' : (F != 0) = !(F == 0) := rfl
    rw [hF] at hF'
    simp only [Bool.not_false, Bool.not_true] at hF'
    go_enter Try.func6, Try.ntmps6
    go_wp2_with fail
    refine (C1.out _ _ (rdM_two (g := w.heap.size) (by (first | (with_reducible exact Nat.le_refl _) | (with_reducible assumption) | omega | (simp only [World.size_alloc, World.size_setCell, World.size_drew]; omega) | (simp; omega) | (simp; done))) (by simp [go_sem]) (by simp [go_sem]) la lb ra rb (HA.out.below (by (repeat' (first | (with_reducible exact Below.refl _ _) | (with_reducible assumption) | (with_reducible refine Below.alloc ?_ ?_ _) | (with_reducible refine Below.drew ?_) | (with_reducible refine below_drewN ?_ _) | (with_reducible refine Below.setCell ?_ ?_ _) | (with_reducible exact Nat.le_refl _) | omega | (simp only [World.size_alloc, World.size_setCell, World.size_drew]; omega) | (simp; omega) | (simp; done))))) (HB.out.below (by (repeat' (first | (with_reducible exact Below.refl _ _) | (with_reducible assumption) | (with_reducible refine Below.alloc ?_ ?_ _) | (with_reducible refine Below.drew ?_) | (with_reducible refine below_drewN ?_ _) | (with_reducible refine Below.setCell ?_ ?_ _) | (with_reducible exact Nat.le_refl _) | omega | (simp only [World.size_alloc, World.size_setCell, World.size_drew]; omega) | (simp; omega) | (simp; done))))))).mono ?_
    rintro e w1 ⟨v, rfl, ho, hb⟩
    obtain ⟨A1, c1, rfl, -⟩ := rdG_own ho
    have B1 := up (B := w.heap.size) (w := w) (by (repeat' (first | (with_reducible exact Below.refl _ _) | (with_reducible assumption) | (with_reducible refine Below.alloc ?_ ?_ _) | (with_reducible refine Below.drew ?_) | (with_reducible refine below_drewN ?_ _) | (with_reducible refine Below.setCell ?_ ?_ _) | (with_reducible exact Nat.le_refl _) | omega | (simp only [World.size_alloc, World.size_setCell, World.size_drew]; omega) | (simp; omega) | (simp; done)))) hb (by (first | (with_reducible exact Nat.le_refl _) | (with_reducible assumption) | omega | (simp only [World.size_alloc, World.size_setCell, World.size_drew]; omega) | (simp; omega) | (simp; done)))
    have z1 := B1.size
    clear ho hb
    go_wp2_with fail
    refine (CW.out _).mono ?_
    rintro e w9 ⟨rfl, hb⟩
    have B9 := up (B := w.heap.size) (w := w) (by (repeat' (first | (with_reducible exact Below.refl _ _) | (with_reducible assumption) | (with_reducible refine Below.alloc ?_ ?_ _) | (with_reducible refine Below.drew ?_) | (with_reducible refine below_drewN ?_ _) | (with_reducible refine Below.setCell ?_ ?_ _) | (with_reducible exact Nat.le_refl _) | omega | (simp only [World.size_alloc, World.size_setCell, World.size_drew]; omega) | (simp; omega) | (simp; done)))) hb (by (first | (with_reducible exact Nat.le_refl _) | (with_reducible assumption) | omega | (simp only [World.size_alloc, World.size_setCell, World.size_drew]; omega) | (simp; omega) | (simp; done)))
    clear hb
    go_wp2_with fail
    go_ret
    exact ⟨rfl, B9⟩

set_option maxRecDepth 100000 in
set_option maxHeartbeats 8000000 in
theorem gapsLeast_one (A B : Option Addr) (a b : List R4) (ca cb : Nat) (w : World) (la : a.length ≤ ca) (ra : ca ≤ 140737488355328) (h1 : Rd w A a) (lb : b.length ≤ cb) (rb : cb ≤ 140737488355328) (h2 : Rd w B b)
    (hf : gpF [a, b] 100000 = 0) (hl : gpL [a, b] 100000 = [gapOf 0 1 a b]) (za : regF a = 0) (zb : regF b = 0) (pa : 0 < a.length) (pb : 0 < b.length) (d0 : 1 ≤ farRs a b) (d1 : farRs a b ≤ 100000) :
    Calls Try.prog 6 #[.slice A a.length ca, .slice B b.length cb] w fun e w' => e = .returned (.bool true) ∧ Below w.heap.size w w' := by
  have ra' : ca ≤ maxLen := by simp only [maxLen]; omega
  have rb' : cb ≤ maxLen := by simp only [maxLen]; omega
  have HA := Lib.hid h1
  have HB := Lib.hid h2
  have C1 := Lib.hid (fun X W h => gaps_any X [a, b] 2 (hd2 A ca B cb) 100000 W (by simp) h)
  have CW := Lib.hid (fun W => awake_any W)
  unfold GotGF at C1
  rw [hl, hf] at C1
  have hgd : (gapOf 0 1 a b).d = farRs a b - 1 := rfl
  obtain ⟨gs1, gs2⟩ := gap_sq pa pb (regRg za) (regRg zb) 0 1
  have v1 := hasV_in za gs1
  have v2 := hasV_in zb gs2
  have CH1 := Lib.hid (fun W h => lhas_any A a ca (gapOf 0 1 a b).fx (gapOf 0 1 a b).fy W la ra' (by omega) h)
  have CH2 := Lib.hid (fun W h => lhas_any B b cb (gapOf 0 1 a b).tx (gapOf 0 1 a b).ty W lb rb' (by omega) h)
  rw [v1] at CH1
  rw [v2] at CH2
  have CG1 := Lib.hid (fun W h => grow_any A a ca (farRs a b - 1) W la ra' (by omega) h)
  have CG2 := Lib.hid (fun W h => grow_any A a ca (farRs a b) W la ra' (by omega) h)
  have lx := gwL_len a (farRs a b - 1)
  have ly := gwL_len a (farRs a b)
  have CB1 := Lib.hid (fun A' c' W h0 h1 h2 h3 => bothR_any A' B (gwL a (farRs a b - 1)) b c' cb W h0 lb h1 rb' (by omega) (by omega) h2 h3)
  have CB2 := Lib.hid (fun A' c' W h0 h1 h2 h3 => bothR_any A' B (gwL a (farRs a b)) b c' cb W h0 lb h1 rb' (by omega) (by omega) h2 h3)
  have E1 := Lib.hid (fun h1 h2 => least_none (a := a) (b := b) (d := farRs a b - 1) zb h1 h2 (by omega))
  have E2 := Lib.hid (fun h1 h2 => least_some (a := a) (b := b) (d := farRs a b) pa pb zb h1 h2 rfl)
  have E3 := Lib.hid (fun h => both_reg (a := gwL a (farRs a b - 1)) (b := b) (gw_ok h).2.2.2.1 zb)
  have E4 := Lib.hid (fun h => both_reg (a := gwL a (farRs a b)) (b := b) (gw_ok h).2.2.2.1 zb)
  have E5 := Lib.hid (fun h => gwL_bad (l := a) (n := farRs a b - 1) h)
  unfold GotRF at CG1 CG2 CB1 CB2
  have HR := Lib.hid hgd
  clear hf hl gs1 gs2 v1 v2 h1 h2 za zb pa pb hgd
  generalize stL andK (gwL a (farRs a b - 1)) b = P at *
  generalize stF andK (gwL a (farRs a b - 1)) b = FP at *
  generalize stL andK (gwL a (farRs a b)) b = Q at *
  generalize stF andK (gwL a (farRs a b)) b = FQ at *
  generalize gwL a (farRs a b - 1) = X at *
  generalize gwF a (farRs a b - 1) = FX at *
  generalize gwL a (farRs a b) = Y at *
  generalize gwF a (farRs a b) = FY at *
  generalize gapOf 0 1 a b = g at *
  generalize farRs a b = n at *
  obtain ⟨ga, gb, gd, fx, fy, tx, ty⟩ := g
  have hgd := HR.out
  simp only at hgd
  subst hgd
  simp only at CH1 CH2
  clear HR
  simp only [List.length_cons, List.length_nil, Nat.zero_add] at C1
  go_enter Try.func6, Try.ntmps6
  go_wp2_with fail
  refine (C1.out _ _ (rdM_two (g := w.heap.size) (by (first | (with_reducible exact Nat.le_refl _) | (with_reducible assumption) | omega | (simp only [World.size_alloc, World.size_setCell, World.size_drew]; omega) | (simp; omega) | (simp; done))) (by simp [go_sem]) (by simp [go_sem]) la lb ra rb (HA.out.below (by (repeat' (first | (with_reducible exact Below.refl _ _) | (with_reducible assumption) | (with_reducible refine Below.alloc ?_ ?_ _) | (with_reducible refine Below.drew ?_) | (with_reducible refine below_drewN ?_ _) | (with_reducible refine Below.setCell ?_ ?_ _) | (with_reducible exact Nat.le_refl _) | omega | (simp only [World.size_alloc, World.size_setCell, World.size_drew]; omega) | (simp; omega) | (simp; done))))) (HB.out.below (by (repeat' (first | (with_reducible exact Below.refl _ _) | (with_reducible assumption) | (with_reducible refine Below.alloc ?_ ?_ _) | (with_reducible refine Below.drew ?_) | (with_reducible refine below_drewN ?_ _) | (with_reducible refine Below.setCell ?_ ?_ _) | (with_reducible exact Nat.le_refl _) | omega | (simp only [World.size_alloc, World.size_setCell, World.size_drew]; omega) | (simp; omega) | (simp; done))))))).mono ?_
  rintro e w1 ⟨v, rfl, ho, hb⟩
  obtain ⟨A1, c1, rfl, hc1, -, hr⟩ := rdG_own (l := [⟨ga, gb, n - 1, fx, fy, tx, ty⟩]) ho
  have B1 := up (B := w.heap.size) (w := w) (by (repeat' (first | (with_reducible exact Below.refl _ _) | (with_reducible assumption) | (with_reducible refine Below.alloc ?_ ?_ _) | (with_reducible refine Below.drew ?_) | (with_reducible refine below_drewN ?_ _) | (with_reducible refine Below.setCell ?_ ?_ _) | (with_reducible exact Nat.le_refl _) | omega | (simp only [World.size_alloc, World.size_setCell, World.size_drew]; omega) | (simp; omega) | (simp; done)))) hb (by (first | (with_reducible exact Nat.le_refl _) | (with_reducible assumption) | omega | (simp only [World.size_alloc, World.size_setCell, World.size_drew]; omega) | (simp; omega) | (simp; done)))
  have z1 := B1.size
  clear ho hb
  obtain ⟨q, o, rfl, hq, hc⟩ := hr (by simp)
  obtain ⟨-, -, k2, k3, k4, k5, k6⟩ := hc 0 _ rfl
  simp only [Nat.zero_mul, Nat.add_zero] at k2 k3 k4 k5 k6
  clear hc hr
  simp only [List.length_cons, List.length_nil, Nat.zero_add] at hc1
  go_wp2_with fail
  refine (CG1.out _ (HA.out.below B1)).mono ?_
  rintro e w2 ⟨v, rfl, ho, hb⟩
  obtain ⟨A2, c2, rfl, hl2, hc2, hr2, -⟩ := rd_own ho
  have R2 := Lib.hid hr2
  have B2 := up (B := w.heap.size) B1 hb (by (first | (with_reducible exact Nat.le_refl _) | (with_reducible assumption) | omega | (simp only [World.size_alloc, World.size_setCell, World.size_drew]; omega) | (simp; omega) | (simp; done)))
  have k2 := ((bcell hb).1 _ _ hq).trans k2
  have k3 := ((bcell hb).1 _ _ hq).trans k3
  have k4 := ((bcell hb).1 _ _ hq).trans k4
  have k5 := ((bcell hb).1 _ _ hq).trans k5
  have k6 := ((bcell hb).1 _ _ hq).trans k6
  have hq := Nat.lt_of_lt_of_le hq hb.size
  clear ho hr2 hb
  go_wp2_with fail
  refine (CG2.out _ (HA.out.below B2)).mono ?_
  rintro e w3 ⟨v, rfl, ho, hb⟩
  obtain ⟨A3, c3, rfl, hl3, hc3, hr3, -⟩ := rd_own ho
  have R3 := Lib.hid hr3
  have R23 := Lib.hid (R2.out.below hb)
  have B3 := up (B := w.heap.size) B2 hb (by have := B2.size; omega)
  have k2 := ((bcell hb).1 _ _ hq).trans k2
  have k3 := ((bcell hb).1 _ _ hq).trans k3
  have k4 := ((bcell hb).1 _ _ hq).trans k4
  have k5 := ((bcell hb).1 _ _ hq).trans k5
  have k6 := ((bcell hb).1 _ _ hq).trans k6
  have hq := Nat.lt_of_lt_of_le hq hb.size
  clear ho hr3 hb
  have zb3 := B3.size
  cases hFX : (FX == 0)
  · have hX : X = [] := E5.out (by simpa using hFX)
    subst hX
    have hFX' : (FX != 0) = true := by simpa using hFX
    go_wp2_with fail
    refine (CW.out _).mono ?_
    rintro e w9 ⟨rfl, hb⟩
    have B9 := up (B := w.heap.size) (w := w) (by (repeat' (first | (with_reducible exact Below.refl _ _) | (with_reducible assumption) | (with_reducible refine Below.alloc ?_ ?_ _) | (with_reducible refine Below.drew ?_) | (with_reducible refine below_drewN ?_ _) | (with_reducible refine Below.setCell ?_ ?_ _) | (with_reducible exact Nat.le_refl _) | omega | (simp only [World.size_alloc, World.size_setCell, World.size_drew]; omega) | (simp; omega) | (simp; done)))) hb (by (first | (with_reducible exact Nat.le_refl _) | (with_reducible assumption) | omega | (simp only [World.size_alloc, World.size_setCell, World.size_drew]; omega) | (simp; omega) | (simp; done)))
    clear hb
    go_wp2_with fail
    go_ret
    exact ⟨rfl, B9⟩
  · obtain rfl : FX = 0 := by simpa using hFX
    clear hFX
    cases hFY : (FY == 0)
    · have hFY' : (FY != 0) = true := by simpa using hFY
      go_wp2_with fail
      refine (CW.out _).mono ?_
      rintro e w9 ⟨rfl, hb⟩
      have B9 := up (B := w.heap.size) (w := w) (by (repeat' (first | (with_reducible exact Below.refl _ _) | (with_reducible assumption) | (with_reducible refine Below.alloc ?_ ?_ _) | (with_reducible refine Below.drew ?_) | (with_reducible refine below_drewN ?_ _) | (with_reducible refine Below.setCell ?_ ?_ _) | (with_reducible exact Nat.le_refl _) | omega | (simp only [World.size_alloc, World.size_setCell, World.size_drew]; omega) | (simp; omega) | (simp; done)))) hb (by (first | (with_reducible exact Nat.le_refl _) | (with_reducible assumption) | omega | (simp only [World.size_alloc, World.size_setCell, World.size_drew]; omega) | (simp; omega) | (simp; done)))
      clear hb
      go_wp2_with fail
      go_ret
      exact ⟨rfl, B9⟩
    · obtain rfl : FY = 0 := by simpa using hFY
      clear hFY
      have e3 := E3.out rfl
      have e4 := E4.out rfl
      have E6 := Lib.hid (E1.out (by simp))
      have E7 := Lib.hid (E2.out (by simp))
      clear E1 E2 E3 E4 E5
      go_wp2_with fail
      refine (CB1.out A2 c2 w3 hl2 hc2 R23.out (HB.out.below B3)).mono ?_
      rintro e w4 ⟨v, rfl, ho, hb⟩
      obtain ⟨A4, c4, rfl, hl4, hc4, hr4, -⟩ := rd_own ho
      have R4 := Lib.hid (R3.out.below hb)
      have B4 := up (B := w.heap.size) B3 hb (by (first | (with_reducible exact Nat.le_refl _) | (with_reducible assumption) | omega | (simp only [World.size_alloc, World.size_setCell, World.size_drew]; omega) | (simp; omega) | (simp; done)))
      have k2 := ((bcell hb).1 _ _ hq).trans k2
      have k3 := ((bcell hb).1 _ _ hq).trans k3
      have k4 := ((bcell hb).1 _ _ hq).trans k4
      have k5 := ((bcell hb).1 _ _ hq).trans k5
      have k6 := ((bcell hb).1 _ _ hq).trans k6
      have hq := Nat.lt_of_lt_of_le hq hb.size
      have zb4 := B4.size
      clear ho hr4 hb
      go_wp2_with fail
      refine (CB2.out A3 c3 w4 hl3 hc3 R4.out (HB.out.below B4)).mono ?_
      rintro e w5 ⟨v, rfl, ho, hb⟩
      obtain ⟨A5, c5, rfl, hl5, hc5, hr5, -⟩ := rd_own ho
      have B5 := up (B := w.heap.size) B4 hb (by (first | (with_reducible exact Nat.le_refl _) | (with_reducible assumption) | omega | (simp only [World.size_alloc, World.size_setCell, World.size_drew]; omega) | (simp; omega) | (simp; done)))
      have k2 := ((bcell hb).1 _ _ hq).trans k2
      have k3 := ((bcell hb).1 _ _ hq).trans k3
      have k4 := ((bcell hb).1 _ _ hq).trans k4
      have k5 := ((bcell hb).1 _ _ hq).trans k5
      have k6 := ((bcell hb).1 _ _ hq).trans k6
      have hq := Nat.lt_of_lt_of_le hq hb.size
      have zb5 := B5.size
      clear ho hr5 hb
      rcases e3 with rfl | rfl
      · rcases e4 with rfl | rfl
        · have hP := E6.out (by simp)
          have hQ := E7.out (by simp)
          subst hP
          have hQ' : (0 : Int) < (Q.length : Int) := by omega
          go_wp2_with fail
          refine (CH1.out _ (HA.out.below B5)).mono ?_
          rintro e w6 ⟨rfl, hb⟩
          have B6 := up (B := w.heap.size) B5 hb (by (first | (with_reducible exact Nat.le_refl _) | (with_reducible assumption) | omega | (simp only [World.size_alloc, World.size_setCell, World.size_drew]; omega) | (simp; omega) | (simp; done)))
          have k5 := ((bcell hb).1 _ _ hq).trans k5
          have k6 := ((bcell hb).1 _ _ hq).trans k6
          have zb6 := B6.size
          clear hb
          go_wp2_with fail
          refine (CH2.out _ (HB.out.below B6)).mono ?_
          rintro e w7 ⟨rfl, hb⟩
          have B7 := up (B := w.heap.size) B6 hb (by (first | (with_reducible exact Nat.le_refl _) | (with_reducible assumption) | omega | (simp only [World.size_alloc, World.size_setCell, World.size_drew]; omega) | (simp; omega) | (simp; done)))
          have zb7 := B7.size
          clear hb
          go_wp2_with fail
          refine (CW.out _).mono ?_
          rintro e w9 ⟨rfl, hb⟩
          have B9 := up (B := w.heap.size) (w := w) (by (repeat' (first | (with_reducible exact Below.refl _ _) | (with_reducible assumption) | (with_reducible refine Below.alloc ?_ ?_ _) | (with_reducible refine Below.drew ?_) | (with_reducible refine below_drewN ?_ _) | (with_reducible refine Below.setCell ?_ ?_ _) | (with_reducible exact Nat.le_refl _) | omega | (simp only [World.size_alloc, World.size_setCell, World.size_drew]; omega) | (simp; omega) | (simp; done)))) hb (by (first | (with_reducible exact Nat.le_refl _) | (with_reducible assumption) | omega | (simp only [World.size_alloc, World.size_setCell, World.size_drew]; omega) | (simp; omega) | (simp; done)))
          clear hb
          go_wp2_with fail
          go_ret
          exact ⟨rfl, B9⟩
        · go_wp2_with fail
          refine (CW.out _).mono ?_
          rintro e w9 ⟨rfl, hb⟩
          have B9 := up (B := w.heap.size) (w := w) (by (repeat' (first | (with_reducible exact Below.refl _ _) | (with_reducible assumption) | (with_reducible refine Below.alloc ?_ ?_ _) | (with_reducible refine Below.drew ?_) | (with_reducible refine below_drewN ?_ _) | (with_reducible refine Below.setCell ?_ ?_ _) | (with_reducible exact Nat.le_refl _) | omega | (simp only [World.size_alloc, World.size_setCell, World.size_drew]; omega) | (simp; omega) | (simp; done)))) hb (by (first | (with_reducible exact Nat.le_refl _) | (with_reducible assumption) | omega | (simp only [World.size_alloc, World.size_setCell, World.size_drew]; omega) | (simp; omega) | (simp; done)))
          clear hb
          go_wp2_with fail
          go_ret
          exact ⟨rfl, B9⟩
      · go_wp2_with fail
        refine (CW.out _).mono ?_
        rintro e w9 ⟨rfl, hb⟩
        have B9 := up (B := w.heap.size) (w := w) (by (repeat' (first | (with_reducible exact Below.refl _ _) | (with_reducible assumption) | (with_reducible refine Below.alloc ?_ ?_ _) | (with_reducible refine Below.drew ?_) | (with_reducible refine below_drewN ?_ _) | (with_reducible refine Below.setCell ?_ ?_ _) | (with_reducible exact Nat.le_refl _) | omega | (simp only [World.size_alloc, World.size_setCell, World.size_drew]; omega) | (simp; omega) | (simp; done)))) hb (by (first | (with_reducible exact Nat.le_refl _) | (with_reducible assumption) | omega | (simp only [World.size_alloc, World.size_setCell, World.size_drew]; omega) | (simp; omega) | (simp; done)))
        clear hb
        go_wp2_with fail
        go_ret
        exact ⟨rfl, B9⟩

theorem gapsLeast_walk (A : Option Addr) (a : List R4) (ca : Nat) (B : Option Addr) (b : List R4) (cb : Nat) (w : World) (la : a.length ≤ ca) (ra : ca ≤ 140737488355328) (h1 : Rd w A a) (lb : b.length ≤ cb) (rb : cb ≤ 140737488355328) (h2 : Rd w B b) :
    Calls Try.prog 6 #[.slice A a.length ca, .slice B b.length cb] w fun e w' => e = .returned (.bool true) ∧ Below w.heap.size w w' := by
  rcases gaps_two a b with h | ⟨h3, h4, h5, h6, h7, h8, h9, h10⟩
  · exact gapsLeast_nil A B a b ca cb w la ra h1 lb rb h2 h
  · exact gapsLeast_one A B a b ca cb w la ra h1 lb rb h2 h3 h4 h5 h6 h7 h8 h9 h10

set_option maxRecDepth 100000 in
theorem gapsAreLeast_lifted (os : Os) (started : os.Started) (H : Type) (enc : TypeId × Value → H) :
    ReturnsInHanded {} Try.checked os 6 .any (Rows.gapsAreLeastSpec.pre6 enc Try.prog Try.f6 Rows.gapsAreLeastRow.domain false) (Rows.gapsAreLeastSpec.post enc Try.prog Try.f6 false true false false) := by
  refine returnsInHanded_of_change_sized (C := Try.checked) own started (by kernel_rfl) Try.func6
    (ChangeSpec.witness6 (enc := enc) (C := Try.checked) false ⟨#[], #[.slice none 0 0, .slice none 0 0], []⟩ 8 (by kernel_rfl) (by kernel_rfl) (by kernel_rfl) (by kernel_rfl)) ?_
  intro W base args ds gs before hval0 hW hcnd hsz0 _
  have hval : ∀ (j : Nat) t v, Try.f6.params[j]? = some t → args[j]? = some v → Value.okWide Try.prog W .any base t v := hval0
  have hsz : (DataW.weightsEach Try.prog (Try.f6.params.toList ++ Rows.gapsAreLeastSpec.plain.varTypes Try.prog) (ds ++ gs)).all (· ≤ reachBytes) = true := hsz0
  have hW' := hW
  obtain ⟨p, q, hA0, hV, rfl, hfz, hnd⟩ := hW
  have hA : DataW.TrodAll enc Try.prog W 0 (fun _ => true) true Try.f6.params.toList args.toList ds p := hA0
  rw [Try.params6] at hA hval hsz
  obtain ⟨v0, vs0, d0, ds0, p0, q0, hargs, rfl, rfl, h0, r0⟩ := trodAll_cons hA
  obtain ⟨v1, vs1, d1, ds1, p1, q1, rfl, rfl, rfl, h1, r1⟩ := trodAll_cons r0
  obtain ⟨rfl, rfl, rfl⟩ := trodAll_nil r1
  obtain rfl : args = #[v0, v1] := by cases args; simp_all
  obtain ⟨rfl, rfl⟩ := trodVars_none hV
  have k0 := h0
  have lt0 : ∀ x ∈ p0, x.block < W.heap.size := by obtain ⟨m, hm⟩ := k0; exact DataW.trod_lt m _ _ _ hm
  obtain ⟨A0, l0, c0, rfl, hl0, hr0, hc0⟩ := open_rects (hval 0 22 v0 rfl rfl) h0
  have hb0 := rects_room hsz (j := 0) rfl rfl hc0
  have k1 := h1
  have lt1 : ∀ x ∈ p1, x.block < W.heap.size := by obtain ⟨m, hm⟩ := k1; exact DataW.trod_lt m _ _ _ hm
  obtain ⟨A1, l1, c1, rfl, hl1, hr1, hc1⟩ := open_rects (hval 1 22 v1 rfl rfl) h1
  have hb1 := rects_room hsz (j := 1) rfl rfl hc1
  clear hA0 hval0 hsz0
  refine (gapsLeast_walk A0 l0 c0 A1 l1 c1 W hl0 hb0 hr0 hl1 hb1 hr1).mono fun e W' ⟨he, bel⟩ => ?_
  subst he
  exact ⟨_, rfl, _, _, _, [], _, [], hW', trodAll_mk1 (shut_bool Try.underlying4 _), (trodAll_cons_mk (Below.trod laidOut (by kernel_rfl) (of_decide_eq_true (by kernel_rfl)) k0 bel lt0) (trodAll_cons_mk (Below.trod laidOut (by kernel_rfl) (of_decide_eq_true (by kernel_rfl)) k1 bel lt1) trodAll_mk0)), rfl, bel.frame _, fun h => by cases h⟩

set_option maxRecDepth 100000 in
theorem gapsAreLeast_holds : Rows.GapsAreLeastSaid :=
  OpenClaim.holds_of_wide 6 Try.f6 rfl rfl rfl rfl rfl rfl rfl ⟨rfl, rfl, rfl, rfl, rfl⟩ rfl rfl rfl rfl rfl (by kernel_rfl) Try.func6 (by kernel_rfl)
    (of_decide_eq_true (by kernel_rfl)) (by unfold Func.isWrapper; rw [if_neg (by decide +kernel)]; exact ⟨rfl, rfl⟩)
    (fun os started H enc _ => gapsAreLeast_lifted os started H enc)
end Go.Proofs.Ytjcbngpgmgeanaa

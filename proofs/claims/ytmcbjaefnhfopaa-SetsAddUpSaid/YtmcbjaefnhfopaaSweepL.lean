/- combine and Region of package shape, slices.Equal of rectangles, whatever the world. -/
import Derived.Test.YtmcbjaefnhfopaaSweepK
import Derived.Shelf.Abstract
namespace Go.Proofs.Ytmcbjaefnhfopaa
open Go.RowKit Go.Shelf
open Reg (R4 sweepL canonL inFirstK)
set_option linter.unusedSimpArgs false
set_option linter.unusedVariables false

/-- What is left of a result by the limit, and the fault. -/
def resL (l : List R4) : List R4 := if l.length ≤ 2000 then l else []
def resF (l : List R4) : Int := if l.length ≤ 2000 then 0 else 2
/-- A function that gives rectangles of its own, and a fault. -/
def GotRF (w : World) (l : List R4) (f : Int) (e : Ending) (w' : World) : Prop := ∃ v, e = .returned (.tuple #[v, .int .i64 f]) ∧ w'.ownsRow w.heap.size 29 4 v l.length (cR l) ∧ Below w.heap.size w w'
theorem own_nilR (w : World) (base : Nat) (T : TypeId) (size : Nat) : w.ownsRow base T size (.slice none 0 0) 0 [] := ⟨by simp, .inl ⟨rfl, rfl⟩⟩

set_option maxRecDepth 100000 in
set_option maxHeartbeats 1000000 in
theorem combine_any (keep : Int → Int → Bool) (kf : Nat) (eg : ∀ args w, (callFunc kf args).run Try.prog w = .ok (.enter kf args) w)
    (CK : ∀ a b W, Calls Try.prog kf #[.int .i64 a, .int .i64 b] W fun e w' => e = .returned (.bool (keep a b)) ∧ Below W.heap.size W w') (hk : keep 0 0 = false)
    (A B : Option Addr) (a b : List R4) (ca cb : Nat) (w : World) (hlen : a.length + b.length ≤ 100000) (ga : Reg.Good a) (gb : Reg.Good b) (h1 : Rd w A a) (h2 : Rd w B b) :
    Calls Try.prog 32 #[.slice A a.length ca, .slice B b.length cb, .func (.func kf) #[] #[]] w (GotRF w (resL (sweepL keep a b)) (resF (sweepL keep a b))) := by
  have C1 := Lib.hid (sweep_any keep kf eg CK hk A B a b ca cb 2000 w (by omega) hlen ga gb h1 h2)
  unfold GotRF
  by_cases hs : (sweepL keep a b).length ≤ 2000
  · have hz : (((sweepL keep a b).length : Int) ≤ 2000) := by omega
    have e1 : resL (sweepL keep a b) = sweepL keep a b := if_pos hs
    have e2 : resF (sweepL keep a b) = 0 := if_pos hs
    rw [e1, e2]
    rw [decide_eq_true hz] at C1
    clear e1 e2 hs
    go_enter Try.func32, Try.ntmps32
    go_wp2_with fail
    refine C1.out.mono ?_
    rintro e w1 ⟨v, rfl, hb, ho, -⟩
    have O1 := Lib.hid (ho hz)
    have B1 := Lib.hid hb
    clear hb ho
    go_wp2_with fail
    go_ret2
    exact ⟨v, rfl, O1.out, B1.out⟩
  · have hz : ¬ (((sweepL keep a b).length : Int) ≤ 2000) := by omega
    have e1 : resL (sweepL keep a b) = [] := if_neg hs
    have e2 : resF (sweepL keep a b) = 2 := if_neg hs
    rw [e1, e2]
    rw [decide_eq_false hz] at C1
    clear e1 e2 hs
    go_enter Try.func32, Try.ntmps32
    go_wp2_with fail
    refine C1.out.mono ?_
    rintro e w1 ⟨v, rfl, hb, -, hv⟩
    obtain rfl := hv hz
    have B1 := Lib.hid hb
    clear hb hv
    go_wp2_with fail
    go_ret2
    exact ⟨_, rfl, own_nilR _ _ _ _, B1.out⟩

theorem inFirst_any (a b : Int) (w : World) : Calls Try.prog 33 #[.int .i64 a, .int .i64 b] w fun e w' => e = .returned (.bool (inFirstK a b)) ∧ Below w.heap.size w w' := by
  unfold inFirstK
  go_enter Try.func33, Try.ntmps33
  go_wp2_with fail
  go_ret
  exact ⟨rfl, Below.refl _ _⟩
theorem eg_inFirst : ∀ args w, (callFunc 33 args).run Try.prog w = .ok (.enter 33 args) w := enters_of Try.func33 (by kernel_rfl) rfl

/-- What Region says. -/
def rgL (l : List R4) : List R4 := if rectsF l = 0 then resL (canonL l) else []
def rgF (l : List R4) : Int := if rectsF l = 0 then resF (canonL l) else rectsF l
set_option maxRecDepth 100000 in
set_option maxHeartbeats 1000000 in
theorem region_any (A : Option Addr) (l : List R4) (c : Nat) (w : World) (hl : l.length ≤ 140737488355328) (h : Rd w A l) :
    Calls Try.prog 10 #[.slice A l.length c] w (GotRF w (rgL l) (rgF l)) := by
  have H0 := Lib.hid h
  have C1 := Lib.hid (checkRects_any A l c w hl h)
  clear h
  unfold GotRF
  by_cases h0 : rectsF l = 0
  · obtain ⟨hg, h2000⟩ := good_of_rects h0
    have e1 : rgL l = resL (canonL l) := if_pos h0
    have e2 : rgF l = resF (canonL l) := if_pos h0
    have hsw := Reg.sweep_first hg
    have C2 := Lib.hid (fun W h => combine_any inFirstK 33 eg_inFirst (fun a b W => inFirst_any a b W) rfl A none l [] c 0 W (by simp; omega) hg (fun r hr => by simp at hr) h (fun hp => absurd hp (by simp)))
    rw [hsw] at C2
    rw [e1, e2]
    rw [h0] at C1
    simp only [List.length_nil] at C2
    unfold GotRF at C2
    clear h0 e1 e2 hg hsw
    generalize resL (canonL l) = L at *
    generalize resF (canonL l) = F at *
    go_enter Try.func10, Try.ntmps10
    go_wp2_with fail
    refine C1.out.mono ?_
    rintro e w1 ⟨rfl, hb⟩
    have B1 := Lib.hid hb
    have z1 := hb.size
    clear hb
    go_wp2_with fail
    refine (C2.out w1 (H0.out.below B1.out)).mono ?_
    rintro e w2 ⟨v, rfl, ho, hb⟩
    have O2 := Lib.hid (own_mono ho z1)
    have B2 := Lib.hid (B1.out.trans (hb.mono z1))
    clear ho hb
    go_wp2_with fail
    go_ret2
    exact ⟨v, rfl, O2.out, B2.out⟩
  · have e1 : rgL l = [] := if_neg h0
    have e2 : rgF l = rectsF l := if_neg h0
    rw [e1, e2]
    have hd : (rectsF l == 0) = false := by simpa using h0
    have hd' : (rectsF l != 0) = true := by simpa using h0
    clear h0 e1 e2
    generalize rectsF l = F at *
    go_enter Try.func10, Try.ntmps10
    go_wp2_with fail
    refine C1.out.mono ?_
    rintro e w1 ⟨rfl, hb⟩
    have B1 := Lib.hid hb
    clear hb
    go_wp2_with fail
    go_ret2
    exact ⟨_, rfl, own_nilR _ _ _ _, B1.out⟩

set_option maxRecDepth 100000 in
set_option maxHeartbeats 1000000 in
theorem limited_any (A : Option Addr) (l : List R4) (c : Nat) (w : World) :
    Calls Try.prog 34 #[.slice A l.length c] w fun e w' => e = .returned (.tuple #[if l.length ≤ 2000 then .slice A l.length c else .slice none 0 0, .int .i64 (resF l)]) ∧ w = w' := by
  unfold resF
  by_cases hs : l.length ≤ 2000
  · rw [if_pos hs, if_pos hs]
    have hz : ¬ (2000 : Int) < (l.length : Int) := by omega
    clear hs
    go_enter Try.func34, Try.ntmps34
    go_wp2_with fail
    go_ret2
    exact ⟨rfl, rfl⟩
  · rw [if_neg hs, if_neg hs]
    have hz : (2000 : Int) < (l.length : Int) := by omega
    clear hs
    go_enter Try.func34, Try.ntmps34
    go_wp2_with fail
    go_ret2
    exact ⟨rfl, rfl⟩
/-- A function that gives rectangles that can be read, and a fault. -/
def GotRd (w : World) (l : List R4) (f : Int) (e : Ending) (w' : World) : Prop := ∃ A c, e = .returned (.tuple #[.slice A l.length c, .int .i64 f]) ∧ Rd w' A l ∧ l.length ≤ c ∧ c ≤ maxLen ∧ Below w.heap.size w w'
set_option maxRecDepth 100000 in
set_option maxHeartbeats 1000000 in
theorem rregion_any (A : Option Addr) (l : List R4) (c : Nat) (w : World) (hl : l.length ≤ 140737488355328) (h : Rd w A l) :
    Calls Try.prog 11 #[.slice A l.length c] w (GotRd w (rgL l) (rgF l)) := by
  have H0 := Lib.hid h
  have C1 := Lib.hid (rcheckRects_any A l c w hl h)
  clear h
  unfold GotRd
  by_cases h0 : rectsF l = 0
  · obtain ⟨hg, h2000⟩ := good_of_rects h0
    have e1 : rgL l = resL (canonL l) := if_pos h0
    have e2 : rgF l = resF (canonL l) := if_pos h0
    have C2 := Lib.hid (fun W h => rcanonical_any A l c W (by omega) h)
    unfold GotR at C2
    rw [e1, e2]
    rw [h0] at C1
    clear h0 e1 e2 hg
    have C3 := Lib.hid (fun A c W => limited_any A (canonL l) c W)
    generalize canonL l = L at *
    generalize hF : resF L = F at *
    go_enter Try.func11, Try.ntmps11
    go_wp2_with fail
    refine C1.out.mono ?_
    rintro e w1 ⟨rfl, hb⟩
    have B1 := Lib.hid hb
    have z1 := hb.size
    clear hb
    go_wp2_with fail
    refine (C2.out w1 (H0.out.below B1.out)).mono ?_
    rintro e w2 ⟨A2, c2, rfl, hc1, hc2, hr, -, hb⟩
    have R2 := Lib.hid hr
    have B2 := Lib.hid (B1.out.trans (hb.mono z1))
    clear hr hb
    go_wp2_with fail
    refine (C3.out A2 c2 w2).mono ?_
    rintro e w3 ⟨rfl, rfl⟩
    by_cases hs : L.length ≤ 2000
    · rw [if_pos hs]
      have E1 := Lib.hid (show resL L = L from if_pos hs)
      clear hs
      go_wp2_with fail
      go_ret2
      rw [E1.out]
      exact ⟨A2, c2, rfl, R2.out, hc1, hc2, B2.out⟩
    · rw [if_neg hs]
      have E1 := Lib.hid (show resL L = [] from if_neg hs)
      clear hs
      go_wp2_with fail
      go_ret2
      rw [E1.out]
      exact ⟨none, 0, rfl, fun h => absurd h (by simp), Nat.le_refl _, Nat.zero_le _, B2.out⟩
  · have e1 : rgL l = [] := if_neg h0
    have e2 : rgF l = rectsF l := if_neg h0
    rw [e1, e2]
    have hd : (rectsF l == 0) = false := by simpa using h0
    have hd' : (rectsF l != 0) = true := by simpa using h0
    clear h0 e1 e2
    generalize rectsF l = F at *
    go_enter Try.func11, Try.ntmps11
    go_wp2_with fail
    refine C1.out.mono ?_
    rintro e w1 ⟨rfl, hb⟩
    have B1 := Lib.hid hb
    clear hb
    go_wp2_with fail
    go_ret2
    exact ⟨none, 0, rfl, fun h => absurd h (by simp), Nat.le_refl _, Nat.zero_le _, B1.out⟩

/-! ## slices.Equal -/
theorem r4_ext {r s : R4} : r = s ↔ r.x0 = s.x0 ∧ r.y0 = s.y0 ∧ r.x1 = s.x1 ∧ r.y1 = s.y1 := by
  obtain ⟨a, b, c, d⟩ := r
  obtain ⟨a', b', c', d'⟩ := s
  simp
set_option maxRecDepth 100000 in
set_option maxHeartbeats 2000000 in
theorem equal_any (A1 A2 : Option Addr) (l1 l2 : List R4) (c1 c2 : Nat) (w : World) (hl1 : l1.length ≤ 140737488355328) (hl2 : l2.length ≤ 140737488355328) (h1 : Rd w A1 l1) (h2 : Rd w A2 l2) :
    Calls Try.prog 16 #[.slice A1 l1.length c1, .slice A2 l2.length c2] w fun e w' => e = .returned (.bool (decide (l1 = l2))) ∧ Below w.heap.size w w' := by
  have H1 := Lib.hid h1
  have H2 := Lib.hid h2
  clear h1 h2
  by_cases hlen : l1.length = l2.length
  · have hne : ((l1.length : Int) != (l2.length : Int)) = false := by simp [hlen]
    have HLEN := Lib.hid hlen
    have HG := Lib.hid (show decide (l1 = l2) = decide (l1.drop 0 = l2.drop 0) from rfl)
    generalize decide (l1 = l2) = G at *
    clear hlen
    go_enter Try.func16, Try.ntmps16
    go_wp2_with fail
    go_loopw [13] (fun i wr => ∃ k : Nat, k ≤ l1.length ∧ i = .int .i64 k ∧ G = decide (l1.drop k = l2.drop k) ∧ Below w.heap.size w wr) (fun i _ => l1.length - (intOf i).toNat)
    case atStart => exact ⟨0, Nat.zero_le _, rfl, HG.out, by (repeat' (first | (with_reducible exact Below.refl _ _) | (with_reducible assumption) | (with_reducible refine Below.alloc ?_ ?_ _) | (with_reducible refine Below.drew ?_) | (with_reducible refine below_drewN ?_ _) | (with_reducible refine Below.setCell ?_ ?_ _) | (with_reducible exact Nat.le_refl _) | omega | (simp only [World.size_alloc, World.size_setCell, World.size_drew]; omega) | (simp; omega) | (simp; done)))⟩
    case round =>
      obtain ⟨k, hk, rfl, hg, hbw⟩ := hrel
      have HGK := Lib.hid hg
      have zw := hbw.size
      clear hg
      have hkz : (0 : Int) ≤ (k : Int) := by omega
      by_cases hlt : k < l1.length
      · have hlt2 : k < l2.length := by have := HLEN.out; omega
        obtain ⟨b1, o1, rfl, hb1, hc1⟩ := (H1.out.below hbw) (by omega)
        obtain ⟨b2, o2, rfl, hb2, hc2⟩ := (H2.out.below hbw) (by omega)
        obtain ⟨a0, a1, a2, a3⟩ := hc1 k _ (List.getElem?_eq_getElem hlt)
        obtain ⟨d0, d1, d2, d3⟩ := hc2 k _ (List.getElem?_eq_getElem hlt2)
        have e1 : l1.drop k = l1[k] :: l1.drop (k + 1) := List.drop_eq_getElem_cons hlt
        have e2 : l2.drop k = l2[k] :: l2.drop (k + 1) := List.drop_eq_getElem_cons hlt2
        have HE1 := Lib.hid e1
        have HE2 := Lib.hid e2
        clear hc1 hc2 e1 e2
        generalize l1[k] = r at *
        generalize l2[k] = s at *
        have hklt : (k : Int) < (l1.length : Int) := by omega
        have hklt2 : (k : Int) < (l2.length : Int) := by omega
        by_cases hrs : r = s
        · subst hrs
          have HG2 := Lib.hid (show G = decide (l1.drop (k + 1) = l2.drop (k + 1)) from by rw [HGK.out, HE1.out, HE2.out]; simp)
          go_wp2_with fail
          go_quiet (fail)
          go_wp2_with fail
          go_roundw
          case rel => exact ⟨k + 1, by omega, by go_num, HG2.out, below_drewN hbw _⟩
          case measure => simp [intOf]; omega
        · have HG2 := Lib.hid (show G = false from by rw [HGK.out, HE1.out, HE2.out]; simp [hrs])
          have hrs' := Lib.hid hrs
          clear hrs
          cases t0 : (r.x0 == s.x0) <;> cases t1 : (r.y0 == s.y0) <;> cases t2 : (r.x1 == s.x1) <;> cases t3 : (r.y1 == s.y1)
          case true.true.true.true => exact absurd (r4_ext.2 ⟨by simpa using t0, by simpa using t1, by simpa using t2, by simpa using t3⟩) hrs'.out
          all_goals
            go_wp2_with fail
            go_quiet (fail)
            go_wp2_with fail
            go_ret
            exact ⟨by rw [HG2.out]; rfl, below_drewN hbw _⟩
      · obtain rfl : k = l1.length := by omega
        have HG2 := Lib.hid (show G = true from by rw [HGK.out, List.drop_length, HLEN.out, List.drop_length]; simp)
        go_wp2_with fail
        go_ret
        exact ⟨by rw [HG2.out]; rfl, hbw⟩
  · have hne : ((l1.length : Int) != (l2.length : Int)) = true := by simp; omega
    have HG2 := Lib.hid (show decide (l1 = l2) = false from by simp; exact fun e => hlen (by rw [e]))
    clear hlen
    generalize decide (l1 = l2) = G at *
    go_enter Try.func16, Try.ntmps16
    go_wp2_with fail
    go_ret
    exact ⟨by rw [HG2.out]; rfl, Below.refl _ _⟩
end Go.Proofs.Ytmcbjaefnhfopaa

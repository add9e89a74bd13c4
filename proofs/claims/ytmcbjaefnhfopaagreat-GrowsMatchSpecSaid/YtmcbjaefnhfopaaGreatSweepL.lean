/- combine and Region of package shape, slices.Equal of rectangles, whatever the world. -/
import Derived.Test.YtmcbjaefnhfopaaGreatSweepK
import Derived.Shelf.Abstract
namespace Go.Proofs.YtmcbjaefnhfopaaGreat
open Go.RowKit Go.Shelf
open Reg (R4 sweepL canonL inFirstK)
set_option linter.unusedSimpArgs false
set_option linter.unusedVariables false

/-- What is left of a result by the limit, and the fault. -/
def resL (l : List R4) : List R4 := if l.length ≤ 2000 then l else []
def resF (l : List R4) : Int := if l.length ≤ 2000 then 0 else 2
/-- A function that gives rectangles of its own, and a fault. -/
def GotRF (w : World) (l : List R4) (f : Int) (e : Ending) (w' : World) : Prop := ∃ v, e = .returned (.tuple #[v, .int .i64 f]) ∧ w'.ownsRow w.heap.size 28 4 v l.length (cR l) ∧ Below w.heap.size w w'
theorem own_nilR (w : World) (base : Nat) (T : TypeId) (size : Nat) : w.ownsRow base T size (.slice none 0 0) 0 [] := ⟨by simp, .inl ⟨rfl, rfl⟩⟩

set_option maxRecDepth 100000 in
set_option maxHeartbeats 1000000 in
theorem combine_any (keep : Int → Int → Bool) (kf : Nat) (eg : ∀ args w, (callFunc kf args).run Tryz.prog w = .ok (.enter kf args) w)
    (CK : ∀ a b W, Calls Tryz.prog kf #[.int .i64 a, .int .i64 b] W fun e w' => e = .returned (.bool (keep a b)) ∧ Below W.heap.size W w') (hk : keep 0 0 = false)
    (A B : Option Addr) (a b : List R4) (ca cb : Nat) (w : World) (hlen : a.length + b.length ≤ 100000) (ga : Reg.Good a) (gb : Reg.Good b) (h1 : Rd w A a) (h2 : Rd w B b) :
    Calls Tryz.prog 35 #[.slice A a.length ca, .slice B b.length cb, .func (.func kf) #[] #[]] w (GotRF w (resL (sweepL keep a b)) (resF (sweepL keep a b))) := by
  have C1 := Lib.hid (sweep_any keep kf eg CK hk A B a b ca cb 2000 w (by omega) hlen ga gb h1 h2)
  unfold GotRF
  by_cases hs : (sweepL keep a b).length ≤ 2000
  · have hz : (((sweepL keep a b).length : Int) ≤ 2000) := by omega
    have e1 : resL (sweepL keep a b) = sweepL keep a b := if_pos hs
    have e2 : resF (sweepL keep a b) = 0 := if_pos hs
    rw [e1, e2]
    rw [decide_eq_true hz] at C1
    clear e1 e2 hs
    go_enter Tryz.func35, Tryz.ntmps35
    go_wp2_with fail
    refine C1.out.mono ?_
    rintro e w1 ⟨v, rfl, hb, ho, -⟩
    have O1 := Lib.hid (ho hz)
    have B1 := Lib.hid hb
    clear hb ho
    go_wp2_with fail
    go_ret2
    exact ⟨v, rfl, O1.out, B1.out⟩
  · have hz : ¬ (((sweepL keep a b).length : Int) ≤ 2000) := by omega
    have e1 : resL (sweepL keep a b) = [] := if_neg hs
    have e2 : resF (sweepL keep a b) = 2 := if_neg hs
    rw [e1, e2]
    rw [decide_eq_false hz] at C1
    clear e1 e2 hs
    go_enter Tryz.func35, Tryz.ntmps35
    go_wp2_with fail
    refine C1.out.mono ?_
    rintro e w1 ⟨v, rfl, hb, -, hv⟩
    obtain rfl := hv hz
    have B1 := Lib.hid hb
    clear hb hv
    go_wp2_with fail
    go_ret2
    exact ⟨_, rfl, own_nilR _ _ _ _, B1.out⟩

theorem inFirst_any (a b : Int) (w : World) : Calls Tryz.prog 37 #[.int .i64 a, .int .i64 b] w fun e w' => e = .returned (.bool (inFirstK a b)) ∧ Below w.heap.size w w' := by
  unfold inFirstK
  go_enter Tryz.func37, Tryz.ntmps37
  go_wp2_with fail
  go_ret
  exact ⟨rfl, Below.refl _ _⟩
theorem eg_inFirst : ∀ args w, (callFunc 37 args).run Tryz.prog w = .ok (.enter 37 args) w := enters_of Tryz.func37 (by kernel_rfl) rfl

/-- What Region says. -/
def rgL (l : List R4) : List R4 := if rectsF l = 0 then resL (canonL l) else []
def rgF (l : List R4) : Int := if rectsF l = 0 then resF (canonL l) else rectsF l
set_option maxRecDepth 100000 in
set_option maxHeartbeats 1000000 in
theorem limited_any (A : Option Addr) (l : List R4) (c : Nat) (w : World) :
    Calls Tryz.prog 43 #[.slice A l.length c] w fun e w' => e = .returned (.tuple #[if l.length ≤ 2000 then .slice A l.length c else .slice none 0 0, .int .i64 (resF l)]) ∧ w = w' := by
  unfold resF
  by_cases hs : l.length ≤ 2000
  · rw [if_pos hs, if_pos hs]
    have hz : ¬ (2000 : Int) < (l.length : Int) := by omega
    clear hs
    go_enter Tryz.func43, Tryz.ntmps43
    go_wp2_with fail
    go_ret2
    exact ⟨rfl, rfl⟩
  · rw [if_neg hs, if_neg hs]
    have hz : (2000 : Int) < (l.length : Int) := by omega
    clear hs
    go_enter Tryz.func43, Tryz.ntmps43
    go_wp2_with fail
    go_ret2
    exact ⟨rfl, rfl⟩
/-- A function that gives rectangles that can be read, and a fault. -/
def GotRd (w : World) (l : List R4) (f : Int) (e : Ending) (w' : World) : Prop := ∃ A c, e = .returned (.tuple #[.slice A l.length c, .int .i64 f]) ∧ Rd w' A l ∧ l.length ≤ c ∧ c ≤ maxLen ∧ Below w.heap.size w w'
/-! ## slices.Equal -/
theorem r4_ext {r s : R4} : r = s ↔ r.x0 = s.x0 ∧ r.y0 = s.y0 ∧ r.x1 = s.x1 ∧ r.y1 = s.y1 := by
  obtain ⟨a, b, c, d⟩ := r
  obtain ⟨a', b', c', d'⟩ := s
  simp
set_option maxRecDepth 100000 in
set_option maxHeartbeats 2000000 in
theorem equal_any (A1 A2 : Option Addr) (l1 l2 : List R4) (c1 c2 : Nat) (w : World) (hl1 : l1.length ≤ 140737488355328) (hl2 : l2.length ≤ 140737488355328) (h1 : Rd w A1 l1) (h2 : Rd w A2 l2) :
    Calls Tryz.prog 7 #[.slice A1 l1.length c1, .slice A2 l2.length c2] w fun e w' => e = .returned (.bool (decide (l1 = l2))) ∧ Below w.heap.size w w' := by
  have H1 := Lib.hid h1
  have H2 := Lib.hid h2
  clear h1 h2
  by_cases hlen : l1.length = l2.length
  · have hne : ((l1.length : Int) != (l2.length : Int)) = false := by simp [hlen]
    have HLEN := Lib.hid hlen
    have HG := Lib.hid (show decide (l1 = l2) = decide (l1.drop 0 = l2.drop 0) from rfl)
    generalize decide (l1 = l2) = G at *
    clear hlen
    go_enter Tryz.func7, Tryz.ntmps7
    go_wp2_with fail
    go_loopw [13] (fun i wr => ∃ k : Nat, k ≤ l1.length ∧ i = .int .i64 k ∧ G = decide (l1.drop k = l2.drop k) ∧ Below w.heap.size w wr) (fun i _ => l1.length - (intOf i).toNat)
    case atStart => exact ⟨0, Nat.zero_le _, rfl, HG.out, by (repeat' (first | (with_reducible exact Below.refl _ _) | (with_reducible assumption) | (with_reducible refine Below.alloc ?_ ?_ _) | (with_reducible refine Below.drew ?_) | (with_reducible refine below_drewN ?_ _) | (with_reducible refine Below.setCell ?_ ?_ _) | (with_reducible exact Nat.le_refl _) | omega | (simp only [World.size_alloc, World.size_setCell, World.size_drew]; omega) | (simp; omega) | (simp; done)))⟩
    case round =>
      obtain ⟨k, hk, rfl, hg, hbw⟩ := hrel
      have HGK := Lib.hid hg
      have zw := hbw.size
      clear hg
      have hkz : (0 : Int) ≤ (k : Int) := by omega
      by_cases hlt : k < l1.length
      · have hlt2 : k < l2.length := by have := HLEN.out; omega
        obtain ⟨b1, o1, rfl, hb1, hc1⟩ := (H1.out.below hbw) (by omega)
        obtain ⟨b2, o2, rfl, hb2, hc2⟩ := (H2.out.below hbw) (by omega)
        obtain ⟨a0, a1, a2, a3⟩ := hc1 k _ (List.getElem?_eq_getElem hlt)
        obtain ⟨d0, d1, d2, d3⟩ := hc2 k _ (List.getElem?_eq_getElem hlt2)
        have e1 : l1.drop k = l1[k] :: l1.drop (k + 1) := List.drop_eq_getElem_cons hlt
        have e2 : l2.drop k = l2[k] :: l2.drop (k + 1) := List.drop_eq_getElem_cons hlt2
        have HE1 := Lib.hid e1
        have HE2 := Lib.hid e2
        clear hc1 hc2 e1 e2
        generalize l1[k] = r at *
        generalize l2[k] = s at *
        have hklt : (k : Int) < (l1.length : Int) := by omega
        have hklt2 : (k : Int) < (l2.length : Int) := by omega
        by_cases hrs : r = s
        · subst hrs
          have HG2 := Lib.hid (show G = decide (l1.drop (k + 1) = l2.drop (k + 1)) from by rw [HGK.out, HE1.out, HE2.out]; simp)
          go_wp2_with fail
          go_quiet (fail)
          go_wp2_with fail
          go_roundw
          case rel => exact ⟨k + 1, by omega, by go_num, HG2.out, below_drewN hbw _⟩
          case measure => simp [intOf]; omega
        · have HG2 := Lib.hid (show G = false from by rw [HGK.out, HE1.out, HE2.out]; simp [hrs])
          have hrs' := Lib.hid hrs
          clear hrs
          cases t0 : (r.x0 == s.x0) <;> cases t1 : (r.y0 == s.y0) <;> cases t2 : (r.x1 == s.x1) <;> cases t3 : (r.y1 == s.y1)
          case true.true.true.true => exact absurd (r4_ext.2 ⟨by simpa using t0, by simpa using t1, by simpa using t2, by simpa using t3⟩) hrs'.out
          all_goals
            go_wp2_with fail
            go_quiet (fail)
            go_wp2_with fail
            go_ret
            exact ⟨by rw [HG2.out]; rfl, below_drewN hbw _⟩
      · obtain rfl : k = l1.length := by omega
        have HG2 := Lib.hid (show G = true from by rw [HGK.out, List.drop_length, HLEN.out, List.drop_length]; simp)
        go_wp2_with fail
        go_ret
        exact ⟨by rw [HG2.out]; rfl, hbw⟩
  · have hne : ((l1.length : Int) != (l2.length : Int)) = true := by simp; omega
    have HG2 := Lib.hid (show decide (l1 = l2) = false from by simp; exact fun e => hlen (by rw [e]))
    clear hlen
    generalize decide (l1 = l2) = G at *
    go_enter Tryz.func7, Tryz.ntmps7
    go_wp2_with fail
    go_ret
    exact ⟨by rw [HG2.out]; rfl, Below.refl _ _⟩
end Go.Proofs.YtmcbjaefnhfopaaGreat

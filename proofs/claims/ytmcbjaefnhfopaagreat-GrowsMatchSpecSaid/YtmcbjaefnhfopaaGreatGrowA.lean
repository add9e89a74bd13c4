/- grown of package shape, whatever the world. -/
import Derived.Test.YtmcbjaefnhfopaaGreatGrown
namespace Go.Proofs.YtmcbjaefnhfopaaGreat
open Go.RowKit Go.Shelf
open Reg (R4 inR canonL)
set_option linter.unusedSimpArgs false
set_option linter.unusedVariables false

theorem coords_of {l : List R4} (hg : Reg.Good l) {lo hi : Int} (h : ∀ x y, inR l x y → lo ≤ x ∧ x < hi ∧ lo ≤ y ∧ y < hi) : ∀ r, r ∈ l → lo ≤ r.x0 ∧ r.x0 < hi ∧ lo < r.x1 ∧ r.x1 ≤ hi ∧ lo ≤ r.y0 ∧ r.y0 < hi ∧ lo < r.y1 ∧ r.y1 ≤ hi := by
  intro r hr
  have g := hg r hr
  have h1 := h r.x0 r.y0 ⟨r, hr, by simp only [R4.has]; omega⟩
  have h2 := h (r.x1 - 1) (r.y1 - 1) ⟨r, hr, by simp only [R4.has]; omega⟩
  omega
theorem cR_two {out : List R4} : ∀ {k : Nat} {r : R4}, out[k]? = some r → ∀ a b : Int, ((cR out).set (k * 4 + 1) (.int .i64 a)).set (k * 4 + 3) (.int .i64 b) = cR (out.set k ⟨r.x0, a, r.x1, b⟩) := by
  induction out with
  | nil => intro k r h; simp at h
  | cons s l ih =>
    intro k r h a b
    cases k with
    | zero =>
      simp at h
      subst h
      simp [cR]
    | succ k =>
      simp at h
      have := ih h a b
      simp only [List.set_cons_succ, cR, List.flatMap_cons] at this ⊢
      rw [show (k + 1) * 4 + 3 = k * 4 + 3 + 1 + 1 + 1 + 1 from by omega, show (k + 1) * 4 + 1 = k * 4 + 1 + 1 + 1 + 1 + 1 from by omega]
      simp only [List.cons_append, List.nil_append, List.set_cons_succ]
      rw [this]
/-- Half way through the second loop. -/
def halfY (n : Int) (P : List R4) (i : Nat) : List R4 := (P.take i).map (wideY n) ++ P.drop i
theorem halfY_len (n : Int) (P : List R4) (i : Nat) : (halfY n P i).length = P.length := by simp [halfY]; omega
theorem halfY_at {n : Int} {P : List R4} {i : Nat} (h : i < P.length) : (halfY n P i)[i]? = some P[i] := by
  unfold halfY
  rw [List.getElem?_append_right (by simp; omega)]
  simp [Nat.min_eq_left (Nat.le_of_lt h), h]
theorem halfY_step {n : Int} {P : List R4} {i : Nat} (h : i < P.length) : (halfY n P i).set i (wideY n P[i]) = halfY n P (i + 1) := by
  unfold halfY
  have hl : ((P.take i).map (wideY n)).length = i := by simp; omega
  rw [List.set_append_right _ _ (by omega), hl, Nat.sub_self, List.drop_eq_getElem_cons h, List.set_cons_zero, List.take_succ_eq_append_getElem h, List.map_append]
  simp
theorem halfY_zero (n : Int) (P : List R4) : halfY n P 0 = P := by simp [halfY]
theorem halfY_all (n : Int) (P : List R4) : halfY n P P.length = P.map (wideY n) := by simp [halfY]
theorem mapX_snoc (n : Int) (l : List R4) (k : Nat) (h : k < l.length) : (l.take (k + 1)).map (wideX n) = (l.take k).map (wideX n) ++ [⟨l[k].x0 - n, l[k].y0, l[k].x1 + n, l[k].y1⟩] := by
  rw [List.take_succ_eq_append_getElem h, List.map_append]
  rfl
theorem wf_small {a : Int} (h1 : -4000000 ≤ a) (h2 : a ≤ 4000000) : (Lit.int .i64 a).wf = true := by
  have e1 : IntKind.i64.min = -9223372036854775808 := by decide
  have e2 : IntKind.i64.max = 9223372036854775807 := by decide
  simp [Lit.wf, e1, e2]
  omega

set_option maxRecDepth 100000 in
set_option maxHeartbeats 2000000 in
theorem grown_any (A : Option Addr) (l : List R4) (c : Nat) (n : Int) (w : World) (hl : l.length ≤ 100000) (hg : Reg.Good l) (hn0 : 0 ≤ n) (hn1 : n ≤ 100000) (hin : ∀ x y, inR l x y → -1000001 ≤ x ∧ x < 1000001 ∧ -1000001 ≤ y ∧ y < 1000001) (hbig : (canonL (l.map (wideX n))).length ≤ 1000000) (h : Rd w A l) :
    Calls Tryz.prog 36 #[.slice A l.length c, .int .i64 n] w (GotOwn w (grownL n l)) := by
  obtain ⟨i0, hi, hz0, hz1, hz2⟩ := info_parts infoR
  have H0 := Lib.hid h
  have HR := Lib.hid (coords_of hg hin)
  have g1 := wideX_good hn0 hg
  have g2 := canon_good g1
  obtain ⟨p1, p2, p3⟩ := pileL_ok g2 (starts_canon g1)
  have hin1 : ∀ x y, inR (canonL (l.map (wideX n))) x y → -1100001 ≤ x ∧ x < 1100001 ∧ -1100001 ≤ y ∧ y < 1100001 := fun x y hx => by
    rw [canon_inR g1, wideX_inR hn0 hg] at hx
    obtain ⟨u, h1, h2, h3⟩ := hx
    have := hin _ _ h3
    omega
  have HC := Lib.hid (coords_of g2 hin1)
  have HP := Lib.hid (coords_of p1 fun x y hx => hin1 x y ((p3 x y).1 hx))
  have C1 := Lib.hid (fun A c W h => covered_any A (l.map (wideX n)) c W (by simp; omega) g1 h)
  have C2 := Lib.hid (fun A c W h => pile_any A (canonL (l.map (wideX n))) c W (by omega) (fun r hr => by
    have := HC.out r hr
    exact ⟨⟨wf_small (by simp only; omega) (by simp only; omega), wf_small (by simp only; omega) (by simp only; omega), wf_small (by simp only; omega) (by simp only; omega)⟩, wf_small (by simp only; omega) (by simp only; omega), wf_small (by simp only; omega) (by simp only; omega), wf_small (by simp only; omega) (by simp only; omega)⟩) h)
  unfold GotOwn at *
  have HLW := Lib.hid (show (l.map (wideX n)).length = l.length from List.length_map _)
  have HG := Lib.hid (show grownL n l = (pileL (canonL (l.map (wideX n)))).map (wideY n) from rfl)
  have hpl : (pileL (canonL (l.map (wideX n)))).length ≤ 1000000 := by omega
  clear h hg hin g1 g2 p1 p2 p3 hin1 HC hbig
  go_enter Tryz.func36, Tryz.ntmps36
  go_wp2_with (first | (at_make; refine wpList_make_own _ rfl (.const (.int .i64 0)) (.tmp 11) 22 rfl w.heap.size 28 i0 (.agg #[.int .i64 0, .int .i64 0, .int .i64 0, .int .i64 0]) 4 Tryz.underlying22 hi hz0 hz1 .i64 .i64 (l.length : Int) l.length rfl rfl ?m1 ?m2 ?m3 ?m4 ?_; (case m1 => omega); (case m2 => rw [hz2]; omega); (case m3 => simp only [maxLen]; omega); (case m4 => (first | (with_reducible exact Nat.le_refl _) | (with_reducible assumption) | omega | (simp only [World.size_alloc, World.size_setCell, World.size_drew]; omega) | (simp; omega) | (simp; done))); intro w1 hown hg; have HO := Lib.hid hown; have B1 := (Below.refl w.heap.size w).grown hg (Nat.le_refl _) (fun j hj => by cases hj); have z1 := hg.size; clear hown hg))
  go_loopw [5, 15] (fun v5 i wr => ∃ k : Nat, k ≤ l.length ∧ i = .int .i64 k ∧ wr.ownsRow w.heap.size 28 4 v5 k (cR ((l.take k).map (wideX n))) ∧ Below w.heap.size w wr) (fun _ i _ => l.length - (intOf i).toNat)
  case atStart => exact ⟨0, Nat.zero_le _, rfl, HO.out, B1⟩
  case round =>
    obtain ⟨k, hk, rfl, hown, hbw⟩ := hrel
    have zw := hbw.size
    have HO1 := Lib.hid hown
    clear hown
    have hkz : (0 : Int) ≤ (k : Int) := by omega
    by_cases hlt : k < l.length
    · obtain ⟨b, off, rfl, hblt, hcs⟩ := (H0.out.below hbw) (by omega)
      have hi1 : l[k]? = some l[k] := List.getElem?_eq_getElem hlt
      obtain ⟨c0, c1, c2, c3⟩ := hcs k _ hi1
      have HS := Lib.hid (mapX_snoc n l k hlt)
      obtain ⟨q0, q1, q2, q3, q4, q5, q6, q7⟩ := HR.out _ (List.getElem_mem hlt)
      clear hi1 hcs
      generalize l[k] = r at *
      have hklt : (k : Int) < (l.length : Int) := by omega
      go_wp2_with (first | (at_builtin; refine wpList_append_own _ rfl (.tmp 19) (.tmp 33) 22 rfl w.heap.size 28 i0 (.agg #[.int .i64 0, .int .i64 0, .int .i64 0, .int .i64 0]) 4 32 Tryz.underlying22 hi hz0 hz1 hz2 rfl (by decide) u5 k (cR ((l.take k).map (wideX n))) rfl ?o1 ⟨wr.heap.size + 1, 0, none⟩ 1 1 [.int .i64 (r.x0 - n), .int .i64 r.y0, .int .i64 (r.x1 + n), .int .i64 r.y1] rfl rfl ?nw ?o2 ?q4 ?q5 ?b2 ?_; (case o1 => exact ownsRow_below' HO1.out (by (repeat' (first | (with_reducible exact Below.refl _ _) | (with_reducible assumption) | (with_reducible refine Below.alloc ?_ ?_ _) | (with_reducible refine Below.drew ?_) | (with_reducible refine below_drewN ?_ _) | (with_reducible refine Below.setCell ?_ ?_ _) | (with_reducible exact Nat.le_refl _) | omega | (simp only [World.size_alloc, World.size_setCell, World.size_drew]; omega) | (simp; omega) | (simp; done))))); (case nw => exact list_new _ _ (by simp) _ _); (case o2 => simp [Value.oneCell']); (case q4 => simp only [maxLen]; omega); (case q5 => omega); (case b2 => (first | (with_reducible exact Nat.le_refl _) | (with_reducible assumption) | omega | (simp only [World.size_alloc, World.size_setCell, World.size_drew]; omega) | (simp; omega) | (simp; done))); intro v2 w2 hown2 hg2 _; have HO2 := Lib.hid hown2; have B2 := below_app (B := w.heap.size) (w0 := w) (by (repeat' (first | (with_reducible exact Below.refl _ _) | (with_reducible assumption) | (with_reducible refine Below.alloc ?_ ?_ _) | (with_reducible refine Below.drew ?_) | (with_reducible refine below_drewN ?_ _) | (with_reducible refine Below.setCell ?_ ?_ _) | (with_reducible exact Nat.le_refl _) | omega | (simp only [World.size_alloc, World.size_setCell, World.size_drew]; omega) | (simp; omega) | (simp; done)))) (ownsRow_below' HO1.out (by (repeat' (first | (with_reducible exact Below.refl _ _) | (with_reducible assumption) | (with_reducible refine Below.alloc ?_ ?_ _) | (with_reducible refine Below.drew ?_) | (with_reducible refine below_drewN ?_ _) | (with_reducible refine Below.setCell ?_ ?_ _) | (with_reducible exact Nat.le_refl _) | omega | (simp only [World.size_alloc, World.size_setCell, World.size_drew]; omega) | (simp; omega) | (simp; done))))) hg2 (Nat.le_refl _) (by (first | (with_reducible exact Nat.le_refl _) | (with_reducible assumption) | omega | (simp only [World.size_alloc, World.size_setCell, World.size_drew]; omega) | (simp; omega) | (simp; done))); clear hown2 hg2))
      go_roundw
      case rel => exact ⟨k + 1, by omega, by go_num, by rw [HS.out, cR_append]; exact HO2.out, B2⟩
      case measure => simp [intOf]; omega
    · obtain rfl : k = l.length := by omega
      rw [List.take_length] at HO1
      obtain ⟨A1, cc1, rfl, -, -, hr1, -⟩ := rd_own (l := l.map (wideX n)) (by rw [HLW.out]; exact HO1.out)
      have HR1 := Lib.hid hr1
      generalize l.map (wideX n) = wl at *
      clear hr1
      go_wp2_with fail
      refine (C1.out _ _ _ HR1.out).mono ?_
      rintro e w2 ⟨v2, rfl, ho, hb⟩
      obtain ⟨A2, cc2, rfl, -, -, hr2, -⟩ := rd_own ho
      have HR2 := Lib.hid hr2
      have B2 := up (B := w.heap.size) (w := w) hbw hb (by omega)
      have z2 := hb.size
      clear ho hb hr2
      go_wp2_with fail
      refine (C2.out _ _ _ HR2.out).mono ?_
      rintro e w3 ⟨v3, rfl, ho, hb⟩
      have HO3 := Lib.hid (own_mono (base' := w.heap.size) ho (by omega))
      have B3 := up (B := w.heap.size) (w := w) B2 hb (by omega)
      have z3 := hb.size
      clear ho hb
      generalize pileL (canonL wl) = P at *
      obtain ⟨A3, c3, rfl, k1, k2, k3⟩ := own_cells HO3.out
      have K3 := Lib.hid k3
      have k2' : c3 ≤ 9223372036854775807 := k2
      clear k2 k3
      go_wp2_with fail
      go_loopw [41] (fun i wr => ∃ k : Nat, k ≤ P.length ∧ i = .int .i64 k ∧ wr.ownsRow w.heap.size 28 4 (.slice A3 P.length c3) P.length (cR (halfY n P k)) ∧ Below w.heap.size w wr) (fun i _ => P.length - (intOf i).toNat)
      case atStart => exact ⟨0, Nat.zero_le _, rfl, by rw [halfY_zero]; exact HO3.out, B3⟩
      case round =>
        obtain ⟨k, hk, rfl, hown, hbw⟩ := hrel
        have zw := hbw.size
        have HO4 := Lib.hid hown
        clear hown
        have hkz : (0 : Int) ≤ (k : Int) := by omega
        by_cases hlt : k < P.length
        · obtain ⟨g, rfl, hg, hgl, -⟩ := K3.out (by omega)
          have hat := halfY_at (n := n) hlt
          obtain ⟨_, a1, _, a3⟩ := cR_at hat
          obtain ⟨o1, f1⟩ := own_cellC HO4.out a1
          obtain ⟨o3, f3⟩ := own_cellC HO4.out a3
          have hst := halfY_step (n := n) hlt
          obtain ⟨q0, q1, q2, q3, q4, q5, q6, q7⟩ := HP.out _ (List.getElem_mem hlt)
          have hcc := cR_two hat (P[k].y0 - n) (P[k].y1 + n)
          rw [show (⟨P[k].x0, P[k].y0 - n, P[k].x1, P[k].y1 + n⟩ : R4) = wideY n P[k] from rfl, hst] at hcc
          have HCC := Lib.hid hcc
          clear hat a1 a3 hst hcc
          generalize P[k] = r at *
          have hklt : (k : Int) < (P.length : Int) := by omega
          have S1 := Lib.hid (HO4.out.stored (k * 4 + 1) (.int .i64 (r.y0 - n)))
          have S2 := Lib.hid (S1.out.1.stored (k * 4 + 3) (.int .i64 (r.y1 + n)))
          have BB := Lib.hid ((hbw.grown S1.out.2 (by omega) (fun j hj => by cases hj; omega)).grown S2.out.2 (by simp; omega) (fun j hj => by cases hj; omega))
          go_wp2_with fail
          go_roundw
          case rel => exact ⟨k + 1, by omega, by go_num, by rw [← HCC.out]; exact S2.out.1, BB.out⟩
          case measure => simp [intOf]; omega
        · obtain rfl : k = P.length := by omega
          rw [halfY_all] at HO4
          go_wp2_with fail
          go_ret
          exact ⟨_, rfl, by rw [HG.out, List.length_map]; exact HO4.out, hbw⟩
end Go.Proofs.YtmcbjaefnhfopaaGreat

/- TurnedRegion of the reference, whatever the world. -/
import Derived.Test.YtmcbjaefnhfopaaTurned
import Derived.Test.YtmcbjaefnhfopaaTurnRectR
import Derived.Test.YtmcbjaefnhfopaaRefH
namespace Go.Proofs.Ytmcbjaefnhfopaa
open Go.RowKit Go.Shelf
open Reg (R4 inR canonL inFirstK)
set_option linter.unusedSimpArgs false
set_option linter.unusedVariables false

theorem not_rectF {r : R4} (hg : r.x0 < r.x1 ∧ r.y0 < r.y1) (h : ¬ rectF r = 0) : (okAt r.x0 = false) ∨ (okAt r.x0 = true ∧ okAt r.y0 = false) ∨ (okAt r.x0 = true ∧ okAt r.y0 = true ∧ okAt r.x1 = false) ∨ (okAt r.x0 = true ∧ okAt r.y0 = true ∧ okAt r.x1 = true ∧ okAt r.y1 = false) := by
  unfold rectF rectOk at h
  cases h0 : okAt r.x0
  · exact .inl rfl
  · cases h1 : okAt r.y0
    · exact .inr (.inl ⟨rfl, rfl⟩)
    · cases h2 : okAt r.x1
      · exact .inr (.inr (.inl ⟨rfl, rfl, rfl⟩))
      · cases h3 : okAt r.y1
        · exact .inr (.inr (.inr ⟨rfl, rfl, rfl, rfl⟩))
        · exact absurd (by rw [h0, h1, h2, h3]; simp; omega) h
theorem rectF_ok {r : R4} (h : rectF r = 0) : okAt r.x0 = true ∧ okAt r.y0 = true ∧ okAt r.x1 = true ∧ okAt r.y1 = true := by
  obtain ⟨h0, h1, h2, h3, -⟩ := rectF_zero.1 h
  simp only [okAt, Bool.and_eq_true, decide_eq_true_eq]
  exact ⟨h0, h1, h2, h3⟩

set_option maxRecDepth 100000 in
set_option maxHeartbeats 4000000 in
theorem rturned_any (A : Option Addr) (l : List R4) (c : Nat) (f : Bool) (q ax ay : Int) (w : World) (hl : l.length ≤ c) (hc : c ≤ 140737488355328) (h : Rd w A l) :
    Calls Try.prog 31 #[.slice A l.length c, .agg #[.bool f, .int .i64 q, .int .i64 ax, .int .i64 ay]] w (GotRd w (trL l f q ax ay) (trF l f q ax ay)) := by
  obtain ⟨i0, hi, hz0, hz1, hz2⟩ := info_parts infoR
  have H0 := Lib.hid h
  have C1 := Lib.hid (fun W h => rcheckRegion_any A l c W hl hc h)
  have C2 := Lib.hid (fun W => rcheckTurn_any f q ax ay W)
  unfold GotRd trL trF
  clear h
  by_cases h0 : regF l = 0
  · rw [if_pos h0, if_pos h0]
    by_cases h1 : turnF q ax ay = 0
    · rw [if_pos h1, if_pos h1]
      obtain ⟨q0, q3, hax, hay⟩ := turnF_in h1
      obtain ⟨m, rfl⟩ := Int.eq_ofNat_of_zero_le q0
      rw [Int.toNat_natCast]
      have hm : m ≤ 3 := by omega
      obtain ⟨hg, h2000⟩ := good_of_rects (regF_zero.1 h0).1
      have hin6 := rect_in (regF_rects h0)
      have C3 := Lib.hid (fun r (hr : r ∈ l) W => rturnRect_any f m ax ay r W hm hax hay (hin6 r hr).1 (hin6 r hr).2.1 (hin6 r hr).2.2.1 (hin6 r hr).2.2.2.1)
      have HGD := Lib.hid (fun r (hr : r ∈ l) => turnRc_good (f := f) (q := m) (ax := ax) (ay := ay) hm (hg r hr))
      have CA := Lib.hid (fun n W => at_any n W)
      have C6 := Lib.hid (fun A' c' W h => rcanonical_any A' (l.map (turnRc f m ax ay)) c' W (by simp; omega) h)
      unfold GotR at C6
      have HLW := Lib.hid (show (l.map (turnRc f m ax ay)).length = l.length from List.length_map _)
      have HOK := Lib.hid (fun (h : trOk f m ax ay l) => (⟨if_pos h, if_pos h⟩ : (if trOk f m ax ay l then resL (canonL (l.map (turnRc f m ax ay))) else []) = resL (canonL (l.map (turnRc f m ax ay))) ∧ (if trOk f m ax ay l then resF (canonL (l.map (turnRc f m ax ay))) else 1) = resF (canonL (l.map (turnRc f m ax ay)))))
      have HNO := Lib.hid (fun (h : ¬ trOk f m ax ay l) => (⟨if_neg h, if_neg h⟩ : (if trOk f m ax ay l then resL (canonL (l.map (turnRc f m ax ay))) else []) = [] ∧ (if trOk f m ax ay l then resF (canonL (l.map (turnRc f m ax ay))) else 1) = 1))
      generalize (if trOk f m ax ay l then resL (canonL (l.map (turnRc f m ax ay))) else []) = L at *
      generalize (if trOk f m ax ay l then resF (canonL (l.map (turnRc f m ax ay))) else 1) = F at *
      rw [h0] at C1
      rw [h1] at C2
      clear h0 h1 q0 q3 hax hay hin6 hg
      go_enter Try.func31, Try.ntmps31
      go_wp2_with fail
      refine (C1.out _ (H0.out.below (by (repeat' (first | (with_reducible exact Below.refl _ _) | (with_reducible assumption) | (with_reducible refine Below.alloc ?_ ?_ _) | (with_reducible refine Below.drew ?_) | (with_reducible refine below_drewN ?_ _) | (with_reducible refine Below.setCell ?_ ?_ _) | (with_reducible exact Nat.le_refl _) | omega | (simp only [World.size_alloc, World.size_setCell, World.size_drew]; omega) | (simp; omega) | (simp; done)))))).mono ?_
      rintro e w1 ⟨rfl, hb⟩
      obtain ⟨kq, fq⟩ := kp hb (b := w.heap.size) (cs := #[.bool f, .int .i64 m, .int .i64 ax, .int .i64 ay]) (by (first | (with_reducible exact Nat.le_refl _) | (with_reducible assumption) | omega | (simp only [World.size_alloc, World.size_setCell, World.size_drew]; omega) | (simp; omega) | (simp; done))) (fun i => by simp [go_sem]) (fun i => by simp [go_sem])
      have z1 := hb.size
      (try simp only [World.size_alloc, World.size_setCell, World.size_drew] at z1)
      have P1 := Lib.hid ((H0.out.below (by (repeat' (first | (with_reducible exact Below.refl _ _) | (with_reducible assumption) | (with_reducible refine Below.alloc ?_ ?_ _) | (with_reducible refine Below.drew ?_) | (with_reducible refine below_drewN ?_ _) | (with_reducible refine Below.setCell ?_ ?_ _) | (with_reducible exact Nat.le_refl _) | omega | (simp only [World.size_alloc, World.size_setCell, World.size_drew]; omega) | (simp; omega) | (simp; done))))).below hb)
      have B1 := Lib.hid (up (B := w.heap.size) (w := w) (by (repeat' (first | (with_reducible exact Below.refl _ _) | (with_reducible assumption) | (with_reducible refine Below.alloc ?_ ?_ _) | (with_reducible refine Below.drew ?_) | (with_reducible refine below_drewN ?_ _) | (with_reducible refine Below.setCell ?_ ?_ _) | (with_reducible exact Nat.le_refl _) | omega | (simp only [World.size_alloc, World.size_setCell, World.size_drew]; omega) | (simp; omega) | (simp; done)))) hb (by (first | (with_reducible exact Nat.le_refl _) | (with_reducible assumption) | omega | (simp only [World.size_alloc, World.size_setCell, World.size_drew]; omega) | (simp; omega) | (simp; done))))
      clear hb
      go_wp2_with fail
      refine (C2.out _).mono ?_
      rintro e w2 ⟨rfl, hb⟩
      obtain ⟨kr, fr⟩ := kp hb (b := w.heap.size) (cs := #[.bool f, .int .i64 m, .int .i64 ax, .int .i64 ay]) (by (first | (with_reducible exact Nat.le_refl _) | (with_reducible assumption) | omega | (simp only [World.size_alloc, World.size_setCell, World.size_drew]; omega) | (simp; omega) | (simp; done))) kq fq
      have z2 := hb.size
      have P2 := Lib.hid (P1.out.below hb)
      have B2 := Lib.hid (B1.out.trans (hb.mono B1.out.size))
      have l2 : w.heap.size < w2.heap.size := by omega
      have KR := Lib.hid kr
      clear hb kq fq kr fr P1 B1
      go_wp2_with fail
      go_loopw [8, 9] (fun v8 i wr => ∃ k : Nat, k ≤ l.length ∧ i = .int .i64 k ∧ (∀ r, r ∈ l.take k → rectF (turnRc f m ax ay r) = 0) ∧ wr.ownsRow w2.heap.size 29 4 v8 k (cR ((l.take k).map (turnRc f m ax ay))) ∧ Below w2.heap.size w2 wr) (fun _ i _ => l.length - (intOf i).toNat)
      case atStart => exact ⟨0, Nat.zero_le _, rfl, (fun r hr => by simp at hr), own_nilR _ _ _ _, Below.refl _ _⟩
      case round =>
        obtain ⟨k, hk, rfl, hgood, hown, hbw⟩ := hrel
        have zw := hbw.size
        have HO1 := Lib.hid hown
        have HGO := Lib.hid hgood
        clear hown hgood
        have hkz : (0 : Int) ≤ (k : Int) := by omega
        have kt := fun i => ((bcell hbw).1 w.heap.size i l2).trans (KR.out i)
        have t0 := kt 0
        have t1 := kt 1
        have t2 := kt 2
        have t3 := kt 3
        simp at t0 t1 t2 t3
        have lw : w.heap.size < wr.heap.size := by omega
        have nw : ¬ w.heap.size = wr.heap.size := Nat.ne_of_lt lw
        have nw' : ¬ wr.heap.size = w.heap.size := fun h => nw h.symm
        by_cases hlt : k < l.length
        · obtain ⟨b, off, rfl, hblt, hcs⟩ := P2.out.below hbw (by omega)
          have nb : ¬ b = wr.heap.size := Nat.ne_of_lt hblt
          have nb' : ¬ wr.heap.size = b := fun h => nb h.symm
          have hi1 : l[k]? = some l[k] := List.getElem?_eq_getElem hlt
          obtain ⟨c0, c1, c2, c3⟩ := hcs k _ hi1
          have HS := Lib.hid (map_snoc (turnRc f m ax ay) l k hlt)
          have HM := Lib.hid (List.getElem_mem hlt)
          have HT := Lib.hid (List.take_succ_eq_append_getElem hlt)
          have CR := Lib.hid (fun W => C3.out l[k] HM.out W)
          have HGR := Lib.hid (HGD.out l[k] HM.out)
          clear hi1 hcs
          generalize hr : l[k] = r at *
          have HRR := Lib.hid hr
          clear hr
          have hklt : (k : Int) < (l.length : Int) := by omega
          obtain ⟨T, hT⟩ : ∃ T, T = turnRc f m ax ay r := ⟨_, rfl⟩
          rw [← hT] at CR HS HGR
          obtain ⟨s0, s1, s2, s3⟩ := T
          simp only [rv] at CR
          have HTT := Lib.hid hT
          clear hT
          have hcase : (rectF ⟨s0, s1, s2, s3⟩ = 0 ∧ okAt s0 = true ∧ okAt s1 = true ∧ okAt s2 = true ∧ okAt s3 = true) ∨ (¬ rectF ⟨s0, s1, s2, s3⟩ = 0 ∧ ((okAt s0 = false) ∨ (okAt s0 = true ∧ okAt s1 = false) ∨ (okAt s0 = true ∧ okAt s1 = true ∧ okAt s2 = false) ∨ (okAt s0 = true ∧ okAt s1 = true ∧ okAt s2 = true ∧ okAt s3 = false))) := by
            by_cases hF : rectF ⟨s0, s1, s2, s3⟩ = 0
            · exact .inl ⟨hF, rectF_ok hF⟩
            · exact .inr ⟨hF, not_rectF HGR.out hF⟩
          have HCASE := Lib.hid hcase
          clear hcase
          go_wp2_with fail
          go_region_held3 (fun w' => w'.cell? ⟨b, off + k * 4, none⟩ = some (.int .i64 r.x0) ∧ w'.cell? ⟨b, off + k * 4 + 1, none⟩ = some (.int .i64 r.y0) ∧ w'.cell? ⟨b, off + k * 4 + 2, none⟩ = some (.int .i64 r.x1) ∧ w'.cell? ⟨b, off + k * 4 + 3, none⟩ = some (.int .i64 r.y1) ∧ w'.cell? ⟨w.heap.size, 0, none⟩ = some (.bool f) ∧ w'.cell? ⟨w.heap.size, 1, none⟩ = some (.int .i64 m) ∧ w'.cell? ⟨w.heap.size, 2, none⟩ = some (.int .i64 ax) ∧ w'.cell? ⟨w.heap.size, 3, none⟩ = some (.int .i64 ay)) (first | (focus (simp [go_sem, c0, c1, c2, c3, t0, t1, t2, t3, hblt, lw, nw, nw', nb, nb']; done)) | go_keep)
            (first | (go_at_call 57; refine (CR.out _).mono ?_; rintro e w5 ⟨rfl, hb⟩; have y0 := (hb.cell (p := ⟨b, off + k * 4, none⟩) (by (first | (with_reducible exact Nat.le_refl _) | (with_reducible assumption) | omega | (simp only [World.size_alloc, World.size_setCell, World.size_drew]; omega) | (simp; omega) | (simp; done)))).trans (show _ = some (.int .i64 r.x0 : Value) from (by simp [go_sem, c0, hblt, lw, nw, nw', nb, nb'])); have y1 := (hb.cell (p := ⟨b, off + k * 4 + 1, none⟩) (by (first | (with_reducible exact Nat.le_refl _) | (with_reducible assumption) | omega | (simp only [World.size_alloc, World.size_setCell, World.size_drew]; omega) | (simp; omega) | (simp; done)))).trans (show _ = some (.int .i64 r.y0 : Value) from (by simp [go_sem, c1, hblt, lw, nw, nw', nb, nb'])); have y2 := (hb.cell (p := ⟨b, off + k * 4 + 2, none⟩) (by (first | (with_reducible exact Nat.le_refl _) | (with_reducible assumption) | omega | (simp only [World.size_alloc, World.size_setCell, World.size_drew]; omega) | (simp; omega) | (simp; done)))).trans (show _ = some (.int .i64 r.x1 : Value) from (by simp [go_sem, c2, hblt, lw, nw, nw', nb, nb'])); have y3 := (hb.cell (p := ⟨b, off + k * 4 + 3, none⟩) (by (first | (with_reducible exact Nat.le_refl _) | (with_reducible assumption) | omega | (simp only [World.size_alloc, World.size_setCell, World.size_drew]; omega) | (simp; omega) | (simp; done)))).trans (show _ = some (.int .i64 r.y1 : Value) from (by simp [go_sem, c3, hblt, lw, nw, nw', nb, nb'])); have y4 := (hb.cell (p := ⟨w.heap.size, 0, none⟩) (by (first | (with_reducible exact Nat.le_refl _) | (with_reducible assumption) | omega | (simp only [World.size_alloc, World.size_setCell, World.size_drew]; omega) | (simp; omega) | (simp; done)))).trans (show _ = some (.bool f : Value) from (by simp [go_sem, t0, hblt, lw, nw, nw', nb, nb'])); have y5 := (hb.cell (p := ⟨w.heap.size, 1, none⟩) (by (first | (with_reducible exact Nat.le_refl _) | (with_reducible assumption) | omega | (simp only [World.size_alloc, World.size_setCell, World.size_drew]; omega) | (simp; omega) | (simp; done)))).trans (show _ = some (.int .i64 m : Value) from (by simp [go_sem, t1, hblt, lw, nw, nw', nb, nb'])); have y6 := (hb.cell (p := ⟨w.heap.size, 2, none⟩) (by (first | (with_reducible exact Nat.le_refl _) | (with_reducible assumption) | omega | (simp only [World.size_alloc, World.size_setCell, World.size_drew]; omega) | (simp; omega) | (simp; done)))).trans (show _ = some (.int .i64 ax : Value) from (by simp [go_sem, t2, hblt, lw, nw, nw', nb, nb'])); have y7 := (hb.cell (p := ⟨w.heap.size, 3, none⟩) (by (first | (with_reducible exact Nat.le_refl _) | (with_reducible assumption) | omega | (simp only [World.size_alloc, World.size_setCell, World.size_drew]; omega) | (simp; omega) | (simp; done)))).trans (show _ = some (.int .i64 ay : Value) from (by simp [go_sem, t3, hblt, lw, nw, nw', nb, nb'])); have z5 := hb.size; (try simp only [World.size_alloc, World.size_setCell, World.size_drew] at z5); (try (refine kp_with hb (b := wr.heap.size) (cs := #[.int .i64 0, .int .i64 0, .int .i64 0, .int .i64 0]) ?_ ?_ ?_ ?_; (focus (first | omega | (simp only [World.size_alloc, World.size_setCell, World.size_drew]; omega))); (focus (intro i; simp [go_sem]; done)); (focus (intro i; simp [go_sem]; done)); (intro kz gz))); have B5 := up (B := w2.heap.size) (w := w2) (by (repeat' (first | (with_reducible exact Below.refl _ _) | (with_reducible assumption) | (with_reducible refine Below.alloc ?_ ?_ _) | (with_reducible refine Below.drew ?_) | (with_reducible refine below_drewN ?_ _) | (with_reducible refine Below.setCell ?_ ?_ _) | (with_reducible exact Nat.le_refl _) | omega | (simp only [World.size_alloc, World.size_setCell, World.size_drew]; omega) | (simp; omega) | (simp; done)))) hb (by (first | (with_reducible exact Nat.le_refl _) | (with_reducible assumption) | omega | (simp only [World.size_alloc, World.size_setCell, World.size_drew]; omega) | (simp; omega) | (simp; done))); have BR5 := up (B := wr.heap.size) (w := wr) (by (repeat' (first | (with_reducible exact Below.refl _ _) | (with_reducible assumption) | (with_reducible refine Below.alloc ?_ ?_ _) | (with_reducible refine Below.drew ?_) | (with_reducible refine below_drewN ?_ _) | (with_reducible refine Below.setCell ?_ ?_ _) | (with_reducible exact Nat.le_refl _) | omega | (simp only [World.size_alloc, World.size_setCell, World.size_drew]; omega) | (simp; omega) | (simp; done)))) hb (by (first | (with_reducible exact Nat.le_refl _) | (with_reducible assumption) | omega | (simp only [World.size_alloc, World.size_setCell, World.size_drew]; omega) | (simp; omega) | (simp; done))); clear hb))
          · obtain ⟨w6, hw6⟩ : ∃ w6, w6 = w5.alloc (.cells #[.int .i64 s0, .int .i64 s1, .int .i64 s2, .int .i64 s3] 29) := ⟨_, rfl⟩
            rw [← hw6]
            have e0 : w6.cell? ⟨w5.heap.size, 0, none⟩ = some (.int .i64 s0) := by rw [hw6]; simp [go_sem]
            have e1 : w6.cell? ⟨w5.heap.size, 1, none⟩ = some (.int .i64 s1) := by rw [hw6]; simp [go_sem]
            have e2 : w6.cell? ⟨w5.heap.size, 2, none⟩ = some (.int .i64 s2) := by rw [hw6]; simp [go_sem]
            have e3 : w6.cell? ⟨w5.heap.size, 3, none⟩ = some (.int .i64 s3) := by rw [hw6]; simp [go_sem]
            have z6 : wr.heap.size < w6.heap.size := by rw [hw6]; simp only [World.size_alloc]; omega
            have zP : w5.heap.size < w6.heap.size := by rw [hw6]; simp only [World.size_alloc]; omega
            have B6 : Below w2.heap.size w2 w6 := by rw [hw6]; (repeat' (first | (with_reducible exact Below.refl _ _) | (with_reducible assumption) | (with_reducible refine Below.alloc ?_ ?_ _) | (with_reducible refine Below.drew ?_) | (with_reducible refine below_drewN ?_ _) | (with_reducible refine Below.setCell ?_ ?_ _) | (with_reducible exact Nat.le_refl _) | omega | (simp only [World.size_alloc, World.size_setCell, World.size_drew]; omega) | (simp; omega) | (simp; done)))
            have BR6 : Below wr.heap.size wr w6 := by rw [hw6]; (repeat' (first | (with_reducible exact Below.refl _ _) | (with_reducible assumption) | (with_reducible refine Below.alloc ?_ ?_ _) | (with_reducible refine Below.drew ?_) | (with_reducible refine below_drewN ?_ _) | (with_reducible refine Below.setCell ?_ ?_ _) | (with_reducible exact Nat.le_refl _) | omega | (simp only [World.size_alloc, World.size_setCell, World.size_drew]; omega) | (simp; omega) | (simp; done)))
            clear hw6 B5 BR5 y0 y1 y2 y3 y4 y5 y6 y7
            obtain ⟨P, hP⟩ : ∃ P, P = w5.heap.size := ⟨_, rfl⟩
            rw [← hP] at e0 e1 e2 e3 zP ⊢
            clear hP z5
            rcases HCASE.out with ⟨hF, a0, a1, a2, a3⟩ | ⟨hF, hbad⟩
            · have HF := Lib.hid hF
              clear hF
              have zq := BR6.size
              go_wp2_with (first | (go_at_call 37; refine (CA.out _ _).mono ?_; rintro e w9 ⟨rfl, rfl⟩) | (at_builtin; refine wpList_append_own _ rfl (.tmp 55) (.tmp 57) 22 rfl w2.heap.size 29 i0 (.agg #[.int .i64 0, .int .i64 0, .int .i64 0, .int .i64 0]) 4 32 Try.underlying22 hi hz0 hz1 hz2 rfl (by decide) u8 k (cR ((l.take k).map (turnRc f m ax ay))) rfl ?o1 ⟨w6.heap.size, 0, none⟩ 1 1 [.int .i64 s0, .int .i64 s1, .int .i64 s2, .int .i64 s3] rfl rfl ?nw ?o2 ?q4 ?q5 ?b2 ?_; (case o1 => exact ownsRow_below' HO1.out (by (repeat' (first | (with_reducible exact Below.refl _ _) | (with_reducible assumption) | (with_reducible refine Below.alloc ?_ ?_ _) | (with_reducible refine Below.drew ?_) | (with_reducible refine below_drewN ?_ _) | (with_reducible refine Below.setCell ?_ ?_ _) | (with_reducible exact Nat.le_refl _) | omega | (simp only [World.size_alloc, World.size_setCell, World.size_drew]; omega) | (simp; omega) | (simp; done))))); (case nw => exact list_new _ _ (by simp) _ _); (case o2 => simp [Value.oneCell']); (case q4 => simp only [maxLen]; omega); (case q5 => omega); (case b2 => (first | (with_reducible exact Nat.le_refl _) | (with_reducible assumption) | omega | (simp only [World.size_alloc, World.size_setCell, World.size_drew]; omega) | (simp; omega) | (simp; done))); intro v7 w7 hown2 hg2 _; have HO2 := Lib.hid hown2; have B7 := below_app (B := w2.heap.size) (w0 := w2) (by (repeat' (first | (with_reducible exact Below.refl _ _) | (with_reducible assumption) | (with_reducible refine Below.alloc ?_ ?_ _) | (with_reducible refine Below.drew ?_) | (with_reducible refine below_drewN ?_ _) | (with_reducible refine Below.setCell ?_ ?_ _) | (with_reducible exact Nat.le_refl _) | omega | (simp only [World.size_alloc, World.size_setCell, World.size_drew]; omega) | (simp; omega) | (simp; done)))) (ownsRow_below' HO1.out (by (repeat' (first | (with_reducible exact Below.refl _ _) | (with_reducible assumption) | (with_reducible refine Below.alloc ?_ ?_ _) | (with_reducible refine Below.drew ?_) | (with_reducible refine below_drewN ?_ _) | (with_reducible refine Below.setCell ?_ ?_ _) | (with_reducible exact Nat.le_refl _) | omega | (simp only [World.size_alloc, World.size_setCell, World.size_drew]; omega) | (simp; omega) | (simp; done))))) hg2 (Nat.le_refl _) (by (first | (with_reducible exact Nat.le_refl _) | (with_reducible assumption) | omega | (simp only [World.size_alloc, World.size_setCell, World.size_drew]; omega) | (simp; omega) | (simp; done))); clear hown2 hg2))
              go_roundw
              case rel => exact ⟨k + 1, by omega, by go_num, (by
                rw [HT.out]
                intro s hs
                rcases List.mem_append.1 hs with hs | hs
                · exact HGO.out s hs
                · simp at hs
                  subst hs
                  rw [← HTT.out]
                  exact HF.out), by rw [HS.out, cR_append]; exact HO2.out, B7⟩
              case measure => simp [intOf]; omega
            · have HB := Lib.hid (show ¬ trOk f m ax ay l from fun h => hF (by rw [HTT.out]; exact h r (HRR.out ▸ List.getElem_mem hlt)))
              clear hF
              obtain ⟨rfl, rfl⟩ := HNO.out HB.out
              have BB := Lib.hid (B2.out.trans (B6.mono B2.out.size))
              rcases hbad with a0 | ⟨a0, a1⟩ | ⟨a0, a1, a2⟩ | ⟨a0, a1, a2, a3⟩
              all_goals
                go_wp2_with (go_at_call 37; refine (CA.out _ _).mono ?_; rintro e w9 ⟨rfl, rfl⟩)
                go_ret2
                exact ⟨none, 0, rfl, fun h => absurd h (by simp), Nat.le_refl _, Nat.zero_le _, BB.out⟩
          · obtain ⟨w6, hw6⟩ : ∃ w6, w6 = (((w5.setCell ⟨wr.heap.size, 0, none⟩ (.int .i64 s0)).setCell ⟨wr.heap.size, 1, none⟩ (.int .i64 s1)).setCell ⟨wr.heap.size, 2, none⟩ (.int .i64 s2)).setCell ⟨wr.heap.size, 3, none⟩ (.int .i64 s3) := ⟨_, rfl⟩
            rw [← hw6]
            have es := set4 (a := .int .i64 s0) (b := .int .i64 s1) (c := .int .i64 s2) (d := .int .i64 s3) kz
            rw [← hw6] at es
            have e0 := es 0
            have e1 := es 1
            have e2 := es 2
            have e3 := es 3
            simp at e0 e1 e2 e3
            have z6 : wr.heap.size < w6.heap.size := by rw [hw6]; simp only [World.size_setCell]; omega
            have B6 : Below w2.heap.size w2 w6 := by rw [hw6]; (repeat' (first | (with_reducible exact Below.refl _ _) | (with_reducible assumption) | (with_reducible refine Below.alloc ?_ ?_ _) | (with_reducible refine Below.drew ?_) | (with_reducible refine below_drewN ?_ _) | (with_reducible refine Below.setCell ?_ ?_ _) | (with_reducible exact Nat.le_refl _) | omega | (simp only [World.size_alloc, World.size_setCell, World.size_drew]; omega) | (simp; omega) | (simp; done)))
            have BR6 : Below wr.heap.size wr w6 := by rw [hw6]; (repeat' (first | (with_reducible exact Below.refl _ _) | (with_reducible assumption) | (with_reducible refine Below.alloc ?_ ?_ _) | (with_reducible refine Below.drew ?_) | (with_reducible refine below_drewN ?_ _) | (with_reducible refine Below.setCell ?_ ?_ _) | (with_reducible exact Nat.le_refl _) | omega | (simp only [World.size_alloc, World.size_setCell, World.size_drew]; omega) | (simp; omega) | (simp; done)))
            clear hw6 B5 BR5 y0 y1 y2 y3 y4 y5 y6 y7 es kz gz
            obtain ⟨P, hP⟩ : ∃ P, P = wr.heap.size := ⟨_, rfl⟩
            have zP : P < w6.heap.size := by omega
            rw [← hP] at e0 e1 e2 e3 ⊢
            clear hP z5
            rcases HCASE.out with ⟨hF, a0, a1, a2, a3⟩ | ⟨hF, hbad⟩
            · have HF := Lib.hid hF
              clear hF
              have zq := BR6.size
              go_wp2_with (first | (go_at_call 37; refine (CA.out _ _).mono ?_; rintro e w9 ⟨rfl, rfl⟩) | (at_builtin; refine wpList_append_own _ rfl (.tmp 55) (.tmp 57) 22 rfl w2.heap.size 29 i0 (.agg #[.int .i64 0, .int .i64 0, .int .i64 0, .int .i64 0]) 4 32 Try.underlying22 hi hz0 hz1 hz2 rfl (by decide) u8 k (cR ((l.take k).map (turnRc f m ax ay))) rfl ?o1 ⟨w6.heap.size, 0, none⟩ 1 1 [.int .i64 s0, .int .i64 s1, .int .i64 s2, .int .i64 s3] rfl rfl ?nw ?o2 ?q4 ?q5 ?b2 ?_; (case o1 => exact ownsRow_below' HO1.out (by (repeat' (first | (with_reducible exact Below.refl _ _) | (with_reducible assumption) | (with_reducible refine Below.alloc ?_ ?_ _) | (with_reducible refine Below.drew ?_) | (with_reducible refine below_drewN ?_ _) | (with_reducible refine Below.setCell ?_ ?_ _) | (with_reducible exact Nat.le_refl _) | omega | (simp only [World.size_alloc, World.size_setCell, World.size_drew]; omega) | (simp; omega) | (simp; done))))); (case nw => exact list_new _ _ (by simp) _ _); (case o2 => simp [Value.oneCell']); (case q4 => simp only [maxLen]; omega); (case q5 => omega); (case b2 => (first | (with_reducible exact Nat.le_refl _) | (with_reducible assumption) | omega | (simp only [World.size_alloc, World.size_setCell, World.size_drew]; omega) | (simp; omega) | (simp; done))); intro v7 w7 hown2 hg2 _; have HO2 := Lib.hid hown2; have B7 := below_app (B := w2.heap.size) (w0 := w2) (by (repeat' (first | (with_reducible exact Below.refl _ _) | (with_reducible assumption) | (with_reducible refine Below.alloc ?_ ?_ _) | (with_reducible refine Below.drew ?_) | (with_reducible refine below_drewN ?_ _) | (with_reducible refine Below.setCell ?_ ?_ _) | (with_reducible exact Nat.le_refl _) | omega | (simp only [World.size_alloc, World.size_setCell, World.size_drew]; omega) | (simp; omega) | (simp; done)))) (ownsRow_below' HO1.out (by (repeat' (first | (with_reducible exact Below.refl _ _) | (with_reducible assumption) | (with_reducible refine Below.alloc ?_ ?_ _) | (with_reducible refine Below.drew ?_) | (with_reducible refine below_drewN ?_ _) | (with_reducible refine Below.setCell ?_ ?_ _) | (with_reducible exact Nat.le_refl _) | omega | (simp only [World.size_alloc, World.size_setCell, World.size_drew]; omega) | (simp; omega) | (simp; done))))) hg2 (Nat.le_refl _) (by (first | (with_reducible exact Nat.le_refl _) | (with_reducible assumption) | omega | (simp only [World.size_alloc, World.size_setCell, World.size_drew]; omega) | (simp; omega) | (simp; done))); clear hown2 hg2))
              go_roundw
              case rel => exact ⟨k + 1, by omega, by go_num, (by
                rw [HT.out]
                intro s hs
                rcases List.mem_append.1 hs with hs | hs
                · exact HGO.out s hs
                · simp at hs
                  subst hs
                  rw [← HTT.out]
                  exact HF.out), by rw [HS.out, cR_append]; exact HO2.out, B7⟩
              case measure => simp [intOf]; omega
            · have HB := Lib.hid (show ¬ trOk f m ax ay l from fun h => hF (by rw [HTT.out]; exact h r (HRR.out ▸ List.getElem_mem hlt)))
              clear hF
              obtain ⟨rfl, rfl⟩ := HNO.out HB.out
              have BB := Lib.hid (B2.out.trans (B6.mono B2.out.size))
              rcases hbad with a0 | ⟨a0, a1⟩ | ⟨a0, a1, a2⟩ | ⟨a0, a1, a2, a3⟩
              all_goals
                go_wp2_with (go_at_call 37; refine (CA.out _ _).mono ?_; rintro e w9 ⟨rfl, rfl⟩)
                go_ret2
                exact ⟨none, 0, rfl, fun h => absurd h (by simp), Nat.le_refl _, Nat.zero_le _, BB.out⟩
        · obtain rfl : k = l.length := by omega
          rw [List.take_length] at HO1 HGO
          obtain ⟨e1, e2⟩ := HOK.out HGO.out
          have E1 := Lib.hid e1
          have E2 := Lib.hid e2
          clear HNO HOK e1 e2
          obtain ⟨A1, cc1, rfl, -, -, hr1, -⟩ := rd_own (l := l.map (turnRc f m ax ay)) (by rw [HLW.out]; exact HO1.out)
          have HR1 := Lib.hid hr1
          have BW := Lib.hid hbw
          generalize l.map (turnRc f m ax ay) = wl at *
          have C7 := Lib.hid (fun A c W => limited_any A (canonL wl) c W)
          generalize canonL wl = CL at *
          clear hr1
          go_wp2_with fail
          refine (C6.out _ _ _ HR1.out).mono ?_
          rintro e w7 ⟨A2, c2, rfl, hc1, hc2, hr2, -, hb⟩
          have R7 := Lib.hid hr2
          have B7 := Lib.hid (B2.out.trans ((BW.out.trans (hb.mono BW.out.size)).mono B2.out.size))
          clear hr2 hb
          go_wp2_with fail
          refine (C7.out A2 c2 w7).mono ?_
          rintro e w8 ⟨rfl, rfl⟩
          generalize hFF : resF CL = FF at *
          have HFF := Lib.hid hFF
          clear hFF
          by_cases hs : CL.length ≤ 2000
          · rw [if_pos hs]
            have E3 := Lib.hid (show resL CL = CL from if_pos hs)
            clear hs
            go_wp2_with fail
            go_ret2
            rw [E1.out, E2.out, E3.out]
            exact ⟨A2, c2, rfl, R7.out, hc1, hc2, B7.out⟩
          · rw [if_neg hs]
            have E3 := Lib.hid (show resL CL = [] from if_neg hs)
            clear hs
            go_wp2_with fail
            go_ret2
            rw [E1.out, E2.out, E3.out]
            exact ⟨none, 0, rfl, fun h => absurd h (by simp), Nat.le_refl _, Nat.zero_le _, B7.out⟩
    · rw [if_neg h1, if_neg h1]
      rw [h0] at C1
      have hd : (turnF q ax ay == 0) = false := by simpa using h1
      have hd' : (turnF q ax ay != 0) = true := by simpa using h1
      clear h0 h1
      generalize turnF q ax ay = F at *
      go_enter Try.func31, Try.ntmps31
      go_wp2_with fail
      refine (C1.out _ (H0.out.below (by (repeat' (first | (with_reducible exact Below.refl _ _) | (with_reducible assumption) | (with_reducible refine Below.alloc ?_ ?_ _) | (with_reducible refine Below.drew ?_) | (with_reducible refine below_drewN ?_ _) | (with_reducible refine Below.setCell ?_ ?_ _) | (with_reducible exact Nat.le_refl _) | omega | (simp only [World.size_alloc, World.size_setCell, World.size_drew]; omega) | (simp; omega) | (simp; done)))))).mono ?_
      rintro e w1 ⟨rfl, hb⟩
      obtain ⟨kq, fq⟩ := kp hb (b := w.heap.size) (cs := #[.bool f, .int .i64 q, .int .i64 ax, .int .i64 ay]) (by (first | (with_reducible exact Nat.le_refl _) | (with_reducible assumption) | omega | (simp only [World.size_alloc, World.size_setCell, World.size_drew]; omega) | (simp; omega) | (simp; done))) (fun i => by simp [go_sem]) (fun i => by simp [go_sem])
      have B1 := Lib.hid (up (B := w.heap.size) (w := w) (by (repeat' (first | (with_reducible exact Below.refl _ _) | (with_reducible assumption) | (with_reducible refine Below.alloc ?_ ?_ _) | (with_reducible refine Below.drew ?_) | (with_reducible refine below_drewN ?_ _) | (with_reducible refine Below.setCell ?_ ?_ _) | (with_reducible exact Nat.le_refl _) | omega | (simp only [World.size_alloc, World.size_setCell, World.size_drew]; omega) | (simp; omega) | (simp; done)))) hb (by (first | (with_reducible exact Nat.le_refl _) | (with_reducible assumption) | omega | (simp only [World.size_alloc, World.size_setCell, World.size_drew]; omega) | (simp; omega) | (simp; done))))
      clear hb
      go_wp2_with fail
      refine (C2.out _).mono ?_
      rintro e w2 ⟨rfl, hb⟩
      have B2 := Lib.hid (B1.out.trans (hb.mono B1.out.size))
      clear hb
      go_wp2_with fail
      go_ret2
      exact ⟨none, 0, rfl, fun h => absurd h (by simp), Nat.le_refl _, Nat.zero_le _, B2.out⟩
  · rw [if_neg h0, if_neg h0]
    have hd : (regF l == 0) = false := by simpa using h0
    have hd' : (regF l != 0) = true := by simpa using h0
    clear h0
    generalize regF l = F at *
    go_enter Try.func31, Try.ntmps31
    go_wp2_with fail
    refine (C1.out _ (H0.out.below (by (repeat' (first | (with_reducible exact Below.refl _ _) | (with_reducible assumption) | (with_reducible refine Below.alloc ?_ ?_ _) | (with_reducible refine Below.drew ?_) | (with_reducible refine below_drewN ?_ _) | (with_reducible refine Below.setCell ?_ ?_ _) | (with_reducible exact Nat.le_refl _) | omega | (simp only [World.size_alloc, World.size_setCell, World.size_drew]; omega) | (simp; omega) | (simp; done)))))).mono ?_
    rintro e w1 ⟨rfl, hb⟩
    have B1 := Lib.hid (up (B := w.heap.size) (w := w) (by (repeat' (first | (with_reducible exact Below.refl _ _) | (with_reducible assumption) | (with_reducible refine Below.alloc ?_ ?_ _) | (with_reducible refine Below.drew ?_) | (with_reducible refine below_drewN ?_ _) | (with_reducible refine Below.setCell ?_ ?_ _) | (with_reducible exact Nat.le_refl _) | omega | (simp only [World.size_alloc, World.size_setCell, World.size_drew]; omega) | (simp; omega) | (simp; done)))) hb (by (first | (with_reducible exact Nat.le_refl _) | (with_reducible assumption) | omega | (simp only [World.size_alloc, World.size_setCell, World.size_drew]; omega) | (simp; omega) | (simp; done))))
    clear hb
    go_wp2_with fail
    go_ret2
    exact ⟨none, 0, rfl, fun h => absurd h (by simp), Nat.le_refl _, Nat.zero_le _, B1.out⟩
end Go.Proofs.Ytmcbjaefnhfopaa

/- TurnedRegion of package shape, whatever the world. -/
import Derived.Test.YtmcbjaefnhfopaaTurnRect
import Derived.Test.YtmcbjaefnhfopaaCanon
import Derived.Test.YtmcbjaefnhfopaaShapeM
namespace Go.Proofs.Ytmcbjaefnhfopaa
open Go.RowKit Go.Shelf
open Reg (R4 inR canonL inFirstK)
set_option linter.unusedSimpArgs false
set_option linter.unusedVariables false

/-- Whether what is turned is in range. -/
def trOk (f : Bool) (q : Nat) (ax ay : Int) (l : List R4) : Prop := ∀ r, r ∈ l → rectF (turnRc f q ax ay r) = 0
instance (f : Bool) (q : Nat) (ax ay : Int) (l : List R4) : Decidable (trOk f q ax ay l) := by unfold trOk; infer_instance
def trF (l : List R4) (f : Bool) (q ax ay : Int) : Int := if regF l = 0 then (if turnF q ax ay = 0 then (if trOk f q.toNat ax ay l then resF (canonL (l.map (turnRc f q.toNat ax ay))) else 1) else turnF q ax ay) else regF l
def trL (l : List R4) (f : Bool) (q ax ay : Int) : List R4 := if regF l = 0 then (if turnF q ax ay = 0 then (if trOk f q.toNat ax ay l then resL (canonL (l.map (turnRc f q.toNat ax ay))) else []) else []) else []
theorem map_snoc {β : Type} (g : R4 → β) (l : List R4) (k : Nat) (h : k < l.length) : (l.take (k + 1)).map g = (l.take k).map g ++ [g l[k]] := by
  rw [List.take_succ_eq_append_getElem h, List.map_append]
  rfl
theorem turnRc_goods {f : Bool} {q : Nat} {ax ay : Int} (hq : q ≤ 3) {l : List R4} (h : Reg.Good l) : Reg.Good (l.map (turnRc f q ax ay)) := by
  intro r hr
  obtain ⟨s, hs, rfl⟩ := List.mem_map.1 hr
  exact turnRc_good hq (h s hs)

set_option maxRecDepth 100000 in
set_option maxHeartbeats 2000000 in
theorem turned_any (A : Option Addr) (l : List R4) (c : Nat) (f : Bool) (q ax ay : Int) (w : World) (hl : l.length ≤ c) (hc : c ≤ maxLen) (hl2 : l.length ≤ 140737488355328) (h : Rd w A l) :
    Calls Try.prog 30 #[.slice A l.length c, .agg #[.bool f, .int .i64 q, .int .i64 ax, .int .i64 ay]] w (GotRF w (trL l f q ax ay) (trF l f q ax ay)) := by
  obtain ⟨i0, hi, hz0, hz1, hz2⟩ := info_parts infoR
  have H0 := Lib.hid h
  have C1 := Lib.hid (fun W h => checkRegion_anyM A l c W hl (by simpa [maxLen] using hc) hl2 h)
  have C2 := Lib.hid (fun W => checkTurn_any f q ax ay W)
  unfold GotRF trL trF
  clear h
  by_cases h0 : regF l = 0
  · rw [if_pos h0, if_pos h0]
    by_cases h1 : turnF q ax ay = 0
    · rw [if_pos h1, if_pos h1]
      obtain ⟨q0, q3, hax, hay⟩ := turnF_in h1
      obtain ⟨m, rfl⟩ := Int.eq_ofNat_of_zero_le q0
      rw [Int.toNat_natCast]
      have hm : m ≤ 3 := by omega
      obtain ⟨hg, h2000⟩ := good_of_rects (regF_zero.1 h0).1
      have hin6 := rect_in (regF_rects h0)
      have HR := Lib.hid hin6
      have C3 := Lib.hid (fun r (hr : r ∈ l) W => turnRect_any f m ax ay r W hm hax hay (hin6 r hr).1 (hin6 r hr).2.1 (hin6 r hr).2.2.1 (hin6 r hr).2.2.2.1)
      have C4 := Lib.hid (fun r W => checkRect_any r W)
      have g1 := turnRc_goods (f := f) (q := m) (ax := ax) (ay := ay) hm hg
      have C6 := Lib.hid (fun A' c' W h => combine_any inFirstK 33 eg_inFirst (fun a b W => inFirst_any a b W) rfl A' none (l.map (turnRc f m ax ay)) [] c' 0 W (by simp; omega) g1 (fun r hr => by simp at hr) h (fun hp => absurd hp (by simp)))
      rw [Reg.sweep_first g1] at C6
      simp only [List.length_nil] at C6
      unfold GotRF at C6
      have HLW := Lib.hid (show (l.map (turnRc f m ax ay)).length = l.length from List.length_map _)
      have HOK := Lib.hid (fun (h : trOk f m ax ay l) => (⟨if_pos h, if_pos h⟩ : (if trOk f m ax ay l then resL (canonL (l.map (turnRc f m ax ay))) else []) = resL (canonL (l.map (turnRc f m ax ay))) ∧ (if trOk f m ax ay l then resF (canonL (l.map (turnRc f m ax ay))) else 1) = resF (canonL (l.map (turnRc f m ax ay)))))
      have HNO := Lib.hid (fun (h : ¬ trOk f m ax ay l) => (⟨if_neg h, if_neg h⟩ : (if trOk f m ax ay l then resL (canonL (l.map (turnRc f m ax ay))) else []) = [] ∧ (if trOk f m ax ay l then resF (canonL (l.map (turnRc f m ax ay))) else 1) = 1))
      generalize (if trOk f m ax ay l then resL (canonL (l.map (turnRc f m ax ay))) else []) = L at *
      generalize (if trOk f m ax ay l then resF (canonL (l.map (turnRc f m ax ay))) else 1) = F at *
      rw [h0] at C1
      rw [h1] at C2
      clear h0 h1 q0 q3 hax hay hin6 hg g1
      go_enter Try.func30, Try.ntmps30
      go_wp2_with fail
      refine (C1.out _ (H0.out.below (by (repeat' (first | (with_reducible exact Below.refl _ _) | (with_reducible assumption) | (with_reducible refine Below.alloc ?_ ?_ _) | (with_reducible refine Below.drew ?_) | (with_reducible refine below_drewN ?_ _) | (with_reducible refine Below.setCell ?_ ?_ _) | (with_reducible exact Nat.le_refl _) | omega | (simp only [World.size_alloc, World.size_setCell, World.size_drew]; omega) | (simp; omega) | (simp; done)))))).mono ?_
      rintro e w1 ⟨rfl, hb⟩
      obtain ⟨kq, fq⟩ := kp hb (b := w.heap.size) (cs := #[.bool f, .int .i64 m, .int .i64 ax, .int .i64 ay]) (by (first | (with_reducible exact Nat.le_refl _) | (with_reducible assumption) | omega | (simp only [World.size_alloc, World.size_setCell, World.size_drew]; omega) | (simp; omega) | (simp; done))) (fun i => by simp [go_sem]) (fun i => by simp [go_sem])
      have z1 := hb.size
      (try simp only [World.size_alloc, World.size_setCell, World.size_drew] at z1)
      have P1 := Lib.hid ((H0.out.below (by (repeat' (first | (with_reducible exact Below.refl _ _) | (with_reducible assumption) | (with_reducible refine Below.alloc ?_ ?_ _) | (with_reducible refine Below.drew ?_) | (with_reducible refine below_drewN ?_ _) | (with_reducible refine Below.setCell ?_ ?_ _) | (with_reducible exact Nat.le_refl _) | omega | (simp only [World.size_alloc, World.size_setCell, World.size_drew]; omega) | (simp; omega) | (simp; done))))).below hb)
      have B1 := Lib.hid (up (B := w.heap.size) (w := w) (by (repeat' (first | (with_reducible exact Below.refl _ _) | (with_reducible assumption) | (with_reducible refine Below.alloc ?_ ?_ _) | (with_reducible refine Below.drew ?_) | (with_reducible refine below_drewN ?_ _) | (with_reducible refine Below.setCell ?_ ?_ _) | (with_reducible exact Nat.le_refl _) | omega | (simp only [World.size_alloc, World.size_setCell, World.size_drew]; omega) | (simp; omega) | (simp; done)))) hb (by (first | (with_reducible exact Nat.le_refl _) | (with_reducible assumption) | omega | (simp only [World.size_alloc, World.size_setCell, World.size_drew]; omega) | (simp; omega) | (simp; done))))
      clear hb
      go_wp2_with fail
      refine (C2.out _).mono ?_
      rintro e w2 ⟨rfl, hb⟩
      obtain ⟨kr, fr⟩ := kp hb (b := w.heap.size) (cs := #[.bool f, .int .i64 m, .int .i64 ax, .int .i64 ay]) (by (first | (with_reducible exact Nat.le_refl _) | (with_reducible assumption) | omega | (simp only [World.size_alloc, World.size_setCell, World.size_drew]; omega) | (simp; omega) | (simp; done))) kq fq
      have z2 := hb.size
      have P2 := Lib.hid (P1.out.below hb)
      have B2 := Lib.hid (B1.out.trans (hb.mono B1.out.size))
      have l2 : w.heap.size < w2.heap.size := by omega
      have KR := Lib.hid kr
      clear hb kq fq kr fr P1 B1
      go_wp2_with (first | (at_make; refine wpList_make_own _ rfl (.const (.int .i64 0)) (.tmp 23) 22 rfl w2.heap.size 29 i0 (.agg #[.int .i64 0, .int .i64 0, .int .i64 0, .int .i64 0]) 4 Try.underlying22 hi hz0 hz1 .i64 .i64 (l.length : Int) l.length rfl rfl ?m1 ?m2 ?m3 ?m4 ?_; (case m1 => omega); (case m2 => rw [hz2]; omega); (case m3 => simp only [maxLen]; omega); (case m4 => (first | (with_reducible exact Nat.le_refl _) | (with_reducible assumption) | omega | (simp only [World.size_alloc, World.size_setCell, World.size_drew]; omega) | (simp; omega) | (simp; done))); intro w3 hown hg; have HO := Lib.hid hown; have B3 := (Below.refl w2.heap.size w2).grown hg (Nat.le_refl _) (fun j hj => by cases hj); have z3 := hg.size; clear hown hg))
      go_loopw [8, 27] (fun v8 i wr => ∃ k : Nat, k ≤ l.length ∧ i = .int .i64 k ∧ (∀ r, r ∈ l.take k → rectF (turnRc f m ax ay r) = 0) ∧ wr.ownsRow w2.heap.size 29 4 v8 k (cR ((l.take k).map (turnRc f m ax ay))) ∧ Below w2.heap.size w2 wr) (fun _ i _ => l.length - (intOf i).toNat)
      case atStart => exact ⟨0, Nat.zero_le _, rfl, (fun r hr => by simp at hr), HO.out, B3⟩
      case round =>
        obtain ⟨k, hk, rfl, hgood, hown, hbw⟩ := hrel
        have zw := hbw.size
        have HO1 := Lib.hid hown
        have HGO := Lib.hid hgood
        clear hown hgood
        have hkz : (0 : Int) ≤ (k : Int) := by omega
        have kt := fun i => ((bcell hbw).1 w.heap.size i l2).trans (KR.out i)
        have t0 := kt 0
        have t1 := kt 1
        have t2 := kt 2
        have t3 := kt 3
        simp at t0 t1 t2 t3
        have lw : w.heap.size < wr.heap.size := by omega
        have nw : ¬ w.heap.size = wr.heap.size := Nat.ne_of_lt lw
        have nw' : ¬ wr.heap.size = w.heap.size := fun h => nw h.symm
        by_cases hlt : k < l.length
        · obtain ⟨b, off, rfl, hblt, hcs⟩ := P2.out.below hbw (by omega)
          have hi1 : l[k]? = some l[k] := List.getElem?_eq_getElem hlt
          obtain ⟨c0, c1, c2, c3⟩ := hcs k _ hi1
          have HS := Lib.hid (map_snoc (turnRc f m ax ay) l k hlt)
          have HM := Lib.hid (List.getElem_mem hlt)
          have HT := Lib.hid (List.take_succ_eq_append_getElem hlt)
          have CR := Lib.hid (fun W => C3.out l[k] HM.out W)
          clear hi1 hcs
          generalize hr : l[k] = r at *
          have HRR := Lib.hid hr
          clear hr
          have hklt : (k : Int) < (l.length : Int) := by omega
          obtain ⟨T, hT⟩ : ∃ T, T = turnRc f m ax ay r := ⟨_, rfl⟩
          rw [← hT] at CR HS
          have CT := Lib.hid (fun W => C4.out T W)
          obtain ⟨s0, s1, s2, s3⟩ := T
          simp only [rv] at CR CT
          have HTT := Lib.hid hT
          clear hT
          by_cases hF : rectF ⟨s0, s1, s2, s3⟩ = 0
          · rw [hF] at CT
            have HF := Lib.hid hF
            clear hF
            go_wp2_with fail
            refine (CR.out _).mono ?_
            rintro e w5 ⟨rfl, hb⟩
            have z5 := hb.size
            (try simp only [World.size_alloc, World.size_setCell, World.size_drew] at z5)
            have B5 := up (B := w2.heap.size) (w := w2) (by (repeat' (first | (with_reducible exact Below.refl _ _) | (with_reducible assumption) | (with_reducible refine Below.alloc ?_ ?_ _) | (with_reducible refine Below.drew ?_) | (with_reducible refine below_drewN ?_ _) | (with_reducible refine Below.setCell ?_ ?_ _) | (with_reducible exact Nat.le_refl _) | omega | (simp only [World.size_alloc, World.size_setCell, World.size_drew]; omega) | (simp; omega) | (simp; done)))) hb (by (first | (with_reducible exact Nat.le_refl _) | (with_reducible assumption) | omega | (simp only [World.size_alloc, World.size_setCell, World.size_drew]; omega) | (simp; omega) | (simp; done)))
            have BR := Lib.hid (up (B := wr.heap.size) (w := wr) (by (repeat' (first | (with_reducible exact Below.refl _ _) | (with_reducible assumption) | (with_reducible refine Below.alloc ?_ ?_ _) | (with_reducible refine Below.drew ?_) | (with_reducible refine below_drewN ?_ _) | (with_reducible refine Below.setCell ?_ ?_ _) | (with_reducible exact Nat.le_refl _) | omega | (simp only [World.size_alloc, World.size_setCell, World.size_drew]; omega) | (simp; omega) | (simp; done)))) hb (by (first | (with_reducible exact Nat.le_refl _) | (with_reducible assumption) | omega | (simp only [World.size_alloc, World.size_setCell, World.size_drew]; omega) | (simp; omega) | (simp; done))))
            clear hb
            go_wp2_with fail
            refine (CT.out _).mono ?_
            rintro e w6 ⟨rfl, hb⟩
            obtain ⟨kn, fn⟩ := kp hb (b := w5.heap.size) (cs := #[.int .i64 s0, .int .i64 s1, .int .i64 s2, .int .i64 s3]) (by (first | (with_reducible exact Nat.le_refl _) | (with_reducible assumption) | omega | (simp only [World.size_alloc, World.size_setCell, World.size_drew]; omega) | (simp; omega) | (simp; done))) (fun i => by simp [go_sem]) (fun i => by simp [go_sem])
            have z6 := hb.size
            (try simp only [World.size_alloc, World.size_setCell, World.size_drew] at z6)
            have B6 := up (B := w2.heap.size) (w := w2) (by (repeat' (first | (with_reducible exact Below.refl _ _) | (with_reducible assumption) | (with_reducible refine Below.alloc ?_ ?_ _) | (with_reducible refine Below.drew ?_) | (with_reducible refine below_drewN ?_ _) | (with_reducible refine Below.setCell ?_ ?_ _) | (with_reducible exact Nat.le_refl _) | omega | (simp only [World.size_alloc, World.size_setCell, World.size_drew]; omega) | (simp; omega) | (simp; done)))) hb (by (first | (with_reducible exact Nat.le_refl _) | (with_reducible assumption) | omega | (simp only [World.size_alloc, World.size_setCell, World.size_drew]; omega) | (simp; omega) | (simp; done)))
            have BR6 := Lib.hid (BR.out.trans (up (B := w5.heap.size) (w := w5) (by (repeat' (first | (with_reducible exact Below.refl _ _) | (with_reducible assumption) | (with_reducible refine Below.alloc ?_ ?_ _) | (with_reducible refine Below.drew ?_) | (with_reducible refine below_drewN ?_ _) | (with_reducible refine Below.setCell ?_ ?_ _) | (with_reducible exact Nat.le_refl _) | omega | (simp only [World.size_alloc, World.size_setCell, World.size_drew]; omega) | (simp; omega) | (simp; done)))) hb (by (first | (with_reducible exact Nat.le_refl _) | (with_reducible assumption) | omega | (simp only [World.size_alloc, World.size_setCell, World.size_drew]; omega) | (simp; omega) | (simp; done))) |>.mono (by have := BR.out.size; omega)))
            clear hb B5 BR
            have e0 := kn 0
            have e1 := kn 1
            have e2 := kn 2
            have e3 := kn 3
            simp at e0 e1 e2 e3
            have BQ := BR6.out
            have zq := BQ.size
            go_wp2_with (first | (at_builtin; refine wpList_append_own _ rfl (.tmp 37) (.tmp 39) 22 rfl w2.heap.size 29 i0 (.agg #[.int .i64 0, .int .i64 0, .int .i64 0, .int .i64 0]) 4 32 Try.underlying22 hi hz0 hz1 hz2 rfl (by decide) u8 k (cR ((l.take k).map (turnRc f m ax ay))) rfl ?o1 ⟨w6.heap.size, 0, none⟩ 1 1 [.int .i64 s0, .int .i64 s1, .int .i64 s2, .int .i64 s3] rfl rfl ?nw ?o2 ?q4 ?q5 ?b2 ?_; (case o1 => exact ownsRow_below' HO1.out (by (repeat' (first | (with_reducible exact Below.refl _ _) | (with_reducible assumption) | (with_reducible refine Below.alloc ?_ ?_ _) | (with_reducible refine Below.drew ?_) | (with_reducible refine below_drewN ?_ _) | (with_reducible refine Below.setCell ?_ ?_ _) | (with_reducible exact Nat.le_refl _) | omega | (simp only [World.size_alloc, World.size_setCell, World.size_drew]; omega) | (simp; omega) | (simp; done))))); (case nw => exact list_new _ _ (by simp) _ _); (case o2 => simp [Value.oneCell']); (case q4 => simp only [maxLen]; omega); (case q5 => omega); (case b2 => (first | (with_reducible exact Nat.le_refl _) | (with_reducible assumption) | omega | (simp only [World.size_alloc, World.size_setCell, World.size_drew]; omega) | (simp; omega) | (simp; done))); intro v7 w7 hown2 hg2 _; have HO2 := Lib.hid hown2; have B7 := below_app (B := w2.heap.size) (w0 := w2) (by (repeat' (first | (with_reducible exact Below.refl _ _) | (with_reducible assumption) | (with_reducible refine Below.alloc ?_ ?_ _) | (with_reducible refine Below.drew ?_) | (with_reducible refine below_drewN ?_ _) | (with_reducible refine Below.setCell ?_ ?_ _) | (with_reducible exact Nat.le_refl _) | omega | (simp only [World.size_alloc, World.size_setCell, World.size_drew]; omega) | (simp; omega) | (simp; done)))) (ownsRow_below' HO1.out (by (repeat' (first | (with_reducible exact Below.refl _ _) | (with_reducible assumption) | (with_reducible refine Below.alloc ?_ ?_ _) | (with_reducible refine Below.drew ?_) | (with_reducible refine below_drewN ?_ _) | (with_reducible refine Below.setCell ?_ ?_ _) | (with_reducible exact Nat.le_refl _) | omega | (simp only [World.size_alloc, World.size_setCell, World.size_drew]; omega) | (simp; omega) | (simp; done))))) hg2 (Nat.le_refl _) (by (first | (with_reducible exact Nat.le_refl _) | (with_reducible assumption) | omega | (simp only [World.size_alloc, World.size_setCell, World.size_drew]; omega) | (simp; omega) | (simp; done))); clear hown2 hg2))
            go_roundw
            case rel => exact ⟨k + 1, by omega, by go_num, (by
              rw [HT.out]
              intro s hs
              rcases List.mem_append.1 hs with hs | hs
              · exact HGO.out s hs
              · simp at hs
                subst hs
                rw [← HTT.out]
                exact HF.out), by rw [HS.out, cR_append]; exact HO2.out, B7⟩
            case measure => simp [intOf]; omega
          · have HB := Lib.hid (show ¬ trOk f m ax ay l from fun h => hF (by rw [HTT.out]; exact h r (HRR.out ▸ List.getElem_mem hlt)))
            have hd : (rectF ⟨s0, s1, s2, s3⟩ == 0) = false := by simpa using hF
            have hd' : (rectF ⟨s0, s1, s2, s3⟩ != 0) = true := by simpa using hF
            clear hF
            generalize rectF ⟨s0, s1, s2, s3⟩ = E at *
            go_wp2_with fail
            refine (CR.out _).mono ?_
            rintro e w5 ⟨rfl, hb⟩
            have z5 := hb.size
            (try simp only [World.size_alloc, World.size_setCell, World.size_drew] at z5)
            have B5 := up (B := w2.heap.size) (w := w2) (by (repeat' (first | (with_reducible exact Below.refl _ _) | (with_reducible assumption) | (with_reducible refine Below.alloc ?_ ?_ _) | (with_reducible refine Below.drew ?_) | (with_reducible refine below_drewN ?_ _) | (with_reducible refine Below.setCell ?_ ?_ _) | (with_reducible exact Nat.le_refl _) | omega | (simp only [World.size_alloc, World.size_setCell, World.size_drew]; omega) | (simp; omega) | (simp; done)))) hb (by (first | (with_reducible exact Nat.le_refl _) | (with_reducible assumption) | omega | (simp only [World.size_alloc, World.size_setCell, World.size_drew]; omega) | (simp; omega) | (simp; done)))
            clear hb
            go_wp2_with fail
            refine (CT.out _).mono ?_
            rintro e w6 ⟨rfl, hb⟩
            have B6 := Lib.hid (up (B := w2.heap.size) (w := w2) (by (repeat' (first | (with_reducible exact Below.refl _ _) | (with_reducible assumption) | (with_reducible refine Below.alloc ?_ ?_ _) | (with_reducible refine Below.drew ?_) | (with_reducible refine below_drewN ?_ _) | (with_reducible refine Below.setCell ?_ ?_ _) | (with_reducible exact Nat.le_refl _) | omega | (simp only [World.size_alloc, World.size_setCell, World.size_drew]; omega) | (simp; omega) | (simp; done)))) hb (by (first | (with_reducible exact Nat.le_refl _) | (with_reducible assumption) | omega | (simp only [World.size_alloc, World.size_setCell, World.size_drew]; omega) | (simp; omega) | (simp; done))))
            clear hb
            obtain ⟨rfl, rfl⟩ := HNO.out HB.out
            go_wp2_with fail
            go_ret2
            exact ⟨_, rfl, own_nilR _ _ _ _, B2.out.trans (B6.out.mono B2.out.size)⟩
        · obtain rfl : k = l.length := by omega
          rw [List.take_length] at HO1 HGO
          obtain ⟨e1, e2⟩ := HOK.out HGO.out
          rw [← e1, ← e2] at C6
          clear HNO HOK e1 e2
          obtain ⟨A1, cc1, rfl, -, -, hr1, -⟩ := rd_own (l := l.map (turnRc f m ax ay)) (by rw [HLW.out]; exact HO1.out)
          have HR1 := Lib.hid hr1
          have BW := Lib.hid hbw
          generalize l.map (turnRc f m ax ay) = wl at *
          clear hr1
          go_wp2_with fail
          refine (C6.out _ _ _ HR1.out).mono ?_
          rintro e w7 ⟨v7, rfl, ho, hb⟩
          have O7 := Lib.hid (own_mono (base' := w.heap.size) ho (by omega))
          have B7 := Lib.hid (B2.out.trans ((BW.out.trans (hb.mono BW.out.size)).mono B2.out.size))
          clear ho hb
          go_wp2_with fail
          go_ret2
          exact ⟨v7, rfl, O7.out, B7.out⟩
    · rw [if_neg h1, if_neg h1]
      rw [h0] at C1
      have hd : (turnF q ax ay == 0) = false := by simpa using h1
      have hd' : (turnF q ax ay != 0) = true := by simpa using h1
      clear h0 h1
      generalize turnF q ax ay = F at *
      go_enter Try.func30, Try.ntmps30
      go_wp2_with fail
      refine (C1.out _ (H0.out.below (by (repeat' (first | (with_reducible exact Below.refl _ _) | (with_reducible assumption) | (with_reducible refine Below.alloc ?_ ?_ _) | (with_reducible refine Below.drew ?_) | (with_reducible refine below_drewN ?_ _) | (with_reducible refine Below.setCell ?_ ?_ _) | (with_reducible exact Nat.le_refl _) | omega | (simp only [World.size_alloc, World.size_setCell, World.size_drew]; omega) | (simp; omega) | (simp; done)))))).mono ?_
      rintro e w1 ⟨rfl, hb⟩
      obtain ⟨kq, fq⟩ := kp hb (b := w.heap.size) (cs := #[.bool f, .int .i64 q, .int .i64 ax, .int .i64 ay]) (by (first | (with_reducible exact Nat.le_refl _) | (with_reducible assumption) | omega | (simp only [World.size_alloc, World.size_setCell, World.size_drew]; omega) | (simp; omega) | (simp; done))) (fun i => by simp [go_sem]) (fun i => by simp [go_sem])
      have B1 := Lib.hid (up (B := w.heap.size) (w := w) (by (repeat' (first | (with_reducible exact Below.refl _ _) | (with_reducible assumption) | (with_reducible refine Below.alloc ?_ ?_ _) | (with_reducible refine Below.drew ?_) | (with_reducible refine below_drewN ?_ _) | (with_reducible refine Below.setCell ?_ ?_ _) | (with_reducible exact Nat.le_refl _) | omega | (simp only [World.size_alloc, World.size_setCell, World.size_drew]; omega) | (simp; omega) | (simp; done)))) hb (by (first | (with_reducible exact Nat.le_refl _) | (with_reducible assumption) | omega | (simp only [World.size_alloc, World.size_setCell, World.size_drew]; omega) | (simp; omega) | (simp; done))))
      clear hb
      go_wp2_with fail
      refine (C2.out _).mono ?_
      rintro e w2 ⟨rfl, hb⟩
      have B2 := Lib.hid (B1.out.trans (hb.mono B1.out.size))
      clear hb
      go_wp2_with fail
      go_ret2
      exact ⟨_, rfl, own_nilR _ _ _ _, B2.out⟩
  · rw [if_neg h0, if_neg h0]
    have hd : (regF l == 0) = false := by simpa using h0
    have hd' : (regF l != 0) = true := by simpa using h0
    clear h0
    generalize regF l = F at *
    go_enter Try.func30, Try.ntmps30
    go_wp2_with fail
    refine (C1.out _ (H0.out.below (by (repeat' (first | (with_reducible exact Below.refl _ _) | (with_reducible assumption) | (with_reducible refine Below.alloc ?_ ?_ _) | (with_reducible refine Below.drew ?_) | (with_reducible refine below_drewN ?_ _) | (with_reducible refine Below.setCell ?_ ?_ _) | (with_reducible exact Nat.le_refl _) | omega | (simp only [World.size_alloc, World.size_setCell, World.size_drew]; omega) | (simp; omega) | (simp; done)))))).mono ?_
    rintro e w1 ⟨rfl, hb⟩
    have B1 := Lib.hid (up (B := w.heap.size) (w := w) (by (repeat' (first | (with_reducible exact Below.refl _ _) | (with_reducible assumption) | (with_reducible refine Below.alloc ?_ ?_ _) | (with_reducible refine Below.drew ?_) | (with_reducible refine below_drewN ?_ _) | (with_reducible refine Below.setCell ?_ ?_ _) | (with_reducible exact Nat.le_refl _) | omega | (simp only [World.size_alloc, World.size_setCell, World.size_drew]; omega) | (simp; omega) | (simp; done)))) hb (by (first | (with_reducible exact Nat.le_refl _) | (with_reducible assumption) | omega | (simp only [World.size_alloc, World.size_setCell, World.size_drew]; omega) | (simp; omega) | (simp; done))))
    clear hb
    go_wp2_with fail
    go_ret2
    exact ⟨_, rfl, own_nilR _ _ _ _, B1.out⟩
end Go.Proofs.Ytmcbjaefnhfopaa

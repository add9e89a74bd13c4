/- Several texts in one: Turned, TurnP, Back. -/
import Derived.Test.YtjcbngpgmgeanaaTurnT
import Derived.Test.YtjcbngpgmgeanaaCanon
import Derived.Test.YtjcbngpgmgeanaaShapeM
import Derived.Test.YtjcbngpgmgeanaaPieceC
/- TurnedRegion of package shape, whatever the world. -/
namespace Go.Proofs.Ytjcbngpgmgeanaa
open Go.RowKit Go.Shelf
open Reg (R4 inR canonL inFirstK)
set_option linter.unusedSimpArgs false
set_option linter.unusedVariables false

/-- Whether what is turned is in range. -/
def trOk (f : Bool) (q : Nat) (ax ay : Int) (l : List R4) : Prop := ∀ r, r ∈ l → rectF (turnRc f q ax ay r) = 0
instance (f : Bool) (q : Nat) (ax ay : Int) (l : List R4) : Decidable (trOk f q ax ay l) := by unfold trOk; infer_instance
def trF (l : List R4) (f : Bool) (q ax ay : Int) : Int := if regF l = 0 then (if turnF q ax ay = 0 then (if trOk f q.toNat ax ay l then resF (canonL (l.map (turnRc f q.toNat ax ay))) else 1) else turnF q ax ay) else regF l
def trL (l : List R4) (f : Bool) (q ax ay : Int) : List R4 := if regF l = 0 then (if turnF q ax ay = 0 then (if trOk f q.toNat ax ay l then resL (canonL (l.map (turnRc f q.toNat ax ay))) else []) else []) else []
theorem map_snoc {β : Type} (g : R4 → β) (l : List R4) (k : Nat) (h : k < l.length) : (l.take (k + 1)).map g = (l.take k).map g ++ [g l[k]] := by
  rw [List.take_succ_eq_append_getElem h, List.map_append]
  rfl
theorem turnRc_goods {f : Bool} {q : Nat} {ax ay : Int} (hq : q ≤ 3) {l : List R4} (h : Reg.Good l) : Reg.Good (l.map (turnRc f q ax ay)) := by
  intro r hr
  obtain ⟨s, hs, rfl⟩ := List.mem_map.1 hr
  exact turnRc_good hq (h s hs)

set_option maxRecDepth 100000 in
set_option maxHeartbeats 2000000 in
theorem turned_any (A : Option Addr) (l : List R4) (c : Nat) (f : Bool) (q ax ay : Int) (w : World) (hl : l.length ≤ c) (hc : c ≤ maxLen) (hl2 : l.length ≤ 140737488355328) (h : Rd w A l) :
    Calls Try.prog 21 #[.slice A l.length c, .agg #[.bool f, .int .i64 q, .int .i64 ax, .int .i64 ay]] w (GotRF w (trL l f q ax ay) (trF l f q ax ay)) := by
  obtain ⟨i0, hi, hz0, hz1, hz2⟩ := info_parts infoR
  have H0 := Lib.hid h
  have C1 := Lib.hid (fun W h => checkRegion_anyM A l c W hl (by simpa [maxLen] using hc) hl2 h)
  have C2 := Lib.hid (fun W => checkTurn_any f q ax ay W)
  unfold GotRF trL trF
  clear h
  by_cases h0 : regF l = 0
  · rw [if_pos h0, if_pos h0]
    by_cases h1 : turnF q ax ay = 0
    · rw [if_pos h1, if_pos h1]
      obtain ⟨q0, q3, hax, hay⟩ := turnF_in h1
      obtain ⟨m, rfl⟩ := Int.eq_ofNat_of_zero_le q0
      rw [Int.toNat_natCast]
      have hm : m ≤ 3 := by omega
      obtain ⟨hg, h2000⟩ := good_of_rects (regF_zero.1 h0).1
      have hin6 := rect_in (regF_rects h0)
      have HR := Lib.hid hin6
      have C3 := Lib.hid (fun r (hr : r ∈ l) W => turnRect_any f m ax ay r W hm hax hay (hin6 r hr).1 (hin6 r hr).2.1 (hin6 r hr).2.2.1 (hin6 r hr).2.2.2.1)
      have C4 := Lib.hid (fun r W => checkRect_any r W)
      have g1 := turnRc_goods (f := f) (q := m) (ax := ax) (ay := ay) hm hg
      have C6 := Lib.hid (fun A' c' W h => combine_any inFirstK 28 eg_inFirst (fun a b W => inFirst_any a b W) rfl A' none (l.map (turnRc f m ax ay)) [] c' 0 W (by simp; omega) g1 (fun r hr => by simp at hr) h (fun hp => absurd hp (by simp)))
      rw [Reg.sweep_first g1] at C6
      simp only [List.length_nil] at C6
      unfold GotRF at C6
      have HLW := Lib.hid (show (l.map (turnRc f m ax ay)).length = l.length from List.length_map _)
      have HOK := Lib.hid (fun (h : trOk f m ax ay l) => (⟨if_pos h, if_pos h⟩ : (if trOk f m ax ay l then resL (canonL (l.map (turnRc f m ax ay))) else []) = resL (canonL (l.map (turnRc f m ax ay))) ∧ (if trOk f m ax ay l then resF (canonL (l.map (turnRc f m ax ay))) else 1) = resF (canonL (l.map (turnRc f m ax ay)))))
      have HNO := Lib.hid (fun (h : ¬ trOk f m ax ay l) => (⟨if_neg h, if_neg h⟩ : (if trOk f m ax ay l then resL (canonL (l.map (turnRc f m ax ay))) else []) = [] ∧ (if trOk f m ax ay l then resF (canonL (l.map (turnRc f m ax ay))) else 1) = 1))
      generalize (if trOk f m ax ay l then resL (canonL (l.map (turnRc f m ax ay))) else []) = L at *
      generalize (if trOk f m ax ay l then resF (canonL (l.map (turnRc f m ax ay))) else 1) = F at *
      rw [h0] at C1
      rw [h1] at C2
      clear h0 h1 q0 q3 hax hay hin6 hg g1
      go_enter Try.func21, Try.ntmps21
      go_wp2_with fail
      refine (C1.out _ (H0.out.below (by (repeat' (first | (with_reducible exact Below.refl _ _) | (with_reducible assumption) | (with_reducible refine Below.alloc ?_ ?_ _) | (with_reducible refine Below.drew ?_) | (with_reducible refine below_drewN ?_ _) | (with_reducible refine Below.setCell ?_ ?_ _) | (with_reducible exact Nat.le_refl _) | omega | (simp only [World.size_alloc, World.size_setCell, World.size_drew]; omega) | (simp; omega) | (simp; done)))))).mono ?_
      rintro e w1 ⟨rfl, hb⟩
      obtain ⟨kq, fq⟩ := kp hb (b := w.heap.size) (cs := #[.bool f, .int .i64 m, .int .i64 ax, .int .i64 ay]) (by (first | (with_reducible exact Nat.le_refl _) | (with_reducible assumption) | omega | (simp only [World.size_alloc, World.size_setCell, World.size_drew]; omega) | (simp; omega) | (simp; done))) (fun i => by simp [go_sem]) (fun i => by simp [go_sem])
      have z1 := hb.size
      (try simp only [World.size_alloc, World.size_setCell, World.size_drew] at z1)
      have P1 := Lib.hid ((H0.out.below (by (repeat' (first | (with_reducible exact Below.refl _ _) | (with_reducible assumption) | (with_reducible refine Below.alloc ?_ ?_ _) | (with_reducible refine Below.drew ?_) | (with_reducible refine below_drewN ?_ _) | (with_reducible refine Below.setCell ?_ ?_ _) | (with_reducible exact Nat.le_refl _) | omega | (simp only [World.size_alloc, World.size_setCell, World.size_drew]; omega) | (simp; omega) | (simp; done))))).below hb)
      have B1 := Lib.hid (up (B := w.heap.size) (w := w) (by (repeat' (first | (with_reducible exact Below.refl _ _) | (with_reducible assumption) | (with_reducible refine Below.alloc ?_ ?_ _) | (with_reducible refine Below.drew ?_) | (with_reducible refine below_drewN ?_ _) | (with_reducible refine Below.setCell ?_ ?_ _) | (with_reducible exact Nat.le_refl _) | omega | (simp only [World.size_alloc, World.size_setCell, World.size_drew]; omega) | (simp; omega) | (simp; done)))) hb (by (first | (with_reducible exact Nat.le_refl _) | (with_reducible assumption) | omega | (simp only [World.size_alloc, World.size_setCell, World.size_drew]; omega) | (simp; omega) | (simp; done))))
      clear hb
      go_wp2_with fail
      refine (C2.out _).mono ?_
      rintro e w2 ⟨rfl, hb⟩
      obtain ⟨kr, fr⟩ := kp hb (b := w.heap.size) (cs := #[.bool f, .int .i64 m, .int .i64 ax, .int .i64 ay]) (by (first | (with_reducible exact Nat.le_refl _) | (with_reducible assumption) | omega | (simp only [World.size_alloc, World.size_setCell, World.size_drew]; omega) | (simp; omega) | (simp; done))) kq fq
      have z2 := hb.size
      have P2 := Lib.hid (P1.out.below hb)
      have B2 := Lib.hid (B1.out.trans (hb.mono B1.out.size))
      have l2 : w.heap.size < w2.heap.size := by omega
      have KR := Lib.hid kr
      clear hb kq fq kr fr P1 B1
      go_wp2_with (first | (at_make; refine wpList_make_own _ rfl (.const (.int .i64 0)) (.tmp 23) 22 rfl w2.heap.size 30 i0 (.agg #[.int .i64 0, .int .i64 0, .int .i64 0, .int .i64 0]) 4 Try.underlying22 hi hz0 hz1 .i64 .i64 (l.length : Int) l.length rfl rfl ?m1 ?m2 ?m3 ?m4 ?_; (case m1 => omega); (case m2 => rw [hz2]; omega); (case m3 => simp only [maxLen]; omega); (case m4 => (first | (with_reducible exact Nat.le_refl _) | (with_reducible assumption) | omega | (simp only [World.size_alloc, World.size_setCell, World.size_drew]; omega) | (simp; omega) | (simp; done))); intro w3 hown hg; have HO := Lib.hid hown; have B3 := (Below.refl w2.heap.size w2).grown hg (Nat.le_refl _) (fun j hj => by cases hj); have z3 := hg.size; clear hown hg))
      go_loopw [8, 27] (fun v8 i wr => ∃ k : Nat, k ≤ l.length ∧ i = .int .i64 k ∧ (∀ r, r ∈ l.take k → rectF (turnRc f m ax ay r) = 0) ∧ wr.ownsRow w2.heap.size 30 4 v8 k (cR ((l.take k).map (turnRc f m ax ay))) ∧ Below w2.heap.size w2 wr) (fun _ i _ => l.length - (intOf i).toNat)
      case atStart => exact ⟨0, Nat.zero_le _, rfl, (fun r hr => by simp at hr), HO.out, B3⟩
      case round =>
        obtain ⟨k, hk, rfl, hgood, hown, hbw⟩ := hrel
        have zw := hbw.size
        have HO1 := Lib.hid hown
        have HGO := Lib.hid hgood
        clear hown hgood
        have hkz : (0 : Int) ≤ (k : Int) := by omega
        have kt := fun i => ((bcell hbw).1 w.heap.size i l2).trans (KR.out i)
        have t0 := kt 0
        have t1 := kt 1
        have t2 := kt 2
        have t3 := kt 3
        simp at t0 t1 t2 t3
        have lw : w.heap.size < wr.heap.size := by omega
        have nw : ¬ w.heap.size = wr.heap.size := Nat.ne_of_lt lw
        have nw' : ¬ wr.heap.size = w.heap.size := fun h => nw h.symm
        by_cases hlt : k < l.length
        · obtain ⟨b, off, rfl, hblt, hcs⟩ := P2.out.below hbw (by omega)
          have hi1 : l[k]? = some l[k] := List.getElem?_eq_getElem hlt
          obtain ⟨c0, c1, c2, c3⟩ := hcs k _ hi1
          have HS := Lib.hid (map_snoc (turnRc f m ax ay) l k hlt)
          have HM := Lib.hid (List.getElem_mem hlt)
          have HT := Lib.hid (List.take_succ_eq_append_getElem hlt)
          have CR := Lib.hid (fun W => C3.out l[k] HM.out W)
          clear hi1 hcs
          generalize hr : l[k] = r at *
          have HRR := Lib.hid hr
          clear hr
          have hklt : (k : Int) < (l.length : Int) := by omega
          obtain ⟨T, hT⟩ : ∃ T, T = turnRc f m ax ay r := ⟨_, rfl⟩
          rw [← hT] at CR HS
          have CT := Lib.hid (fun W => C4.out T W)
          obtain ⟨s0, s1, s2, s3⟩ := T
          simp only [rv] at CR CT
          have HTT := Lib.hid hT
          clear hT
          by_cases hF : rectF ⟨s0, s1, s2, s3⟩ = 0
          · rw [hF] at CT
            have HF := Lib.hid hF
            clear hF
            go_wp2_with fail
            refine (CR.out _).mono ?_
            rintro e w5 ⟨rfl, hb⟩
            have z5 := hb.size
            (try simp only [World.size_alloc, World.size_setCell, World.size_drew] at z5)
            have B5 := up (B := w2.heap.size) (w := w2) (by (repeat' (first | (with_reducible exact Below.refl _ _) | (with_reducible assumption) | (with_reducible refine Below.alloc ?_ ?_ _) | (with_reducible refine Below.drew ?_) | (with_reducible refine below_drewN ?_ _) | (with_reducible refine Below.setCell ?_ ?_ _) | (with_reducible exact Nat.le_refl _) | omega | (simp only [World.size_alloc, World.size_setCell, World.size_drew]; omega) | (simp; omega) | (simp; done)))) hb (by (first | (with_reducible exact Nat.le_refl _) | (with_reducible assumption) | omega | (simp only [World.size_alloc, World.size_setCell, World.size_drew]; omega) | (simp; omega) | (simp; done)))
            have BR := Lib.hid (up (B := wr.heap.size) (w := wr) (by (repeat' (first | (with_reducible exact Below.refl _ _) | (with_reducible assumption) | (with_reducible refine Below.alloc ?_ ?_ _) | (with_reducible refine Below.drew ?_) | (with_reducible refine below_drewN ?_ _) | (with_reducible refine Below.setCell ?_ ?_ _) | (with_reducible exact Nat.le_refl _) | omega | (simp only [World.size_alloc, World.size_setCell, World.size_drew]; omega) | (simp; omega) | (simp; done)))) hb (by (first | (with_reducible exact Nat.le_refl _) | (with_reducible assumption) | omega | (simp only [World.size_alloc, World.size_setCell, World.size_drew]; omega) | (simp; omega) | (simp; done))))
            clear hb
            go_wp2_with fail
            refine (CT.out _).mono ?_
            rintro e w6 ⟨rfl, hb⟩
            obtain ⟨kn, fn⟩ := kp hb (b := w5.heap.size) (cs := #[.int .i64 s0, .int .i64 s1, .int .i64 s2, .int .i64 s3]) (by (first | (with_reducible exact Nat.le_refl _) | (with_reducible assumption) | omega | (simp only [World.size_alloc, World.size_setCell, World.size_drew]; omega) | (simp; omega) | (simp; done))) (fun i => by simp [go_sem]) (fun i => by simp [go_sem])
            have z6 := hb.size
            (try simp only [World.size_alloc, World.size_setCell, World.size_drew] at z6)
            have B6 := up (B := w2.heap.size) (w := w2) (by (repeat' (first | (with_reducible exact Below.refl _ _) | (with_reducible assumption) | (with_reducible refine Below.alloc ?_ ?_ _) | (with_reducible refine Below.drew ?_) | (with_reducible refine below_drewN ?_ _) | (with_reducible refine Below.setCell ?_ ?_ _) | (with_reducible exact Nat.le_refl _) | omega | (simp only [World.size_alloc, World.size_setCell, World.size_drew]; omega) | (simp; omega) | (simp; done)))) hb (by (first | (with_reducible exact Nat.le_refl _) | (with_reducible assumption) | omega | (simp only [World.size_alloc, World.size_setCell, World.size_drew]; omega) | (simp; omega) | (simp; done)))
            have BR6 := Lib.hid (BR.out.trans (up (B := w5.heap.size) (w := w5) (by (repeat' (first | (with_reducible exact Below.refl _ _) | (with_reducible assumption) | (with_reducible refine Below.alloc ?_ ?_ _) | (with_reducible refine Below.drew ?_) | (with_reducible refine below_drewN ?_ _) | (with_reducible refine Below.setCell ?_ ?_ _) | (with_reducible exact Nat.le_refl _) | omega | (simp only [World.size_alloc, World.size_setCell, World.size_drew]; omega) | (simp; omega) | (simp; done)))) hb (by (first | (with_reducible exact Nat.le_refl _) | (with_reducible assumption) | omega | (simp only [World.size_alloc, World.size_setCell, World.size_drew]; omega) | (simp; omega) | (simp; done))) |>.mono (by have := BR.out.size; omega)))
            clear hb B5 BR
            have e0 := kn 0
            have e1 := kn 1
            have e2 := kn 2
            have e3 := kn 3
            simp at e0 e1 e2 e3
            have BQ := BR6.out
            have zq := BQ.size
            go_wp2_with (first | (at_builtin; refine wpList_append_own _ rfl (.tmp 37) (.tmp 39) 22 rfl w2.heap.size 30 i0 (.agg #[.int .i64 0, .int .i64 0, .int .i64 0, .int .i64 0]) 4 32 Try.underlying22 hi hz0 hz1 hz2 rfl (by decide) u8 k (cR ((l.take k).map (turnRc f m ax ay))) rfl ?o1 ⟨w6.heap.size, 0, none⟩ 1 1 [.int .i64 s0, .int .i64 s1, .int .i64 s2, .int .i64 s3] rfl rfl ?nw ?o2 ?q4 ?q5 ?b2 ?_; (case o1 => exact ownsRow_below' HO1.out (by (repeat' (first | (with_reducible exact Below.refl _ _) | (with_reducible assumption) | (with_reducible refine Below.alloc ?_ ?_ _) | (with_reducible refine Below.drew ?_) | (with_reducible refine below_drewN ?_ _) | (with_reducible refine Below.setCell ?_ ?_ _) | (with_reducible exact Nat.le_refl _) | omega | (simp only [World.size_alloc, World.size_setCell, World.size_drew]; omega) | (simp; omega) | (simp; done))))); (case nw => exact list_new _ _ (by simp) _ _); (case o2 => simp [Value.oneCell']); (case q4 => simp only [maxLen]; omega); (case q5 => omega); (case b2 => (first | (with_reducible exact Nat.le_refl _) | (with_reducible assumption) | omega | (simp only [World.size_alloc, World.size_setCell, World.size_drew]; omega) | (simp; omega) | (simp; done))); intro v7 w7 hown2 hg2 _; have HO2 := Lib.hid hown2; have B7 := below_app (B := w2.heap.size) (w0 := w2) (by (repeat' (first | (with_reducible exact Below.refl _ _) | (with_reducible assumption) | (with_reducible refine Below.alloc ?_ ?_ _) | (with_reducible refine Below.drew ?_) | (with_reducible refine below_drewN ?_ _) | (with_reducible refine Below.setCell ?_ ?_ _) | (with_reducible exact Nat.le_refl _) | omega | (simp only [World.size_alloc, World.size_setCell, World.size_drew]; omega) | (simp; omega) | (simp; done)))) (ownsRow_below' HO1.out (by (repeat' (first | (with_reducible exact Below.refl _ _) | (with_reducible assumption) | (with_reducible refine Below.alloc ?_ ?_ _) | (with_reducible refine Below.drew ?_) | (with_reducible refine below_drewN ?_ _) | (with_reducible refine Below.setCell ?_ ?_ _) | (with_reducible exact Nat.le_refl _) | omega | (simp only [World.size_alloc, World.size_setCell, World.size_drew]; omega) | (simp; omega) | (simp; done))))) hg2 (Nat.le_refl _) (by (first | (with_reducible exact Nat.le_refl _) | (with_reducible assumption) | omega | (simp only [World.size_alloc, World.size_setCell, World.size_drew]; omega) | (simp; omega) | (simp; done))); clear hown2 hg2))
            go_roundw
            case rel => exact ⟨k + 1, by omega, by go_num, (by
              rw [HT.out]
              intro s hs
              rcases List.mem_append.1 hs with hs | hs
              · exact HGO.out s hs
              · simp at hs
                subst hs
                rw [← HTT.out]
                exact HF.out), by rw [HS.out, cR_append]; exact HO2.out, B7⟩
            case measure => simp [intOf]; omega
          · have HB := Lib.hid (show ¬ trOk f m ax ay l from fun h => hF (by rw [HTT.out]; exact h r (HRR.out ▸ List.getElem_mem hlt)))
            have hd : (rectF ⟨s0, s1, s2, s3⟩ == 0) = false := by simpa using hF
            have hd' : (rectF ⟨s0, s1, s2, s3⟩ != 0) = true := by simpa using hF
            clear hF
            generalize rectF ⟨s0, s1, s2, s3⟩ = E at *
            go_wp2_with fail
            refine (CR.out _).mono ?_
            rintro e w5 ⟨rfl, hb⟩
            have z5 := hb.size
            (try simp only [World.size_alloc, World.size_setCell, World.size_drew] at z5)
            have B5 := up (B := w2.heap.size) (w := w2) (by (repeat' (first | (with_reducible exact Below.refl _ _) | (with_reducible assumption) | (with_reducible refine Below.alloc ?_ ?_ _) | (with_reducible refine Below.drew ?_) | (with_reducible refine below_drewN ?_ _) | (with_reducible refine Below.setCell ?_ ?_ _) | (with_reducible exact Nat.le_refl _) | omega | (simp only [World.size_alloc, World.size_setCell, World.size_drew]; omega) | (simp; omega) | (simp; done)))) hb (by (first | (with_reducible exact Nat.le_refl _) | (with_reducible assumption) | omega | (simp only [World.size_alloc, World.size_setCell, World.size_drew]; omega) | (simp; omega) | (simp; done)))
            clear hb
            go_wp2_with fail
            refine (CT.out _).mono ?_
            rintro e w6 ⟨rfl, hb⟩
            have B6 := Lib.hid (up (B := w2.heap.size) (w := w2) (by (repeat' (first | (with_reducible exact Below.refl _ _) | (with_reducible assumption) | (with_reducible refine Below.alloc ?_ ?_ _) | (with_reducible refine Below.drew ?_) | (with_reducible refine below_drewN ?_ _) | (with_reducible refine Below.setCell ?_ ?_ _) | (with_reducible exact Nat.le_refl _) | omega | (simp only [World.size_alloc, World.size_setCell, World.size_drew]; omega) | (simp; omega) | (simp; done)))) hb (by (first | (with_reducible exact Nat.le_refl _) | (with_reducible assumption) | omega | (simp only [World.size_alloc, World.size_setCell, World.size_drew]; omega) | (simp; omega) | (simp; done))))
            clear hb
            obtain ⟨rfl, rfl⟩ := HNO.out HB.out
            go_wp2_with fail
            go_ret2
            exact ⟨_, rfl, own_nilR _ _ _ _, B2.out.trans (B6.out.mono B2.out.size)⟩
        · obtain rfl : k = l.length := by omega
          rw [List.take_length] at HO1 HGO
          obtain ⟨e1, e2⟩ := HOK.out HGO.out
          rw [← e1, ← e2] at C6
          clear HNO HOK e1 e2
          obtain ⟨A1, cc1, rfl, -, -, hr1, -⟩ := rd_own (l := l.map (turnRc f m ax ay)) (by rw [HLW.out]; exact HO1.out)
          have HR1 := Lib.hid hr1
          have BW := Lib.hid hbw
          generalize l.map (turnRc f m ax ay) = wl at *
          clear hr1
          go_wp2_with fail
          refine (C6.out _ _ _ HR1.out).mono ?_
          rintro e w7 ⟨v7, rfl, ho, hb⟩
          have O7 := Lib.hid (own_mono (base' := w.heap.size) ho (by omega))
          have B7 := Lib.hid (B2.out.trans ((BW.out.trans (hb.mono BW.out.size)).mono B2.out.size))
          clear ho hb
          go_wp2_with fail
          go_ret2
          exact ⟨v7, rfl, O7.out, B7.out⟩
    · rw [if_neg h1, if_neg h1]
      rw [h0] at C1
      have hd : (turnF q ax ay == 0) = false := by simpa using h1
      have hd' : (turnF q ax ay != 0) = true := by simpa using h1
      clear h0 h1
      generalize turnF q ax ay = F at *
      go_enter Try.func21, Try.ntmps21
      go_wp2_with fail
      refine (C1.out _ (H0.out.below (by (repeat' (first | (with_reducible exact Below.refl _ _) | (with_reducible assumption) | (with_reducible refine Below.alloc ?_ ?_ _) | (with_reducible refine Below.drew ?_) | (with_reducible refine below_drewN ?_ _) | (with_reducible refine Below.setCell ?_ ?_ _) | (with_reducible exact Nat.le_refl _) | omega | (simp only [World.size_alloc, World.size_setCell, World.size_drew]; omega) | (simp; omega) | (simp; done)))))).mono ?_
      rintro e w1 ⟨rfl, hb⟩
      obtain ⟨kq, fq⟩ := kp hb (b := w.heap.size) (cs := #[.bool f, .int .i64 q, .int .i64 ax, .int .i64 ay]) (by (first | (with_reducible exact Nat.le_refl _) | (with_reducible assumption) | omega | (simp only [World.size_alloc, World.size_setCell, World.size_drew]; omega) | (simp; omega) | (simp; done))) (fun i => by simp [go_sem]) (fun i => by simp [go_sem])
      have B1 := Lib.hid (up (B := w.heap.size) (w := w) (by (repeat' (first | (with_reducible exact Below.refl _ _) | (with_reducible assumption) | (with_reducible refine Below.alloc ?_ ?_ _) | (with_reducible refine Below.drew ?_) | (with_reducible refine below_drewN ?_ _) | (with_reducible refine Below.setCell ?_ ?_ _) | (with_reducible exact Nat.le_refl _) | omega | (simp only [World.size_alloc, World.size_setCell, World.size_drew]; omega) | (simp; omega) | (simp; done)))) hb (by (first | (with_reducible exact Nat.le_refl _) | (with_reducible assumption) | omega | (simp only [World.size_alloc, World.size_setCell, World.size_drew]; omega) | (simp; omega) | (simp; done))))
      clear hb
      go_wp2_with fail
      refine (C2.out _).mono ?_
      rintro e w2 ⟨rfl, hb⟩
      have B2 := Lib.hid (B1.out.trans (hb.mono B1.out.size))
      clear hb
      go_wp2_with fail
      go_ret2
      exact ⟨_, rfl, own_nilR _ _ _ _, B2.out⟩
  · rw [if_neg h0, if_neg h0]
    have hd : (regF l == 0) = false := by simpa using h0
    have hd' : (regF l != 0) = true := by simpa using h0
    clear h0
    generalize regF l = F at *
    go_enter Try.func21, Try.ntmps21
    go_wp2_with fail
    refine (C1.out _ (H0.out.below (by (repeat' (first | (with_reducible exact Below.refl _ _) | (with_reducible assumption) | (with_reducible refine Below.alloc ?_ ?_ _) | (with_reducible refine Below.drew ?_) | (with_reducible refine below_drewN ?_ _) | (with_reducible refine Below.setCell ?_ ?_ _) | (with_reducible exact Nat.le_refl _) | omega | (simp only [World.size_alloc, World.size_setCell, World.size_drew]; omega) | (simp; omega) | (simp; done)))))).mono ?_
    rintro e w1 ⟨rfl, hb⟩
    have B1 := Lib.hid (up (B := w.heap.size) (w := w) (by (repeat' (first | (with_reducible exact Below.refl _ _) | (with_reducible assumption) | (with_reducible refine Below.alloc ?_ ?_ _) | (with_reducible refine Below.drew ?_) | (with_reducible refine below_drewN ?_ _) | (with_reducible refine Below.setCell ?_ ?_ _) | (with_reducible exact Nat.le_refl _) | omega | (simp only [World.size_alloc, World.size_setCell, World.size_drew]; omega) | (simp; omega) | (simp; done)))) hb (by (first | (with_reducible exact Nat.le_refl _) | (with_reducible assumption) | omega | (simp only [World.size_alloc, World.size_setCell, World.size_drew]; omega) | (simp; omega) | (simp; done))))
    clear hb
    go_wp2_with fail
    go_ret2
    exact ⟨_, rfl, own_nilR _ _ _ _, B1.out⟩
end Go.Proofs.Ytjcbngpgmgeanaa
/- Plain mathematics of turned regions: as many pieces and holes, the same area, and turned back the region. -/
namespace Go.Proofs.Ytjcbngpgmgeanaa
open Go.RowKit
open Reg (R4 Span Band inR canonL cntR)
set_option linter.unusedSimpArgs false
set_option linter.unusedVariables false

def bq (f : Bool) (q : Nat) : Nat := if f then q else (4 - q) % 4
def bX (f : Bool) (q : Nat) (ax ay : Int) : Int := -(tpx f (bq f q) 0 ax ay)
def bY (f : Bool) (q : Nat) (ax ay : Int) : Int := -(tpy f (bq f q) 0 ax ay)
theorem bq_le {f : Bool} {q : Nat} (h : q ≤ 3) : bq f q ≤ 3 := by unfold bq; split <;> omega
theorem back_rc {f : Bool} {q : Nat} {ax ay : Int} {r : R4} (hq : q ≤ 3) (h : r.x0 < r.x1 ∧ r.y0 < r.y1) : turnRc f (bq f q) (bX f q ax ay) (bY f q ax ay) (turnRc f q ax ay r) = r := by
  obtain ⟨a, b, c, d⟩ := r
  simp only at h
  rcases q_cases hq with rfl | rfl | rfl | rfl <;> cases f <;> simp [turnRc, bq, bX, bY, tpx, tpy, rot, flipX, minI, maxI] <;> (refine ⟨?_, ?_, ?_, ?_⟩ <;> (repeat' split) <;> omega)
def sqT (x y : Int) : R4 := ⟨x, y, x + 1, y + 1⟩
/-- Where a square comes. -/
def trS (f : Bool) (q : Nat) (ax ay x y : Int) : Int × Int := ((turnRc f q ax ay (sqT x y)).x0, (turnRc f q ax ay (sqT x y)).y0)
theorem trS_has {f : Bool} {q : Nat} {ax ay x y : Int} {r : R4} (hq : q ≤ 3) : (turnRc f q ax ay r).has (trS f q ax ay x y).1 (trS f q ax ay x y).2 ↔ (r.has x y ∨ (r.x1 ≤ x ∧ x < r.x0 ∧ r.y0 ≤ y ∧ y < r.y1) ∨ (r.x0 ≤ x ∧ x < r.x1 ∧ r.y1 ≤ y ∧ y < r.y0) ∨ (r.x1 ≤ x ∧ x < r.x0 ∧ r.y1 ≤ y ∧ y < r.y0)) := by
  obtain ⟨a, b, c, d⟩ := r
  rcases q_cases hq with rfl | rfl | rfl | rfl <;> cases f <;> simp [trS, sqT, turnRc, tpx, tpy, rot, flipX, minI, maxI, R4.has] <;> (repeat' split) <;> omega
theorem trS_in {f : Bool} {q : Nat} {ax ay x y : Int} {r : R4} (hq : q ≤ 3) (h : r.x0 < r.x1 ∧ r.y0 < r.y1) : (turnRc f q ax ay r).has (trS f q ax ay x y).1 (trS f q ax ay x y).2 ↔ r.has x y := by
  rw [trS_has hq]
  constructor
  · rintro (k | k | k | k)
    · exact k
    · omega
    · omega
    · omega
  · exact .inl
theorem trS_inR {f : Bool} {q : Nat} {ax ay x y : Int} {l : List R4} (hq : q ≤ 3) (hg : Reg.Good l) : inR (l.map (turnRc f q ax ay)) (trS f q ax ay x y).1 (trS f q ax ay x y).2 ↔ inR l x y := by
  constructor
  · rintro ⟨r, hr, hh⟩
    obtain ⟨s, hs, rfl⟩ := List.mem_map.1 hr
    exact ⟨s, hs, (trS_in hq (hg s hs)).1 hh⟩
  · rintro ⟨s, hs, hh⟩
    exact ⟨_, List.mem_map_of_mem hs, (trS_in hq (hg s hs)).2 hh⟩
theorem trS_back {f : Bool} {q : Nat} {ax ay x y : Int} (hq : q ≤ 3) : trS f (bq f q) (bX f q ax ay) (bY f q ax ay) (trS f q ax ay x y).1 (trS f q ax ay x y).2 = (x, y) := by
  rcases q_cases hq with rfl | rfl | rfl | rfl <;> cases f <;> simp [trS, sqT, turnRc, bq, bX, bY, tpx, tpy, rot, flipX, minI, maxI] <;> (refine ⟨?_, ?_⟩ <;> (repeat' split) <;> omega)
theorem trS_fore {f : Bool} {q : Nat} {ax ay x y : Int} (hq : q ≤ 3) : trS f q ax ay (trS f (bq f q) (bX f q ax ay) (bY f q ax ay) x y).1 (trS f (bq f q) (bX f q ax ay) (bY f q ax ay) x y).2 = (x, y) := by
  rcases q_cases hq with rfl | rfl | rfl | rfl <;> cases f <;> simp [trS, sqT, turnRc, bq, bX, bY, tpx, tpy, rot, flipX, minI, maxI] <;> (refine ⟨?_, ?_⟩ <;> (repeat' split) <;> omega)
theorem trS_next {f : Bool} {q : Nat} {ax ay x y u v : Int} (hq : q ≤ 3) (h : Nxt x y u v ∨ Nxt u v x y) : Nxt (trS f q ax ay x y).1 (trS f q ax ay x y).2 (trS f q ax ay u v).1 (trS f q ax ay u v).2 ∨ Nxt (trS f q ax ay u v).1 (trS f q ax ay u v).2 (trS f q ax ay x y).1 (trS f q ax ay x y).2 := by
  simp only [Nxt] at h ⊢
  rcases h with (⟨h1, h2⟩ | ⟨h1, h2⟩) | (⟨h1, h2⟩ | ⟨h1, h2⟩) <;> subst h1 h2 <;> rcases q_cases hq with rfl | rfl | rfl | rfl <;> cases f <;> simp [trS, sqT, turnRc, tpx, tpy, rot, flipX, minI, maxI] <;> (repeat' split) <;> omega

/-! ## Two regions whose squares belong together -/
structure Iso (l m : List R4) (S S' : Int → Int → Int × Int) : Prop where
  a : ∀ x y, inR l x y → inR m (S x y).1 (S x y).2
  b : ∀ x y, inR m x y → inR l (S' x y).1 (S' x y).2
  c : ∀ x y, S' (S x y).1 (S x y).2 = (x, y)
  d : ∀ x y, S (S' x y).1 (S' x y).2 = (x, y)
  n : ∀ x y u v, Nxt x y u v ∨ Nxt u v x y → Nxt (S x y).1 (S x y).2 (S u v).1 (S u v).2 ∨ Nxt (S u v).1 (S u v).2 (S x y).1 (S x y).2
  k : ∀ x y u v, Nxt x y u v ∨ Nxt u v x y → Nxt (S' x y).1 (S' x y).2 (S' u v).1 (S' u v).2 ∨ Nxt (S' u v).1 (S' u v).2 (S' x y).1 (S' x y).2
theorem Iso.symm {l m : List R4} {S S' : Int → Int → Int × Int} (h : Iso l m S S') : Iso m l S' S := ⟨h.b, h.a, h.d, h.c, h.k, h.n⟩
theorem Iso.way {l m : List R4} {S S' : Int → Int → Int × Int} (h : Iso l m S S') {x y u v : Int} (w : SqWay l x y u v) : SqWay m (S x y).1 (S x y).2 (S u v).1 (S u v).2 := by
  induction w with
  | stay k => exact .stay (h.a _ _ k)
  | go k n _ ih => exact .go (h.a _ _ k) (h.n _ _ _ _ n) ih
theorem Iso.le {l m : List R4} {S S' : Int → Int → Int × Int} (h : Iso l m S S') (hl : Cn l) (hm : Cn m) (p q : List R4 → Bool)
    (h3 : ∀ P, P ∈ pcsL l → p P = true → ∀ Q, Q ∈ pcsL m → ∀ x y, inR P x y → inR Q (S x y).1 (S x y).2 → q Q = true) : ((pcsL l).filter p).length ≤ ((pcsL m).filter q).length := by
  refine pcs_inj hl hm S p q h.a (fun x y u v _ _ w => ?_) h3
  have := h.symm.way w
  rw [h.c, h.c] at this
  exact this
theorem Iso.pcs {l m : List R4} {S S' : Int → Int → Int × Int} (h : Iso l m S S') (hl : Cn l) (hm : Cn m) : (pcsL l).length = (pcsL m).length := by
  have e : ∀ L : List (List R4), L.filter (fun _ => true) = L := fun L => List.filter_eq_self.2 fun _ _ => rfl
  have h1 := h.le hl hm (fun _ => true) (fun _ => true) (fun _ _ _ _ _ _ _ _ _ => rfl)
  have h2 := h.symm.le hm hl (fun _ => true) (fun _ => true) (fun _ _ _ _ _ _ _ _ _ => rfl)
  rw [e, e] at h1 h2
  omega
/-- The holes: boxes belong together, too. -/
theorem Iso.hls_le {l m : List R4} {S S' : Int → Int → Int × Int} (h : Iso (outL l) (outL m) S S') (hl : regF l = 0) (hm : regF m = 0) (pl : 0 < l.length) (pm : 0 < m.length)
    (hb : ∀ x y, inBox (aroundR l) (S' x y).1 (S' x y).2 → inBox (aroundR m) x y) : (hlsL l).length ≤ (hlsL m).length := by
  have cl := cn_out hl pl
  have cm := cn_out hm pm
  refine h.le cl cm _ _ fun P hP hp Q hQ x y hx hy => ?_
  have k := (hlB_iff (pc_good cl hP) (pc_pos cl hP)).1 hp
  refine (hlB_iff (pc_good cm hQ) (pc_pos cm hQ)).2 fun u v hu => ?_
  have w := h.symm.way (pc_conn cm hQ hy hu)
  rw [h.c] at w
  exact hb u v (k _ _ (pc_way cl hP hx w).last)
theorem Iso.hls {l m : List R4} {S S' : Int → Int → Int × Int} (h : Iso (outL l) (outL m) S S') (hl : regF l = 0) (hm : regF m = 0) (pl : 0 < l.length) (pm : 0 < m.length)
    (hb : ∀ x y, inBox (aroundR l) x y ↔ inBox (aroundR m) (S x y).1 (S x y).2) : (hlsL l).length = (hlsL m).length := by
  have h1 := h.hls_le hl hm pl pm fun x y k => by
    have := (hb _ _).1 k
    rw [h.d] at this
    exact this
  have h2 := h.symm.hls_le hm hl pm pl fun x y k => (hb x y).2 k
  omega

/-! ## A turned region -/
theorem tr_zero {l : List R4} {f : Bool} {q ax ay : Int} (h : trF l f q ax ay = 0) :
    regF l = 0 ∧ turnF q ax ay = 0 ∧ (0 ≤ q ∧ q ≤ 3) ∧ In6 ax ∧ In6 ay ∧ trOk f q.toNat ax ay l ∧ trL l f q ax ay = canonL (l.map (turnRc f q.toNat ax ay)) ∧ (canonL (l.map (turnRc f q.toNat ax ay))).length ≤ 2000 := by
  unfold trF at h
  unfold trL
  by_cases h0 : regF l = 0
  · rw [if_pos h0] at h ⊢
    by_cases h1 : turnF q ax ay = 0
    · rw [if_pos h1] at h ⊢
      by_cases h2 : trOk f q.toNat ax ay l
      · rw [if_pos h2] at h ⊢
        have h3 := resF_zero.1 h
        have h4 : 0 ≤ q ∧ q ≤ 3 ∧ (okAt ax && okAt ay) = true := by
          refine Classical.byContradiction fun k => ?_
          rw [turnF_one k] at h1
          cases h1
        have h5 : In6 ax ∧ In6 ay := by
          have := h4.2.2
          simp only [okAt, Bool.and_eq_true, decide_eq_true_eq] at this
          simp only [In6]
          omega
        exact ⟨h0, h1, ⟨h4.1, h4.2.1⟩, h5.1, h5.2, h2, by unfold resL; rw [if_pos h3], h3⟩
      · rw [if_neg h2] at h; cases h
    · rw [if_neg h1] at h; exact absurd h h1
  · rw [if_neg h0] at h; exact absurd h h0
theorem ite_iff {a b : Prop} [Decidable a] [Decidable b] (h : a ↔ b) : (if a then (1 : Int) else 0) = if b then 1 else 0 := by
  by_cases k : a
  · rw [if_pos k, if_pos (h.1 k)]
  · rw [if_neg k, if_neg (fun e => k (h.2 e))]
theorem turn_area {f : Bool} {q : Nat} {ax ay : Int} {r : R4} (hq : q ≤ 3) (h : r.x0 < r.x1 ∧ r.y0 < r.y1) : ((turnRc f q ax ay r).x1 - (turnRc f q ax ay r).x0) * ((turnRc f q ax ay r).y1 - (turnRc f q ax ay r).y0) = (r.x1 - r.x0) * (r.y1 - r.y0) := by
  have key : (((turnRc f q ax ay r).x1 - (turnRc f q ax ay r).x0 = r.x1 - r.x0) ∧ ((turnRc f q ax ay r).y1 - (turnRc f q ax ay r).y0 = r.y1 - r.y0)) ∨ (((turnRc f q ax ay r).x1 - (turnRc f q ax ay r).x0 = r.y1 - r.y0) ∧ ((turnRc f q ax ay r).y1 - (turnRc f q ax ay r).y0 = r.x1 - r.x0)) := by
    obtain ⟨a, b, c, d⟩ := r
    simp only at h
    rcases q_cases hq with rfl | rfl | rfl | rfl
    · refine .inl ?_
      cases f <;> simp [turnRc, tpx, tpy, rot, flipX, minI, maxI] <;> (refine ⟨?_, ?_⟩ <;> (repeat' split) <;> omega)
    · refine .inr ?_
      cases f <;> simp [turnRc, tpx, tpy, rot, flipX, minI, maxI] <;> (refine ⟨?_, ?_⟩ <;> (repeat' split) <;> omega)
    · refine .inl ?_
      cases f <;> simp [turnRc, tpx, tpy, rot, flipX, minI, maxI] <;> (refine ⟨?_, ?_⟩ <;> (repeat' split) <;> omega)
    · refine .inr ?_
      cases f <;> simp [turnRc, tpx, tpy, rot, flipX, minI, maxI] <;> (refine ⟨?_, ?_⟩ <;> (repeat' split) <;> omega)
  rcases key with ⟨k1, k2⟩ | ⟨k1, k2⟩
  · rw [k1, k2]
  · rw [k1, k2, Int.mul_comm]
theorem turn_areas {f : Bool} {q : Nat} {ax ay : Int} (hq : q ≤ 3) : ∀ {l : List R4}, Reg.Good l → areaL (l.map (turnRc f q ax ay)) = areaL l
  | [], _ => rfl
  | r :: l, h => by
    have ih := turn_areas (f := f) (ax := ax) (ay := ay) hq (l := l) fun s hs => h s (List.mem_cons_of_mem _ hs)
    have k := turn_area (f := f) (ax := ax) (ay := ay) hq (h r (by simp))
    simp only [areaL, List.map_cons, List.sum_cons] at ih ⊢
    rw [ih, k]
theorem turn_cnt {f : Bool} {q : Nat} {ax ay x y : Int} (hq : q ≤ 3) : ∀ {l : List R4}, Reg.Good l → cntR (l.map (turnRc f q ax ay)) (trS f q ax ay x y).1 (trS f q ax ay x y).2 = cntR l x y
  | [], _ => rfl
  | r :: l, h => by
    have ih := turn_cnt (f := f) (ax := ax) (ay := ay) (x := x) (y := y) hq (l := l) fun s hs => h s (List.mem_cons_of_mem _ hs)
    have k := trS_in (f := f) (ax := ax) (ay := ay) (x := x) (y := y) hq (h r (by simp))
    simp only [R4.has] at k
    rw [List.map_cons, Reg.cntR_cons, Reg.cntR_cons, ih]
    congr 1
    exact ite_iff k
theorem trS_iso {l : List R4} {f : Bool} {q : Nat} {ax ay : Int} (hq : q ≤ 3) {m : List R4} (h : ∀ x y, inR l x y ↔ inR m (trS f q ax ay x y).1 (trS f q ax ay x y).2) :
    Iso l m (trS f q ax ay) (trS f (bq f q) (bX f q ax ay) (bY f q ax ay)) where
  a x y k := (h x y).1 k
  b x y k := (h _ _).2 (by rw [trS_fore hq]; exact k)
  c x y := trS_back hq
  d x y := trS_fore hq
  n x y u v k := trS_next hq k
  k x y u v k := trS_next (bq_le hq) k
theorem around_cov_one {b c : R4} (h : Cov b (aroundR [c])) : Cov b c := by
  have := around_cov (l := [c]) (r := c) (by simp)
  simp only [Cov] at *
  omega
theorem box_turn {f : Bool} {q : Nat} {ax ay : Int} (hq : q ≤ 3) {b : R4} (h : b.x0 < b.x1 ∧ b.y0 < b.y1) (x y : Int) : inBox b x y ↔ inBox (turnRc f q ax ay b) (trS f q ax ay x y).1 (trS f q ax ay x y).2 := (trS_in hq h).symm
theorem wide_turn {f : Bool} {q : Nat} {ax ay n : Int} (hq : q ≤ 3) {b : R4} (h : b.x0 < b.x1 ∧ b.y0 < b.y1) (hn : 0 ≤ n) : wideA n (turnRc f q ax ay b) = turnRc f q ax ay (wideA n b) := by
  obtain ⟨a, b, c, d⟩ := b
  simp only at h
  rcases q_cases hq with rfl | rfl | rfl | rfl <;> cases f <;> simp [wideA, turnRc, tpx, tpy, rot, flipX, minI, maxI] <;> (refine ⟨?_, ?_, ?_, ?_⟩ <;> (repeat' split) <;> omega)
/-- A turned region: it is right, turned back it is the region, and it has as much area, as many pieces, and as many holes. -/
theorem turned_keep {l : List R4} {f : Bool} {q ax ay : Int} (h : trF l f q ax ay = 0) :
    regF (trL l f q ax ay) = 0 ∧ trF (trL l f q ax ay) f (bq f q.toNat) (bX f q.toNat ax ay) (bY f q.toNat ax ay) = 0 ∧ trL (trL l f q ax ay) f (bq f q.toNat) (bX f q.toNat ax ay) (bY f q.toNat ax ay) = l ∧
      areaL (trL l f q ax ay) = areaL l ∧ (pcsL l).length = (pcsL (trL l f q ax ay)).length ∧ (hlsE l).length = (hlsE (trL l f q ax ay)).length := by
  classical
  obtain ⟨h0, h1, hq', hax, hay, hok, hm, hlen⟩ := tr_zero h
  rw [hm]
  have hq : q.toNat ≤ 3 := by omega
  generalize q.toNat = n at *
  clear hm h h1
  have hg := cR_good h0
  have gm := turnRc_goods (f := f) (ax := ax) (ay := ay) hq hg
  have hin : ∀ r, r ∈ l.map (turnRc f n ax ay) → In6 r.x0 ∧ In6 r.y0 ∧ In6 r.x1 ∧ In6 r.y1 ∧ r.x0 < r.x1 ∧ r.y0 < r.y1 := fun r hr => by
    obtain ⟨s, hs, rfl⟩ := List.mem_map.1 hr
    exact rectF_zero.1 (hok s hs)
  have hr : regF (canonL (l.map (turnRc f n ax ay))) = 0 := reg_canon gm hlen fun x y k => inR_range hin x y k
  have hsq : ∀ x y, inR l x y ↔ inR (canonL (l.map (turnRc f n ax ay))) (trS f n ax ay x y).1 (trS f n ax ay x y).2 := fun x y => by rw [canon_inR gm, trS_inR hq hg]
  have harea : areaL (canonL (l.map (turnRc f n ax ay))) = areaL l := by
    rw [area_region hr, ← turn_areas (f := f) (ax := ax) (ay := ay) hq hg, area_sum hin]
    refine boxS_congr fun x y => ?_
    rw [cnt_region hr]
    have e := turn_cnt (f := f) (ax := ax) (ay := ay) (x := (trS f (bq f n) (bX f n ax ay) (bY f n ax ay) x y).1) (y := (trS f (bq f n) (bX f n ax ay) (bY f n ax ay) x y).2) hq hg
    rw [trS_fore hq] at e
    have k := cnt_region h0 (trS f (bq f n) (bX f n ax ay) (bY f n ax ay) x y).1 (trS f (bq f n) (bX f n ax ay) (bY f n ax ay) x y).2
    rw [← e] at k
    simp only at k
    rw [k]
    have s := hsq (trS f (bq f n) (bX f n ax ay) (bY f n ax ay) x y).1 (trS f (bq f n) (bX f n ax ay) (bY f n ax ay) x y).2
    rw [trS_fore hq] at s
    simp only at s
    exact ite_iff s.symm
  generalize hM : canonL (l.map (turnRc f n ax ay)) = m at *
  have hgm := cR_good hr
  have hq2 := bq_le (f := f) hq
  have iso := trS_iso (ax := ax) (ay := ay) hq hsq
  have back : ∀ x y, inR (m.map (turnRc f (bq f n) (bX f n ax ay) (bY f n ax ay))) x y ↔ inR l x y := fun x y => by
    have k := trS_inR (f := f) (ax := bX f n ax ay) (ay := bY f n ax ay) (x := (trS f n ax ay x y).1) (y := (trS f n ax ay x y).2) hq2 hgm
    rw [trS_back hq] at k
    rw [hsq x y]
    exact k
  have g2 := turnRc_goods (f := f) (ax := bX f n ax ay) (ay := bY f n ax ay) hq2 hgm
  have hc : canonL (m.map (turnRc f (bq f n) (bX f n ax ay) (bY f n ax ay))) = l := by
    rw [Reg.canon_unique g2 hg back]
    exact (regF_zero.1 h0).2.symm
  have rng := inR_range (rectsF_zero.1 (regF_zero.1 h0).1).2
  have hok2 : trOk f (bq f n) (bX f n ax ay) (bY f n ax ay) m := fun r hr' => by
    have hR : turnRc f (bq f n) (bX f n ax ay) (bY f n ax ay) r ∈ m.map (turnRc f (bq f n) (bX f n ax ay) (bY f n ax ay)) := List.mem_map_of_mem hr'
    have gR := g2 _ hR
    generalize turnRc f (bq f n) (bX f n ax ay) (bY f n ax ay) r = R at *
    have k1 := rng _ _ ((back _ _).1 (good_sq g2 hR))
    have k2 := rng _ _ ((back (R.x1 - 1) (R.y1 - 1)).1 ⟨R, hR, by simp only [R4.has]; omega⟩)
    refine rectF_zero.2 ?_
    simp only [In6]
    omega
  have hbx : In6 (bX f n ax ay) ∧ In6 (bY f n ax ay) := by
    have k := rot_le (flipX f ax) ay (by unfold flipX; simp only [In6] at hax; split <;> omega) hay (bq f n)
    simp only [bX, bY, tpx, tpy, In6]
    omega
  have htf : turnF (bq f n : Int) (bX f n ax ay) (bY f n ax ay) = 0 := turnF_zero ⟨by omega, by omega, by rw [okAt_of hbx.1, okAt_of hbx.2]; rfl⟩
  have hl2 := (rectsF_zero.1 (regF_zero.1 h0).1).1
  refine ⟨hr, ?_, ?_, harea, iso.pcs (cn_reg h0) (cn_reg hr), ?_⟩
  · unfold trF
    rw [if_pos hr, if_pos htf, Int.toNat_natCast, if_pos hok2, hc]
    exact resF_zero.2 hl2
  · unfold trL
    rw [if_pos hr, if_pos htf, Int.toNat_natCast, if_pos hok2, hc]
    unfold resL
    rw [if_pos hl2]
  · by_cases hnil : l = []
    · subst hnil
      have : m = [] := by
        rw [← hM]
        rfl
      rw [this]
    · have pl : 0 < l.length := by cases l with | nil => exact absurd rfl hnil | cons a t => simp
      obtain ⟨r, hrl⟩ := List.exists_mem_of_length_pos pl
      obtain ⟨s, hs, _⟩ := (hsq _ _).1 (good_sq hg hrl)
      have pm : 0 < m.length := List.length_pos_of_mem hs
      have hnm : m ≠ [] := by intro e; rw [e] at pm; simp at pm
      have gar : ∀ {l : List R4}, Reg.Good l → 0 < l.length → (aroundR l).x0 < (aroundR l).x1 ∧ (aroundR l).y0 < (aroundR l).y1 := fun {l} hg pl => by
        obtain ⟨r, hrl⟩ := List.exists_mem_of_length_pos pl
        have := around_sq (good_sq hg hrl)
        omega
      have ga := gar hg pl
      have gb := gar hgm pm
      have har : aroundR m = turnRc f n ax ay (aroundR l) := by
        have gt := turnRc_good (f := f) (ax := ax) (ay := ay) hq ga
        have c1 : Cov (turnRc f n ax ay (aroundR l)) (aroundR m) := (cov_iff hgm pm _).2 fun x y k => by
          have := (box_turn (f := f) (ax := ax) (ay := ay) hq ga (trS f (bq f n) (bX f n ax ay) (bY f n ax ay) x y).1 (trS f (bq f n) (bX f n ax ay) (bY f n ax ay) x y).2).1 (around_sq (iso.b x y k))
          rw [trS_fore hq] at this
          exact this
        have gt2 := turnRc_good (f := f) (ax := bX f n ax ay) (ay := bY f n ax ay) hq2 gb
        have c2 : Cov (turnRc f (bq f n) (bX f n ax ay) (bY f n ax ay) (aroundR m)) (aroundR l) := (cov_iff hg pl _).2 fun x y k => by
          have := (box_turn (f := f) (ax := bX f n ax ay) (ay := bY f n ax ay) hq2 gb (trS f n ax ay x y).1 (trS f n ax ay x y).2).1 (around_sq (iso.a x y k))
          rw [trS_back hq] at this
          exact this
        have c3 : Cov (aroundR m) (turnRc f n ax ay (aroundR l)) := by
          have hsub : ∀ x y, inR [turnRc f n ax ay (aroundR l)] x y → inBox (aroundR m) x y := by
            rintro x y ⟨t, ht, hh⟩
            simp at ht
            subst ht
            have e := trS_fore (f := f) (ax := ax) (ay := ay) (x := x) (y := y) hq
            have k := (trS_in (f := f) (ax := ax) (ay := ay) (x := (trS f (bq f n) (bX f n ax ay) (bY f n ax ay) x y).1) (y := (trS f (bq f n) (bX f n ax ay) (bY f n ax ay) x y).2) hq ga).1 (by rw [e]; exact hh)
            have k2 : inBox (turnRc f (bq f n) (bX f n ax ay) (bY f n ax ay) (aroundR m)) (trS f (bq f n) (bX f n ax ay) (bY f n ax ay) x y).1 (trS f (bq f n) (bX f n ax ay) (bY f n ax ay) x y).2 := by
              simp only [inBox, R4.has, Cov] at *
              omega
            exact (box_turn (f := f) (ax := bX f n ax ay) (ay := bY f n ax ay) hq2 gb x y).2 k2
          have hgs : Reg.Good [turnRc f n ax ay (aroundR l)] := fun t ht => by
            simp at ht
            subst ht
            exact gt
          have := (cov_iff hgs (by simp) _).2 hsub
          exact around_cov_one this
        generalize aroundR m = a at *
        generalize turnRc f n ax ay (aroundR l) = b at *
        obtain ⟨a0, a1, a2, a3⟩ := a
        obtain ⟨b0, b1, b2, b3⟩ := b
        simp only [Cov] at c1 c3
        simp only [R4.mk.injEq]
        omega
      unfold hlsE
      rw [if_neg hnil, if_neg hnm]
      refine Iso.hls (S := trS f n ax ay) (S' := trS f (bq f n) (bX f n ax ay) (bY f n ax ay)) (trS_iso hq fun x y => ?_) h0 hr pl pm fun x y => ?_
      · have gw : (wideA 1 (aroundR l)).x0 < (wideA 1 (aroundR l)).x1 ∧ (wideA 1 (aroundR l)).y0 < (wideA 1 (aroundR l)).y1 := by simp only [wideA]; omega
        have k := box_turn (f := f) (ax := ax) (ay := ay) hq gw x y
        rw [← wide_turn hq ga (by omega), ← har] at k
        rw [out_inR h0 pl, out_inR hr pm, hsq x y]
        exact and_congr k Iff.rfl
      · rw [har]
        exact box_turn hq ga x y
end Go.Proofs.Ytjcbngpgmgeanaa
/- Back of package shape, for a turn that is right, whatever the world. -/
namespace Go.Proofs.Ytjcbngpgmgeanaa
open Go.RowKit
open Reg (R4)
set_option linter.unusedSimpArgs false
set_option linter.unusedVariables false
set_option maxRecDepth 100000

theorem tp_inB (f : Bool) (m : Nat) {x y : Int} (hx : In6 x) (hy : In6 y) : (-1000000 ≤ tpx f m 0 x y ∧ tpx f m 0 x y ≤ 1000000) ∧ -1000000 ≤ tpy f m 0 x y ∧ tpy f m 0 x y ≤ 1000000 := by
  have h := rot_le (flipX f x) y (by unfold flipX; simp only [In6] at hx; split <;> omega) hy m
  simp only [tpx, tpy]
  omega
theorem checkTurn_okB (f : Bool) (q x y : Int) (w : World) (h : turnF q x y = 0) : Calls Try.prog 47 #[.agg #[.bool f, .int .i64 q, .int .i64 x, .int .i64 y]] w fun e w' => e = .returned (.int .i64 0) ∧ Below w.heap.size w w' := h ▸ checkTurn_any f q x y w
set_option maxHeartbeats 4000000 in
theorem back_any (f : Bool) (n : Nat) (ax ay : Int) (w : World) (hn : n ≤ 3) (hax : In6 ax) (hay : In6 ay) (h0 : turnF n ax ay = 0) : Calls Try.prog 22 #[.agg #[.bool f, .int .i64 n, .int .i64 ax, .int .i64 ay]] w fun e w' =>
    e = .returned (.tuple #[.agg #[.bool f, .int .i64 (bq f n : Int), .int .i64 (bX f n ax ay), .int .i64 (bY f n ax ay)], .int .i64 0]) ∧ Below w.heap.size w w' := by
  have c1 := fun w => checkTurn_okB f n ax ay w h0
  cases f
  · obtain ⟨m, hm, hm3⟩ : ∃ m : Nat, bq false n = m ∧ m ≤ 3 := ⟨_, rfl, bq_le hn⟩
    have hm' : (-(n : Int) % 4) = (m : Int) := by simp [bq] at hm; omega
    simp only [bX, bY, hm]
    have b := tp_inB false m hax hay
    have c2 := fun W => turn_any false m 0 0  ax ay W (by omega) hax hay ⟨by omega, by omega⟩ ⟨by omega, by omega⟩
    generalize tpx false m 0 ax ay = X at *
    generalize tpy false m 0 ax ay = Y at *
    obtain ⟨⟨b1, b2⟩, b3, b4⟩ := b
    clear h0 hm
    have C1 := Lib.hid c1
    have C2 := Lib.hid c2
    clear c1 c2
    have Hm := Lib.hid hm'
    clear hm'
    go_enter Try.func22, Try.ntmps22
    go_wp2_with fail
    refine (C1.out _).mono ?_
    rintro e w1 ⟨rfl, hb⟩
    obtain ⟨k0w1, g0w1⟩ := kp hb (b := w.heap.size) (cs := #[.bool false, .int .i64 n, .int .i64 ax, .int .i64 ay]) (by (first | (with_reducible exact Nat.le_refl _) | (with_reducible assumption) | omega | (simp only [World.size_alloc, World.size_setCell, World.size_drew]; omega) | (simp; omega) | (simp; done))) (fun i => by simp [go_sem]) (fun i => by simp [go_sem])
    obtain ⟨k1w1, g1w1⟩ := kp hb (b := w.heap.size + 1) (cs := #[.bool false, .int .i64 0, .int .i64 0, .int .i64 0]) (by (first | (with_reducible exact Nat.le_refl _) | (with_reducible assumption) | omega | (simp only [World.size_alloc, World.size_setCell, World.size_drew]; omega) | (simp; omega) | (simp; done))) (fun i => by simp [go_sem]) (fun i => by simp [go_sem])
    have zw1 := hb.size
    have Bw1 := up (B := w.heap.size) (w := w) (by (repeat' (first | (with_reducible exact Below.refl _ _) | (with_reducible assumption) | (with_reducible refine Below.alloc ?_ ?_ _) | (with_reducible refine Below.drew ?_) | (with_reducible refine Below.setCell ?_ ?_ _) | (with_reducible exact Nat.le_refl _) | omega | (simp only [World.size_alloc, World.size_setCell, World.size_drew]; omega) | (simp; omega) | (simp; done)))) hb (by (first | (with_reducible exact Nat.le_refl _) | (with_reducible assumption) | omega | (simp only [World.size_alloc, World.size_setCell, World.size_drew]; omega) | (simp; omega) | (simp; done)))
    try simp only [World.size_alloc, World.size_setCell] at zw1
    have l0w1 : w.heap.size < w1.heap.size := by (first | (with_reducible exact Nat.le_refl _) | (with_reducible assumption) | omega | (simp only [World.size_alloc, World.size_setCell, World.size_drew]; omega) | (simp; omega) | (simp; done))
    have l1w1 : w.heap.size + 1 < w1.heap.size := by (first | (with_reducible exact Nat.le_refl _) | (with_reducible assumption) | omega | (simp only [World.size_alloc, World.size_setCell, World.size_drew]; omega) | (simp; omega) | (simp; done))
    clear hb
    go_wp2_with fail
    try rw [Hm.out]
    refine (C2.out _).mono ?_
    rintro e w2 ⟨rfl, hb⟩
    obtain ⟨k0w2, g0w2⟩ := kp hb (b := w.heap.size) (cs := #[.bool false, .int .i64 n, .int .i64 ax, .int .i64 ay]) (by (first | (with_reducible exact Nat.le_refl _) | (with_reducible assumption) | omega | (simp only [World.size_alloc, World.size_setCell, World.size_drew]; omega) | (simp; omega) | (simp; done))) (fun i => by simp [go_sem, k0w1, g0w1, l0w1, k1w1, g1w1, l1w1]) (fun i => by simp [go_sem, k0w1, g0w1, l0w1, k1w1, g1w1, l1w1])
    obtain ⟨k1w2, g1w2⟩ := kp hb (b := w.heap.size + 1) (cs := #[.bool false, .int .i64 0, .int .i64 0, .int .i64 0]) (by (first | (with_reducible exact Nat.le_refl _) | (with_reducible assumption) | omega | (simp only [World.size_alloc, World.size_setCell, World.size_drew]; omega) | (simp; omega) | (simp; done))) (fun i => by simp [go_sem, k0w1, g0w1, l0w1, k1w1, g1w1, l1w1]) (fun i => by simp [go_sem, k0w1, g0w1, l0w1, k1w1, g1w1, l1w1])
    obtain ⟨k2w2, g2w2⟩ := kp hb (b := w1.heap.size) (cs := #[.bool false, .int .i64 m, .int .i64 0, .int .i64 0]) (by (first | (with_reducible exact Nat.le_refl _) | (with_reducible assumption) | omega | (simp only [World.size_alloc, World.size_setCell, World.size_drew]; omega) | (simp; omega) | (simp; done))) (fun i => by simp [go_sem, k0w1, g0w1, l0w1, k1w1, g1w1, l1w1]) (fun i => by simp [go_sem, k0w1, g0w1, l0w1, k1w1, g1w1, l1w1])
    have zw2 := hb.size
    have Bw2 := up (B := w.heap.size) (w := w) (by (repeat' (first | (with_reducible exact Below.refl _ _) | (with_reducible assumption) | (with_reducible refine Below.alloc ?_ ?_ _) | (with_reducible refine Below.drew ?_) | (with_reducible refine Below.setCell ?_ ?_ _) | (with_reducible exact Nat.le_refl _) | omega | (simp only [World.size_alloc, World.size_setCell, World.size_drew]; omega) | (simp; omega) | (simp; done)))) hb (by (first | (with_reducible exact Nat.le_refl _) | (with_reducible assumption) | omega | (simp only [World.size_alloc, World.size_setCell, World.size_drew]; omega) | (simp; omega) | (simp; done)))
    try simp only [World.size_alloc, World.size_setCell] at zw2
    have l0w2 : w.heap.size < w2.heap.size := by (first | (with_reducible exact Nat.le_refl _) | (with_reducible assumption) | omega | (simp only [World.size_alloc, World.size_setCell, World.size_drew]; omega) | (simp; omega) | (simp; done))
    have l1w2 : w.heap.size + 1 < w2.heap.size := by (first | (with_reducible exact Nat.le_refl _) | (with_reducible assumption) | omega | (simp only [World.size_alloc, World.size_setCell, World.size_drew]; omega) | (simp; omega) | (simp; done))
    have l2w2 : w1.heap.size < w2.heap.size := by (first | (with_reducible exact Nat.le_refl _) | (with_reducible assumption) | omega | (simp only [World.size_alloc, World.size_setCell, World.size_drew]; omega) | (simp; omega) | (simp; done))
    have n20 : ¬ w1.heap.size = w.heap.size := by omega
    have m20 : ¬ w.heap.size = w1.heap.size := by omega
    have n21 : ¬ w1.heap.size = w.heap.size + 1 := by omega
    have m21 : ¬ w.heap.size + 1 = w1.heap.size := by omega
    clear hb
    go_wp2_with fail
    refine bodyPost_ret (v := .tuple #[.agg #[.bool false, .int .i64 m, .int .i64 (-X), .int .i64 (-Y)], .int .i64 0]) (by simp [results, Try.results22, go_sem, k1w2, l1w2, n21, m21]) rfl ⟨rfl, ?_⟩
    (repeat' (first | (with_reducible exact Below.refl _ _) | (with_reducible assumption) | (with_reducible refine Below.alloc ?_ ?_ _) | (with_reducible refine Below.drew ?_) | (with_reducible refine Below.setCell ?_ ?_ _) | (with_reducible exact Nat.le_refl _) | omega | (simp only [World.size_alloc, World.size_setCell, World.size_drew]; omega) | (simp; omega) | (simp; done)))
  · have hm : bq true n = n := by simp [bq]
    simp only [bX, bY, hm]
    have b := tp_inB true n hax hay
    have c2 := fun W => turn_any true n 0 0  ax ay W (by omega) hax hay ⟨by omega, by omega⟩ ⟨by omega, by omega⟩
    generalize tpx true n 0 ax ay = X at *
    generalize tpy true n 0 ax ay = Y at *
    obtain ⟨⟨b1, b2⟩, b3, b4⟩ := b
    clear h0 hm
    have C1 := Lib.hid c1
    have C2 := Lib.hid c2
    clear c1 c2
    go_enter Try.func22, Try.ntmps22
    go_wp2_with fail
    refine (C1.out _).mono ?_
    rintro e w1 ⟨rfl, hb⟩
    obtain ⟨k0w1, g0w1⟩ := kp hb (b := w.heap.size) (cs := #[.bool true, .int .i64 n, .int .i64 ax, .int .i64 ay]) (by (first | (with_reducible exact Nat.le_refl _) | (with_reducible assumption) | omega | (simp only [World.size_alloc, World.size_setCell, World.size_drew]; omega) | (simp; omega) | (simp; done))) (fun i => by simp [go_sem]) (fun i => by simp [go_sem])
    obtain ⟨k1w1, g1w1⟩ := kp hb (b := w.heap.size + 1) (cs := #[.bool false, .int .i64 0, .int .i64 0, .int .i64 0]) (by (first | (with_reducible exact Nat.le_refl _) | (with_reducible assumption) | omega | (simp only [World.size_alloc, World.size_setCell, World.size_drew]; omega) | (simp; omega) | (simp; done))) (fun i => by simp [go_sem]) (fun i => by simp [go_sem])
    have zw1 := hb.size
    have Bw1 := up (B := w.heap.size) (w := w) (by (repeat' (first | (with_reducible exact Below.refl _ _) | (with_reducible assumption) | (with_reducible refine Below.alloc ?_ ?_ _) | (with_reducible refine Below.drew ?_) | (with_reducible refine Below.setCell ?_ ?_ _) | (with_reducible exact Nat.le_refl _) | omega | (simp only [World.size_alloc, World.size_setCell, World.size_drew]; omega) | (simp; omega) | (simp; done)))) hb (by (first | (with_reducible exact Nat.le_refl _) | (with_reducible assumption) | omega | (simp only [World.size_alloc, World.size_setCell, World.size_drew]; omega) | (simp; omega) | (simp; done)))
    try simp only [World.size_alloc, World.size_setCell] at zw1
    have l0w1 : w.heap.size < w1.heap.size := by (first | (with_reducible exact Nat.le_refl _) | (with_reducible assumption) | omega | (simp only [World.size_alloc, World.size_setCell, World.size_drew]; omega) | (simp; omega) | (simp; done))
    have l1w1 : w.heap.size + 1 < w1.heap.size := by (first | (with_reducible exact Nat.le_refl _) | (with_reducible assumption) | omega | (simp only [World.size_alloc, World.size_setCell, World.size_drew]; omega) | (simp; omega) | (simp; done))
    clear hb
    go_wp2_with fail
    refine (C2.out _).mono ?_
    rintro e w2 ⟨rfl, hb⟩
    obtain ⟨k0w2, g0w2⟩ := kp hb (b := w.heap.size) (cs := #[.bool true, .int .i64 n, .int .i64 ax, .int .i64 ay]) (by (first | (with_reducible exact Nat.le_refl _) | (with_reducible assumption) | omega | (simp only [World.size_alloc, World.size_setCell, World.size_drew]; omega) | (simp; omega) | (simp; done))) (fun i => by simp [go_sem, k0w1, g0w1, l0w1, k1w1, g1w1, l1w1]) (fun i => by simp [go_sem, k0w1, g0w1, l0w1, k1w1, g1w1, l1w1])
    obtain ⟨k1w2, g1w2⟩ := kp hb (b := w.heap.size + 1) (cs := #[.bool false, .int .i64 0, .int .i64 0, .int .i64 0]) (by (first | (with_reducible exact Nat.le_refl _) | (with_reducible assumption) | omega | (simp only [World.size_alloc, World.size_setCell, World.size_drew]; omega) | (simp; omega) | (simp; done))) (fun i => by simp [go_sem, k0w1, g0w1, l0w1, k1w1, g1w1, l1w1]) (fun i => by simp [go_sem, k0w1, g0w1, l0w1, k1w1, g1w1, l1w1])
    obtain ⟨k2w2, g2w2⟩ := kp hb (b := w1.heap.size) (cs := #[.bool true, .int .i64 n, .int .i64 0, .int .i64 0]) (by (first | (with_reducible exact Nat.le_refl _) | (with_reducible assumption) | omega | (simp only [World.size_alloc, World.size_setCell, World.size_drew]; omega) | (simp; omega) | (simp; done))) (fun i => by simp [go_sem, k0w1, g0w1, l0w1, k1w1, g1w1, l1w1]) (fun i => by simp [go_sem, k0w1, g0w1, l0w1, k1w1, g1w1, l1w1])
    have zw2 := hb.size
    have Bw2 := up (B := w.heap.size) (w := w) (by (repeat' (first | (with_reducible exact Below.refl _ _) | (with_reducible assumption) | (with_reducible refine Below.alloc ?_ ?_ _) | (with_reducible refine Below.drew ?_) | (with_reducible refine Below.setCell ?_ ?_ _) | (with_reducible exact Nat.le_refl _) | omega | (simp only [World.size_alloc, World.size_setCell, World.size_drew]; omega) | (simp; omega) | (simp; done)))) hb (by (first | (with_reducible exact Nat.le_refl _) | (with_reducible assumption) | omega | (simp only [World.size_alloc, World.size_setCell, World.size_drew]; omega) | (simp; omega) | (simp; done)))
    try simp only [World.size_alloc, World.size_setCell] at zw2
    have l0w2 : w.heap.size < w2.heap.size := by (first | (with_reducible exact Nat.le_refl _) | (with_reducible assumption) | omega | (simp only [World.size_alloc, World.size_setCell, World.size_drew]; omega) | (simp; omega) | (simp; done))
    have l1w2 : w.heap.size + 1 < w2.heap.size := by (first | (with_reducible exact Nat.le_refl _) | (with_reducible assumption) | omega | (simp only [World.size_alloc, World.size_setCell, World.size_drew]; omega) | (simp; omega) | (simp; done))
    have l2w2 : w1.heap.size < w2.heap.size := by (first | (with_reducible exact Nat.le_refl _) | (with_reducible assumption) | omega | (simp only [World.size_alloc, World.size_setCell, World.size_drew]; omega) | (simp; omega) | (simp; done))
    have n20 : ¬ w1.heap.size = w.heap.size := by omega
    have m20 : ¬ w.heap.size = w1.heap.size := by omega
    have n21 : ¬ w1.heap.size = w.heap.size + 1 := by omega
    have m21 : ¬ w.heap.size + 1 = w1.heap.size := by omega
    clear hb
    go_wp2_with fail
    refine bodyPost_ret (v := .tuple #[.agg #[.bool true, .int .i64 n, .int .i64 (-X), .int .i64 (-Y)], .int .i64 0]) (by simp [results, Try.results22, go_sem, k1w2, l1w2, n21, m21]) rfl ⟨rfl, ?_⟩
    (repeat' (first | (with_reducible exact Below.refl _ _) | (with_reducible assumption) | (with_reducible refine Below.alloc ?_ ?_ _) | (with_reducible refine Below.drew ?_) | (with_reducible refine Below.setCell ?_ ?_ _) | (with_reducible exact Nat.le_refl _) | omega | (simp only [World.size_alloc, World.size_setCell, World.size_drew]; omega) | (simp; omega) | (simp; done)))
end Go.Proofs.Ytjcbngpgmgeanaa

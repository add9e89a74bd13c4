/- Gaps of the program, whatever the world. -/
import Derived.Test.YtkjbllhobannpaaGapG
import Derived.Test.YtkjbllhobannpaaGapJ
import Derived.Test.YtkjbllhobannpaaGapD
import Derived.Test.YtkjbllhobannpaaGapB
import Derived.Test.YtkjbllhobannpaaSweepL
import Derived.Deep.DeepCutAuto
namespace Go.Proofs.Ytkjbllhobannpaa
open Go.RowKit
open Reg (R4)
set_option linter.unusedSimpArgs false
set_option linter.unusedVariables false

/-- What Gaps says. -/
def gpL (L : List (List R4)) (below : Int) : List G7 := if cgF L below = 0 then (gapAll below 0 L []).getD [] else []
def gpF (L : List (List R4)) (below : Int) : Int := if cgF L below = 0 then (if (gapAll below 0 L []).isSome then 0 else 12) else cgF L below
/-- A function that gives gaps of its own, and a fault. -/
def GotGF (w : World) (l : List G7) (f : Int) (e : Ending) (w' : World) : Prop := ∃ v, e = .returned (.tuple #[v, .int .i64 f]) ∧ w'.ownsRow w.heap.size 44 7 v l.length (cG l) ∧ Below w.heap.size w w'
theorem gapRow_drop {below : Int} {i j : Nat} {a : List R4} {L : List (List R4)} {s : List G7} (h : j < L.length) : gapRow below i a j (L.drop j) s = (gapStep below i j a L[j] s).bind (gapRow below i a (j + 1) (L.drop (j + 1))) := by
  rw [List.drop_eq_getElem_cons h]; rfl
theorem gapAll_drop {below : Int} {i : Nat} {L : List (List R4)} {s : List G7} (h : i < L.length) : gapAll below i (L.drop i) s = (gapRow below i L[i] (i + 1) (L.drop (i + 1)) s).bind (gapAll below (i + 1) (L.drop (i + 1))) := by
  rw [List.drop_eq_getElem_cons h]; rfl
/-- What a pair of regions does to the gaps so far. -/
theorem gap_cases (below : Int) (i j : Nat) (a b : List R4) (s : List G7) :
    (a.length = 0 ∧ gapStep below i j a b s = some s) ∨ (¬ a.length = 0 ∧ b.length = 0 ∧ gapStep below i j a b s = some s) ∨ (¬ a.length = 0 ∧ ¬ b.length = 0 ∧ farRs a b = 0 ∧ gapStep below i j a b s = none) ∨
    (¬ a.length = 0 ∧ ¬ b.length = 0 ∧ ¬ farRs a b = 0 ∧ ¬ farRs a b - 1 < below ∧ gapStep below i j a b s = some s) ∨ (¬ a.length = 0 ∧ ¬ b.length = 0 ∧ ¬ farRs a b = 0 ∧ farRs a b - 1 < below ∧ gapStep below i j a b s = some (s ++ [gapOf i j a b])) := by
  unfold gapStep
  by_cases h1 : a.length = 0
  · exact .inl ⟨h1, by rw [if_pos (.inl h1)]⟩
  · by_cases h2 : b.length = 0
    · exact .inr (.inl ⟨h1, h2, by rw [if_pos (.inr h2)]⟩)
    · have h3 : ¬ (a.length = 0 ∨ b.length = 0) := by omega
      rw [if_neg h3]
      by_cases h4 : farRs a b = 0
      · exact .inr (.inr (.inl ⟨h1, h2, h4, by rw [if_pos h4]⟩))
      · rw [if_neg h4]
        by_cases h5 : farRs a b - 1 < below
        · exact .inr (.inr (.inr (.inr ⟨h1, h2, h4, h5, by rw [if_pos h5]⟩)))
        · exact .inr (.inr (.inr (.inl ⟨h1, h2, h4, h5, by rw [if_neg h5]⟩)))
/-- Behind both searches: the blocks of both points. -/
structure GpW (w8 : World) (Q P : Nat) (fx fy tx ty : Int) (wx : World) : Prop where
  q0 : wx.cell? ⟨Q, 0, none⟩ = some (.int .i64 fx)
  q1 : wx.cell? ⟨Q, 1, none⟩ = some (.int .i64 fy)
  p0 : wx.cell? ⟨P, 0, none⟩ = some (.int .i64 tx)
  p1 : wx.cell? ⟨P, 1, none⟩ = some (.int .i64 ty)
  lq : Q < wx.heap.size
  lp : P < wx.heap.size
  b : Below w8.heap.size w8 wx
theorem own_snocG {w : World} {base : Nat} {v : Value} {l : List G7} {a b d fx fy tx ty : Int} (h : w.ownsRow base 44 7 v (l.length + 1) (cG l ++ [.int .i64 a, .int .i64 b, .int .i64 d, .int .i64 fx, .int .i64 fy, .int .i64 tx, .int .i64 ty])) :
    w.ownsRow base 44 7 v (l ++ [(⟨a, b, d, fx, fy, tx, ty⟩ : G7)]).length (cG (l ++ [(⟨a, b, d, fx, fy, tx, ty⟩ : G7)])) := by
  rw [List.length_append, cG_append]
  exact h
theorem len_yes {n : Nat} (h : n = 0) : ((n : Int) == 0) = true := by rw [beq_iff_eq]; omega
theorem len_no {n : Nat} (h : ¬ n = 0) : ((n : Int) == 0) = false := by rw [beq_eq_false_iff_ne]; omega
theorem rg_reg {l : List R4} (h : regF l = 0) : ∀ r, r ∈ l → Rg r := fun r hr => by
  have := rect_in (regF_rects h) r hr
  simp only [In6] at this
  unfold Rg
  omega

set_option maxRecDepth 100000 in
set_option maxHeartbeats 8000000 in
theorem gaps_ok (A : Option Addr) (L : List (List R4)) (c : Nat) (hd : Nat → Option Addr × Nat) (below : Int) (w : World) (hl : L.length ≤ 140737488355328) (h : RdM w A L hd) (h0 : cgF L below = 0) :
    Calls Try.prog 16 #[.slice A L.length c, .int .i64 below] w (GotGF w ((gapAll below 0 L []).getD []) (if (gapAll below 0 L []).isSome then 0 else 12)) := by
  obtain ⟨i0, hi0, hz0, hz1, hz2⟩ := info_parts infoG
  have H0 := Lib.hid h
  obtain ⟨q1, q2, q3, q4, q5⟩ := cgF_zero h0
  have hRg := Lib.hid (fun l hl => rg_reg (q3 l hl))
  have CC := Lib.hid (fun W h => checkGaps_any A L c hd below W hl h)
  rw [h0] at CC
  have hlen := Lib.hid (rdM_len h)
  clear h h0 q2 q3
  unfold GotGF
  have HG := Lib.hid (show gapAll below 0 L [] = gapAll below 0 (L.drop 0) [] from rfl)
  generalize gapAll below 0 L [] = G at *
  go_enter Try.func16, Try.ntmps16
  go_wp2_with fail
  refine (CC.out _ H0.out).mono ?_
  rintro e w1 ⟨rfl, hb⟩
  have B1 := Lib.hid hb
  clear hb
  go_wp2_with fail
  go_loopw [7, 22] (fun v7 i wr => ∃ (k : Nat) (s : List G7), k ≤ L.length ∧ i = .int .i64 k ∧ G = gapAll below k (L.drop k) s ∧ wr.ownsRow w.heap.size 44 7 v7 s.length (cG s) ∧ s.length ≤ 2000 * k ∧ Below w.heap.size w wr) (fun _ i _ => L.length - (intOf i).toNat)
  case atStart => exact ⟨0, [], Nat.zero_le _, rfl, HG.out, own_nilR _ _ _ _, by simp, B1.out⟩
  case round =>
    obtain ⟨k, s, hk, rfl, hg, ho, hsl, hbw⟩ := hrel
    have zw := hbw.size
    have HGk := Lib.hid hg
    have HO := Lib.hid ho
    clear hg ho HG
    have hkz : (0 : Int) ≤ (k : Int) := by omega
    by_cases hlt : k < L.length
    · have hM := H0.out.below hbw
      obtain ⟨b, off, e, hb, hc⟩ := hM.1 (by omega)
      subst e
      have hi := List.getElem?_eq_getElem hlt
      have c0 := hc k _ hi
      have HD := Lib.hid (gapAll_drop (below := below) (s := s) hlt)
      have RX := Lib.hid (hRg.out _ (List.getElem_mem hlt))
      have lx := hlen.out _ (List.getElem_mem hlt)
      have RM := Lib.hid (fun W (hb : Below w.heap.size w W) => (((H0.out).below hb).2 k _ hi).1)
      clear hc hi hM
      generalize L[k] = x at *
      have hklt : (k : Int) < (L.length : Int) := by omega
      have HG2 := Lib.hid (HGk.out.trans HD.out)
      clear HGk HD
      obtain ⟨w7, rfl⟩ : ∃ w7, w7 = wr := ⟨wr, rfl⟩
      go_wp2_with fail
      go_loopw [7, 10] (fun v7 i wr => ∃ (j : Nat) (s : List G7), k + 1 ≤ j ∧ j ≤ L.length ∧ i = .int .i64 j ∧ G = (gapRow below k x j (L.drop j) s).bind (gapAll below (k + 1) (L.drop (k + 1))) ∧ wr.ownsRow w.heap.size 44 7 v7 s.length (cG s) ∧ s.length ≤ 2000 * k + j ∧ Below w.heap.size w wr) (fun _ i _ => L.length - (intOf i).toNat)
      case atStart => exact ⟨k + 1, s, Nat.le_refl _, by omega, by go_num, HG2.out, HO.out, by omega, hbw⟩
      case round =>
        obtain ⟨j, s, hj0, hj, rfl, hg, ho, hsl, hbi⟩ := hrel
        have HGj := Lib.hid hg
        have HOj := Lib.hid ho
        clear hg ho HG2 HO
        have zi := hbi.size
        have hjz : (0 : Int) ≤ (j : Int) := by omega
        by_cases hjl : j < L.length
        · have hM := H0.out.below hbi
          obtain ⟨b', off', e, hb', hc⟩ := hM.1 (by omega)
          cases e
          have hi := List.getElem?_eq_getElem hjl
          have d0 := hc j _ hi
          have HD := Lib.hid (gapRow_drop (below := below) (i := k) (a := x) (s := s) hjl)
          have RY := Lib.hid (hRg.out _ (List.getElem_mem hjl))
          have ly := hlen.out _ (List.getElem_mem hjl)
          have RN := Lib.hid (fun W (hb : Below w.heap.size w W) => (((H0.out).below hb).2 j _ hi).1)
          clear hc hi hM
          generalize L[j] = y at *
          have hjlt : (j : Int) < (L.length : Int) := by omega
          have hcase := gap_cases below k j x y s
          have HGs := Lib.hid (HGj.out.trans (congrArg (fun z => z.bind (gapAll below (k + 1) (L.drop (k + 1)))) HD.out))
          generalize hQ : gapStep below k j x y s = Q at *
          clear hQ HGj HD
          rcases hcase with ⟨e1, rfl⟩ | ⟨e1, e2, rfl⟩ | ⟨e1, e2, e3, rfl⟩ | ⟨e1, e2, e3, e4, rfl⟩ | ⟨e1, e2, e3, e4, rfl⟩
          · have f1 := len_yes e1
            have HE := Lib.hid e1
            clear e1
            go_wp2_with fail
            go_roundw
            case rel => exact ⟨j + 1, s, by omega, by omega, by go_num, HGs.out, HOj.out, by omega, hbi⟩
            case measure => simp [intOf]; omega
          · have f1 := len_no e1
            have f2 := len_yes e2
            have HE := Lib.hid e2
            clear e2
            go_wp2_with fail
            go_roundw
            case rel => exact ⟨j + 1, s, by omega, by omega, by go_num, HGs.out, HOj.out, by omega, hbi⟩
            case measure => simp [intOf]; omega
          · have f1 := len_no e1
            have f2 := len_no e2
            have CD := Lib.hid (fun W h1 h2 => regionDistance_any (hd k).1 (hd j).1 x y (hd k).2 (hd j).2 W (fun r hr => rt_of (RX.out r hr)) (fun r hr => rt_of (RY.out r hr)) (by omega) (by omega) lx ly h1 h2)
            rw [e3] at CD
            have hG : G = none := HGs.out
            subst hG
            clear e3 HGs
            go_wp2_with fail
            refine (CD.out _ (RM.out _ hbi) (RN.out _ hbi)).mono ?_
            rintro e w2 ⟨rfl, hb⟩
            have B2 := up (B := w.heap.size) hbi hb (by (first | (with_reducible exact Nat.le_refl _) | (with_reducible assumption) | omega | (simp only [World.size_alloc, World.size_setCell, World.size_drew]; omega) | (simp; omega) | (simp; done)))
            clear hb
            go_wp2_with fail
            go_ret2
            exact ⟨_, rfl, own_nilR _ _ _ _, B2⟩
          · have f1 := len_no e1
            have f2 := len_no e2
            have CD := Lib.hid (fun W h1 h2 => regionDistance_any (hd k).1 (hd j).1 x y (hd k).2 (hd j).2 W (fun r hr => rt_of (RX.out r hr)) (fun r hr => rt_of (RY.out r hr)) (by omega) (by omega) lx ly h1 h2)
            have fb := farRs_bound (by omega) (by omega) RX.out RY.out
            generalize farRs x y = n at *
            have f3 : (n == 0) = false := by simpa using e3
            go_wp2_with fail
            refine (CD.out _ (RM.out _ hbi) (RN.out _ hbi)).mono ?_
            rintro e w2 ⟨rfl, hb⟩
            have B2 := up (B := w.heap.size) hbi hb (by (first | (with_reducible exact Nat.le_refl _) | (with_reducible assumption) | omega | (simp only [World.size_alloc, World.size_setCell, World.size_drew]; omega) | (simp; omega) | (simp; done)))
            have O2 := Lib.hid (ownsRow_below' HOj.out hb)
            clear hb
            go_wp2_with fail
            go_roundw
            case rel => exact ⟨j + 1, s, by omega, by omega, by go_num, HGs.out, O2.out, by omega, B2⟩
            case measure => simp [intOf]; omega
          · have f1 := len_no e1
            have f2 := len_no e2
            have CD := Lib.hid (fun W h1 h2 => regionDistance_any (hd k).1 (hd j).1 x y (hd k).2 (hd j).2 W (fun r hr => rt_of (RX.out r hr)) (fun r hr => rt_of (RY.out r hr)) (by omega) (by omega) lx ly h1 h2)
            have fb := farRs_bound (by omega) (by omega) RX.out RY.out
            have CN := Lib.hid (fun W h1 h2 => firstNear_any (hd k).1 (hd j).1 x y (hd k).2 (hd j).2 (farRs x y) W RX.out RY.out lx ly fb.1 (by omega) h1 h2)
            have hs := sq_rg RX.out RY.out fb.1
            have CT := Lib.hid (fun S W h1 h2 => firstNear_any (hd j).1 S y [sqAt (npF (farRs x y) x y).2.1 (npF (farRs x y) x y).2.2] (hd j).2 1 (farRs x y) W RY.out (fun r hr => by rw [List.mem_singleton.1 hr]; exact hs) ly (by simp) fb.1 (by omega) h1 h2)
            obtain ⟨r0, r1, r2, r3⟩ := npF_range RX.out RY.out fb.1
            have CS := Lib.hid (fun W => squareAt_any (npF (farRs x y) x y).2.1 (npF (farRs x y) x y).2.2 ⟨r0, by omega⟩ ⟨r2, by omega⟩ W)
            have hgap : gapOf k j x y = ⟨k, j, farRs x y - 1, (npF (farRs x y) x y).2.1, (npF (farRs x y) x y).2.2, (npF (farRs x y) y [sqAt (npF (farRs x y) x y).2.1 (npF (farRs x y) x y).2.2]).2.1, (npF (farRs x y) y [sqAt (npF (farRs x y) x y).2.1 (npF (farRs x y) x y).2.2]).2.2⟩ := rfl
            rw [hgap] at HGs
            clear hgap hs
            simp only [List.length_singleton] at CT
            generalize farRs x y = n at *
            generalize npF n y [sqAt (npF n x y).2.1 (npF n x y).2.2] = T at *
            generalize npF n x y = F at *
            obtain ⟨f0, fx, fy⟩ := F
            obtain ⟨t0, tx, ty⟩ := T
            simp only at CN CT CS HGs r0 r1 r2 r3
            have f3 : (n == 0) = false := by simpa using e3
            obtain ⟨w8, rfl⟩ : ∃ w8, w8 = wr := ⟨wr, rfl⟩
            go_wp2_with fail
            refine (CD.out _ (RM.out _ hbi) (RN.out _ hbi)).mono ?_
            rintro e w2 ⟨rfl, hb⟩
            have B2 := up (B := w.heap.size) hbi hb (by (first | (with_reducible exact Nat.le_refl _) | (with_reducible assumption) | omega | (simp only [World.size_alloc, World.size_setCell, World.size_drew]; omega) | (simp; omega) | (simp; done)))
            have D2 := Lib.hid hb
            have z2 := hb.size
            clear hb
            have d2 := ((bcell D2.out).1 _ _ hb').trans d0
            go_wp2_with fail
            refine (CN.out _ (RM.out _ B2) (RN.out _ B2)).mono ?_
            rintro e w3 ⟨rfl, hb⟩
            have B3 := up (B := w.heap.size) B2 hb (by (first | (with_reducible exact Nat.le_refl _) | (with_reducible assumption) | omega | (simp only [World.size_alloc, World.size_setCell, World.size_drew]; omega) | (simp; omega) | (simp; done)))
            have E3 := D2.out.trans (hb.mono z2)
            have D3 := Lib.hid E3
            have z3 := hb.size
            clear hb D2 B2
            have k0 := ((bcell D3.out).1 _ _ hb').trans d0
            clear d0 c0 d2
            have l3 : b < w3.heap.size := by omega
            have n3 : ¬ b = w3.heap.size := Nat.ne_of_lt l3
            have n3' : ¬ w3.heap.size = b := fun h => n3 h.symm
            have n4 : ¬ b = w3.heap.size + 1 := by omega
            have n4' : ¬ w3.heap.size + 1 = b := by omega
            have z38 := D3.out.size
            go_upto_region 17 with fail
            go_cut [13] (fun s13 wx => ∃ P : Nat, s13 = .pointer (some ⟨P, 0, none⟩) ∧ GpW w8 w3.heap.size P fx fy tx ty wx)
            case first =>
              go_region_held3 (fun w' => w'.cell? ⟨b, off + j, none⟩ = some (.slice (hd j).1 y.length (hd j).2) ∧ w'.cell? ⟨w3.heap.size, 0, none⟩ = some (.int .i64 fx) ∧ w'.cell? ⟨w3.heap.size, 1, none⟩ = some (.int .i64 fy)) (first | (focus (refine ⟨(World.cell?_alloc_lt _ _ _ ?_).trans ?_, (World.cell?_alloc_lt _ _ _ ?_).trans ?_, (World.cell?_alloc_lt _ _ _ ?_).trans ?_⟩ <;> (first | assumption | (show _ < _; omega)); done)) | (focus (refine ⟨((bcell hb).1 _ _ ?_).trans ?_, ((bcell hb).1 _ _ ?_).trans ?_, ((bcell hb).1 _ _ ?_).trans ?_⟩ <;> (first | assumption | omega | (simp only [World.size_alloc, World.size_setCell, World.size_drew]; omega) | (simp [go_sem, *]; done)); done)) | (focus (simp [go_sem, *]; done)) | go_keep)
                (first | (go_at_call 37; refine (CS.out _).mono ?_; rintro e v1 ⟨rfl, hb⟩; have y1 := hb.size; (try simp only [World.size_alloc, World.size_setCell, World.size_drew] at y1); have BV1 := up (B := w.heap.size) (w := w) (by (repeat' (first | (with_reducible exact Below.refl _ _) | (with_reducible assumption) | (with_reducible refine Below.alloc ?_ ?_ _) | (with_reducible refine Below.drew ?_) | (with_reducible refine below_drewN ?_ _) | (with_reducible refine Below.setCell ?_ ?_ _) | (with_reducible exact Nat.le_refl _) | omega | (simp only [World.size_alloc, World.size_setCell, World.size_drew]; omega) | (simp; omega) | (simp; done)))) hb (by (first | (with_reducible exact Nat.le_refl _) | (with_reducible assumption) | omega | (simp only [World.size_alloc, World.size_setCell, World.size_drew]; omega) | (simp; omega) | (simp; done))); have CV1 := up (B := w8.heap.size) (w := w8) (by (repeat' (first | (with_reducible exact Below.refl _ _) | (with_reducible assumption) | (with_reducible refine Below.alloc ?_ ?_ _) | (with_reducible refine Below.drew ?_) | (with_reducible refine below_drewN ?_ _) | (with_reducible refine Below.setCell ?_ ?_ _) | (with_reducible exact Nat.le_refl _) | omega | (simp only [World.size_alloc, World.size_setCell, World.size_drew]; omega) | (simp; omega) | (simp; done)))) hb (by (first | (with_reducible exact Nat.le_refl _) | (with_reducible assumption) | omega | (simp only [World.size_alloc, World.size_setCell, World.size_drew]; omega) | (simp; omega) | (simp; done))); (try (refine kpw hb (b := w3.heap.size + 1) (cs := #[.int .i64 0, .int .i64 0]) ?_ ?_ ?_ ?_; (focus (first | omega | (simp only [World.size_alloc, World.size_setCell, World.size_drew]; omega))); (focus (intro i; simp [go_sem]; done)); (focus (intro i; simp [go_sem]; done)); (intro ka ga))); (try (refine ltw (a := b) (b := v1.heap.size) ?_ ?_; omega; (intro la; have lan := Nat.ne_of_lt la; have lam := Nat.ne_of_gt la))); (try (refine ltw (a := w3.heap.size) (b := v1.heap.size) ?_ ?_; omega; (intro lb; have lbn := Nat.ne_of_lt lb; have lbm := Nat.ne_of_gt lb))); (try (refine ltw (a := w3.heap.size + 1) (b := v1.heap.size) ?_ ?_; omega; (intro lc; have lcn := Nat.ne_of_lt lc; have lcm := Nat.ne_of_gt lc)))) | (go_at_call 36; refine (CT.out _ _ (RN.out _ ?_) (rd_one ?_ ?_)).mono ?_; (focus ((repeat' (first | (with_reducible exact Below.refl _ _) | (with_reducible assumption) | (with_reducible refine Below.alloc ?_ ?_ _) | (with_reducible refine Below.drew ?_) | (with_reducible refine below_drewN ?_ _) | (with_reducible refine Below.setCell ?_ ?_ _) | (with_reducible exact Nat.le_refl _) | omega | (simp only [World.size_alloc, World.size_setCell, World.size_drew]; omega) | (simp; omega) | (simp; done))); done)); (focus ((first | (with_reducible exact Nat.le_refl _) | (with_reducible assumption) | omega | (simp only [World.size_alloc, World.size_setCell, World.size_drew]; omega) | (simp; omega) | (simp; done)); done)); (focus (intro i; simp [go_sem, sqAt]; done)); rintro e v2 ⟨rfl, hb⟩; have sv0 : v2.cell? ⟨b, off + j, none⟩ = some (.slice (hd j).1 y.length (hd j).2) := ((bcell hb).1 _ _ (by (first | (with_reducible exact Nat.le_refl _) | (with_reducible assumption) | omega | (simp only [World.size_alloc, World.size_setCell, World.size_drew]; omega) | (simp; omega) | (simp; done)))).trans (by first | assumption | (simp [go_sem, *]; done)); have sv1 : v2.cell? ⟨w3.heap.size, 0, none⟩ = some (.int .i64 fx) := ((bcell hb).1 _ _ (by (first | (with_reducible exact Nat.le_refl _) | (with_reducible assumption) | omega | (simp only [World.size_alloc, World.size_setCell, World.size_drew]; omega) | (simp; omega) | (simp; done)))).trans (by first | assumption | (simp [go_sem, *]; done)); have sv2 : v2.cell? ⟨w3.heap.size, 1, none⟩ = some (.int .i64 fy) := ((bcell hb).1 _ _ (by (first | (with_reducible exact Nat.le_refl _) | (with_reducible assumption) | omega | (simp only [World.size_alloc, World.size_setCell, World.size_drew]; omega) | (simp; omega) | (simp; done)))).trans (by first | assumption | (simp [go_sem, *]; done)); have y2 := hb.size; (try simp only [World.size_alloc, World.size_setCell, World.size_drew] at y2); have BV2 := up (B := w.heap.size) (w := w) (by (repeat' (first | (with_reducible exact Below.refl _ _) | (with_reducible assumption) | (with_reducible refine Below.alloc ?_ ?_ _) | (with_reducible refine Below.drew ?_) | (with_reducible refine below_drewN ?_ _) | (with_reducible refine Below.setCell ?_ ?_ _) | (with_reducible exact Nat.le_refl _) | omega | (simp only [World.size_alloc, World.size_setCell, World.size_drew]; omega) | (simp; omega) | (simp; done)))) hb (by (first | (with_reducible exact Nat.le_refl _) | (with_reducible assumption) | omega | (simp only [World.size_alloc, World.size_setCell, World.size_drew]; omega) | (simp; omega) | (simp; done))); have CV2 := up (B := w8.heap.size) (w := w8) (by (repeat' (first | (with_reducible exact Below.refl _ _) | (with_reducible assumption) | (with_reducible refine Below.alloc ?_ ?_ _) | (with_reducible refine Below.drew ?_) | (with_reducible refine below_drewN ?_ _) | (with_reducible refine Below.setCell ?_ ?_ _) | (with_reducible exact Nat.le_refl _) | omega | (simp only [World.size_alloc, World.size_setCell, World.size_drew]; omega) | (simp; omega) | (simp; done)))) hb (by (first | (with_reducible exact Nat.le_refl _) | (with_reducible assumption) | omega | (simp only [World.size_alloc, World.size_setCell, World.size_drew]; omega) | (simp; omega) | (simp; done))); (try (refine kpw hb (b := w3.heap.size + 1) (cs := #[.int .i64 0, .int .i64 0]) ?_ ?_ ?_ ?_; (focus (first | omega | (simp only [World.size_alloc, World.size_setCell, World.size_drew]; omega))); (focus (intro i; simp [go_sem, ka, ga, lc, lcn, lcm]; done)); (focus (intro i; simp [go_sem, ka, ga, lc, lcn, lcm]; done)); (intro kd gd))); (try (refine kpw hb (b := v1.heap.size) (cs := #[.int .i64 0, .int .i64 0]) ?_ ?_ ?_ ?_; (focus (first | omega | (simp only [World.size_alloc, World.size_setCell, World.size_drew]; omega))); (focus (intro i; simp [go_sem]; done)); (focus (intro i; simp [go_sem]; done)); (intro ke ge))); (try (refine kpw hb (b := v1.heap.size + 1) (cs := #[.int .i64 0, .int .i64 0]) ?_ ?_ ?_ ?_; (focus (first | omega | (simp only [World.size_alloc, World.size_setCell, World.size_drew]; omega))); (focus (intro i; simp [go_sem]; done)); (focus (intro i; simp [go_sem]; done)); (intro kf gf))); (try (refine ltw (a := b) (b := v2.heap.size) ?_ ?_; omega; (intro ma; have man := Nat.ne_of_lt ma; have mam := Nat.ne_of_gt ma))); (try (refine ltw (a := w3.heap.size) (b := v2.heap.size) ?_ ?_; omega; (intro mb; have mbn := Nat.ne_of_lt mb; have mbm := Nat.ne_of_gt mb))); (try (refine ltw (a := w3.heap.size + 1) (b := v2.heap.size) ?_ ?_; omega; (intro mc; have mcn := Nat.ne_of_lt mc; have mcm := Nat.ne_of_gt mc))); (try (refine ltw (a := v1.heap.size) (b := v2.heap.size) ?_ ?_; omega; (intro md; have mdn := Nat.ne_of_lt md; have mdm := Nat.ne_of_gt md))); (try (refine ltw (a := v1.heap.size + 1) (b := v2.heap.size) ?_ ?_; omega; (intro me; have men := Nat.ne_of_lt me; have mem := Nat.ne_of_gt me)))))
              all_goals
                go_wp2_with fail
                go_meet
              all_goals exact ⟨_, rfl, ⟨by first | assumption | exact (World.cell?_alloc_lt _ _ _ (by (first | (with_reducible exact Nat.le_refl _) | (with_reducible assumption) | omega | (simp only [World.size_alloc, World.size_setCell, World.size_drew]; omega) | (simp; omega) | (simp; done)))).trans (by assumption) | exact (set2_far (by omega) _).trans (by assumption), by first | assumption | exact (World.cell?_alloc_lt _ _ _ (by (first | (with_reducible exact Nat.le_refl _) | (with_reducible assumption) | omega | (simp only [World.size_alloc, World.size_setCell, World.size_drew]; omega) | (simp; omega) | (simp; done)))).trans (by assumption) | exact (set2_far (by omega) _).trans (by assumption), by first | (simp [go_sem]; done) | exact set2 (by assumption) 0 | exact set2 (by assumption) 1, by first | (simp [go_sem]; done) | exact set2 (by assumption) 0 | exact set2 (by assumption) 1, by (first | (with_reducible exact Nat.le_refl _) | (with_reducible assumption) | omega | (simp only [World.size_alloc, World.size_setCell, World.size_drew]; omega) | (simp; omega) | (simp; done)), by (first | (with_reducible exact Nat.le_refl _) | (with_reducible assumption) | omega | (simp only [World.size_alloc, World.size_setCell, World.size_drew]; omega) | (simp; omega) | (simp; done)), by (repeat' (first | (with_reducible exact Below.refl _ _) | (with_reducible assumption) | (with_reducible refine Below.alloc ?_ ?_ _) | (with_reducible refine Below.drew ?_) | (with_reducible refine below_drewN ?_ _) | (with_reducible refine Below.setCell ?_ ?_ _) | (with_reducible exact Nat.le_refl _) | omega | (simp only [World.size_alloc, World.size_setCell, World.size_drew]; omega) | (simp; omega) | (simp; done)))⟩⟩
            case rest =>
              obtain ⟨P, rfl, hP⟩ := hcut
              have g0 := hP.q0
              have g1 := hP.q1
              have g2 := hP.p0
              have g3 := hP.p1
              have g4 := hP.lq
              have g5 := hP.lp
              have O4 := Lib.hid (ownsRow_below' HOj.out hP.b)
              have B4 := hbi.trans (hP.b.mono zi)
              have z4 := B4.size
              clear hP
              go_wp2_with (first | (at_builtin; refine wpList_append_own _ rfl (.tmp 74) (.tmp 82) 37 rfl w.heap.size 44 i0 (.agg #[.int .i64 0, .int .i64 0, .int .i64 0, .int .i64 0, .int .i64 0, .int .i64 0, .int .i64 0]) 7 56 Try.underlying37 hi0 hz0 hz1 hz2 rfl (by decide) u7 s.length (cG s) rfl ?o1 ⟨wc.heap.size, 0, none⟩ 1 1 [.int .i64 k, .int .i64 j, .int .i64 (n - 1), .int .i64 fx, .int .i64 fy, .int .i64 tx, .int .i64 ty] rfl rfl ?nw ?o2 ?q4 ?q5 ?b2 ?_; (case o1 => exact ownsRow_below' O4.out (by (repeat' (first | (with_reducible exact Below.refl _ _) | (with_reducible assumption) | (with_reducible refine Below.alloc ?_ ?_ _) | (with_reducible refine Below.drew ?_) | (with_reducible refine below_drewN ?_ _) | (with_reducible refine Below.setCell ?_ ?_ _) | (with_reducible exact Nat.le_refl _) | omega | (simp only [World.size_alloc, World.size_setCell, World.size_drew]; omega) | (simp; omega) | (simp; done))))); (case nw => exact list_new _ _ (by simp) _ _); (case o2 => simp [Value.oneCell']); (case q4 => simp only [maxLen]; omega); (case q5 => omega); (case b2 => (first | (with_reducible exact Nat.le_refl _) | (with_reducible assumption) | omega | (simp only [World.size_alloc, World.size_setCell, World.size_drew]; omega) | (simp; omega) | (simp; done))); intro v2 w5 hown2 hg2 hnil2; have HO2 := Lib.hid hown2; have B5 := below_app (B := w.heap.size) (w0 := w) (by (repeat' (first | (with_reducible exact Below.refl _ _) | (with_reducible assumption) | (with_reducible refine Below.alloc ?_ ?_ _) | (with_reducible refine Below.drew ?_) | (with_reducible refine below_drewN ?_ _) | (with_reducible refine Below.setCell ?_ ?_ _) | (with_reducible exact Nat.le_refl _) | omega | (simp only [World.size_alloc, World.size_setCell, World.size_drew]; omega) | (simp; omega) | (simp; done)))) (ownsRow_below' O4.out (by (repeat' (first | (with_reducible exact Below.refl _ _) | (with_reducible assumption) | (with_reducible refine Below.alloc ?_ ?_ _) | (with_reducible refine Below.drew ?_) | (with_reducible refine below_drewN ?_ _) | (with_reducible refine Below.setCell ?_ ?_ _) | (with_reducible exact Nat.le_refl _) | omega | (simp only [World.size_alloc, World.size_setCell, World.size_drew]; omega) | (simp; omega) | (simp; done))))) hg2 (Nat.le_refl _) (by (first | (with_reducible exact Nat.le_refl _) | (with_reducible assumption) | omega | (simp only [World.size_alloc, World.size_setCell, World.size_drew]; omega) | (simp; omega) | (simp; done))); clear hown2 hg2 hnil2))
              go_roundw
              case rel => exact ⟨j + 1, _, by omega, by omega, by go_num, HGs.out, own_snocG HO2.out, by simp; omega, B5⟩
              case measure => simp [intOf]; omega
        · obtain rfl : j = L.length := by omega
          have HGe := Lib.hid (show G = gapAll below (k + 1) (L.drop (k + 1)) s from by rw [HGj.out, List.drop_length]; rfl)
          go_wp2_with fail
          go_roundw
          case rel => exact ⟨k + 1, s, by omega, by go_num, HGe.out, HOj.out, by omega, hbi⟩
          case measure => simp [intOf]; omega
    · obtain rfl : k = L.length := by omega
      have hG : G = some s := by rw [HGk.out, List.drop_length]; rfl
      subst hG
      go_wp2_with fail
      go_ret2
      exact ⟨_, rfl, HO.out, hbw⟩
end Go.Proofs.Ytkjbllhobannpaa

/- Gaps of the reference, whatever the world. -/
import Derived.Test.YtjcbngpgmgeanaaLeastB
import Derived.Test.YtjcbngpgmgeanaaGapF
import Derived.Test.YtjcbngpgmgeanaaRefH
import Derived.IntWalk
namespace Go.Proofs.Ytjcbngpgmgeanaa
open Go.RowKit
open Reg (R4)
set_option linter.unusedSimpArgs false
set_option linter.unusedVariables false

/-- Behind GapOf: the gap's own block. -/
structure GqW (w8 : World) (P : Nat) (d fx fy tx ty : Int) (wx : World) : Prop where
  p : ∀ i, wx.cell? ⟨P, i, none⟩ = (#[Value.int .i64 0, .int .i64 0, .int .i64 d, .int .i64 fx, .int .i64 fy, .int .i64 tx, .int .i64 ty])[i]?
  f : ∀ i, wx.frozen? ⟨P, i, none⟩ = false
  l : P < wx.heap.size
  n : w8.heap.size ≤ P
  b : Below w8.heap.size w8 wx
theorem gwithin_any (n lo hi : Int) (w : World) : Calls Try.prog 39 #[.int .i64 n, .int .i64 lo, .int .i64 hi] w fun e w' => e = .returned (.bool (decide (lo ≤ n) && decide (n ≤ hi))) ∧ w = w' := by
  by_cases h1 : lo ≤ n
  · by_cases h2 : n ≤ hi
    · go_enter Try.func39, Try.ntmps39
      go_wp2
      go_ret
      exact ⟨by simp; omega, rfl⟩
    · go_enter Try.func39, Try.ntmps39
      go_wp2
      go_ret
      exact ⟨by simp; omega, rfl⟩
  · go_enter Try.func39, Try.ntmps39
    go_wp2
    go_ret
    exact ⟨by simp; omega, rfl⟩
set_option maxRecDepth 100000 in
set_option maxHeartbeats 2000000 in
theorem rgaps_long (A : Option Addr) (L : List (List R4)) (c : Nat) (hd : Nat → Option Addr × Nat) (below : Int) (w : World) (hl : L.length ≤ 140737488355328) (h : RdM w A L hd) (hb : 2000 < L.length) :
    Calls Try.prog 17 #[.slice A L.length c, .int .i64 below] w (GotGF w [] 2) := by
  have H0 := Lib.hid h
  clear h
  unfold GotGF
  have hb' : (2000 : Int) < (L.length : Int) := by omega
  go_enter Try.func17, Try.ntmps17
  go_wp2_with fail
  go_loopw [6, 7] (fun n i wr => ∃ (k : Nat) (m : Int), k ≤ L.length ∧ i = .int .i64 k ∧ n = .int .i64 m ∧ Below w.heap.size w wr) (fun _ i _ => L.length - (intOf i).toNat)
  case atStart => exact ⟨0, 0, Nat.zero_le _, rfl, rfl, Below.refl _ _⟩
  case round =>
    obtain ⟨k, m, hk, rfl, rfl, hbw⟩ := hrel
    have zw := hbw.size
    have hkz : (0 : Int) ≤ (k : Int) := by omega
    by_cases hlt : k < L.length
    · have hM := H0.out.below hbw
      obtain ⟨b, off, e, hb, hc⟩ := hM.1 (by omega)
      subst e
      have hi := List.getElem?_eq_getElem hlt
      have c0 := hc k _ hi
      clear hc hi hM
      generalize L[k] = x at *
      have hklt : (k : Int) < (L.length : Int) := by omega
      go_wp2_with fail
      go_roundw
      case rel => exact ⟨k + 1, _, by omega, by go_num, rfl, hbw⟩
      case measure => simp [intOf]; omega
    · obtain rfl : k = L.length := by omega
      go_wp2_with fail
      go_ret2
      exact ⟨_, rfl, own_nilR _ _ _ _, hbw⟩

set_option maxRecDepth 100000 in
set_option maxHeartbeats 8000000 in
theorem rgaps_short (A : Option Addr) (L : List (List R4)) (c : Nat) (hd : Nat → Option Addr × Nat) (below : Int) (w : World) (h : RdM w A L hd) (hs : L.length ≤ 2000) :
    Calls Try.prog 17 #[.slice A L.length c, .int .i64 below] w (GotGF w (gpL L below) (gpF L below)) := by
  obtain ⟨i0, hi0, hz0, hz1, hz2⟩ := info_parts infoG
  have H0 := Lib.hid h
  have CR := Lib.hid (fun A' l c' W (hl : l.length ≤ c') (hc : c' ≤ 140737488355328) h => rcheckRegion_any A' l c' W hl hc h)
  have hlen := rdM_len h
  clear h
  have hb' : ¬ (2000 : Int) < (L.length : Int) := by omega
  have htot : ∀ k, totL (L.take k) ≤ 2000 * 140737488355328 := fun k => by
    have h1 := totL_take L k
    have h2 := totL_le L hlen
    have h3 : L.length * 140737488355328 ≤ 2000 * 140737488355328 := Nat.mul_le_mul_right _ (by omega)
    omega
  have HT := Lib.hid htot
  clear htot
  have HX := Lib.hid (show (cgF L below = if 2000 < totL L then 2 else if regsF L = 0 then (if 0 ≤ below ∧ below ≤ 100000 then 0 else 1) else regsF L) from by
    unfold cgF
    by_cases ht : 2000 < totL L
    · rw [if_pos (.inr ht), if_pos ht]
    · rw [if_neg (by omega), if_neg ht])
  have HL := Lib.hid (show gpL L below = if cgF L below = 0 then (gapAll below 0 L []).getD [] else [] from rfl)
  have HF := Lib.hid (show gpF L below = if cgF L below = 0 then (if (gapAll below 0 L []).isSome then 0 else 12) else cgF L below from rfl)
  generalize gpL L below = PL at *
  generalize gpF L below = PF at *
  have HZ := Lib.hid (fun h => cgF_zero (L := L) (below := below) h)
  generalize cgF L below = V at *
  have HG := Lib.hid (show gapAll below 0 L [] = gapAll below 0 (L.drop 0) [] from rfl)
  generalize gapAll below 0 L [] = G at *
  unfold GotGF
  go_enter Try.func17, Try.ntmps17
  go_wp2_with fail
  go_loopw [6, 7] (fun n i wr => ∃ k : Nat, k ≤ L.length ∧ i = .int .i64 k ∧ n = .int .i64 (totL (L.take k) : Nat) ∧ Below w.heap.size w wr) (fun _ i _ => L.length - (intOf i).toNat)
  case atStart => exact ⟨0, Nat.zero_le _, rfl, rfl, Below.refl _ _⟩
  case round =>
    obtain ⟨k, hk, rfl, rfl, hbw⟩ := hrel
    have zw := hbw.size
    have hkz : (0 : Int) ≤ (k : Int) := by omega
    by_cases hlt : k < L.length
    · have hM := H0.out.below hbw
      obtain ⟨b, off, e, hb, hc⟩ := hM.1 (by omega)
      subst e
      have hi := List.getElem?_eq_getElem hlt
      have c0 := hc k _ hi
      have hle := hlen _ (List.getElem_mem hlt)
      have HS := Lib.hid (totL_snoc L k hlt)
      have ht := HT.out k
      clear hc hi hM hlen
      generalize L[k] = x at *
      have hklt : (k : Int) < (L.length : Int) := by omega
      obtain ⟨T, hT⟩ : ∃ T, T = totL (L.take k) := ⟨_, rfl⟩
      rw [← hT] at HS ht
      rw [← hT]
      clear hT
      go_wp2_with fail
      go_roundw
      case rel => exact ⟨k + 1, by omega, by go_num, by rw [HS.out]; go_num, hbw⟩
      case measure => simp [intOf]; omega
    · obtain rfl : k = L.length := by omega
      rw [List.take_length]
      by_cases ht : 2000 < totL L
      · have ht' : (2000 : Int) < (totL L : Int) := by omega
        have hV : V = 2 := by rw [HX.out, if_pos ht]
        have h1 : PL = [] := by rw [HL.out, hV]; rfl
        have h2 : PF = 2 := by rw [HF.out, hV]; rfl
        subst h1
        subst h2
        clear hV
        go_wp2_with fail
        go_ret2
        exact ⟨_, rfl, own_nilR _ _ _ _, hbw⟩
      · have ht' : ¬ (2000 : Int) < (totL L : Int) := by omega
        have HV2 := Lib.hid (show V = if regsF L = 0 then (if 0 ≤ below ∧ below ≤ 100000 then 0 else 1) else regsF L from by rw [HX.out, if_neg ht])
        obtain ⟨w8, rfl⟩ : ∃ w8, w8 = wr := ⟨wr, rfl⟩
        go_wp2_with fail
        go_loopw [8] (fun i wr => ∃ k : Nat, k ≤ L.length ∧ i = .int .i64 k ∧ regsF L = regsF (L.drop k) ∧ Below w.heap.size w wr) (fun i _ => L.length - (intOf i).toNat)
        case atStart => exact ⟨0, Nat.zero_le _, rfl, rfl, hbw⟩
        case round =>
          obtain ⟨k, hk, rfl, hr, hbi⟩ := hrel
          have HR := Lib.hid hr
          clear hr
          have zi := hbi.size
          have hkz : (0 : Int) ≤ (k : Int) := by omega
          by_cases hlt : k < L.length
          · have hM := H0.out.below hbi
            obtain ⟨b, off, e, hb, hc⟩ := hM.1 (by omega)
            subst e
            have hi := List.getElem?_eq_getElem hlt
            have c0 := hc k _ hi
            obtain ⟨r1, r2, r3⟩ := hM.2 k _ hi
            have HS := Lib.hid (regsF_drop hlt)
            have R1 := Lib.hid r1
            clear hc hi hM r1 hlen
            generalize L[k] = x at *
            have C1 := Lib.hid (fun W h => CR.out (hd k).1 x (hd k).2 W r2 r3 h)
            have hklt : (k : Int) < (L.length : Int) := by omega
            by_cases hz : regF x = 0
            · have HN := Lib.hid (show regsF L = regsF (L.drop (k + 1)) from by rw [HR.out, HS.out, if_pos hz])
              rw [hz] at C1
              clear hz
              go_wp2_with fail
              refine (C1.out _ R1.out).mono ?_
              rintro e w2 ⟨rfl, hb2⟩
              have B2 := up (B := w.heap.size) hbi hb2 (by (first | (with_reducible exact Nat.le_refl _) | (with_reducible assumption) | omega | (simp only [World.size_alloc, World.size_setCell, World.size_drew]; omega) | (simp; omega) | (simp; done)))
              clear hb2
              go_wp2_with fail
              go_roundw
              case rel => exact ⟨k + 1, by omega, by go_num, HN.out, B2⟩
              case measure => simp [intOf]; omega
            · have hV : V = regF x := by rw [HV2.out, HR.out, HS.out, if_neg hz, if_neg hz]
              have h1 : PL = [] := by rw [HL.out, hV, if_neg hz]
              have h2 : PF = regF x := by rw [HF.out, hV, if_neg hz]
              have hd1 : (regF x == 0) = false := by simpa using hz
              have hd2 : (regF x != 0) = true := by simpa using hz
              subst h1
              clear hz hV
              generalize regF x = F at *
              subst h2
              go_wp2_with fail
              refine (C1.out _ R1.out).mono ?_
              rintro e w2 ⟨rfl, hb2⟩
              have B2 := up (B := w.heap.size) hbi hb2 (by (first | (with_reducible exact Nat.le_refl _) | (with_reducible assumption) | omega | (simp only [World.size_alloc, World.size_setCell, World.size_drew]; omega) | (simp; omega) | (simp; done)))
              clear hb2
              go_wp2_with fail
              go_ret2
              exact ⟨_, rfl, own_nilR _ _ _ _, B2⟩
          · obtain rfl : k = L.length := by omega
            have hz : regsF L = 0 := by rw [HR.out, List.drop_length]; rfl
            have hv := HV2.out
            rw [if_pos hz] at hv
            clear hz
            by_cases hbe : 0 ≤ below ∧ below ≤ 100000
            · rw [if_pos hbe] at hv
              subst hv
              have h1 : PL = G.getD [] := by rw [HL.out, if_pos rfl]
              have h2 : PF = if G.isSome then 0 else 12 := by rw [HF.out, if_pos rfl]
              subst h1
              subst h2
              obtain ⟨-, -, q3, q4, q5⟩ := HZ.out rfl
              have hRg := Lib.hid (fun l hl => regRg (q3 l hl))
              have HLN := Lib.hid hlen
              clear q3 HZ HX hlen HL HF HV2
              have CI := Lib.hid (fun W => gwithin_any below 0 100000 W)
              rw [show (decide (0 ≤ below) && decide (below ≤ 100000)) = true from by simp; omega] at CI
              go_wp2_with fail
              refine (CI.out _).mono ?_
              rintro e w9 ⟨rfl, rfl⟩
              clear CI
              go_wp2_with fail
              go_loopw [10, 11] (fun v7 i wr => ∃ (k : Nat) (s : List G7), k ≤ L.length ∧ i = .int .i64 k ∧ G = gapAll below k (L.drop k) s ∧ wr.ownsRow w.heap.size 44 7 v7 s.length (cG s) ∧ s.length ≤ 2000 * k ∧ Below w.heap.size w wr) (fun _ i _ => L.length - (intOf i).toNat)
              case atStart => exact ⟨0, [], Nat.zero_le _, rfl, HG.out, own_nilR _ _ _ _, by simp, hbi⟩
              case round =>
                obtain ⟨k, s, hk, rfl, hg, ho, hsl, hbw⟩ := hrel
                have zw := hbw.size
                have HGk := Lib.hid hg
                have HO := Lib.hid ho
                clear hg ho HG
                have hkz : (0 : Int) ≤ (k : Int) := by omega
                by_cases hlt : k < L.length
                · have hi := List.getElem?_eq_getElem hlt
                  have HD := Lib.hid (gapAll_drop (below := below) (s := s) hlt)
                  have RX := Lib.hid (hRg.out _ (List.getElem_mem hlt))
                  have lx := HLN.out _ (List.getElem_mem hlt)
                  have RM := Lib.hid (fun W (hb : Below w.heap.size w W) => (((H0.out).below hb).2 k _ hi).1)
                  have HI1 := Lib.hid hi
                  clear hi
                  generalize L[k] = x at *
                  have hklt : (k : Int) < (L.length : Int) := by omega
                  have HG2 := Lib.hid (HGk.out.trans HD.out)
                  clear HGk HD
                  obtain ⟨w7, rfl⟩ : ∃ w7, w7 = wr := ⟨wr, rfl⟩
                  go_wp2_with fail
                  go_loopw [10, 12] (fun v7 i wr => ∃ (j : Nat) (s : List G7), k + 1 ≤ j ∧ j ≤ L.length ∧ i = .int .i64 j ∧ G = (gapRow below k x j (L.drop j) s).bind (gapAll below (k + 1) (L.drop (k + 1))) ∧ wr.ownsRow w.heap.size 44 7 v7 s.length (cG s) ∧ s.length ≤ 2000 * k + j ∧ Below w.heap.size w wr) (fun _ i _ => L.length - (intOf i).toNat)
                  case atStart => exact ⟨k + 1, s, Nat.le_refl _, by omega, by go_num, HG2.out, HO.out, by omega, hbw⟩
                  case round =>
                    obtain ⟨j, s, hj0, hj, rfl, hg, ho, hsl, hbi⟩ := hrel
                    have HGj := Lib.hid hg
                    have HOj := Lib.hid ho
                    clear hg ho HG2 HO
                    have zi := hbi.size
                    have hjz : (0 : Int) ≤ (j : Int) := by omega
                    by_cases hjl : j < L.length
                    · have hM := H0.out.below hbi
                      obtain ⟨b, off, e, hb', hc⟩ := hM.1 (by omega)
                      subst e
                      have hi := List.getElem?_eq_getElem hjl
                      have d0 := hc j _ hi
                      have c0 := hc k _ HI1.out
                      have HD := Lib.hid (gapRow_drop (below := below) (i := k) (a := x) (s := s) hjl)
                      have RY := Lib.hid (hRg.out _ (List.getElem_mem hjl))
                      have ly := HLN.out _ (List.getElem_mem hjl)
                      have RN := Lib.hid (fun W (hb : Below w.heap.size w W) => (((H0.out).below hb).2 j _ hi).1)
                      clear hc hi hM
                      generalize L[j] = y at *
                      have hjlt : (j : Int) < (L.length : Int) := by omega
                      have hcase := gap_cases below k j x y s
                      have HGs := Lib.hid (HGj.out.trans (congrArg (fun z => z.bind (gapAll below (k + 1) (L.drop (k + 1)))) HD.out))
                      generalize hQ : gapStep below k j x y s = Q at *
                      clear hQ HGj HD
                      rcases hcase with ⟨e1, rfl⟩ | ⟨e1, e2, rfl⟩ | ⟨e1, e2, e3, rfl⟩ | ⟨e1, e2, e3, e4, rfl⟩ | ⟨e1, e2, e3, e4, rfl⟩
                      · have f1 := len_yes e1
                        have HE := Lib.hid e1
                        clear e1
                        go_wp2_with fail
                        go_roundw
                        case rel => exact ⟨j + 1, s, by omega, by omega, by go_num, HGs.out, HOj.out, by omega, hbi⟩
                        case measure => simp [intOf]; omega
                      · have f1 := len_no e1
                        have f2 := len_yes e2
                        have HE := Lib.hid e2
                        clear e2
                        go_wp2_with fail
                        go_roundw
                        case rel => exact ⟨j + 1, s, by omega, by omega, by go_num, HGs.out, HOj.out, by omega, hbi⟩
                        case measure => simp [intOf]; omega
                      all_goals
                        have f1 := len_no e1
                        have f2 := len_no e2
                        have CD := Lib.hid (fun W h1 h2 => farRegions_any (hd k).1 (hd j).1 x y (hd k).2 (hd j).2 W (fun r hr => rt_of (RX.out r hr)) (fun r hr => rt_of (RY.out r hr)) (by omega) (by omega) lx ly h1 h2)
                        have fb := farRs_bound (by omega) (by omega) RX.out RY.out
                      · rw [e3] at CD
                        have hG : G = none := HGs.out
                        subst hG
                        clear e3 HGs
                        go_wp2_with fail
                        go_region_held3 (fun w' => w'.cell? ⟨b, off + k, none⟩ = some (.slice (hd k).1 x.length (hd k).2) ∧ w'.cell? ⟨b, off + j, none⟩ = some (.slice (hd j).1 y.length (hd j).2)) (first | go_keep | exact ⟨((bcell hb).1 _ _ hb').trans c0, ((bcell hb).1 _ _ hb').trans d0⟩)
                          (first | (go_at_call 40; refine (CD.out _ (RM.out _ ?_) (RN.out _ ?_)).mono ?_; (focus ((repeat' (first | (with_reducible exact Below.refl _ _) | (with_reducible assumption) | (with_reducible refine Below.alloc ?_ ?_ _) | (with_reducible refine Below.drew ?_) | (with_reducible refine below_drewN ?_ _) | (with_reducible refine Below.setCell ?_ ?_ _) | (with_reducible exact Nat.le_refl _) | omega | (simp only [World.size_alloc, World.size_setCell, World.size_drew]; omega) | (simp; omega) | (simp; done))); done)); (focus ((repeat' (first | (with_reducible exact Below.refl _ _) | (with_reducible assumption) | (with_reducible refine Below.alloc ?_ ?_ _) | (with_reducible refine Below.drew ?_) | (with_reducible refine below_drewN ?_ _) | (with_reducible refine Below.setCell ?_ ?_ _) | (with_reducible exact Nat.le_refl _) | omega | (simp only [World.size_alloc, World.size_setCell, World.size_drew]; omega) | (simp; omega) | (simp; done))); done)); rintro e w2 ⟨rfl, hb⟩; have B2 := up (B := w.heap.size) (w := w) (by (repeat' (first | (with_reducible exact Below.refl _ _) | (with_reducible assumption) | (with_reducible refine Below.alloc ?_ ?_ _) | (with_reducible refine Below.drew ?_) | (with_reducible refine below_drewN ?_ _) | (with_reducible refine Below.setCell ?_ ?_ _) | (with_reducible exact Nat.le_refl _) | omega | (simp only [World.size_alloc, World.size_setCell, World.size_drew]; omega) | (simp; omega) | (simp; done)))) hb (by (first | (with_reducible exact Nat.le_refl _) | (with_reducible assumption) | omega | (simp only [World.size_alloc, World.size_setCell, World.size_drew]; omega) | (simp; omega) | (simp; done))); have A2 := up (B := wr.heap.size) (w := wr) (by (repeat' (first | (with_reducible exact Below.refl _ _) | (with_reducible assumption) | (with_reducible refine Below.alloc ?_ ?_ _) | (with_reducible refine Below.drew ?_) | (with_reducible refine below_drewN ?_ _) | (with_reducible refine Below.setCell ?_ ?_ _) | (with_reducible exact Nat.le_refl _) | omega | (simp only [World.size_alloc, World.size_setCell, World.size_drew]; omega) | (simp; omega) | (simp; done)))) hb (by (first | (with_reducible exact Nat.le_refl _) | (with_reducible assumption) | omega | (simp only [World.size_alloc, World.size_setCell, World.size_drew]; omega) | (simp; omega) | (simp; done)))))
                        clear hb
                        go_wp2_with fail
                        go_ret2
                        exact ⟨_, rfl, own_nilR _ _ _ _, B2⟩
                      · generalize farRs x y = n at *
                        have f3 : (n == 0) = false := by simpa using e3
                        go_wp2_with fail
                        go_region_held3 (fun w' => w'.cell? ⟨b, off + k, none⟩ = some (.slice (hd k).1 x.length (hd k).2) ∧ w'.cell? ⟨b, off + j, none⟩ = some (.slice (hd j).1 y.length (hd j).2)) (first | go_keep | exact ⟨((bcell hb).1 _ _ hb').trans c0, ((bcell hb).1 _ _ hb').trans d0⟩)
                          (first | (go_at_call 40; refine (CD.out _ (RM.out _ ?_) (RN.out _ ?_)).mono ?_; (focus ((repeat' (first | (with_reducible exact Below.refl _ _) | (with_reducible assumption) | (with_reducible refine Below.alloc ?_ ?_ _) | (with_reducible refine Below.drew ?_) | (with_reducible refine below_drewN ?_ _) | (with_reducible refine Below.setCell ?_ ?_ _) | (with_reducible exact Nat.le_refl _) | omega | (simp only [World.size_alloc, World.size_setCell, World.size_drew]; omega) | (simp; omega) | (simp; done))); done)); (focus ((repeat' (first | (with_reducible exact Below.refl _ _) | (with_reducible assumption) | (with_reducible refine Below.alloc ?_ ?_ _) | (with_reducible refine Below.drew ?_) | (with_reducible refine below_drewN ?_ _) | (with_reducible refine Below.setCell ?_ ?_ _) | (with_reducible exact Nat.le_refl _) | omega | (simp only [World.size_alloc, World.size_setCell, World.size_drew]; omega) | (simp; omega) | (simp; done))); done)); rintro e w2 ⟨rfl, hb⟩; have B2 := up (B := w.heap.size) (w := w) (by (repeat' (first | (with_reducible exact Below.refl _ _) | (with_reducible assumption) | (with_reducible refine Below.alloc ?_ ?_ _) | (with_reducible refine Below.drew ?_) | (with_reducible refine below_drewN ?_ _) | (with_reducible refine Below.setCell ?_ ?_ _) | (with_reducible exact Nat.le_refl _) | omega | (simp only [World.size_alloc, World.size_setCell, World.size_drew]; omega) | (simp; omega) | (simp; done)))) hb (by (first | (with_reducible exact Nat.le_refl _) | (with_reducible assumption) | omega | (simp only [World.size_alloc, World.size_setCell, World.size_drew]; omega) | (simp; omega) | (simp; done))); have A2 := up (B := wr.heap.size) (w := wr) (by (repeat' (first | (with_reducible exact Below.refl _ _) | (with_reducible assumption) | (with_reducible refine Below.alloc ?_ ?_ _) | (with_reducible refine Below.drew ?_) | (with_reducible refine below_drewN ?_ _) | (with_reducible refine Below.setCell ?_ ?_ _) | (with_reducible exact Nat.le_refl _) | omega | (simp only [World.size_alloc, World.size_setCell, World.size_drew]; omega) | (simp; omega) | (simp; done)))) hb (by (first | (with_reducible exact Nat.le_refl _) | (with_reducible assumption) | omega | (simp only [World.size_alloc, World.size_setCell, World.size_drew]; omega) | (simp; omega) | (simp; done)))))
                        have O2 := Lib.hid (ownsRow_below' HOj.out A2)
                        have zB2 := B2.size
                        have t2 : decide (n - 1 < below) = false := decide_eq_false (by omega)
                        have t1 := IntWalk.i64_in (n - 1) (by omega)
                        have c2 := ((bcell A2).1 _ _ hb').trans c0
                        have d2 := ((bcell A2).1 _ _ hb').trans d0
                        have hb2' := Nat.lt_of_lt_of_le hb' A2.size
                        clear hb c0 d0 A2
                        go_wp2_with fail
                        go_region_held3 (fun w' => w'.cell? ⟨b, off + k, none⟩ = some (.slice (hd k).1 x.length (hd k).2) ∧ w'.cell? ⟨b, off + j, none⟩ = some (.slice (hd j).1 y.length (hd j).2)) (first | go_keep | exact ⟨((bcell hb).1 _ _ hb2').trans c2, ((bcell hb).1 _ _ hb2').trans d2⟩)
                          (first | (go_at_call 40; refine (CD.out _ (RM.out _ ?_) (RN.out _ ?_)).mono ?_; (focus ((repeat' (first | (with_reducible exact Below.refl _ _) | (with_reducible assumption) | (with_reducible refine Below.alloc ?_ ?_ _) | (with_reducible refine Below.drew ?_) | (with_reducible refine below_drewN ?_ _) | (with_reducible refine Below.setCell ?_ ?_ _) | (with_reducible exact Nat.le_refl _) | omega | (simp only [World.size_alloc, World.size_setCell, World.size_drew]; omega) | (simp; omega) | (simp; done))); done)); (focus ((repeat' (first | (with_reducible exact Below.refl _ _) | (with_reducible assumption) | (with_reducible refine Below.alloc ?_ ?_ _) | (with_reducible refine Below.drew ?_) | (with_reducible refine below_drewN ?_ _) | (with_reducible refine Below.setCell ?_ ?_ _) | (with_reducible exact Nat.le_refl _) | omega | (simp only [World.size_alloc, World.size_setCell, World.size_drew]; omega) | (simp; omega) | (simp; done))); done)); rintro e w3 ⟨rfl, hb⟩; have B3 := up (B := w.heap.size) (w := w) (by (repeat' (first | (with_reducible exact Below.refl _ _) | (with_reducible assumption) | (with_reducible refine Below.alloc ?_ ?_ _) | (with_reducible refine Below.drew ?_) | (with_reducible refine below_drewN ?_ _) | (with_reducible refine Below.setCell ?_ ?_ _) | (with_reducible exact Nat.le_refl _) | omega | (simp only [World.size_alloc, World.size_setCell, World.size_drew]; omega) | (simp; omega) | (simp; done)))) hb (by (first | (with_reducible exact Nat.le_refl _) | (with_reducible assumption) | omega | (simp only [World.size_alloc, World.size_setCell, World.size_drew]; omega) | (simp; omega) | (simp; done))); have A3 := up (B := w2.heap.size) (w := w2) (by (repeat' (first | (with_reducible exact Below.refl _ _) | (with_reducible assumption) | (with_reducible refine Below.alloc ?_ ?_ _) | (with_reducible refine Below.drew ?_) | (with_reducible refine below_drewN ?_ _) | (with_reducible refine Below.setCell ?_ ?_ _) | (with_reducible exact Nat.le_refl _) | omega | (simp only [World.size_alloc, World.size_setCell, World.size_drew]; omega) | (simp; omega) | (simp; done)))) hb (by (first | (with_reducible exact Nat.le_refl _) | (with_reducible assumption) | omega | (simp only [World.size_alloc, World.size_setCell, World.size_drew]; omega) | (simp; omega) | (simp; done)))))
                        have O3 := Lib.hid (ownsRow_below' O2.out A3)
                        clear hb A3
                        go_wp2_with fail
                        go_roundw
                        case rel => exact ⟨j + 1, s, by omega, by omega, by go_num, HGs.out, O3.out, by omega, B3⟩
                        case measure => simp [intOf]; omega
                      · have CO := Lib.hid (fun W h1 h2 => gapOf_any (hd k).1 (hd j).1 x y (hd k).2 (hd j).2 W RX.out RY.out (by omega) (by omega) lx ly h1 h2)
                        have hgap : gapOf k j x y = ⟨k, j, farRs x y - 1, (gapOf 0 0 x y).fx, (gapOf 0 0 x y).fy, (gapOf 0 0 x y).tx, (gapOf 0 0 x y).ty⟩ := rfl
                        have hgap0 : (gapOf 0 0 x y).d = farRs x y - 1 := rfl
                        rw [hgap] at HGs
                        simp only [gv, hgap0] at CO
                        clear hgap hgap0
                        generalize farRs x y = n at *
                        generalize (gapOf 0 0 x y).fx = fx at *
                        generalize (gapOf 0 0 x y).fy = fy at *
                        generalize (gapOf 0 0 x y).tx = tx at *
                        generalize (gapOf 0 0 x y).ty = ty at *
                        have f3 : (n == 0) = false := by simpa using e3
                        obtain ⟨w8, rfl⟩ : ∃ w8, w8 = wr := ⟨wr, rfl⟩
                        go_wp2_with fail
                        go_region_held3 (fun w' => w'.cell? ⟨b, off + k, none⟩ = some (.slice (hd k).1 x.length (hd k).2) ∧ w'.cell? ⟨b, off + j, none⟩ = some (.slice (hd j).1 y.length (hd j).2)) (first | go_keep | exact ⟨((bcell hb).1 _ _ hb').trans c0, ((bcell hb).1 _ _ hb').trans d0⟩)
                          (first | (go_at_call 40; refine (CD.out _ (RM.out _ ?_) (RN.out _ ?_)).mono ?_; (focus ((repeat' (first | (with_reducible exact Below.refl _ _) | (with_reducible assumption) | (with_reducible refine Below.alloc ?_ ?_ _) | (with_reducible refine Below.drew ?_) | (with_reducible refine below_drewN ?_ _) | (with_reducible refine Below.setCell ?_ ?_ _) | (with_reducible exact Nat.le_refl _) | omega | (simp only [World.size_alloc, World.size_setCell, World.size_drew]; omega) | (simp; omega) | (simp; done))); done)); (focus ((repeat' (first | (with_reducible exact Below.refl _ _) | (with_reducible assumption) | (with_reducible refine Below.alloc ?_ ?_ _) | (with_reducible refine Below.drew ?_) | (with_reducible refine below_drewN ?_ _) | (with_reducible refine Below.setCell ?_ ?_ _) | (with_reducible exact Nat.le_refl _) | omega | (simp only [World.size_alloc, World.size_setCell, World.size_drew]; omega) | (simp; omega) | (simp; done))); done)); rintro e w2 ⟨rfl, hb⟩; have B2 := up (B := w.heap.size) (w := w) (by (repeat' (first | (with_reducible exact Below.refl _ _) | (with_reducible assumption) | (with_reducible refine Below.alloc ?_ ?_ _) | (with_reducible refine Below.drew ?_) | (with_reducible refine below_drewN ?_ _) | (with_reducible refine Below.setCell ?_ ?_ _) | (with_reducible exact Nat.le_refl _) | omega | (simp only [World.size_alloc, World.size_setCell, World.size_drew]; omega) | (simp; omega) | (simp; done)))) hb (by (first | (with_reducible exact Nat.le_refl _) | (with_reducible assumption) | omega | (simp only [World.size_alloc, World.size_setCell, World.size_drew]; omega) | (simp; omega) | (simp; done))); have A2 := up (B := w8.heap.size) (w := w8) (by (repeat' (first | (with_reducible exact Below.refl _ _) | (with_reducible assumption) | (with_reducible refine Below.alloc ?_ ?_ _) | (with_reducible refine Below.drew ?_) | (with_reducible refine below_drewN ?_ _) | (with_reducible refine Below.setCell ?_ ?_ _) | (with_reducible exact Nat.le_refl _) | omega | (simp only [World.size_alloc, World.size_setCell, World.size_drew]; omega) | (simp; omega) | (simp; done)))) hb (by (first | (with_reducible exact Nat.le_refl _) | (with_reducible assumption) | omega | (simp only [World.size_alloc, World.size_setCell, World.size_drew]; omega) | (simp; omega) | (simp; done)))))
                        have D2 := Lib.hid A2
                        have zB2 := B2.size
                        have t2 : decide (n - 1 < below) = true := decide_eq_true (by omega)
                        have t1 := IntWalk.i64_in (n - 1) (by omega)
                        have c2 := ((bcell A2).1 _ _ hb').trans c0
                        have d2 := ((bcell A2).1 _ _ hb').trans d0
                        have hb2' := Nat.lt_of_lt_of_le hb' A2.size
                        have z2 := A2.size
                        clear hb c0 d0 A2
                        go_wp2_with fail
                        go_region_held3 (fun w' => w'.cell? ⟨b, off + k, none⟩ = some (.slice (hd k).1 x.length (hd k).2) ∧ w'.cell? ⟨b, off + j, none⟩ = some (.slice (hd j).1 y.length (hd j).2)) (first | go_keep | exact ⟨((bcell hb).1 _ _ hb2').trans c2, ((bcell hb).1 _ _ hb2').trans d2⟩)
                          (first | (go_at_call 40; refine (CD.out _ (RM.out _ ?_) (RN.out _ ?_)).mono ?_; (focus ((repeat' (first | (with_reducible exact Below.refl _ _) | (with_reducible assumption) | (with_reducible refine Below.alloc ?_ ?_ _) | (with_reducible refine Below.drew ?_) | (with_reducible refine below_drewN ?_ _) | (with_reducible refine Below.setCell ?_ ?_ _) | (with_reducible exact Nat.le_refl _) | omega | (simp only [World.size_alloc, World.size_setCell, World.size_drew]; omega) | (simp; omega) | (simp; done))); done)); (focus ((repeat' (first | (with_reducible exact Below.refl _ _) | (with_reducible assumption) | (with_reducible refine Below.alloc ?_ ?_ _) | (with_reducible refine Below.drew ?_) | (with_reducible refine below_drewN ?_ _) | (with_reducible refine Below.setCell ?_ ?_ _) | (with_reducible exact Nat.le_refl _) | omega | (simp only [World.size_alloc, World.size_setCell, World.size_drew]; omega) | (simp; omega) | (simp; done))); done)); rintro e w3 ⟨rfl, hb⟩; have B3 := up (B := w.heap.size) (w := w) (by (repeat' (first | (with_reducible exact Below.refl _ _) | (with_reducible assumption) | (with_reducible refine Below.alloc ?_ ?_ _) | (with_reducible refine Below.drew ?_) | (with_reducible refine below_drewN ?_ _) | (with_reducible refine Below.setCell ?_ ?_ _) | (with_reducible exact Nat.le_refl _) | omega | (simp only [World.size_alloc, World.size_setCell, World.size_drew]; omega) | (simp; omega) | (simp; done)))) hb (by (first | (with_reducible exact Nat.le_refl _) | (with_reducible assumption) | omega | (simp only [World.size_alloc, World.size_setCell, World.size_drew]; omega) | (simp; omega) | (simp; done))); have A3 := up (B := w2.heap.size) (w := w2) (by (repeat' (first | (with_reducible exact Below.refl _ _) | (with_reducible assumption) | (with_reducible refine Below.alloc ?_ ?_ _) | (with_reducible refine Below.drew ?_) | (with_reducible refine below_drewN ?_ _) | (with_reducible refine Below.setCell ?_ ?_ _) | (with_reducible exact Nat.le_refl _) | omega | (simp only [World.size_alloc, World.size_setCell, World.size_drew]; omega) | (simp; omega) | (simp; done)))) hb (by (first | (with_reducible exact Nat.le_refl _) | (with_reducible assumption) | omega | (simp only [World.size_alloc, World.size_setCell, World.size_drew]; omega) | (simp; omega) | (simp; done)))))
                        have E3 := D2.out.trans (A3.mono z2)
                        have c3 := ((bcell A3).1 _ _ hb2').trans c2
                        have d3 := ((bcell A3).1 _ _ hb2').trans d2
                        have hb3' := Nat.lt_of_lt_of_le hb2' A3.size
                        have z3 := A3.size
                        clear hb c2 d2 D2 A3 t1
                        go_upto_region 27 with fail
                        go_cut [13] (fun s13 wx => ∃ P : Nat, s13 = .pointer (some ⟨P, 0, none⟩) ∧ GqW w8 P (n - 1) fx fy tx ty wx)
                        case first =>
                          have l3 : b < w3.heap.size := hb3'
                          have n3 : ¬ b = w3.heap.size := Nat.ne_of_lt l3
                          have n3' : ¬ w3.heap.size = b := fun h => n3 h.symm
                          have z38 := E3.size
                          go_region_held3 (fun w' => w'.cell? ⟨b, off + k, none⟩ = some (.slice (hd k).1 x.length (hd k).2) ∧ w'.cell? ⟨b, off + j, none⟩ = some (.slice (hd j).1 y.length (hd j).2)) (first | (focus ((with_reducible refine ⟨(set7_far ?_ _).trans ?_, (set7_far ?_ _).trans ?_⟩) <;> (first | assumption | omega); done)) | (focus ((with_reducible refine ⟨(World.cell?_alloc_lt _ _ _ ?_).trans ?_, (World.cell?_alloc_lt _ _ _ ?_).trans ?_⟩) <;> (first | assumption | (show _ < _; omega)); done)) | (focus ((with_reducible refine ⟨((bcell hb).1 _ _ ?_).trans ?_, ((bcell hb).1 _ _ ?_).trans ?_⟩) <;> (first | assumption | omega | (simp only [World.size_alloc, World.size_setCell, World.size_drew]; omega) | (simp [go_sem, *]; done)); done)) | (focus (simp [go_sem, *]; done)) | go_keep)
                            (first | (go_at_call 41; refine (CO.out _ (RM.out _ ?_) (RN.out _ ?_)).mono ?_; (focus ((repeat' (first | (with_reducible exact Below.refl _ _) | (with_reducible assumption) | (with_reducible refine Below.alloc ?_ ?_ _) | (with_reducible refine Below.drew ?_) | (with_reducible refine below_drewN ?_ _) | (with_reducible refine Below.setCell ?_ ?_ _) | (with_reducible exact Nat.le_refl _) | omega | (simp only [World.size_alloc, World.size_setCell, World.size_drew]; omega) | (simp; omega) | (simp; done))); done)); (focus ((repeat' (first | (with_reducible exact Below.refl _ _) | (with_reducible assumption) | (with_reducible refine Below.alloc ?_ ?_ _) | (with_reducible refine Below.drew ?_) | (with_reducible refine below_drewN ?_ _) | (with_reducible refine Below.setCell ?_ ?_ _) | (with_reducible exact Nat.le_refl _) | omega | (simp only [World.size_alloc, World.size_setCell, World.size_drew]; omega) | (simp; omega) | (simp; done))); done)); rintro e w4 ⟨rfl, hb⟩; have sv0 : w4.cell? ⟨b, off + k, none⟩ = some (.slice (hd k).1 x.length (hd k).2) := ((bcell hb).1 _ _ (by (first | (with_reducible exact Nat.le_refl _) | (with_reducible assumption) | omega | (simp only [World.size_alloc, World.size_setCell, World.size_drew]; omega) | (simp; omega) | (simp; done)))).trans (by first | assumption | (simp only [World.cell?_drew]; assumption) | (simp only [World.cell?_drew]; exact (World.cell?_alloc_lt _ _ _ l3).trans (by assumption))); have sv1 : w4.cell? ⟨b, off + j, none⟩ = some (.slice (hd j).1 y.length (hd j).2) := ((bcell hb).1 _ _ (by (first | (with_reducible exact Nat.le_refl _) | (with_reducible assumption) | omega | (simp only [World.size_alloc, World.size_setCell, World.size_drew]; omega) | (simp; omega) | (simp; done)))).trans (by first | assumption | (simp only [World.cell?_drew]; assumption) | (simp only [World.cell?_drew]; exact (World.cell?_alloc_lt _ _ _ l3).trans (by assumption))); have y4 := hb.size; (try simp only [World.size_alloc, World.size_setCell, World.size_drew] at y4); have la : b < w4.heap.size := (by omega); have CV4 := up (B := w8.heap.size) (w := w8) (by (repeat' (first | (with_reducible exact Below.refl _ _) | (with_reducible assumption) | (with_reducible refine Below.alloc ?_ ?_ _) | (with_reducible refine Below.drew ?_) | (with_reducible refine below_drewN ?_ _) | (with_reducible refine Below.setCell ?_ ?_ _) | (with_reducible exact Nat.le_refl _) | omega | (simp only [World.size_alloc, World.size_setCell, World.size_drew]; omega) | (simp; omega) | (simp; done)))) hb (by (first | (with_reducible exact Nat.le_refl _) | (with_reducible assumption) | omega | (simp only [World.size_alloc, World.size_setCell, World.size_drew]; omega) | (simp; omega) | (simp; done))); (try (refine kpw hb (b := w3.heap.size) (cs := #[.int .i64 0, .int .i64 0, .int .i64 0, .int .i64 0, .int .i64 0, .int .i64 0, .int .i64 0]) ?_ ?_ ?_ ?_; (focus (first | omega | (simp only [World.size_alloc, World.size_setCell, World.size_drew]; omega))); (focus (intro i; simp [go_sem]; done)); (focus (intro i; simp [go_sem]; done)); (intro ka ga)))))
                          all_goals
                            go_wp2_with fail
                            go_meet
                          all_goals exact ⟨_, rfl, ⟨by first | (intro i; simp [go_sem]; done) | exact set7 ka, by first | (intro i; simp [go_sem]; done) | (intro i; simp only [World.frozen?_setCell]; exact ga i), by (first | (with_reducible exact Nat.le_refl _) | (with_reducible assumption) | omega | (simp only [World.size_alloc, World.size_setCell, World.size_drew]; omega) | (simp; omega) | (simp; done)), by (first | (with_reducible exact Nat.le_refl _) | (with_reducible assumption) | omega | (simp only [World.size_alloc, World.size_setCell, World.size_drew]; omega) | (simp; omega) | (simp; done)), by (repeat' (first | (with_reducible exact Below.refl _ _) | (with_reducible assumption) | (with_reducible refine Below.alloc ?_ ?_ _) | (with_reducible refine Below.drew ?_) | (with_reducible refine below_drewN ?_ _) | (with_reducible refine Below.setCell ?_ ?_ _) | (with_reducible exact Nat.le_refl _) | omega | (simp only [World.size_alloc, World.size_setCell, World.size_drew]; omega) | (simp; omega) | (simp; done)))⟩⟩
                        case rest =>
                          obtain ⟨P, rfl, hP⟩ := hcut
                          have hp := hP.p
                          have p0 := hp 0
                          have p1 := hp 1
                          have p2 := hp 2
                          have p3 := hp 3
                          have p4 := hp 4
                          have p5 := hp 5
                          have p6 := hp 6
                          simp at p0 p1 p2 p3 p4 p5 p6
                          have q0 := hP.f 0
                          have q1 := hP.f 1
                          have g5 := hP.l
                          have g6 := hP.n
                          have g7 := hP.b
                          have g8 := hbi.trans (g7.mono zi)
                          have z4 := g7.size
                          clear hP hp
                          go_wp2_with (first | (at_builtin; refine wpList_append_own _ rfl (.tmp 114) (.tmp 116) 37 rfl w.heap.size 44 i0 (.agg #[.int .i64 0, .int .i64 0, .int .i64 0, .int .i64 0, .int .i64 0, .int .i64 0, .int .i64 0]) 7 56 Try.underlying37 hi0 hz0 hz1 hz2 rfl (by decide) u10 s.length (cG s) rfl ?o1 ⟨wc.heap.size, 0, none⟩ 1 1 [.int .i64 k, .int .i64 j, .int .i64 (n - 1), .int .i64 fx, .int .i64 fy, .int .i64 tx, .int .i64 ty] rfl rfl ?nw ?o2 ?q4 ?q5 ?b2 ?_; (case o1 => exact ownsRow_below' HOj.out (by (repeat' (first | (with_reducible exact Below.refl _ _) | (with_reducible assumption) | (with_reducible refine Below.alloc ?_ ?_ _) | (with_reducible refine Below.drew ?_) | (with_reducible refine below_drewN ?_ _) | (with_reducible refine Below.setCell ?_ ?_ _) | (with_reducible exact Nat.le_refl _) | omega | (simp only [World.size_alloc, World.size_setCell, World.size_drew]; omega) | (simp; omega) | (simp; done))))); (case nw => exact list_new _ _ (by simp) _ _); (case o2 => simp [Value.oneCell']); (case q4 => simp only [maxLen]; omega); (case q5 => omega); (case b2 => (first | (with_reducible exact Nat.le_refl _) | (with_reducible assumption) | omega | (simp only [World.size_alloc, World.size_setCell, World.size_drew]; omega) | (simp; omega) | (simp; done))); intro v2 w5 hown2 hg2 hnil2; have HO2 := Lib.hid hown2; have B5 := below_app (B := w.heap.size) (w0 := w) (by (repeat' (first | (with_reducible exact Below.refl _ _) | (with_reducible assumption) | (with_reducible refine Below.alloc ?_ ?_ _) | (with_reducible refine Below.drew ?_) | (with_reducible refine below_drewN ?_ _) | (with_reducible refine Below.setCell ?_ ?_ _) | (with_reducible exact Nat.le_refl _) | omega | (simp only [World.size_alloc, World.size_setCell, World.size_drew]; omega) | (simp; omega) | (simp; done)))) (ownsRow_below' HOj.out (by (repeat' (first | (with_reducible exact Below.refl _ _) | (with_reducible assumption) | (with_reducible refine Below.alloc ?_ ?_ _) | (with_reducible refine Below.drew ?_) | (with_reducible refine below_drewN ?_ _) | (with_reducible refine Below.setCell ?_ ?_ _) | (with_reducible exact Nat.le_refl _) | omega | (simp only [World.size_alloc, World.size_setCell, World.size_drew]; omega) | (simp; omega) | (simp; done))))) hg2 (Nat.le_refl _) (by (first | (with_reducible exact Nat.le_refl _) | (with_reducible assumption) | omega | (simp only [World.size_alloc, World.size_setCell, World.size_drew]; omega) | (simp; omega) | (simp; done))); clear hown2 hg2 hnil2))
                          go_roundw
                          case rel => exact ⟨j + 1, _, by omega, by omega, by go_num, HGs.out, own_snocG HO2.out, by simp; omega, B5⟩
                          case measure => simp [intOf]; omega
                    · obtain rfl : j = L.length := by omega
                      have HGe := Lib.hid (show G = gapAll below (k + 1) (L.drop (k + 1)) s from by rw [HGj.out, List.drop_length]; rfl)
                      go_wp2_with fail
                      go_roundw
                      case rel => exact ⟨k + 1, s, by omega, by go_num, HGe.out, HOj.out, by omega, hbi⟩
                      case measure => simp [intOf]; omega
                · obtain rfl : k = L.length := by omega
                  have hG : G = some s := by rw [HGk.out, List.drop_length]; rfl
                  subst hG
                  go_wp2_with fail
                  go_ret2
                  exact ⟨_, rfl, HO.out, hbw⟩
            · rw [if_neg hbe] at hv
              subst hv
              have h1 : PL = [] := by rw [HL.out]; rfl
              have h2 : PF = 1 := by rw [HF.out]; rfl
              subst h1
              subst h2
              have CI := Lib.hid (fun W => gwithin_any below 0 100000 W)
              rw [show (decide (0 ≤ below) && decide (below ≤ 100000)) = false from by
                rw [Bool.and_eq_false_iff, decide_eq_false_iff_not, decide_eq_false_iff_not]; omega] at CI
              go_wp2_with fail
              refine (CI.out _).mono ?_
              rintro e w2 ⟨rfl, rfl⟩
              go_wp2_with fail
              go_ret2
              exact ⟨_, rfl, own_nilR _ _ _ _, hbi⟩

theorem rgaps_any (A : Option Addr) (L : List (List R4)) (c : Nat) (hd : Nat → Option Addr × Nat) (below : Int) (w : World) (hl : L.length ≤ 140737488355328) (h : RdM w A L hd) :
    Calls Try.prog 17 #[.slice A L.length c, .int .i64 below] w (GotGF w (gpL L below) (gpF L below)) := by
  by_cases hb : 2000 < L.length
  · have hc : cgF L below = 2 := by unfold cgF; rw [if_pos (.inl hb)]
    have h1 : gpL L below = [] := by unfold gpL; rw [hc]; rfl
    have h2 : gpF L below = 2 := by unfold gpF; rw [hc]; rfl
    rw [h1, h2]
    exact rgaps_long A L c hd below w hl h hb
  · exact rgaps_short A L c hd below w h (by omega)
end Go.Proofs.Ytjcbngpgmgeanaa

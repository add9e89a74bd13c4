/- Bow of the reference of chapter 4, whatever the world. -/
import Derived.Test.YtnjcahdelcdcfaaBow
namespace Go.Proofs.Ytnjcahdelcdcfaa
open Go.RowKit
set_option linter.unusedSimpArgs false
set_option linter.unusedVariables false
set_option maxRecDepth 100000
section
variable {A : Option Addr} {l : List Mat} {c : Nat} {A2 : Option Addr} {s : List Lay} {c2 : Nat} {w : World}
set_option maxHeartbeats 4000000 in
theorem rBow_law (hc2 : s.length ≤ c2) (hc3 : c2 ≤ 140737488355328) (h : StkIn A l A2 s w) : Calls Try.prog 30 #[.slice A l.length c, .slice A2 s.length c2] w fun e w' => e = .returned (.tuple #[.int .i64 (bowF l s), .int .i64 (stackF l s)]) ∧ Below w.heap.size w w' := by
  have CP := Lib.hid (rCheckStack_any (c := c) A2 s c2 hc2 hc3 h)
  by_cases h0 : stackF l s = 0
  · have HE := Lib.hid (show bowF l s = bowGo (thick (s.map (rowOf l))) 0 (s.map (rowOf l)) by unfold bowF; rw [if_pos h0, rows_eq h0]; rfl)
    have HSI := Lib.hid h
    have hmm := matsF_mem (stackF_mats h0)
    have HMM := Lib.hid hmm
    have hl1 := h.l1
    have hs60 := (stackF_go h0).2.1
    have CT := Lib.hid (fun W (hb : Below w.heap.size w W) => rThick_any (c := c) (w := W) A2 s c2 hl1 hmm (by omega) (HSI.out.m.below hb) (HSI.out.y.below hb))
    have C := Lib.hid (fun n W (hb : Below w.heap.size w W) => materialOf_any A l c n W hl1 (HSI.out.m.below hb))
    obtain ⟨th0, th1⟩ := rows_bound hmm s
    rw [h0] at CP ⊢
    clear h h0 hmm
    generalize bowF l s = G at *
    generalize hS : thick (s.map (rowOf l)) = S at *
    have HSS := Lib.hid hS
    clear hS
    go_enter Try.func30, Try.ntmps30
    go_wp2_with fail
    refine CP.out.mono ?_
    rintro e w1 ⟨rfl, hb⟩
    have B1 := Lib.hid hb
    clear hb
    go_wp2_with fail
    refine (CT.out _ B1.out).mono ?_
    rintro e w2 ⟨rfl, hb⟩
    have B2 := Lib.hid (B1.out.trans (hb.mono B1.out.size))
    clear hb
    go_wp2_with fail
    go_loopw [8, 9, 24] (fun tv bv i wr => ∃ (k : Nat) (b t : Int), k ≤ s.length ∧ i = .int .i64 k ∧ bv = .int .i64 b ∧ tv = .int .i64 t ∧ G = b + bowGo S t ((s.drop k).map (rowOf l)) ∧ -20000000000000 * (k : Int) ≤ b ∧ b ≤ 20000000000000 * (k : Int) ∧ 0 ≤ t ∧ t ≤ 2000 * (k : Int) ∧ Below w.heap.size w wr) (fun _ _ i _ => s.length - (intOf i).toNat)
    case atStart => exact ⟨0, 0, 0, Nat.zero_le _, rfl, rfl, rfl, by rw [HE.out]; simp, by omega, by omega, by omega, by omega, B2.out⟩
    case round =>
      obtain ⟨k, b, T, hk, rfl, rfl, rfl, hg, hb0, hb1, ht0, ht1, hw⟩ := hrel
      have HG := Lib.hid hg
      have HW := Lib.hid hw
      have zw := hw.size
      clear hg hw
      have hkz : (0 : Int) ≤ (k : Int) := by omega
      by_cases hlt : k < s.length
      · obtain ⟨bb, off, rfl, hblt, hcs⟩ := (HSI.out.y.below HW.out) (by omega)
        have hi : s[k]? = some s[k] := List.getElem?_eq_getElem hlt
        have c0 := by simpa using hcs k _ hi 0 _ rfl
        have c1 := hcs k _ hi 1 _ rfl
        have hd : s.drop k = s[k] :: s.drop (k + 1) := List.drop_eq_getElem_cons hlt
        obtain ⟨y, hy⟩ : ∃ y, s[k] = y := ⟨_, rfl⟩
        have hfx := row_bound HMM.out s[k].mat
        have hgx : 0 ≤ ((matOf l s[k].mat).getD noMat).grow ∧ ((matOf l s[k].mat).getD noMat).grow ≤ 1000 := by
          cases hmo : matOf l s[k].mat with
          | none => simp [noMat]
          | some x =>
            have := matF_zero (HMM.out x (matOf_mem hmo))
            simp only [Option.getD_some]
            omega
        have HNX := Lib.hid (show bowGo S T ((s.drop k).map (rowOf l)) = ((matOf l s[k].mat).getD noMat).thick * ((matOf l s[k].mat).getD noMat).grow * (2 * T + ((matOf l s[k].mat).getD noMat).thick - S) + bowGo S (T + ((matOf l s[k].mat).getD noMat).thick) ((s.drop (k + 1)).map (rowOf l)) by rw [hd, List.map_cons, bowGo]; rfl)
        have CY := Lib.hid (C.out s[k].mat)
        clear hi hcs hd hy
        generalize s[k] = y at *
        generalize (matOf l y.mat).getD noMat = x at *
        obtain ⟨a1, a2⟩ := hfx
        obtain ⟨a3, a4⟩ := hgx
        have hp := mul_small (a := x.thick) (b := x.grow) a1 a2 a3 a4
        have hq := mul_big (p := x.thick * x.grow) (d := 2 * T + x.thick - S) hp.1 hp.2 (by omega) (by omega)
        obtain ⟨p1, p2⟩ := hp
        obtain ⟨q1, q2⟩ := hq
        have y1 : IntKind.i64.wrap (x.thick * x.grow) = x.thick * x.grow := IntWalk.i64_in _ (by omega)
        have y2 : IntKind.i64.wrap (2 * T) = 2 * T := IntWalk.i64_in _ (by omega)
        have y3 : IntKind.i64.wrap (2 * T + x.thick) = 2 * T + x.thick := IntWalk.i64_in _ (by omega)
        have y4 : IntKind.i64.wrap (2 * T + x.thick - S) = 2 * T + x.thick - S := IntWalk.i64_in _ (by omega)
        have y5 : IntKind.i64.wrap (x.thick * x.grow * (2 * T + x.thick - S)) = x.thick * x.grow * (2 * T + x.thick - S) := IntWalk.i64_in _ (by omega)
        have y6 : IntKind.i64.wrap (b + x.thick * x.grow * (2 * T + x.thick - S)) = b + x.thick * x.grow * (2 * T + x.thick - S) := IntWalk.i64_in _ (by omega)
        have y7 : IntKind.i64.wrap (T + x.thick) = T + x.thick := IntWalk.i64_in _ (by omega)
        have ROUND := Lib.hid (show G = (b + x.thick * x.grow * (2 * T + x.thick - S)) + bowGo S (T + x.thick) ((s.drop (k + 1)).map (rowOf l)) by rw [HG.out, HNX.out]; omega)
        have BD := Lib.hid (show -20000000000000 * ((k + 1 : Nat) : Int) ≤ b + x.thick * x.grow * (2 * T + x.thick - S) ∧ b + x.thick * x.grow * (2 * T + x.thick - S) ≤ 20000000000000 * ((k + 1 : Nat) : Int) ∧ 0 ≤ T + x.thick ∧ T + x.thick ≤ 2000 * ((k + 1 : Nat) : Int) by omega)
        have e1 : -9223372036854775808 ≤ x.thick * x.grow := by omega
        have e2 : x.thick * x.grow ≤ 9223372036854775807 := by omega
        go_wp2_with fail
        refine (CY.out _ (by have := HW.out; (repeat' (first | (with_reducible exact Below.refl _ _) | (with_reducible assumption) | (with_reducible refine Below.alloc ?_ ?_ _) | (with_reducible refine Below.drew ?_) | (with_reducible refine below_drewN ?_ _) | (with_reducible refine Below.setCell ?_ ?_ _) | (with_reducible exact Nat.le_refl _) | omega | (simp only [World.size_alloc, World.size_setCell, World.size_drew]; omega) | (simp; omega) | (simp; done))))).mono ?_
        rintro e w3 ⟨rfl, hb⟩
        have B3 := Lib.hid (up (B := w.heap.size) (w := w) (by have := HW.out; (repeat' (first | (with_reducible exact Below.refl _ _) | (with_reducible assumption) | (with_reducible refine Below.alloc ?_ ?_ _) | (with_reducible refine Below.drew ?_) | (with_reducible refine below_drewN ?_ _) | (with_reducible refine Below.setCell ?_ ?_ _) | (with_reducible exact Nat.le_refl _) | omega | (simp only [World.size_alloc, World.size_setCell, World.size_drew]; omega) | (simp; omega) | (simp; done)))) hb (by (first | (with_reducible exact Nat.le_refl _) | (with_reducible assumption) | omega | (simp only [World.size_alloc, World.size_setCell, World.size_drew]; omega) | (simp; omega) | (simp; done))))
        have z3 := B3.out.size
        clear hb
        go_wp2_with fail
        go_roundw
        case rel => exact ⟨k + 1, b + x.thick * x.grow * (2 * T + x.thick - S), T + x.thick, by omega, by go_num, rfl, rfl, ROUND.out, BD.out.1, BD.out.2.1, BD.out.2.2.1, BD.out.2.2.2, by have := B3.out; (repeat' (first | (with_reducible exact Below.refl _ _) | (with_reducible assumption) | (with_reducible refine Below.alloc ?_ ?_ _) | (with_reducible refine Below.drew ?_) | (with_reducible refine below_drewN ?_ _) | (with_reducible refine Below.setCell ?_ ?_ _) | (with_reducible exact Nat.le_refl _) | omega | (simp only [World.size_alloc, World.size_setCell, World.size_drew]; omega) | (simp; omega) | (simp; done)))⟩
        case measure => simp [intOf]; omega
      · obtain rfl : k = s.length := by omega
        have HN := Lib.hid (show G = b by rw [HG.out, List.drop_length]; simp [bowGo])
        clear hb0 hb1
        go_wp2_with fail
        go_ret2
        exact ⟨by rw [HN.out]; rfl, HW.out⟩
  · have HE := Lib.hid (show bowF l s = 0 by unfold bowF; rw [if_neg h0])
    generalize bowF l s = G at *
    generalize stackF l s = F at *
    have hd1 : (F == 0) = false := by simpa using h0
    have hd2 : (F != 0) = true := by simpa using h0
    clear h0 h
    go_enter Try.func30, Try.ntmps30
    go_wp2_with fail
    refine CP.out.mono ?_
    rintro e w1 ⟨rfl, hb⟩
    have B1 := Lib.hid hb
    clear hb
    go_wp2_with fail
    go_ret2
    exact ⟨by rw [HE.out]; rfl, B1.out⟩
end
end Go.Proofs.Ytnjcahdelcdcfaa

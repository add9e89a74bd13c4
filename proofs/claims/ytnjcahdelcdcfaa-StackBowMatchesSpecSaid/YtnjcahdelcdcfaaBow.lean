/- Mirrored, Bow and OwnMirror: what package stack and the reference of chapter 4 answer, whatever the world. -/
import Derived.Test.YtnjcahdelcdcfaaRAns
import Derived.Test.YtnjcahdelcdcfaaStk3
import Derived.Test.YtnjcahdelcdcfaaBowP
import Derived.Test.YtnjcahdelcdcfaaSlLay
namespace Go.Proofs.Ytnjcahdelcdcfaa
open Go.RowKit
set_option linter.unusedSimpArgs false
set_option linter.unusedVariables false
set_option maxRecDepth 100000

theorem quiet3 {P : Program} {f : FuncId} {args : Array Value} {w : World} {v : Value} (c : ∀ n, Calls P f args (w.drewN n) fun e w' => e = .returned v ∧ ∃ k, w' = (w.drewN n).drewN k) {n : Nat} :
    Calls P f args (w.drewN n) fun e w' => e = .returned v ∧ ∃ m, w' = w.drewN m :=
  (c n).mono fun _ _ h => ⟨h.1, by obtain ⟨k, hk⟩ := h.2; exact ⟨n + k, by rw [hk, World.drewN_drewN]⟩⟩
section
variable {A : Option Addr} {l : List Mat} {c : Nat} {A2 : Option Addr} {s : List Lay} {c2 : Nat} {w : World}
def MirPost (w : World) (l : List Mat) (s : List Lay) (e : Ending) (w' : World) : Prop :=
  ∃ A' c', (mirF l s).length ≤ c' ∧ c' ≤ maxLen ∧ e = .returned (.tuple #[.slice A' (mirF l s).length c', .int .i64 (stackF l s)]) ∧ RdG 2 Lay.cs w' A' (mirF l s) ∧ Below w.heap.size w w'
theorem mirrored_law (h : StkIn A l A2 s w) : Calls Try.prog 26 #[.slice A l.length c, .slice A2 s.length c2] w (MirPost w l s) := by
  have CP := Lib.hid (checkStack_any (c := c) (c2 := c2) h)
  have HS := Lib.hid h
  unfold MirPost mirF
  by_cases h0 : stackF l s = 0
  · rw [if_pos h0]
    have hs60 := (stackF_go h0).2.1
    have CC := Lib.hid (fun W h => cloneLay_any A2 s c2 W (by omega) h)
    have CR := Lib.hid (fun base v W h => reverseLay_any base v s W (by omega) h)
    rw [h0] at CP ⊢
    clear h0 h
    go_enter Try.func26, Try.ntmps26
    go_wp2_with fail
    refine CP.out.mono ?_
    rintro e w1 ⟨rfl, hb⟩
    have B1 := Lib.hid hb
    clear hb
    go_wp2_with fail
    refine (CC.out _ (HS.out.y.below B1.out)).mono ?_
    rintro e w2 ⟨v, rfl, ho, hb⟩
    have HO := Lib.hid ho
    have B2 := Lib.hid (B1.out.trans (hb.mono B1.out.size))
    clear hb ho
    go_wp2_with fail
    refine (CR.out _ _ _ HO.out).mono ?_
    rintro e w3 ⟨rfl, ho, hg⟩
    have HO3 := Lib.hid ho
    have B3 := Lib.hid (B2.out.grown hg B2.out.size (fun k hk => Nat.le_trans B1.out.size (HO.out.lt k hk).1))
    clear ho hg
    obtain ⟨A', c', rfl, q1, q2, -⟩ := own_cells HO3.out
    go_wp2_with fail
    go_ret2
    have h9 := HO3.out
    have hre : s.length = s.reverse.length := List.length_reverse.symm
    rw [hre] at h9 q1
    exact ⟨A', c', q1, q2, by rw [List.length_reverse]; rfl, rd_of_own (n := 0) h9, B3.out⟩
  · rw [if_neg h0]
    generalize stackF l s = F at *
    have hd1 : (F == 0) = false := by simpa using h0
    have hd2 : (F != 0) = true := by simpa using h0
    clear h0 h
    go_enter Try.func26, Try.ntmps26
    go_wp2_with fail
    refine CP.out.mono ?_
    rintro e w1 ⟨rfl, hb⟩
    have B1 := Lib.hid hb
    clear hb
    go_wp2_with fail
    go_ret2
    exact ⟨none, 0, Nat.zero_le _, Nat.zero_le _, rfl, (fun hp => absurd hp (by simp)), B1.out⟩
theorem rMirrored_law (hc2 : s.length ≤ c2) (hc3 : c2 ≤ 140737488355328) (h : StkIn A l A2 s w) : Calls Try.prog 27 #[.slice A l.length c, .slice A2 s.length c2] w (MirPost w l s) := by
  have CP := Lib.hid (rCheckStack_any (c := c) A2 s c2 hc2 hc3 h)
  have HS := Lib.hid h
  unfold MirPost mirF
  by_cases h0 : stackF l s = 0
  · rw [if_pos h0]
    have hs60 := (stackF_go h0).2.1
    have CC := Lib.hid (fun W h => cloneLay_any A2 s c2 W (by omega) h)
    have CR := Lib.hid (fun base v W h => reverseLay_any base v s W (by omega) h)
    rw [h0] at CP ⊢
    clear h0 h
    go_enter Try.func27, Try.ntmps27
    go_wp2_with fail
    refine CP.out.mono ?_
    rintro e w1 ⟨rfl, hb⟩
    have B1 := Lib.hid hb
    clear hb
    go_wp2_with fail
    refine (CC.out _ (HS.out.y.below B1.out)).mono ?_
    rintro e w2 ⟨v, rfl, ho, hb⟩
    have HO := Lib.hid ho
    have B2 := Lib.hid (B1.out.trans (hb.mono B1.out.size))
    clear hb ho
    go_wp2_with fail
    refine (CR.out _ _ _ HO.out).mono ?_
    rintro e w3 ⟨rfl, ho, hg⟩
    have HO3 := Lib.hid ho
    have B3 := Lib.hid (B2.out.grown hg B2.out.size (fun k hk => Nat.le_trans B1.out.size (HO.out.lt k hk).1))
    clear ho hg
    obtain ⟨A', c', rfl, q1, q2, -⟩ := own_cells HO3.out
    go_wp2_with fail
    go_ret2
    have h9 := HO3.out
    have hre : s.length = s.reverse.length := List.length_reverse.symm
    rw [hre] at h9 q1
    exact ⟨A', c', q1, q2, by rw [List.length_reverse]; rfl, rd_of_own (n := 0) h9, B3.out⟩
  · rw [if_neg h0]
    generalize stackF l s = F at *
    have hd1 : (F == 0) = false := by simpa using h0
    have hd2 : (F != 0) = true := by simpa using h0
    clear h0 h
    go_enter Try.func27, Try.ntmps27
    go_wp2_with fail
    refine CP.out.mono ?_
    rintro e w1 ⟨rfl, hb⟩
    have B1 := Lib.hid hb
    clear hb
    go_wp2_with fail
    go_ret2
    exact ⟨none, 0, Nat.zero_le _, Nat.zero_le _, rfl, (fun hp => absurd hp (by simp)), B1.out⟩
end
def ownMB (s : List Lay) (k : Nat) : Prop := ∀ i, i < k → (s[i]?.map Lay.mat) = (s[s.length - 1 - i]?.map Lay.mat)
set_option maxHeartbeats 1000000 in
theorem ownMirror_any (A : Option Addr) (l : List Lay) (c : Nat) (w : World) (hl : l.length ≤ 140737488355328) (h : RdG 2 Lay.cs w A l) :
    Calls Try.prog 31 #[.slice A l.length c] w fun e w' => ∃ G : Bool, (G = true → ownS l) ∧ e = .returned (.bool G) ∧ Below w.heap.size w w' := by
  have H := Lib.hid h
  clear h
  go_enter Try.func31, Try.ntmps31
  go_wp2_with fail
  go_loopw [6] (fun i wr => ∃ k : Nat, k ≤ l.length ∧ i = .int .i64 k ∧ ownMB l k ∧ Below w.heap.size w wr) (fun i _ => l.length - (intOf i).toNat)
  case atStart => exact ⟨0, Nat.zero_le _, rfl, (fun i hi => by omega), by (repeat' (first | (with_reducible exact Below.refl _ _) | (with_reducible assumption) | (with_reducible refine Below.alloc ?_ ?_ _) | (with_reducible refine Below.drew ?_) | (with_reducible refine below_drewN ?_ _) | (with_reducible refine Below.setCell ?_ ?_ _) | (with_reducible exact Nat.le_refl _) | omega | (simp only [World.size_alloc, World.size_setCell, World.size_drew]; omega) | (simp; omega) | (simp; done)))⟩
  case round =>
    obtain ⟨k, hk, rfl, ho, hw⟩ := hrel
    have HO := Lib.hid ho
    have zw := hw.size
    clear ho
    have hkz : (0 : Int) ≤ (k : Int) := by omega
    by_cases hlt : k < l.length
    · obtain ⟨b, off, rfl, hblt, hcs⟩ := (H.out.below hw) (by omega)
      have hi : l[k]? = some l[k] := List.getElem?_eq_getElem hlt
      have hj : l[l.length - 1 - k]? = some l[l.length - 1 - k] := List.getElem?_eq_getElem (by omega)
      have c1 := hcs k _ hi 1 _ rfl
      have d1 := hcs _ _ hj 1 _ rfl
      have hklt : (k : Int) < (l.length : Int) := by omega
      have x1 : IntKind.i64.wrap ((l.length : Int) - 1) = (l.length : Int) - 1 := IntWalk.i64_in _ (by omega)
      have x2 : IntKind.i64.wrap ((l.length : Int) - 1 - k) = (l.length : Int) - 1 - k := IntWalk.i64_in _ (by omega)
      have x3 : (0 : Int) ≤ (l.length : Int) - 1 - k := by omega
      have x4 : (l.length : Int) - 1 - k < (l.length : Int) := by omega
      have x5 : ((l.length : Int) - 1 - k).toNat = l.length - 1 - k := by omega
      have HN := Lib.hid (fun (he : l[k].mat = l[l.length - 1 - k].mat) => show ownMB l (k + 1) from fun i hi' => by
        by_cases hik : i < k
        · exact HO.out i hik
        · obtain rfl : i = k := by omega
          rw [hi, hj]
          exact congrArg some he)
      clear hi hj hcs
      generalize l[k] = p at *
      generalize l[l.length - 1 - k] = q at *
      by_cases he : p.mat = q.mat
      · have HN2 := Lib.hid (HN.out he)
        have f1 : (p.mat.toList == q.mat.toList) = true := eqS_true.2 he
        have f2 : (p.mat.toList != q.mat.toList) = false := by rw [bne, f1]; rfl
        clear he
        go_wp2_with fail
        go_quiet (fail)
        go_wp2_with fail
        go_roundw
        case rel => exact ⟨k + 1, by omega, by go_num, HN2.out, below_drewN hw _⟩
        case measure => simp [intOf]; omega
      · have f1 : (p.mat.toList == q.mat.toList) = false := eqS_false.2 he
        have f2 : (p.mat.toList != q.mat.toList) = true := by rw [bne, f1]; rfl
        clear he
        go_wp2_with fail
        go_quiet (fail)
        go_wp2_with fail
        go_ret
        exact ⟨false, (fun h => absurd h (by decide)), rfl, below_drewN hw _⟩
    · obtain rfl : k = l.length := by omega
      go_wp2_with fail
      go_ret
      exact ⟨true, (fun _ => HO.out), rfl, hw⟩
theorem mat_cells4 {m : List Mat} {k : Nat} {x : Mat} (h : m[k]? = some x) : (m.flatMap Mat.cs)[k * 4]? = some (.string x.name) ∧ (m.flatMap Mat.cs)[k * 4 + 1]? = some (.int .i64 x.kind) ∧ (m.flatMap Mat.cs)[k * 4 + 2]? = some (.int .i64 x.thick) ∧ (m.flatMap Mat.cs)[k * 4 + 3]? = some (.int .i64 x.grow) := by
  induction m generalizing k with
  | nil => simp at h
  | cons y m ih =>
    cases k with
    | zero =>
      simp at h
      subst h
      simp [Mat.cs]
    | succ k =>
      have := ih (k := k) (by simpa using h)
      rw [show (k + 1) * 4 = k * 4 + 4 by omega, show k * 4 + 4 + 1 = k * 4 + 1 + 4 by omega, show k * 4 + 4 + 2 = k * 4 + 2 + 4 by omega, show k * 4 + 4 + 3 = k * 4 + 3 + 4 by omega]
      simpa [Mat.cs, List.flatMap_cons] using this
section
variable {A : Option Addr} {l : List Mat} {c : Nat} {A2 : Option Addr} {s : List Lay} {c2 : Nat} {w : World}
set_option maxHeartbeats 4000000 in
theorem bow_law (h : StkIn A l A2 s w) : Calls Try.prog 29 #[.slice A l.length c, .slice A2 s.length c2] w fun e w' => e = .returned (.tuple #[.int .i64 (bowF l s), .int .i64 (stackF l s)]) ∧ Below w.heap.size w w' := by
  by_cases h0 : stackF l s = 0
  · have HE := Lib.hid (show bowF l s = bowGo (thick (rowsOf l s)) 0 (rowsOf l s) by unfold bowF; rw [if_pos h0]; rfl)
    have CP := Lib.hid (piled_yes (c := c) (c2 := c2) h h0)
    have HOK := Lib.hid (stackF_rows h0)
    rw [h0]
    clear h h0
    generalize rowsOf l s = R at *
    generalize bowF l s = G at *
    go_enter Try.func29, Try.ntmps29
    go_wp2_with fail
    refine CP.out.mono ?_
    rintro e w1 ⟨p, q, kn, mv, tv, cv, nv, f, rfl, hb, hL⟩
    have B1 := Lib.hid hb
    have HL := Lib.hid hL
    obtain ⟨Am, cm, hvm, m1, m2, m3⟩ := own_cells hL.g.m
    obtain ⟨At, ct, hvt, t1, t2, t3⟩ := own_cells hL.g.t
    have htl : (tops R).length = R.length + 1 := topsF_length R 0
    have c0 : w1.cell? ⟨p, 0, none⟩ = some mv := by rw [blk_cell hL.g.b]; rfl
    have c1 : w1.cell? ⟨p, 1, none⟩ = some tv := by rw [blk_cell hL.g.b]; rfl
    have lp : p < w1.heap.size := blk_lt hL.g.b
    have hl := hL.l
    rw [htl] at hvt t1 t3
    simp only [List.length_map] at hvm m1 m3
    obtain ⟨gt, rfl, -, hgt, hct⟩ := t3 (by omega)
    subst hvm hvt
    have m2' : cm ≤ 9223372036854775807 := m2
    have t2' : ct ≤ 9223372036854775807 := t2
    have HM3 := Lib.hid m3
    have HCT := Lib.hid hct
    have CT := Lib.hid (fun W' (hb : Below w1.heap.size w1 W') => thickness_any (hL.g.old hb) htl (by rw [tops_get (Nat.le_refl _), List.take_length]) hl)
    have hth := thick_bound R HOK.out
    obtain ⟨th0, th1⟩ := hth
    clear hb hL m2 t2 m3 t3 hct htl
    generalize hS : thick R = S at *
    have HSS := Lib.hid hS
    clear hS
    go_wp2_with fail
    go_loopw [8, 25] (fun bv i wr => ∃ (k : Nat) (b : Int), k ≤ R.length ∧ i = .int .i64 k ∧ bv = .int .i64 b ∧ G = b + bowGo S (thick (R.take k)) (R.drop k) ∧ -20000000000000 * (k : Int) ≤ b ∧ b ≤ 20000000000000 * (k : Int) ∧ Below w1.heap.size w1 wr) (fun _ i _ => R.length - (intOf i).toNat)
    case atStart => exact ⟨0, 0, Nat.zero_le _, rfl, rfl, by rw [HE.out]; simp [thick], by omega, by omega, Below.refl _ _⟩
    case round =>
      obtain ⟨k, b, hk, rfl, rfl, hg, hb0, hb1, hw⟩ := hrel
      have HG := Lib.hid hg
      have HW := Lib.hid hw
      have zw := hw.size
      clear hg hw
      have hkz : (0 : Int) ≤ (k : Int) := by omega
      by_cases hlt : k < R.length
      · obtain ⟨gm, rfl, -, hgm, hcm⟩ := HM3.out (by omega)
        have hi : R[k]? = some R[k] := List.getElem?_eq_getElem hlt
        obtain ⟨e0, e1, e2, e3⟩ := mat_cells4 (m := R.map (·.2)) (k := k) (x := R[k].2) (by rw [List.getElem?_map, hi]; rfl)
        have g0 := ((bcell HW.out).1 _ _ hgm).trans (hcm _ _ e0)
        have g1 := ((bcell HW.out).1 _ _ hgm).trans (hcm _ _ e1)
        have g2 := ((bcell HW.out).1 _ _ hgm).trans (hcm _ _ e2)
        have g3 := ((bcell HW.out).1 _ _ hgm).trans (hcm _ _ e3)
        have k1 : ∀ (o : Obj), (wr.alloc o).cell? ⟨p, 1, none⟩ = some (.slice (some ⟨gt, 0, none⟩) (R.length + 1) ct) := fun o => (World.cell?_alloc_lt _ _ _ (Nat.lt_of_lt_of_le lp zw)).trans (((bcell HW.out).1 _ _ lp).trans c1)
        have k2 : ∀ (o : Obj), (wr.alloc o).cell? ⟨gt, k, none⟩ = some (.int .i64 (thick (R.take k))) := fun o => (World.cell?_alloc_lt _ _ _ (Nat.lt_of_lt_of_le hgt zw)).trans (((bcell HW.out).1 _ _ hgt).trans (HCT.out k _ (by rw [List.getElem?_map, tops_get hk]; rfl)))
        have hd : R.drop k = R[k] :: R.drop (k + 1) := List.drop_eq_getElem_cons hlt
        have hnx := thick_next hi
        have hbd := matF_zero (HOK.out R[k] (List.getElem_mem hlt))
        have htb := take_bound HOK.out k hl
        have HNX := Lib.hid (show bowGo S (thick (R.take k)) (R.drop k) = R[k].2.thick * R[k].2.grow * (2 * thick (R.take k) + R[k].2.thick - S) + bowGo S (thick (R.take (k + 1))) (R.drop (k + 1)) by rw [hd, bowGo, hnx])
        clear hi e0 e1 e2 e3 hcm hd hnx
        generalize R[k].2 = x at *
        generalize thick (R.take k) = T at *
        obtain ⟨_, _, _, a1, a2, a3, a4⟩ := hbd
        obtain ⟨a5, a6⟩ := htb
        have hp := mul_small (a := x.thick) (b := x.grow) (by omega) a2 a3 a4
        have hq := mul_big (p := x.thick * x.grow) (d := 2 * T + x.thick - S) hp.1 hp.2 (by omega) (by omega)
        obtain ⟨p1, p2⟩ := hp
        obtain ⟨q1, q2⟩ := hq
        have y1 : IntKind.i64.wrap (x.thick * x.grow) = x.thick * x.grow := IntWalk.i64_in _ (by omega)
        have y2 : IntKind.i64.wrap (2 * T) = 2 * T := IntWalk.i64_in _ (by omega)
        have y3 : IntKind.i64.wrap (2 * T + x.thick) = 2 * T + x.thick := IntWalk.i64_in _ (by omega)
        have y4 : IntKind.i64.wrap (2 * T + x.thick - S) = 2 * T + x.thick - S := IntWalk.i64_in _ (by omega)
        have y5 : IntKind.i64.wrap (x.thick * x.grow * (2 * T + x.thick - S)) = x.thick * x.grow * (2 * T + x.thick - S) := IntWalk.i64_in _ (by omega)
        have y6 : IntKind.i64.wrap (b + x.thick * x.grow * (2 * T + x.thick - S)) = b + x.thick * x.grow * (2 * T + x.thick - S) := IntWalk.i64_in _ (by omega)
        have hklt : (k : Int) < ((R.length + 1 : Nat) : Int) := by omega
        have hklt2 : (k : Int) < (R.length : Int) := by omega
        have CTW := Lib.hid (fun (o : Obj) (n : Nat) => CT.out ((wr.alloc o).drewN n) (below_drewN (HW.out.alloc zw o) n))
        have ROUND := Lib.hid (show G = (b + x.thick * x.grow * (2 * T + x.thick - S)) + bowGo S (thick (R.take (k + 1))) (R.drop (k + 1)) by rw [HG.out, HNX.out]; omega)
        have BD := Lib.hid (show -20000000000000 * ((k + 1 : Nat) : Int) ≤ b + x.thick * x.grow * (2 * T + x.thick - S) ∧ b + x.thick * x.grow * (2 * T + x.thick - S) ≤ 20000000000000 * ((k + 1 : Nat) : Int) by omega)
        clear p1 p2 q1 q2 hb0 hb1
        go_wp2_with fail
        go_quiet ((go_at_call 55; exact quiet3 (CTW.out _)))
        go_wp2_with fail
        go_roundw
        case rel => exact ⟨k + 1, b + x.thick * x.grow * (2 * T + x.thick - S), by omega, by go_num, rfl, ROUND.out, BD.out.1, BD.out.2, below_drewN (HW.out.alloc zw _) _⟩
        case measure => simp [intOf]; omega
      · obtain rfl : k = R.length := by omega
        have HN := Lib.hid (show G = b by rw [HG.out, List.drop_length]; simp [bowGo])
        clear hb0 hb1
        go_wp2_with fail
        go_ret2
        exact ⟨by rw [HN.out]; rfl, B1.out.trans (HW.out.mono B1.out.size)⟩
  · have HE := Lib.hid (show bowF l s = 0 by unfold bowF; rw [if_neg h0])
    have CP := Lib.hid (piled_no (c := c) (c2 := c2) h h0)
    generalize bowF l s = G at *
    generalize stackF l s = F at *
    have hd1 : (F == 0) = false := by simpa using h0
    have hd2 : (F != 0) = true := by simpa using h0
    clear h0 h
    go_enter Try.func29, Try.ntmps29
    go_wp2_with fail
    refine CP.out.mono ?_
    rintro e w1 ⟨rfl, hb⟩
    have B1 := Lib.hid hb
    clear hb
    go_wp2_with fail
    go_ret2
    exact ⟨by rw [HE.out]; rfl, B1.out⟩
end
end Go.Proofs.Ytnjcahdelcdcfaa

/- The sub-boards of a stack are gathered (boards), whatever the world. -/
import Derived.Test.YtdlglnkhhbkndaaBrG
namespace Go.Proofs.Ytdlglnkhhbkndaa
open Go.RowKit Go.Maps
set_option linter.unusedSimpArgs false
set_option linter.unusedVariables false
set_option maxRecDepth 100000

section
variable {b0 p q kn : Nat} {mv tv cv nv : Value} {f : Lit → Option Value} {R : List Row} {w : World}
set_option maxHeartbeats 4000000 in
theorem boards_any (h : LayIn b0 p q kn mv tv cv nv f R w) (h2 : 2 ≤ (cus R).length) (A : Option Addr) (l : List Thr) (c : Nat) (hl : l.length ≤ 1000) (hok : okThr l) (hd : RdG 2 Thr.cs w A l) :
    Calls Try.prog 94 #[.pointer (some ⟨p, 0, none⟩), .slice A l.length c] w (BoardsPost R l w) := by
  have hwf : ∀ x ∈ l, W64 x.a ∧ W64 x.b := fun x hx => ⟨WalkArith.wf_i64 (by have := hok x hx; omega), WalkArith.wf_i64 (by have := hok x hx; omega)⟩
  have HOK := Lib.hid hok
  clear hok
  have hmm := @run_makeMap Try.prog
  obtain ⟨Ac, cc, hvc, u1, u2, u3⟩ := own_cells h.g.c
  obtain ⟨Am, cm, hvm, v1, v2, v3⟩ := own_cells h.g.m
  have hcl := cus_few R 0
  have hRl := h.l
  obtain ⟨m, hm⟩ : ∃ m, (cus R).length = m + 1 := ⟨(cus R).length - 1, by omega⟩
  obtain ⟨gc, rfl, _, hgl, hcc⟩ := u3 (by omega)
  obtain ⟨gm, rfl, _, hgm, hcm⟩ := v3 (by
    rw [List.length_map]
    have := hcl
    unfold cus at hm
    omega)
  have HL := Lib.hid h
  have HD := Lib.hid hd
  have HW := Lib.hid hwf
  have a0 : w.cell? ⟨p, 0, none⟩ = some mv := by rw [blk_cell h.g.b]; rfl
  have a2 : w.cell? ⟨p, 2, none⟩ = some cv := by rw [blk_cell h.g.b]; rfl
  have lp := blk_lt h.g.b
  rw [hm] at hvc u1
  subst hvc hvm
  have hcc1 : ¬ cc = 1 := by omega
  have u2' : cc ≤ 9223372036854775807 := u2
  have v2' : cm ≤ 9223372036854775807 := v2
  have HCC := Lib.hid hcc
  have HCM := Lib.hid hcm
  have HM := Lib.hid hm
  have hmle : m + 1 ≤ cc := u1
  have hm1 : 1 ≤ m := by omega
  have hm2 : m ≤ 1000 := by unfold cus at hm; omega
  rw [List.length_map] at *
  generalize hnm : R.length = nr at *
  have HNR := Lib.hid hnm
  clear h hd hwf u3 v3 u1 u2 v2 hcc hcm hm hnm h2 hcl
  go_enter Try.func94, Try.ntmps94
  go_wp2_with fail
  go_loopw [23] (fun i wr => ∃ (k n : Nat) (F : Lit → Option Value) (L : List Brd), k ≤ m ∧ i = .int .i64 k ∧ BrdW w.heap.size w.heap.size (w.heap.size + 1) n F L wr ∧ abl L = coresF R k ∧ n ≤ k ∧ L.length ≤ k ∧ Below w.heap.size w wr) (fun i _ => m - (intOf i).toNat)
  case atStart => exact ⟨0, 0, _, [], Nat.zero_le _, rfl, brd_start w (0, 0), rfl, Nat.le_refl _, Nat.le_refl _, by (repeat' (first | (with_reducible exact Below.refl _ _) | (with_reducible assumption) | (with_reducible refine Below.alloc ?_ ?_ _) | (with_reducible refine Below.drew ?_) | (with_reducible refine below_drewN ?_ _) | (with_reducible refine Below.setCell ?_ ?_ _) | (with_reducible exact Nat.le_refl _) | omega | (simp only [World.size_alloc, World.size_setCell, World.size_drew]; omega) | (simp; omega) | (simp; done)))⟩
  case round =>
    obtain ⟨k, n, F, L, hk, rfl, hB, hA, hn, hLl, hw⟩ := hrel
    have HB := Lib.hid hB
    have HA := Lib.hid hA
    have HWr := Lib.hid hw
    have zw := hw.size
    clear hB hA hw
    have hkz : (0 : Int) ≤ (k : Int) := by omega
    have e0 := ((bcell HWr.out).1 _ _ lp).trans a0
    have e2 := ((bcell HWr.out).1 _ _ lp).trans a2
    by_cases hlt : k < m
    · obtain ⟨j, hj⟩ : ∃ j, (cus R)[k + 1]? = some j := ⟨_, List.getElem?_eq_getElem (by rw [HM.out]; omega)⟩
      obtain ⟨r, hj1, hr, hcB⟩ := above_copper hj
      obtain ⟨e, rfl⟩ : ∃ e, j = e + 1 := ⟨j - 1, by omega⟩
      have d1 := ((bcell HWr.out).1 _ _ hgl).trans (HCC.out (1 + k) _ (by rw [List.getElem?_map, Nat.add_comm 1 k, hj]; rfl))
      have d2 := ((bcell HWr.out).1 _ _ hgm).trans (HCM.out (e * 4 + 1) _ (mat_cell (m := R.map (·.2)) (k := e) (x := r.2) (by rw [List.getElem?_map]; rw [Nat.add_sub_cancel] at hr; rw [hr]; rfl)))
      have hjl := cus_lt hj
      obtain ⟨j, hjj⟩ : ∃ j, j = e + 1 := ⟨_, rfl⟩
      rw [← hjj] at d1 hjl
      have hRn := HNR.out
      have y1 : IntKind.i64.wrap ((j : Int) - 1) = (j : Int) - 1 := IntWalk.i64_in _ (by omega)
      have y2 : ((j : Int) - 1).toNat = e := by omega
      have y3 : (0 : Int) ≤ (j : Int) - 1 := by omega
      have y4 : (j : Int) - 1 < (nr : Int) := by have := HNR.out; omega
      have y5 : IntKind.i64.wrap ((k : Int) + 1) = (k : Int) + 1 := IntWalk.i64_in _ (by omega)
      have y6 : IntKind.i64.wrap ((k : Int) + 2) = (k : Int) + 2 := IntWalk.i64_in _ (by omega)
      have hklt : (k : Int) < (m : Int) := by omega
      have HJ := Lib.hid hjj
      clear hr hj hjl hjj hj1 hRn
      generalize r.2.kind = kk at *
      by_cases hk2 : kk = 2
      · subst hk2
        have HC := Lib.hid (show coreB R k = true by rw [hcB]; rfl)
        have CB := Lib.hid (fun (W : World) (hb : Below wr.heap.size wr W) => board_any (a := (k : Int) + 1) (b := (k : Int) + 2) (HB.out.old hb) (Nat.le_trans zw hb.size) (Nat.le_trans hn (by omega)) (WalkArith.wf_i64 (by omega)) (WalkArith.wf_i64 (by omega)))
        clear hcB

        go_wp2_with (first | (go_at_call 103; refine (CB.out _ (by (repeat' (first | (with_reducible exact Below.refl _ _) | (with_reducible assumption) | (with_reducible refine Below.alloc ?_ ?_ _) | (with_reducible refine Below.drew ?_) | (with_reducible refine below_drewN ?_ _) | (with_reducible refine Below.setCell ?_ ?_ _) | (with_reducible exact Nat.le_refl _) | omega | (simp only [World.size_alloc, World.size_setCell, World.size_drew]; omega) | (simp; omega) | (simp; done))))).mono ?_; rintro e w2 ⟨n', f', L', i', r', rfl, hB', hi', hn', hl', hu', hb'⟩; have c5 := hB'.c r' (List.mem_of_getElem? hi'); have s5 := blk_cell c5 2; have s6 := blk_free c5 2; have HB2 := Lib.hid hB'; have HI2 := Lib.hid hi'; have HU2 := Lib.hid hu'; have HW2 := Lib.hid hb'; have z2 := hb'.size; have l5 := blk_lt c5; clear hB' hi' hu' hb' c5))
        go_roundw
        case rel =>
          have Bs := below_gb (B := w.heap.size) (gb_set (p := ⟨r'.blk, 2, none⟩) (gb_refl w2 (some r'.blk)) (.inl rfl) (.bool true)) (Nat.le_trans HWr.out.size z2) (fun g e => by cases e; exact HB2.out.g _ (List.mem_of_getElem? HI2.out))
          refine ⟨k + 1, n', f', L'.set i' { r' with core := true }, by omega, by go_num, HB2.out.setCore HI2.out, ?_, by omega, by rw [List.length_set]; omega, (HWr.out.trans HW2.out).trans Bs⟩
          rw [coresF, HC.out, if_pos rfl, HU2.out (fun x => { x with core := true }) _ rfl, HA.out]
          rfl
        case measure => simp [intOf]; omega
      · have HC := Lib.hid (show coreB R k = false by rw [hcB]; simp [hk2])
        have hk3 : decide (kk = 2) = false := by simp [hk2]
        clear hcB
        go_wp2_with fail
        go_roundw
        case rel => exact ⟨k + 1, n, F, L, by omega, by go_num, HB.out, by rw [coresF, HC.out]; exact HA.out, by omega, by omega, HWr.out⟩
        case measure => simp [intOf]; omega
    · obtain rfl : k = m := by omega
      obtain ⟨i1, hi1, hy0, hy1, hy2⟩ := info_parts infoInt
      clear hlt hkz e0 e2 zw
      go_wp2_with fail
      go_loopw [49] (fun i wr => ∃ (k' n : Nat) (F : Lit → Option Value) (L : List Brd), k' ≤ l.length ∧ i = .int .i64 k' ∧ BrdW w.heap.size w.heap.size (w.heap.size + 1) n F L wr ∧ abl L = spansF l (coresF R k) k' ∧ n ≤ k + k' ∧ L.length ≤ k + k' ∧ Below w.heap.size w wr) (fun i _ => l.length - (intOf i).toNat)
      case atStart => exact ⟨0, n, F, L, Nat.zero_le _, rfl, HB.out, HA.out, hn, hLl, HWr.out⟩
      case round =>
        obtain ⟨k', n2, F2, L2, hk', rfl, hB2, hA2, hn2, hLl2, hw2⟩ := hrel
        clear HB HA HWr hn hLl
        have HB := Lib.hid hB2
        have HA := Lib.hid hA2
        have HWr := Lib.hid hw2
        have zw := hw2.size
        clear hB2 hA2 hw2
        have hkz : (0 : Int) ≤ (k' : Int) := by omega
        by_cases hlt : k' < l.length
        · obtain ⟨b, off, rfl, hblt, hcs⟩ := (HD.out.below (HWr.out)) (by omega)
          have hi : l[k']? = some l[k'] := List.getElem?_eq_getElem hlt
          have c0 := by simpa using hcs k' _ hi 0 _ rfl
          have c1 := hcs k' _ hi 1 _ rfl
          have hwx := HW.out _ (List.getElem_mem hlt)
          have HS := Lib.hid (show spansF l (coresF R k) (k' + 1) = upd l[k'].a l[k'].b (fun y => { y with hs := y.hs ++ [k'] }) (spansF l (coresF R k) k') by rw [spansF, hi])
          have HX := Lib.hid hi
          clear hcs hi
          generalize l[k'] = x at *
          have CB := Lib.hid (fun (W : World) (hb : Below wr.heap.size wr W) => board_any (HB.out.old hb) (Nat.le_trans zw hb.size) (Nat.le_trans hn2 (by omega)) hwx.1 hwx.2)
          have HF := Lib.hid (spans_hs l (cores_hs R k) k')
          clear hwx
          go_wp2_with (first
            | (go_at_call 103; refine (CB.out _ (by (repeat' (first | (with_reducible exact Below.refl _ _) | (with_reducible assumption) | (with_reducible refine Below.alloc ?_ ?_ _) | (with_reducible refine Below.drew ?_) | (with_reducible refine below_drewN ?_ _) | (with_reducible refine Below.setCell ?_ ?_ _) | (with_reducible exact Nat.le_refl _) | omega | (simp only [World.size_alloc, World.size_setCell, World.size_drew]; omega) | (simp; omega) | (simp; done))))).mono ?_; rintro e w2 ⟨n', f', L', i', r', rfl, hB', hi', hn', hl', hu', hb'⟩; have c5 := hB'.c r' (List.mem_of_getElem? hi'); have HOB := Lib.hid (own_block (hB'.h r' (List.mem_of_getElem? hi')) c5 (by decide)); have HOW := hB'.h r' (List.mem_of_getElem? hi'); have hfew := hole_few hi' hu' (by rw [HA.out]; exact HF.out); obtain ⟨Ah, ch, hvh, h91, h92, -⟩ := own_cells HOW; have h93 : ch ≤ 9223372036854775807 := h92; have HVH := Lib.hid hvh; rw [hvh] at c5 HOW; have s5 := blk_cell c5 3; have s6 := blk_free c5 3; have HC5 := Lib.hid c5; have HO := Lib.hid HOW; have HB2 := Lib.hid hB'; have HI2 := Lib.hid hi'; have HU2 := Lib.hid hu'; have HW2 := Lib.hid hb'; have z2 : wr.heap.size + 1 ≤ w2.heap.size := (by simpa using hb'.size); have l5 := blk_lt c5; clear hB' hi' hu' hb' c5 HOW hvh h92)
            | (at_builtin; go_loud (refine wpList_append_lies _ rfl (.tmp 64) (.tmp 66) 43 rfl w.heap.size 3 i1 (.int .i64 0) 1 8 Try.underlying43 hi1 hy0 hy1 hy2 rfl (by omega) (.slice Ah r'.hs.length ch) r'.hs.length (r'.hs.map fun k => Value.int .i64 (k : Nat)) rfl (HO.out.alloc _) ⟨w2.heap.size, 0, none⟩ 1 1 [.int .i64 (k' : Nat)] rfl rfl (one_new _ _ _) (by simp [Value.oneCell']) (by omega) (by unfold maxLen; omega) (by omega) (by simp; omega) (w2.heap.size + 1) (by simp) ?_); intro gg cap w5 hown5 hgrow hat5 hlt5; have HG := Lib.hid (gb_trans (World.grownBy_alloc w2 _ (Value.slice Ah r'.hs.length ch).ownBlock) hgrow); have HNE := Lib.hid (show some r'.blk ≠ (Value.slice Ah r'.hs.length ch).ownBlock from fun e => HOB.out (by rw [HVH.out]; exact e.symm)); have HB5 := Lib.hid ((HG.out.block r'.blk l5 HNE.out).trans HC5.out); have k5 := blk_cell HB5.out 3; have f5 := blk_free HB5.out 3; have l6 := blk_lt HB5.out; have HO5 := Lib.hid hown5; have HA5 := Lib.hid hat5; clear hown5 hat5 hgrow))
          go_roundw
          case rel =>
            have hg : w2.grownBy w5 r'.hv.ownBlock := by rw [HVH.out]; exact HG.out
            have hset := HB2.out.setHole HI2.out (hs := r'.hs ++ [k']) hg (by rw [List.length_append, List.map_append]; exact HO5.out) (fun g e => by
              have e8 : gg = g := Option.some.inj e
              subst e8
              rw [HVH.out]
              exact HA5.out.imp (fun h => h) (fun h => by rw [h]; exact Nat.le_succ _))
            have hb2 := (HWr.out.alloc zw _).trans HW2.out
            have hb5 := below_app hb2 HO.out HG.out (Nat.le_refl _) (by omega)
            refine ⟨k' + 1, n', f', _, by omega, by go_num, hset, ?_, by omega, by rw [List.length_set]; omega, hb5.trans (below_gb (gb_set (p := ⟨r'.blk, 3, none⟩) (gb_refl w5 (some r'.blk)) (.inl rfl) _) (Nat.le_trans (by omega) HG.out.size) (fun g e => by cases e; exact HB2.out.g _ (List.mem_of_getElem? HI2.out)))⟩
            rw [HS.out, HU2.out (fun y => { y with hs := y.hs ++ [k'] }) _ rfl, HA.out]
          case measure => simp [intOf]; omega
        · obtain rfl : k' = l.length := by omega
          have e2 := ((bcell HWr.out).1 _ _ lp).trans a2
          have CB := Lib.hid (fun (W : World) (hb : Below wr.heap.size wr W) => board_any (a := 1) (b := (k : Int) + 1) (HB.out.old hb) (Nat.le_trans zw hb.size) (Nat.le_trans hn2 (by omega)) (WalkArith.wf_i64 (by omega)) (WalkArith.wf_i64 (by omega)))
          clear hlt hkz a0
          go_wp2_with (first | (go_at_call 103; refine (CB.out _ (by (repeat' (first | (with_reducible exact Below.refl _ _) | (with_reducible assumption) | (with_reducible refine Below.alloc ?_ ?_ _) | (with_reducible refine Below.drew ?_) | (with_reducible refine below_drewN ?_ _) | (with_reducible refine Below.setCell ?_ ?_ _) | (with_reducible exact Nat.le_refl _) | omega | (simp only [World.size_alloc, World.size_setCell, World.size_drew]; omega) | (simp; omega) | (simp; done))))).mono ?_; rintro e w2 ⟨n', f', L', i', r', rfl, hB', hi', hn', hl', hu', hb'⟩; have s6 := blk_cell hB'.bx 0; have HB2 := Lib.hid hB'; have HI2 := Lib.hid hi'; have HU2 := Lib.hid hu'; have HW2 := Lib.hid hb'; have z2 := hb'.size; have l5 := blk_lt hB'.bx; obtain ⟨D, hD1, hD2, hD3⟩ := hB'.m; have HDM := Lib.hid hD3; have T0 := Lib.hid (TakW.start hB' hD3); clear hB' hi' hu' hb' hD3) | (at_range; refine wpList_range_own _ rfl (.tmp 78) 135 rfl 64 136 thr_law Try.underlying135 RV w.heap.size n' D rfl hD1 ?_; intro w0 hrg0 hg0 hs0))
          go_frame
          obtain ⟨i0, hi, hz0, hz1, hz2⟩ := info_parts infoPress
          have hbr : Below w2.heap.size w2 w0 := below_gb hg0 (Nat.le_refl _) (fun g e => by cases e)
          go_loopw [12] (fun ov wx => ∃ (left : Lit → Bool) (cnt : Nat) (S : List Brd), wx.ranges Try.prog 64 RV w.heap.size w2.heap.size n' D left cnt ∧ TakW L' left S ∧ wx.ownsRow w2.heap.size 62 4 ov S.length (S.flatMap Brd.cs) ∧ Below w2.heap.size w2 wx) (fun _ wx => wx.rangeLeft w.heap.size w2.heap.size)
          case atStart => exact ⟨_, _, [], hrg0, T0.out, own_nil, hbr⟩
          case round =>
            obtain ⟨left, cnt, S, hrg, hT, hO, hb⟩ := hrel
            obtain ⟨Ao, co, rfl, h81, h82, -⟩ := own_cells hO
            have h83 : co ≤ 9223372036854775807 := h82
            have HRG := Lib.hid hrg
            have HT := Lib.hid hT
            have HO := Lib.hid hO
            have HBX := Lib.hid hb
            have zx := hb.size
            clear hT hO hb
            go_wp2_with (first | (at_next; refine wpList_next_ranges _ rfl (.tmp 79) rfl 64 thr_law RV (fun v => v) (fun v => v) (fun key kl _ => ⟨key, rfl⟩) (fun v y _ => ⟨v, rfl⟩) w.heap.size w2.heap.size n' D left cnt rfl hrg ?_ ?_))
            · intro hc0 hl0
              have HP := Lib.hid (HT.out.done HB2.out hl0)
              clear hrg hl0 hc0
              have hlen := HP.out.length_eq
              have hLp := (List.getElem?_eq_some_iff.1 HI2.out).1
              have HBW := Lib.hid (HB2.out.old HBX.out)
              have hBF := Lib.hid (show abl L' = boardsF R l by
                have e1 := HU2.out id r' rfl
                have e2 : L'.set i' r' = L' := by
                  obtain ⟨hl9, rfl⟩ := List.getElem?_eq_some_iff.1 HI2.out
                  exact List.set_getElem_self hl9
                rw [e2] at e1
                rw [e1, HA.out]
                unfold boardsF
                rw [HM.out, Nat.add_sub_cancel]
                rfl)
              have hsm : ∀ y ∈ abl L', smallA y := by
                rw [hBF.out]
                unfold boardsF
                rw [HM.out, Nat.add_sub_cancel]
                exact upd_small (spans_small HOK.out (cores_small R k hm2) _) (fun y h => h) (by omega)
              obtain ⟨lb, hlb⟩ := bo_list S fun r hr => by
                have hrL := HP.out.subset hr
                have := hsm r.ab (List.mem_map.2 ⟨r, hrL, rfl⟩)
                obtain ⟨A9, c9, h9, -⟩ := own_cells (HBW.out.h r hrL)
                exact ⟨this.1.1, this.1.2, this.2.1, this.2.2, by show r.hv.oneCell' = true; rw [h9]; rfl⟩
              have hcb : cB lb = S.flatMap Brd.cs := by rw [cB_map, hlb, cs_map]
              have hll : lb.length = S.length := by have := congrArg List.length hlb; simpa using this
              have CS := Lib.hid (fun (W : World) (hW : W.ownsRow w2.heap.size 62 4 (.slice Ao S.length co) S.length (S.flatMap Brd.cs)) => sortOwnB_any w2.heap.size (.slice Ao S.length co) lb W (fun e => by injection e with _ e2 _; omega) (by rw [hll, hcb]; exact hW) (by omega))
              have HSM := Lib.hid hsm
              have HLB := Lib.hid hlb
              clear hsm hlb hcb hll hlen hLp
              go_wp2_with (first | (go_at_call 104; with_reducible refine (CS.out _ HO.out).mono ?_; rintro e w5 ⟨rfl, l5', hp5, hs5, ho5, hg5⟩; have HP5 := Lib.hid hp5; have HS5 := Lib.hid hs5; have HO5 := Lib.hid ho5; have HG5 := Lib.hid hg5; clear hp5 hs5 ho5 hg5))
              go_ret
              have hp : (l5'.map (·.1)).Perm (S.map Brd.bq) := by rw [← HLB.out]; exact HP5.out.map _
              obtain ⟨S', q1, q2⟩ := perm_map_back hp S rfl
              have hl5 : l5'.length = S'.length := by have := congrArg List.length q2; simpa using this.symm
              have hbase : w.heap.size ≤ w2.heap.size := Nat.le_trans HWr.out.size z2
              have hbx := (HWr.out.trans HW2.out).trans (HBX.out.mono hbase)
              refine ⟨.slice Ao S.length co, L', S', rfl, hBF.out, q1.trans HP.out, ?_, ?_, fun r hr => ?_, HSM.out, below_app hbx HO.out HG5.out hbase hbx.size⟩
              · have h1 : (l5'.map (·.1)).Pairwise (fun d e => turnQ d < turnQ e ∨ (turnQ d = turnQ e ∧ d.a ≤ e.a)) := List.pairwise_map.2 HS5.out
                rw [← q2] at h1
                exact List.pairwise_map.1 h1
              · have h1 := own_lower HO5.out hbase
                rw [hl5, cB_map, ← q2, cs_map] at h1
                exact h1
              · have h1 := HBW.out.h r ((q1.trans HP.out).subset hr)
                exact own_grown h1 HG5.out (own_types h1 HO.out (by decide))
            · intro x c kl y pl w3 cnt1 hx hlk hy hpl hat hrg1 hlt1 hg1 hs1 hen
              subst hy hpl
              obtain ⟨r0, hr0, rfl, hT1, hlen⟩ := HT.out.step HB2.out HDM.out hrg hx hlk (y := (.held c, [])) rfl hat
              have hb3 := HBX.out.grown hg1 zx (fun j e => by cases e; exact Nat.le_refl _)
              have B3 := HB2.out.old hb3
              have c5 := B3.c r0 hr0
              obtain ⟨Ah, ch, hvh, h91, h92, -⟩ := own_cells (B3.h r0 hr0)
              rw [hvh] at c5
              have s0 := blk_cell c5 0
              have s1 := blk_cell c5 1
              have s2 := blk_cell c5 2
              have s3 := blk_cell c5 3
              have HO3 := Lib.hid (own_grown HO.out hg1 (fun g e e' => (own_iter HO.out hrg).1 (e.trans e'.symm)))
              have HRG1 := Lib.hid hrg1
              have HT1 := Lib.hid hT1
              have HB3 := Lib.hid hb3
              have HVH := Lib.hid hvh
              have z3 := hb3.size
              clear hrg hx hlk hat hs1 hrg1 hT1 hb3 B3 c5 hvh hg1
              go_wp2_with (first
                | (at_builtin; go_loud (refine wpList_append_lies _ rfl (.tmp 84) (.tmp 88) 53 rfl w2.heap.size 62 i0 (.agg #[.int .i64 0, .int .i64 0, .bool false, .slice none 0 0]) 4 48 Try.underlying53 hi hz0 hz1 hz2 rfl (by omega) (.slice Ao S.length co) S.length (S.flatMap Brd.cs) rfl (HO3.out.alloc _) ⟨w3.heap.size, 0, none⟩ 1 1 [.int .i64 r0.a, .int .i64 r0.b, .bool r0.core, .slice Ah r0.hs.length ch] rfl rfl (four_new _ _ _ _ _ _) (by simp [Value.oneCell']) (by omega) (by unfold maxLen; omega) (by omega) (by simp; omega) (w3.heap.size + 1) (by simp) ?_); intro gg cap w5 hown5 hgrow hat5 hlt5; have HO5 := Lib.hid hown5; have HG5 := Lib.hid hgrow; clear hown5 hgrow))
              go_roundw
              case rel =>
                have hrg5 := (HRG1.out.alloc (.cells #[.int .i64 r0.a, .int .i64 r0.b, .bool r0.core, .slice Ah r0.hs.length ch] 62)).kept HG5.out (fun e => (own_iter HO3.out HRG1.out).2 e.symm) (fun e => (own_iter HO3.out HRG1.out).1 e.symm)
                refine ⟨_, cnt1, S ++ [r0], hrg5, HT1.out, ?_, below_app (HB3.out.alloc z3 _) (HO3.out.alloc _) HG5.out (Nat.le_refl _) (by simp; omega)⟩
                rw [List.length_append, List.flatMap_append]
                have e9 : [r0].flatMap Brd.cs = [.int .i64 r0.a, .int .i64 r0.b, .bool r0.core, .slice Ah r0.hs.length ch] := by simp [Brd.cs, HVH.out]
                rw [e9]
                exact HO5.out
              case measure =>
                have hrg5 := (HRG1.out.alloc (.cells #[.int .i64 r0.a, .int .i64 r0.b, .bool r0.core, .slice Ah r0.hs.length ch] 62)).kept HG5.out (fun e => (own_iter HO3.out HRG1.out).2 e.symm) (fun e => (own_iter HO3.out HRG1.out).1 e.symm)
                rw [hrg5.left_eq, HRG.out.left_eq]
                omega
end
end Go.Proofs.Ytdlglnkhhbkndaa

/- A copper is laid below the others (lay), whatever the world. -/
import Derived.Test.YtdlglnkhhbkndaaLayOk
namespace Go.Proofs.Ytdlglnkhhbkndaa
open Go.RowKit Go.Maps Go.WideAt Go.WideMaps
set_option linter.unusedSimpArgs false
set_option linter.unusedVariables false
set_option maxRecDepth 100000
theorem cus_few : ∀ (R : List Row) (i : Nat), (cusF i R).length ≤ R.length
  | [], _ => Nat.le_refl _
  | q :: R, i => by
    have := cus_few R (i + 1)
    cases h : isCu q <;> simp [cusF, h] <;> omega
section
variable {base p q kn : Nat} {mv tv cv nv : Value} {f : Lit → Option Value} {R : List Row} {w : World}
set_option maxHeartbeats 4000000 in
/-- A copper is laid. -/
theorem lay_cu (h : LayIn base p q kn mv tv cv nv f R w) (nm : ByteArray) (hs : nm.size ≤ maxLen) (x : Mat) (hbs : base ≤ w.heap.size) (hk : x.kind = 1) (hw : wordB nm = true) (ht : ((nms R).findIdx? fun b => decide (b = nm)).isSome = false) (hr : ∀ r0, R.getLast? = some r0 → meetB r0.2.kind x.kind = true) (ht0 : 0 ≤ thick R) (ht1 : thick R ≤ 100000000) (hx0 : 0 ≤ x.thick) (hx1 : x.thick ≤ 2000) :
    Calls Try.prog 88 #[.pointer (some ⟨p, 0, none⟩), .string nm, .agg #[.string x.name, .int .i64 x.kind, .int .i64 x.thick, .int .i64 x.grow]] w fun e w' => e = .returned (.int .i64 0) ∧ ∃ mv' tv' cv' nv', LayW base p q w.heap.size x w (kn + 1) mv' tv' cv' nv' (putF f (.string nm.data.toList) (.int .i64 ((cus R).length : Nat))) (R.map (·.2) ++ [x]) (tops R ++ [thick R + x.thick]) (cus R ++ [R.length]) (nms R ++ [nm]) w' := by
  obtain ⟨i0, hi, hz0, hz1, hz2⟩ := info_parts infoMat
  obtain ⟨i1, hi1, hy0, hy1, hy2⟩ := info_parts infoInt
  obtain ⟨i2, hi2, hx0', hx1', hx2⟩ := info_parts infoStr
  have hcl : (cus R).length ≤ 1000 := by
    have h1 := cus_few R 0
    have h2 := h.l
    exact Nat.le_trans h1 h2
  have hkn : kn ≤ 1000 := Nat.le_trans h.n h.l
  have H0 := Lib.hid h
  have HST := Lib.hid (fun n => LayW.start h hbs x n)
  obtain ⟨Am, cm, hvm, g1, g2, g3⟩ := own_cells h.g.m
  have c0 : w.cell? ⟨p, 0, none⟩ = some mv := by rw [blk_cell h.g.b]; rfl
  have c4 : w.cell? ⟨p, 4, none⟩ = some (.map (some q)) := by rw [blk_cell h.g.b]; rfl
  have hpl := blk_lt h.g.b
  have hbp := h.g.p
  have hl := h.l
  simp only [List.length_map] at hvm g1
  subst hvm
  have g2' : cm ≤ 9223372036854775807 := g2
  have HK := Lib.hid h.g.k
  have HF := Lib.hid h.f
  have x4 : IntKind.i64.wrap ((R.length : Int) - 1) = (R.length : Int) - 1 := IntWalk.i64_in _ (by omega)
  obtain ⟨tw, htw⟩ : ∃ tw, ((nms R).findIdx? fun b => decide (b = nm)).isSome = tw := ⟨_, rfl⟩
  have d1 : (x.kind == 1) = true := by simpa using hk
  have CW := Lib.hid (fun W => hw ▸ isWord_any nm W)
  obtain rfl : false = tw := ht.symm.trans htw
  have HS := Lib.hid hs
  have HT := Lib.hid htw
  have HR := Lib.hid hr
  have hlen : (R.map (·.2)).length = R.length := by simp
  have HLen := Lib.hid hlen
  clear h g2 htw hk hs hr hlen hw ht
  go_enter Try.func88, Try.ntmps88
  go_wp2_with fail
  go_quiet (fail)
  go_upto_block 0 with (first
    | (at_lookup; refine wpList_num rfl (.tmp 24) (.tmp 25) rfl q kn f (nms R) rfl ((HK.out.alloc _).drewN _) HF.out nm rfl HS.out false HT.out ?_; intro v9))
  go_cut [] (fun wx => ∃ n, wx = (w.alloc (.cells #[.string x.name, .int .i64 x.kind, .int .i64 x.thick, .int .i64 x.grow] 37)).drewN n)
  case first =>
    cases hlast : R.getLast? with
    | none =>
      have hl0 : R.length = 0 := by
        cases R with
        | nil => rfl
        | cons y l => simp at hlast
      have y1 : decide ((0 : Int) ≤ (R.length : Int) - 1) = false := by simp; omega
      have y5 : decide ((1 : Int) ≤ (R.length : Int)) = false := by simp; omega
      clear hlast hl0 g3
      go_wp2_with (go_at_call 57; refine (CW.out _).mono ?_; rintro e w2 ⟨rfl, rfl⟩)
      go_quiet (fail)
      go_wp2_with fail
      go_meet
      exact ⟨_, World.drewN_drewN _ _ _⟩
    | some r0 =>
      have hm := HR.out r0 hlast
      obtain ⟨g, j, rfl, hgl, hj, hcell⟩ := last_row hlast g3
      have y1 : decide ((0 : Int) ≤ (R.length : Int) - 1) = true := by simp; omega
      have y2 : ((R.length : Int) - 1).toNat = j := by omega
      have y3 : (0 : Int) ≤ (R.length : Int) - 1 := by omega
      have y4 : (R.length : Int) - 1 < (R.length : Int) := by omega
      have y5 : decide ((1 : Int) ≤ (R.length : Int)) = true := by simp; omega
      have CM := Lib.hid (fun W => hm ▸ canMeet_any r0.2.kind x.kind W)
      generalize r0.2.kind = K0 at *
      clear hj hlast hm g3
      go_wp2_with (go_at_call 57; refine (CW.out _).mono ?_; rintro e w2 ⟨rfl, rfl⟩)
      go_quiet ((go_at_call 98; exact quiet2 CM.out))
      go_wp2_with fail
      go_meet
      exact ⟨_, World.drewN_drewN _ _ _⟩
  case rest =>
    obtain ⟨n, rfl⟩ := hcut
    have HS0 := Lib.hid (HST.out n)
    clear HST c0 c4 H0 HK
    generalize (w.alloc (.cells #[.string x.name, .int .i64 x.kind, .int .i64 x.thick, .int .i64 x.grow] 37)).drewN n = W at *
    go_upto_region 10 with fail
    go_cut [] (fun wx => LayW base p q w.heap.size x w (kn + 1) (.slice Am R.length cm) tv cv nv (putF f (.string nm.data.toList) (.int .i64 ((cus R).length : Nat))) (R.map (·.2)) (tops R) (cus R) (nms R) wx)
    case first =>
      have hS := HS0.out
      obtain ⟨Ac, cc, hvc, t1, t2, t3⟩ := own_cells hS.g.c
      have hvc' := hvc
      subst hvc
      have a2 : W.cell? ⟨p, 2, none⟩ = some (.slice Ac (cus R).length cc) := by rw [blk_cell hS.g.b]; rfl
      have a4 : W.cell? ⟨p, 4, none⟩ = some (.map (some q)) := by rw [blk_cell hS.g.b]; rfl
      clear t2 t3
      have HSX := Lib.hid hS
      clear hS
      go_still_tail 10, (by kernel_rfl)
      go_wp2_with (first
        | (at_mapUpdate; refine wpList_put_mapV rfl (.tmp 70) (.tmp 71) (.tmp 76) 86 rfl 9 3 str_law Try.underlying86 q kn f rfl HSX.out.g.k.drew (by unfold maxLen; omega) (.string nm) (.int .i64 ((cus R).length : Nat)) (.string nm.data.toList) rfl rfl (keyOf_string_mk Try.underlying9 HS.out) ?_; intro w5 hm5 hg5))
      go_wp2_with fail
      go_meet
      exact HSX.out.setK (gb_trans (gb_drew (gb_refl _ _)) hg5) hm5
    case rest =>
      have HS3 := Lib.hid hcut
      clear HS0 hcut
      go_upto_region 11 with fail
      go_cut [] (fun wx => ∃ cv', LayW base p q w.heap.size x w (kn + 1) (.slice Am R.length cm) tv cv' nv (putF f (.string nm.data.toList) (.int .i64 ((cus R).length : Nat))) (R.map (·.2)) (tops R) (cus R ++ [R.length]) (nms R) wx)
      case first =>
        have hS := HS3.out
        obtain ⟨Ac, cc, hvc, t1, t2, t3⟩ := own_cells hS.g.c
        subst hvc
        have t2' : cc ≤ 9223372036854775807 := t2
        have a0 : wc.cell? ⟨p, 0, none⟩ = some (.slice Am R.length cm) := by rw [blk_cell hS.g.b]; rfl
        have a2 : wc.cell? ⟨p, 2, none⟩ = some (.slice Ac (cus R).length cc) := by rw [blk_cell hS.g.b]; rfl
        have af : ∀ i, wc.frozen? ⟨p, i, none⟩ = false := blk_free hS.g.b
        have lp : p < wc.heap.size := blk_lt hS.g.b
        have HM := Lib.hid hS.g.c
        have HMP := Lib.hid hS.g.cp
        have hbW : base ≤ wc.heap.size := Nat.le_trans hS.g.p (Nat.le_of_lt lp)
        clear hS t2 t3
        go_region_law
          (first
            | (refine step_append_lies _ rfl (.tmp 81) (.tmp 87) 43 rfl base 3 i1 (.int .i64 0) 1 8 Try.underlying43 hi1 hy0 hy1 hy2 rfl (by omega) (.slice Ac (cus R).length cc) (cus R).length ((cus R).map fun k => Value.int .i64 (k : Nat)) rfl ((HM.out.alloc _).drew) ⟨wc.heap.size, 0, none⟩ 1 1 [.int .i64 (R.length : Nat)] rfl rfl (one_new _ _ _) (by simp [Value.oneCell']) (by omega) (by unfold maxLen; omega) (by omega) (by simp; omega) (wc.heap.size + 1) (by simp) ?_; intro gg cap w5 hown5 hgrow hat5 hlt5; have HG := Lib.hid (gb_trans (gb_drew (World.grownBy_alloc wc _ (Value.slice Ac (cus R).length cc).ownBlock)) hgrow); have k5 := (HG.out.cell a2 (fun e => HMP.out e.symm)); have f5 : ∀ i, w5.frozen? ⟨p, i, none⟩ = false := (fun i => (World.frozen?_of_block (HG.out.block p lp (fun e => HMP.out e.symm))).trans (af i)); have HO5 := Lib.hid hown5; have HA5 := Lib.hid hat5; clear hown5 hat5 hgrow))
        all_goals
          go_wp2_with fail
          go_meet
          refine ⟨_, HS3.out.setC HG.out ?_ ?_⟩
          · rw [List.length_append, List.map_append]
            exact HO5.out
          · intro g9 e9
            have e8 : gg = g9 := Option.some.inj e9
            subst e8
            exact HA5.out.imp (fun h => h) (fun h => by rw [h]; exact Nat.le_succ _)
      case rest =>
        obtain ⟨cv', hS⟩ := hcut
        have HS4 := Lib.hid hS
        clear HS3 hS
        go_upto_region 12 with fail
        go_cut [] (fun wx => ∃ nv', LayW base p q w.heap.size x w (kn + 1) (.slice Am R.length cm) tv cv' nv' (putF f (.string nm.data.toList) (.int .i64 ((cus R).length : Nat))) (R.map (·.2)) (tops R) (cus R ++ [R.length]) (nms R ++ [nm]) wx)
        case first =>
          have hS := HS4.out
          obtain ⟨An, cn, hvn, t1, t2, t3⟩ := own_cells hS.g.n
          subst hvn
          have t2' : cn ≤ 9223372036854775807 := t2
          have a3 : wc.cell? ⟨p, 3, none⟩ = some (.slice An (nms R).length cn) := by rw [blk_cell hS.g.b]; rfl
          have af : ∀ i, wc.frozen? ⟨p, i, none⟩ = false := blk_free hS.g.b
          have lp : p < wc.heap.size := blk_lt hS.g.b
          have HM := Lib.hid hS.g.n
          have HMP := Lib.hid hS.g.np
          have hbW : base ≤ wc.heap.size := Nat.le_trans hS.g.p (Nat.le_of_lt lp)
          have hnc : (nms R).length ≤ 1000 := by
            have h8 := cus_nms R 0
            rw [← h8]
            exact hcl
          clear hS t2 t3
          go_wp2_with (first
            | (at_builtin; refine wpList_append_lies _ rfl (.tmp 95) (.tmp 97) 65 rfl base 9 i2 (.string ⟨#[]⟩) 1 16 Try.underlying65 hi2 hx0' hx1' hx2 rfl (by omega) (.slice An (nms R).length cn) (nms R).length ((nms R).map Value.string) rfl (HM.out.alloc _) ⟨wc.heap.size, 0, none⟩ 1 1 [.string nm] rfl rfl (one_new _ _ _) (by simp [Value.oneCell']) (by omega) (by unfold maxLen; omega) (by omega) (by simp; omega) (wc.heap.size + 1) (by simp) ?_; intro gg cap w5 hown5 hgrow hat5 hlt5; have HG := Lib.hid (gb_trans (World.grownBy_alloc wc _ (Value.slice An (nms R).length cn).ownBlock) hgrow); have k5 := (HG.out.cell a3 (fun e => HMP.out e.symm)); have f5 : ∀ i, w5.frozen? ⟨p, i, none⟩ = false := (fun i => (World.frozen?_of_block (HG.out.block p lp (fun e => HMP.out e.symm))).trans (af i)); have HO5 := Lib.hid hown5; have HA5 := Lib.hid hat5; clear hown5 hat5 hgrow))
          go_wp2_with fail
          go_meet
          refine ⟨_, HS4.out.setN HG.out ?_ ?_⟩
          · rw [List.length_append, List.map_append]
            exact HO5.out
          · intro g9 e9
            have e8 : gg = g9 := Option.some.inj e9
            subst e8
            exact HA5.out.imp (fun h => h) (fun h => by rw [h]; exact Nat.le_succ _)
        case rest =>
          obtain ⟨nv', hS⟩ := hcut
          have HS0 := Lib.hid hS
          clear HS4 hS
          go_upto_region 13 with fail
          go_cut [] (fun wx => ∃ mv', LayW base p q w.heap.size x w (kn + 1) mv' tv cv' nv' (putF f (.string nm.data.toList) (.int .i64 ((cus R).length : Nat))) (R.map (·.2) ++ [x]) (tops R) (cus R ++ [R.length]) (nms R ++ [nm]) wx)
          case first =>
            have hS := HS0.out
            have a0 : wc.cell? ⟨p, 0, none⟩ = some (.slice Am R.length cm) := by rw [blk_cell hS.g.b]; rfl
            have af : ∀ i, wc.frozen? ⟨p, i, none⟩ = false := blk_free hS.g.b
            have b0 : wc.cell? ⟨w.heap.size, 0, none⟩ = some (.string x.name) := hS.b 0
            have b1 : wc.cell? ⟨w.heap.size, 1, none⟩ = some (.int .i64 x.kind) := hS.b 1
            have b2 : wc.cell? ⟨w.heap.size, 2, none⟩ = some (.int .i64 x.thick) := hS.b 2
            have b3 : wc.cell? ⟨w.heap.size, 3, none⟩ = some (.int .i64 x.grow) := hS.b 3
            have lp : p < wc.heap.size := blk_lt hS.g.b
            have lb := hS.l
            have HM := Lib.hid (HLen.out ▸ hS.g.m)
            have HMP := Lib.hid hS.g.mp
            have hbW : base ≤ wc.heap.size := Nat.le_trans hS.g.p (Nat.le_of_lt lp)
            clear hS
            go_region_law
              (first
                | (refine step_append_lies _ rfl (.tmp 105) (.tmp 107) 22 rfl base 37 i0 (.agg #[.string ⟨#[]⟩, .int .i64 0, .int .i64 0, .int .i64 0]) 4 40 Try.underlying22 hi hz0 hz1 hz2 rfl (by omega) (.slice Am R.length cm) R.length ((R.map (·.2)).flatMap Mat.cs) rfl ((HM.out.alloc _).drew) ⟨wc.heap.size, 0, none⟩ 1 1 [.string x.name, .int .i64 x.kind, .int .i64 x.thick, .int .i64 x.grow] rfl rfl (four_new _ _ _ _ _ _) (by simp [Value.oneCell']) (by omega) (by unfold maxLen; omega) (by omega) (by simp; omega) (wc.heap.size + 1) (by simp) ?_; intro gg cap w5 hown5 hgrow hat5 hlt5; have HG := Lib.hid (gb_trans (gb_drew (World.grownBy_alloc wc _ (Value.slice Am R.length cm).ownBlock)) hgrow); have k5 := (HG.out.cell a0 (fun e => HMP.out e.symm)); have f5 : ∀ i, w5.frozen? ⟨p, i, none⟩ = false := (fun i => (World.frozen?_of_block (HG.out.block p lp (fun e => HMP.out e.symm))).trans (af i)); have HO5 := Lib.hid hown5; have HA5 := Lib.hid hat5; clear hown5 hat5 hgrow))
            all_goals
              go_wp2_with fail
              go_meet
              refine ⟨_, HS0.out.setM HG.out ?_ ?_⟩
              · rw [List.length_append, HLen.out, cells_snoc]
                exact HO5.out
              · intro g9 e9
                have e8 : gg = g9 := Option.some.inj e9
                subst e8
                exact HA5.out.imp (fun h => h) (fun h => by rw [h]; exact Nat.le_succ _)
          case rest =>
            obtain ⟨mv', hS⟩ := hcut
            have HS1 := Lib.hid hS
            clear HS0 hS
            go_upto_region 14 with fail
            go_cut [] (fun wx => ∃ mv' tv', LayW base p q w.heap.size x w (kn + 1) mv' tv' cv' nv' (putF f (.string nm.data.toList) (.int .i64 ((cus R).length : Nat))) (R.map (·.2) ++ [x]) (tops R ++ [thick R + x.thick]) (cus R ++ [R.length]) (nms R ++ [nm]) wx)
            case first =>
              have hS := HS1.out
              obtain ⟨At, ct, hvt, t1, t2, t3⟩ := own_cells hS.g.t
              have hlt : (tops R).length = R.length + 1 := topsF_length R 0
              rw [hlt] at hvt t1
              subst hvt
              have t2' : ct ≤ 9223372036854775807 := t2
              have a1 : wc.cell? ⟨p, 1, none⟩ = some (.slice At (R.length + 1) ct) := by rw [blk_cell hS.g.b]; rfl
              have af : ∀ i, wc.frozen? ⟨p, i, none⟩ = false := blk_free hS.g.b
              have b2 : wc.cell? ⟨w.heap.size, 2, none⟩ = some (.int .i64 x.thick) := hS.b 2
              have lp : p < wc.heap.size := blk_lt hS.g.b
              have lb := hS.l
              have HM := Lib.hid (hlt ▸ hS.g.t)
              have HMP := Lib.hid hS.g.tp
              have hbW : base ≤ wc.heap.size := Nat.le_trans hS.g.p (Nat.le_of_lt lp)
              have CT := Lib.hid (fun wc' (hb : Below wc.heap.size wc wc') => thickness_any (hS.g.old hb) hlt (by rw [tops_get (Nat.le_refl _), List.take_length]) hl)
              have xs : IntKind.i64.wrap (thick R + x.thick) = thick R + x.thick := IntWalk.i64_in _ (by omega)
              clear hS t2 t3 hlt
              have E1 : ∀ (n : Nat) (o : Obj), ((wc.drewN n).alloc o).cell? ⟨p, 1, none⟩ = some (.slice At (R.length + 1) ct) := fun n o => (World.cell?_alloc_lt (wc.drewN n) o _ lp).trans a1
              generalize thick R = T at *
              go_region_law
                (first
                  | (go_simp; refine (CT.out _ ?gr).mono ?_; (case gr => (repeat' (first | (with_reducible exact Below.refl _ _) | (with_reducible assumption) | (with_reducible refine Below.alloc ?_ ?_ _) | (with_reducible refine Below.drew ?_) | (with_reducible refine below_drewN ?_ _) | (with_reducible refine Below.setCell ?_ ?_ _) | (with_reducible exact Nat.le_refl _) | omega | (simp only [World.size_alloc, World.size_setCell, World.size_drew]; omega) | (simp; omega) | (simp; done)))); rintro e w' ⟨rfl, kk, rfl⟩)
                  | (refine step_append_lies _ rfl (.tmp 115) (.tmp 121) 43 rfl base 3 i1 (.int .i64 0) 1 8 Try.underlying43 hi1 hy0 hy1 hy2 rfl (by omega) (.slice At (R.length + 1) ct) (R.length + 1) ((tops R).map (Value.int .i64)) rfl ((own_below HM.out (below_drewN (Below.refl _ _) (1 + kk))).alloc _) ⟨wc.heap.size, 0, none⟩ 1 1 [.int .i64 (T + x.thick)] rfl rfl (one_new (wc.drewN (1 + kk)) _ _) (by simp [Value.oneCell']) (by omega) (by unfold maxLen; omega) (by omega) (by simp; omega) (wc.heap.size + 1) (by simp) ?_; intro gg cap w5 hown5 hgrow hat5 hlt5; have HG := Lib.hid (gb_trans (gb_alloc (gb_drewN (gb_refl wc (Value.slice At (R.length + 1) ct).ownBlock) (1 + kk)) _) hgrow); have k5 := (HG.out.cell a1 (fun e => HMP.out e.symm)); have f5 : ∀ i, w5.frozen? ⟨p, i, none⟩ = false := (fun i => (World.frozen?_of_block (HG.out.block p lp (fun e => HMP.out e.symm))).trans (af i)); have HO5 := Lib.hid hown5; have HA5 := Lib.hid hat5; clear hown5 hat5 hgrow))
              all_goals
                go_wp2_with fail
                go_meet
                refine ⟨mv', _, HS1.out.setT HG.out ?_ ?_⟩
                · rw [List.length_append, topsF_length, List.map_append]
                  exact HO5.out
                · intro g9 e9
                  have e8 : gg = g9 := Option.some.inj e9
                  subst e8
                  exact HA5.out.imp (fun h => h) (fun h => by rw [h]; exact Nat.le_succ _)
            case rest =>
              obtain ⟨mv', tv', hS⟩ := hcut
              have HS2 := Lib.hid hS
              clear HS1 hS
              go_wp2_with fail
              go_ret
              exact ⟨rfl, _, _, _, _, HS2.out⟩
end
end Go.Proofs.Ytdlglnkhhbkndaa

/- A layer is laid below the others (lay): what is taken, whatever the world. -/
import Derived.Test.YtdlglnkhhbkndaaLay
import Derived.Deep.AppendLies
import Derived.Deep.DeepCutAuto
import Derived.Deep.CutBlock
import Derived.Deep.RegionLaw
import Derived.StillTailTactics
namespace Go.Proofs.Ytdlglnkhhbkndaa
open Go.RowKit Go.Maps Go.WideAt Go.WideMaps
set_option linter.unusedSimpArgs false
set_option linter.unusedVariables false
set_option maxRecDepth 100000

theorem infoMat : (Try.prog.info? 37).map (fun i => (i.zero, i.size, i.bytes)) = some (some (.agg #[.string ⟨#[]⟩, .int .i64 0, .int .i64 0, .int .i64 0]), 4, 40) := by kernel_rfl
theorem infoInt : (Try.prog.info? 3).map (fun i => (i.zero, i.size, i.bytes)) = some (some (.int .i64 0), 1, 8) := by kernel_rfl
theorem infoStr : (Try.prog.info? 9).map (fun i => (i.zero, i.size, i.bytes)) = some (some (.string ⟨#[]⟩), 1, 16) := by kernel_rfl
/-- The box of the material that is laid. -/
def BoxAt (b : Nat) (x : Mat) (W : World) : Prop := ∀ i, W.cell? ⟨b, i, none⟩ = (#[Value.string x.name, .int .i64 x.kind, .int .i64 x.thick, .int .i64 x.grow])[i]?
theorem BoxAt.old {b : Nat} {x : Mat} {W W' : World} (h : BoxAt b x W) (hb : Below W.heap.size W W') (hlt : b < W.heap.size) : BoxAt b x W' := fun i => ((bcell hb).1 b i hlt).trans (h i)
theorem BoxAt.grown {b : Nat} {x : Mat} {W W' : World} {o : Option Nat} (h : BoxAt b x W) (hg : W.grownBy W' o) (hlt : b < W.heap.size) (hne : some b ≠ o) : BoxAt b x W' := fun i => (World.cell?_of_block (hg.block b hlt hne)).trans (h i)
theorem BoxAt.set {b : Nat} {x : Mat} {W : World} (h : BoxAt b x W) {p i : Nat} (hne : b ≠ p) (v : Value) : BoxAt b x (W.setCell ⟨p, i, none⟩ v) := fun j => by
  rw [World.cell?_setCell_other _ _ _ _ (by intro e; cases e; exact hne rfl)]
  exact h j
theorem mat_bytes : Mat.cs = fun x => [Value.string x.name, .int .i64 x.kind, .int .i64 x.thick, .int .i64 x.grow] := rfl
theorem cells_snoc (ms : List Mat) (x : Mat) : (ms ++ [x]).flatMap Mat.cs = ms.flatMap Mat.cs ++ [.string x.name, .int .i64 x.kind, .int .i64 x.thick, .int .i64 x.grow] := by simp [Mat.cs]
/-- How a layer lies behind what stands, part by part: the world while it is laid. -/
structure LayW (base p q B : Nat) (x : Mat) (w : World) (kn : Nat) (mv tv cv nv : Value) (f : Lit → Option Value) (ms : List Mat) (ts : List Int) (cs : List Nat) (ns : List ByteArray) (W : World) : Prop where
  g : PileG base p q kn mv tv cv nv f ms ts cs ns W
  u : Below base w W
  b : BoxAt B x W
  l : B < W.heap.size
  s : base ≤ B
  pb : B ≠ p
  mb : mv.ownBlock ≠ some B
  tb : tv.ownBlock ≠ some B
  cb : cv.ownBlock ≠ some B
  nb : nv.ownBlock ≠ some B
  qb : q ≠ B
section
variable {base p q B kn : Nat} {x : Mat} {mv tv cv nv : Value} {f : Lit → Option Value} {ms : List Mat} {ts : List Int} {cs : List Nat} {ns : List ByteArray} {w W W' : World}
theorem below_set {base p i : Nat} {w W : World} (h : Below base w W) (hp : base ≤ p) (v : Value) : Below base w (W.setCell ⟨p, i, none⟩ v) := by (repeat' (first | (with_reducible exact Below.refl _ _) | (with_reducible assumption) | (with_reducible refine Below.alloc ?_ ?_ _) | (with_reducible refine Below.drew ?_) | (with_reducible refine below_drewN ?_ _) | (with_reducible refine Below.setCell ?_ ?_ _) | (with_reducible exact Nat.le_refl _) | omega | (simp only [World.size_alloc, World.size_setCell, World.size_drew]; omega) | (simp; omega) | (simp; done)))
theorem LayW.setM (h : LayW base p q B x w kn mv tv cv nv f ms ts cs ns W) {mv' : Value} {ms' : List Mat} (hg : W.grownBy W' mv.ownBlock) (ho : W'.ownsRow base 37 4 mv' ms'.length (ms'.flatMap Mat.cs))
    (hn : ∀ g, mv'.ownBlock = some g → mv.ownBlock = some g ∨ W.heap.size ≤ g) : LayW base p q B x w kn mv' tv cv nv f ms' ts cs ns (W'.setCell ⟨p, 0, none⟩ mv') :=
  ⟨h.g.setM hg ho, below_set (h.u.grown hg (Nat.le_trans h.s (Nat.le_of_lt h.l)) (fun k hk => (h.g.m.lt k hk).1)) h.g.p _, (h.b.grown hg h.l (fun e => h.mb e.symm)).set h.pb _, by have := h.l; have := hg.size; simp; omega, h.s, h.pb, fun e => by
    rcases hn _ e with e | e
    · exact h.mb e
    · have := h.l; omega, h.tb, h.cb, h.nb, h.qb⟩
theorem LayW.setT (h : LayW base p q B x w kn mv tv cv nv f ms ts cs ns W) {tv' : Value} {ts' : List Int} (hg : W.grownBy W' tv.ownBlock) (ho : W'.ownsRow base 3 1 tv' ts'.length (ts'.map (Value.int .i64)))
    (hn : ∀ g, tv'.ownBlock = some g → tv.ownBlock = some g ∨ W.heap.size ≤ g) : LayW base p q B x w kn mv tv' cv nv f ms ts' cs ns (W'.setCell ⟨p, 1, none⟩ tv') :=
  ⟨h.g.setT hg ho hn, below_set (h.u.grown hg (Nat.le_trans h.s (Nat.le_of_lt h.l)) (fun k hk => (h.g.t.lt k hk).1)) h.g.p _, (h.b.grown hg h.l (fun e => h.tb e.symm)).set h.pb _, by have := h.l; have := hg.size; simp; omega, h.s, h.pb, h.mb, fun e => by
    rcases hn _ e with e | e
    · exact h.tb e
    · have := h.l; omega, h.cb, h.nb, h.qb⟩
theorem LayW.setC (h : LayW base p q B x w kn mv tv cv nv f ms ts cs ns W) {cv' : Value} {cs' : List Nat} (hg : W.grownBy W' cv.ownBlock) (ho : W'.ownsRow base 3 1 cv' cs'.length (cs'.map fun k => Value.int .i64 (k : Nat)))
    (hn : ∀ g, cv'.ownBlock = some g → cv.ownBlock = some g ∨ W.heap.size ≤ g) : LayW base p q B x w kn mv tv cv' nv f ms ts cs' ns (W'.setCell ⟨p, 2, none⟩ cv') :=
  ⟨h.g.setC hg ho hn, below_set (h.u.grown hg (Nat.le_trans h.s (Nat.le_of_lt h.l)) (fun k hk => (h.g.c.lt k hk).1)) h.g.p _, (h.b.grown hg h.l (fun e => h.cb e.symm)).set h.pb _, by have := h.l; have := hg.size; simp; omega, h.s, h.pb, h.mb, h.tb, fun e => by
    rcases hn _ e with e | e
    · exact h.cb e
    · have := h.l; omega, h.nb, h.qb⟩
theorem LayW.setN (h : LayW base p q B x w kn mv tv cv nv f ms ts cs ns W) {nv' : Value} {ns' : List ByteArray} (hg : W.grownBy W' nv.ownBlock) (ho : W'.ownsRow base 9 1 nv' ns'.length (ns'.map Value.string))
    (hn : ∀ g, nv'.ownBlock = some g → nv.ownBlock = some g ∨ W.heap.size ≤ g) : LayW base p q B x w kn mv tv cv nv' f ms ts cs ns' (W'.setCell ⟨p, 3, none⟩ nv') :=
  ⟨h.g.setN hg ho, below_set (h.u.grown hg (Nat.le_trans h.s (Nat.le_of_lt h.l)) (fun k hk => (h.g.n.lt k hk).1)) h.g.p _, (h.b.grown hg h.l (fun e => h.nb e.symm)).set h.pb _, by have := h.l; have := hg.size; simp; omega, h.s, h.pb, h.mb, h.tb, h.cb, fun e => by
    rcases hn _ e with e | e
    · exact h.nb e
    · have := h.l; omega, h.qb⟩
theorem LayW.setK (h : LayW base p q B x w kn mv tv cv nv f ms ts cs ns W) {kn' : Nat} {f' : Lit → Option Value} (hg : W.grownBy W' (some q)) (hk : MapV Try.prog 9 W' q kn' f') : LayW base p q B x w kn' mv tv cv nv f' ms ts cs ns W' :=
  ⟨h.g.setK hg hk, h.u.grown hg (Nat.le_trans h.s (Nat.le_of_lt h.l)) (fun k hk => by cases hk; exact h.g.q), h.b.grown hg h.l (fun e => h.qb (Option.some.inj e.symm)), Nat.lt_of_lt_of_le h.l hg.size, h.s, h.pb, h.mb, h.tb, h.cb, h.nb, h.qb⟩
theorem LayW.start {R : List Row} (h : LayIn base p q kn mv tv cv nv f R w) (hb : base ≤ w.heap.size) (x : Mat) (n : Nat) :
    LayW base p q w.heap.size x w kn mv tv cv nv f (R.map (·.2)) (tops R) (cus R) (nms R) ((w.alloc (.cells #[.string x.name, .int .i64 x.kind, .int .i64 x.thick, .int .i64 x.grow] 37)).drewN n) := by
  have B0 : Below w.heap.size w ((w.alloc (.cells #[.string x.name, .int .i64 x.kind, .int .i64 x.thick, .int .i64 x.grow] 37)).drewN n) := below_drewN ((Below.refl _ _).alloc (Nat.le_refl _) _) n
  refine ⟨h.g.old B0, B0.mono hb, fun i => alloc_cells rfl _ _ _, by simp, hb, fun e => ?_, fun e => ?_, fun e => ?_, fun e => ?_, fun e => ?_, fun e => ?_⟩
  · have := blk_lt h.g.b; omega
  · have := (h.g.m.lt _ e).2; omega
  · have := (h.g.t.lt _ e).2; omega
  · have := (h.g.c.lt _ e).2; omega
  · have := (h.g.n.lt _ e).2; omega
  · have := h.g.k.lt; omega
end
section
variable {base p q kn : Nat} {mv tv cv nv : Value} {f : Lit → Option Value} {R : List Row} {w : World}
set_option maxHeartbeats 4000000 in
/-- The materials and the tops: the last two statements. -/
theorem lay_plain (h : LayIn base p q kn mv tv cv nv f R w) (nm : ByteArray) (hs : nm.size ≤ maxLen) (x : Mat) (hbs : base ≤ w.heap.size) (hk : x.kind ≠ 1) (hw : nm = ByteArray.empty) (hr : ∀ r0, R.getLast? = some r0 → meetB r0.2.kind x.kind = true) (ht0 : 0 ≤ thick R) (ht1 : thick R ≤ 100000000) (hx0 : 0 ≤ x.thick) (hx1 : x.thick ≤ 2000) :
    Calls Try.prog 88 #[.pointer (some ⟨p, 0, none⟩), .string nm, .agg #[.string x.name, .int .i64 x.kind, .int .i64 x.thick, .int .i64 x.grow]] w fun e w' => e = .returned (.int .i64 0) ∧ ∃ mv' tv', LayW base p q w.heap.size x w kn mv' tv' cv nv f (R.map (·.2) ++ [x]) (tops R ++ [thick R + x.thick]) (cus R) (nms R) w' := by
  obtain ⟨i0, hi, hz0, hz1, hz2⟩ := info_parts infoMat
  obtain ⟨i1, hi1, hy0, hy1, hy2⟩ := info_parts infoInt
  have H0 := Lib.hid h
  have HST := Lib.hid (fun n => LayW.start h hbs x n)
  obtain ⟨Am, cm, hvm, g1, g2, g3⟩ := own_cells h.g.m
  have c0 : w.cell? ⟨p, 0, none⟩ = some mv := by rw [blk_cell h.g.b]; rfl
  have c4 : w.cell? ⟨p, 4, none⟩ = some (.map (some q)) := by rw [blk_cell h.g.b]; rfl
  have hpl := blk_lt h.g.b
  have hbp := h.g.p
  have hl := h.l
  simp only [List.length_map] at hvm g1
  subst hvm
  have g2' : cm ≤ 9223372036854775807 := g2
  have HK := Lib.hid h.g.k
  have HF := Lib.hid h.f
  have x4 : IntKind.i64.wrap ((R.length : Int) - 1) = (R.length : Int) - 1 := IntWalk.i64_in _ (by omega)
  obtain ⟨tw, htw⟩ : ∃ tw, ((nms R).findIdx? fun b => decide (b = nm)).isSome = tw := ⟨_, rfl⟩
  have d1 : (x.kind == 1) = false := by simpa using hk
  have HS := Lib.hid hs
  have HT := Lib.hid htw
  have HR := Lib.hid hr
  have hlen : (R.map (·.2)).length = R.length := by simp
  have HLen := Lib.hid hlen
  subst hw
  clear h g2 htw hk hs hr hlen
  go_enter Try.func88, Try.ntmps88
  go_wp2_with fail
  go_quiet (fail)
  go_upto_block 0 with (first
    | (at_lookup; refine wpList_num rfl (.tmp 24) (.tmp 25) rfl q kn f (nms R) rfl ((HK.out.alloc _).drewN _) HF.out ByteArray.empty rfl HS.out tw HT.out ?_; intro v9))
  go_cut [] (fun wx => ∃ n, wx = (w.alloc (.cells #[.string x.name, .int .i64 x.kind, .int .i64 x.thick, .int .i64 x.grow] 37)).drewN n)
  case first =>
    cases hlast : R.getLast? with
    | none =>
      have hl0 : R.length = 0 := by
        cases R with
        | nil => rfl
        | cons y l => simp at hlast
      have y1 : decide ((0 : Int) ≤ (R.length : Int) - 1) = false := by simp; omega
      have y5 : decide ((1 : Int) ≤ (R.length : Int)) = false := by simp; omega
      clear hlast hl0 g3
      go_wp2_with fail
      go_quiet (fail)
      go_wp2_with fail
      go_meet
      exact ⟨_, World.drewN_drewN _ _ _⟩
    | some r0 =>
      have hm := HR.out r0 hlast
      obtain ⟨g, j, rfl, hgl, hj, hcell⟩ := last_row hlast g3
      have y1 : decide ((0 : Int) ≤ (R.length : Int) - 1) = true := by simp; omega
      have y2 : ((R.length : Int) - 1).toNat = j := by omega
      have y3 : (0 : Int) ≤ (R.length : Int) - 1 := by omega
      have y4 : (R.length : Int) - 1 < (R.length : Int) := by omega
      have y5 : decide ((1 : Int) ≤ (R.length : Int)) = true := by simp; omega
      have CM := Lib.hid (fun W => hm ▸ canMeet_any r0.2.kind x.kind W)
      generalize r0.2.kind = K0 at *
      clear hj hlast hm g3
      go_wp2_with fail
      go_quiet ((go_at_call 98; exact quiet2 CM.out))
      go_wp2_with fail
      go_meet
      exact ⟨_, World.drewN_drewN _ _ _⟩
  case rest =>
    obtain ⟨n, rfl⟩ := hcut
    have HS0 := Lib.hid (HST.out n)
    clear HST c0 c4 H0 HK
    generalize (w.alloc (.cells #[.string x.name, .int .i64 x.kind, .int .i64 x.thick, .int .i64 x.grow] 37)).drewN n = W at *
    go_upto_region 13 with fail
    go_cut [] (fun wx => ∃ mv', LayW base p q w.heap.size x w kn mv' tv cv nv f (R.map (·.2) ++ [x]) (tops R) (cus R) (nms R) wx)
    case first =>
      have hS := HS0.out
      have a0 : W.cell? ⟨p, 0, none⟩ = some (.slice Am R.length cm) := by rw [blk_cell hS.g.b]; rfl
      have af : ∀ i, W.frozen? ⟨p, i, none⟩ = false := blk_free hS.g.b
      have b0 : W.cell? ⟨w.heap.size, 0, none⟩ = some (.string x.name) := hS.b 0
      have b1 : W.cell? ⟨w.heap.size, 1, none⟩ = some (.int .i64 x.kind) := hS.b 1
      have b2 : W.cell? ⟨w.heap.size, 2, none⟩ = some (.int .i64 x.thick) := hS.b 2
      have b3 : W.cell? ⟨w.heap.size, 3, none⟩ = some (.int .i64 x.grow) := hS.b 3
      have lp : p < W.heap.size := blk_lt hS.g.b
      have lb := hS.l
      have HM := Lib.hid (HLen.out ▸ hS.g.m)
      have HMP := Lib.hid hS.g.mp
      have hbW : base ≤ W.heap.size := Nat.le_trans hS.g.p (Nat.le_of_lt lp)
      clear hS
      go_region_law
        (first
          | (refine step_append_lies _ rfl (.tmp 105) (.tmp 107) 22 rfl base 37 i0 (.agg #[.string ⟨#[]⟩, .int .i64 0, .int .i64 0, .int .i64 0]) 4 40 Try.underlying22 hi hz0 hz1 hz2 rfl (by omega) (.slice Am R.length cm) R.length ((R.map (·.2)).flatMap Mat.cs) rfl ((HM.out.alloc _).drew) ⟨W.heap.size, 0, none⟩ 1 1 [.string x.name, .int .i64 x.kind, .int .i64 x.thick, .int .i64 x.grow] rfl rfl (four_new _ _ _ _ _ _) (by simp [Value.oneCell']) (by omega) (by unfold maxLen; omega) (by omega) (by simp; omega) (W.heap.size + 1) (by simp) ?_; intro gg cap w5 hown5 hgrow hat5 hlt5; have HG := Lib.hid (gb_trans (gb_drew (World.grownBy_alloc W _ (Value.slice Am R.length cm).ownBlock)) hgrow); have k5 := (HG.out.cell a0 (fun e => HMP.out e.symm)); have f5 : ∀ i, w5.frozen? ⟨p, i, none⟩ = false := (fun i => (World.frozen?_of_block (HG.out.block p lp (fun e => HMP.out e.symm))).trans (af i)); have HO5 := Lib.hid hown5; have HA5 := Lib.hid hat5; clear hown5 hat5 hgrow))
      all_goals
        go_wp2_with fail
        go_meet
        refine ⟨_, HS0.out.setM HG.out ?_ ?_⟩
        · rw [List.length_append, HLen.out, cells_snoc]
          exact HO5.out
        · intro g9 e9
          have e8 : gg = g9 := Option.some.inj e9
          subst e8
          exact HA5.out.imp (fun h => h) (fun h => by rw [h]; exact Nat.le_succ _)
    case rest =>
      obtain ⟨mv', hS⟩ := hcut
      have HS1 := Lib.hid hS
      clear HS0 hS
      go_upto_region 14 with fail
      go_cut [] (fun wx => ∃ mv' tv', LayW base p q w.heap.size x w kn mv' tv' cv nv f (R.map (·.2) ++ [x]) (tops R ++ [thick R + x.thick]) (cus R) (nms R) wx)
      case first =>
        have hS := HS1.out
        obtain ⟨At, ct, hvt, t1, t2, t3⟩ := own_cells hS.g.t
        have hlt : (tops R).length = R.length + 1 := topsF_length R 0
        rw [hlt] at hvt t1
        subst hvt
        have t2' : ct ≤ 9223372036854775807 := t2
        have a1 : wc.cell? ⟨p, 1, none⟩ = some (.slice At (R.length + 1) ct) := by rw [blk_cell hS.g.b]; rfl
        have af : ∀ i, wc.frozen? ⟨p, i, none⟩ = false := blk_free hS.g.b
        have b2 : wc.cell? ⟨w.heap.size, 2, none⟩ = some (.int .i64 x.thick) := hS.b 2
        have lp : p < wc.heap.size := blk_lt hS.g.b
        have lb := hS.l
        have HM := Lib.hid (hlt ▸ hS.g.t)
        have HMP := Lib.hid hS.g.tp
        have hbW : base ≤ wc.heap.size := Nat.le_trans hS.g.p (Nat.le_of_lt lp)
        have CT := Lib.hid (fun wc' (hb : Below wc.heap.size wc wc') => thickness_any (hS.g.old hb) hlt (by rw [tops_get (Nat.le_refl _), List.take_length]) hl)
        have xs : IntKind.i64.wrap (thick R + x.thick) = thick R + x.thick := IntWalk.i64_in _ (by omega)
        clear hS t2 t3 hlt
        have E1 : ∀ (n : Nat) (o : Obj), ((wc.drewN n).alloc o).cell? ⟨p, 1, none⟩ = some (.slice At (R.length + 1) ct) := fun n o => (World.cell?_alloc_lt (wc.drewN n) o _ lp).trans a1
        generalize thick R = T at *
        go_region_law
          (first
            | (go_simp; refine (CT.out _ ?gr).mono ?_; (case gr => (repeat' (first | (with_reducible exact Below.refl _ _) | (with_reducible assumption) | (with_reducible refine Below.alloc ?_ ?_ _) | (with_reducible refine Below.drew ?_) | (with_reducible refine below_drewN ?_ _) | (with_reducible refine Below.setCell ?_ ?_ _) | (with_reducible exact Nat.le_refl _) | omega | (simp only [World.size_alloc, World.size_setCell, World.size_drew]; omega) | (simp; omega) | (simp; done)))); rintro e w' ⟨rfl, kk, rfl⟩)
            | (refine step_append_lies _ rfl (.tmp 115) (.tmp 121) 43 rfl base 3 i1 (.int .i64 0) 1 8 Try.underlying43 hi1 hy0 hy1 hy2 rfl (by omega) (.slice At (R.length + 1) ct) (R.length + 1) ((tops R).map (Value.int .i64)) rfl ((own_below HM.out (below_drewN (Below.refl _ _) (1 + kk))).alloc _) ⟨wc.heap.size, 0, none⟩ 1 1 [.int .i64 (T + x.thick)] rfl rfl (one_new (wc.drewN (1 + kk)) _ _) (by simp [Value.oneCell']) (by omega) (by unfold maxLen; omega) (by omega) (by simp; omega) (wc.heap.size + 1) (by simp) ?_; intro gg cap w5 hown5 hgrow hat5 hlt5; have HG := Lib.hid (gb_trans (gb_alloc (gb_drewN (gb_refl wc (Value.slice At (R.length + 1) ct).ownBlock) (1 + kk)) _) hgrow); have k5 := (HG.out.cell a1 (fun e => HMP.out e.symm)); have f5 : ∀ i, w5.frozen? ⟨p, i, none⟩ = false := (fun i => (World.frozen?_of_block (HG.out.block p lp (fun e => HMP.out e.symm))).trans (af i)); have HO5 := Lib.hid hown5; have HA5 := Lib.hid hat5; clear hown5 hat5 hgrow))
        all_goals
          go_wp2_with fail
          go_meet
          refine ⟨mv', _, HS1.out.setT HG.out ?_ ?_⟩
          · rw [List.length_append, topsF_length, List.map_append]
            exact HO5.out
          · intro g9 e9
            have e8 : gg = g9 := Option.some.inj e9
            subst e8
            exact HA5.out.imp (fun h => h) (fun h => by rw [h]; exact Nat.le_succ _)
      case rest =>
        obtain ⟨mv', tv', hS⟩ := hcut
        have HS2 := Lib.hid hS
        clear HS1 hS
        go_wp2_with fail
        go_ret
        exact ⟨rfl, _, _, HS2.out⟩
end
end Go.Proofs.Ytdlglnkhhbkndaa

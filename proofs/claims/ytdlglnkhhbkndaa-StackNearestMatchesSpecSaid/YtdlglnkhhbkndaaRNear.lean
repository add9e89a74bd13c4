/- The nearest choice of sheets of the reference (Nearest), whatever the world. -/
import Derived.Test.YtdlglnkhhbkndaaNearRQ
import Derived.Test.YtdlglnkhhbkndaaNearY
import Derived.Test.YtdlglnkhhbkndaaRStack
namespace Go.Proofs.Ytdlglnkhhbkndaa
open Go.RowKit Go.Maps
set_option linter.unusedSimpArgs false
set_option linter.unusedVariables false
set_option maxRecDepth 1000000

theorem rwV_at {Ws : List (List Int)} {Gs : List Nat} {q : Nat} {W : List Int} {g : Nat} (h1 : Ws[q]? = some W) (h2 : Gs[q]? = some g) : (rwV Ws Gs)[q]? = some (.slice (some ⟨g, 0, none⟩) W.length W.length) := by
  unfold rwV
  rw [List.getElem?_zipWith, h1, h2]
theorem wch_all {m : Nat} {gs : List Nat} {Ws : List (List Int)} (h : WCh m gs Ws) : Ws.length = gs.length + 1 := by
  obtain ⟨W, Ws', rfl, -, h2⟩ := wch_len h
  rw [List.length_cons, h2]
theorem at_len {α β : Type} {l : List α} {k : List β} (h : k.length = l.length) {i : Nat} {a : α} (ha : l[i]? = some a) : ∃ b, k[i]? = some b :=
  ⟨_, List.getElem?_eq_getElem (by rw [h]; exact (List.getElem?_eq_some_iff.1 ha).1)⟩
section
variable {A : Option Addr} {l : List Mat} {c : Nat} {A2 : Option Addr} {s : List Lay} {c2 : Nat} {w : World}
set_option maxHeartbeats 4000000 in
theorem rNearest_yes (h : StkIn A l A2 s w) (hc2 : s.length ≤ c2) (hc3 : c2 ≤ 140737488355328) (m : Nat) (t : Int) (h0 : stackF l s = 0) (hm : 1 ≤ m ∧ m ≤ 8) (ht : 0 ≤ t ∧ t ≤ 1000000) (F : List Int) (Cs : List (List Nat)) (b : Nat) (hch : Chain m (gluF (rowsOf l s)) F Cs) (hba : BestAt (thick (rowsOf l s)) t F F.length b) :
    Calls Try.prog 33 #[.slice A l.length c, .slice A2 s.length c2, .int .i64 (m : Nat), .int .i64 t] w fun e w' => ∃ vv, e = .returned (.tuple #[vv, .int .i64 (thick (rowsOf l s) + (b : Nat)), .int .i64 0]) ∧ w'.ownsRow w.heap.size 3 1 vv (gluF (rowsOf l s)).length ((numsF (gluF (rowsOf l s)) Cs b).map oneN) ∧ Below w.heap.size w w' := by
  obtain ⟨i1, hi1, hy0, hy1, hy2⟩ := info_parts infoInt
  have CK := Lib.hid (rCheckStack_any (c := c) A2 s c2 hc2 hc3 h)
  rw [h0] at CK
  have CG := Lib.hid (fun W (hb : Below w.heap.size w W) => glues_any (c := c) (c2 := c2) (w := W) (h.below hb) h0)
  obtain ⟨t1, t2, t3, t4, t5, t6⟩ := thick_glu (rows_thick h0)
  have hR60 : (rowsOf l s).length ≤ 60 := by rw [rows_eq h0, List.length_map]; exact (stackF_go h0).2.1
  clear h h0 t6
  generalize rowsOf l s = R at *
  generalize gluF R = gs at *
  generalize rstF R = rst at *
  generalize thick R = T at *
  have hgl : gs.length ≤ 60 := by omega
  have hneg : ((gs.length : Nat) : Int) * (m : Int) < neverN := by
    have h1 : (gs.length : Int) * (m : Int) ≤ 60 * 8 := Int.mul_le_mul (by omega) (by omega) (by omega) (by omega)
    unfold neverN
    omega
  have hsum : 1 + m * gs.sum ≤ 1000000 := by
    have h1 : m * gs.sum ≤ 8 * 120000 := Nat.mul_le_mul (by omega) (by omega)
    omega
  have hFl : F.length ≤ 1000000 := by
    rw [chain_flen hch]
    have h1 : (m - 1) * gs.sum ≤ 8 * 120000 := Nat.mul_le_mul (by omega) (by omega)
    omega
  have hrst : 0 ≤ rst ∧ rst ≤ 120000 := by omega
  have hgs : gs.sum ≤ 120000 := by omega
  have HNEG := Lib.hid hneg
  have HCH := Lib.hid hch
  have HBA := Lib.hid hba
  have HT1 := Lib.hid t1
  clear hneg hch hba t1 t2 t3 t4 t5 hR60
  obtain ⟨N, hN⟩ : ∃ N, N = gs.length + 1 := ⟨_, rfl⟩
  have HN := Lib.hid hN
  have CF := Lib.hid (fun Av cv W hd => fewestR_any Av gs cv m W hm.1 hm.2 (by omega) (by omega) hd)
  rw [← hN] at CF
  have hK1 : (decide ((1 : Int) ≤ (m : Int)) && decide ((m : Int) ≤ 8)) = true := by simp; omega
  have hK2 : (decide ((0 : Int) ≤ t) && decide (t ≤ 1000000)) = true := by simp; omega
  have C1 := Lib.hid (fun (W : World) => hK1 ▸ withinR_any (m : Int) 1 8 W)
  have C2 := Lib.hid (fun (W : World) => hK2 ▸ withinR_any t 0 1000000 W)
  have x0 : (0 : Int) < (N : Int) := by omega
  clear hK1 hK2 hN
  go_enter Try.func33, Try.ntmps33
  go_wp2_with fail
  refine CK.out.mono ?_
  rintro e w1 ⟨rfl, hb1⟩
  have B1 := Lib.hid hb1
  have z1 := hb1.size
  clear hb1
  go_wp2_with fail
  refine (C1.out _).mono ?_
  rintro e w2 ⟨rfl, rfl⟩
  go_wp2_with fail
  refine (C2.out _).mono ?_
  rintro e w2 ⟨rfl, rfl⟩
  go_wp2_with fail
  refine (CG.out _ B1.out).mono ?_
  rintro e w3 ⟨v, rfl, ho3, hb3⟩
  obtain ⟨Ag, cg, rfl, u1, u2, -⟩ := own_cells ho3
  have u2' : cg ≤ 9223372036854775807 := u2
  have HRN := Lib.hid (rd_nats ho3)
  have B3 := Lib.hid (B1.out.trans (hb3.mono z1))
  have z3 := hb3.size
  clear ho3 hb3 u2
  go_wp2_with fail
  refine (CF.out _ _ _ HRN.out).mono ?_
  rintro e w5 ⟨O, Ws, Gs, rfl, hwc, hrw, hO, hb5⟩
  obtain ⟨W0, Ws1, hWe, hWl, -⟩ := wch_len hwc
  have hW0 : Ws[0]? = some W0 := by rw [hWe]; rfl
  obtain ⟨g0, hg0⟩ := at_len hrw.len hW0
  have hrow := wch_row hm.1 hwc _ _ hWe _ _ HCH.out HNEG.out
  have k0 : w5.cell? ⟨O, 0, none⟩ = some (.slice (some ⟨g0, 0, none⟩) W0.length W0.length) := by
    rw [blk_cell hO, List.getElem?_toArray]
    exact rwV_at hW0 hg0
  have HWC := Lib.hid hwc
  have HRW := Lib.hid hrw
  have HO := Lib.hid hO
  have HOW := Lib.hid (hrw.own 0 W0 g0 hW0 hg0)
  have HROW := Lib.hid hrow
  have B5 := Lib.hid (B3.out.trans (hb5.mono (by omega)))
  have B35 := Lib.hid hb5
  have z5 := hb5.size
  have hW0l : W0.length ≤ 1000000 := by omega
  have HW0 := Lib.hid hW0
  have HWL := Lib.hid hWl
  clear hwc hrw hO hb5 hW0 hg0 hrow hWe hWl
  go_wp2_with fail
  go_loopw [15, 50] (fun bv iv wr => ∃ (k : Nat) (best : Int), k ≤ W0.length ∧ iv = .int .i64 (k : Nat) ∧ bv = .int .i64 best ∧ BestR rst t W0 k best ∧ w5 = wr) (fun _ iv _ => W0.length - (intOf iv).toNat)
  case atStart => exact ⟨0, -1, Nat.zero_le _, rfl, rfl, bestR_zero _ _ _, rfl⟩
  case round =>
    obtain ⟨k, best, hk, rfl, rfl, hbr, rfl⟩ := hrel
    have HBR := Lib.hid hbr
    have hbl := bestR_lo hbr
    have hkz : (0 : Int) ≤ (k : Int) := by omega
    clear hbr
    by_cases hlt : k < W0.length
    · have hi : W0[k]? = some W0[k] := List.getElem?_eq_getElem hlt
      obtain ⟨f1, -⟩ := own_cellC (j := k) (v := .int .i64 W0[k]) HOW.out (by rw [List.getElem?_map, hi]; rfl)
      have HI := Lib.hid hi
      have hlt' : (k : Int) < (W0.length : Int) := by omega
      have y1 : IntKind.i64.wrap (rst + (k : Int)) = rst + (k : Int) := IntWalk.i64_in _ (by omega)
      have y2 : IntKind.i64.wrap (rst + best) = rst + best := IntWalk.i64_in _ (by omega)
      have AP1 := Lib.hid (fun (W : World) => apartN_any (rst + (k : Int)) t W (by omega) (by omega))
      have AP2 := Lib.hid (fun (W : World) => apartN_any (rst + best) t W (by omega) (by omega))
      clear hi
      generalize W0[k] = v at *
      by_cases hv : v < 0
      · have d1 : decide ((0 : Int) ≤ v) = false := decide_eq_false (by omega)
        have HN2 := Lib.hid (bestR_skip HBR.out HI.out hv)
        go_wp2_with fail
        go_roundw
        case rel => exact ⟨k + 1, best, by omega, by go_num, rfl, HN2.out, by first | rfl | trivial⟩
        case measure => (simp [intOf] <;> omega)
      · have d1 : decide ((0 : Int) ≤ v) = true := decide_eq_true (by omega)
        by_cases hb0 : best < 0
        · have d2 : decide (best < (0 : Int)) = true := decide_eq_true hb0
          have HN2 := Lib.hid (bestR_first HBR.out HI.out (by omega) hb0)
          go_wp2_with fail
          go_roundw
          case rel => exact ⟨k + 1, _, by omega, by go_num, rfl, HN2.out, by first | rfl | trivial⟩
          case measure => (simp [intOf] <;> omega)
        · have d2 : decide (best < (0 : Int)) = false := decide_eq_false hb0
          by_cases hfar : farN (rst + (k : Int)) t < farN (rst + best) t
          · have d3 : decide (farN (rst + (k : Int)) t < farN (rst + best) t) = true := decide_eq_true hfar
            have HN2 := Lib.hid (bestR_take HBR.out HI.out (by omega) hb0 hfar)
            go_wp2_with fail
            refine (AP1.out _).mono ?_
            rintro e w9 ⟨rfl, rfl⟩
            go_wp2_with fail
            refine (AP2.out _).mono ?_
            rintro e w9 ⟨rfl, rfl⟩
            go_wp2_with fail
            go_roundw
            case rel => exact ⟨k + 1, _, by omega, by go_num, rfl, HN2.out, by first | rfl | trivial⟩
            case measure => (simp [intOf] <;> omega)
          · have d3 : decide (farN (rst + (k : Int)) t < farN (rst + best) t) = false := decide_eq_false hfar
            have HN2 := Lib.hid (bestR_keep HBR.out HI.out hb0 hfar)
            go_wp2_with fail
            refine (AP1.out _).mono ?_
            rintro e w9 ⟨rfl, rfl⟩
            go_wp2_with fail
            refine (AP2.out _).mono ?_
            rintro e w9 ⟨rfl, rfl⟩
            go_wp2_with fail
            go_roundw
            case rel => exact ⟨k + 1, _, by omega, by go_num, rfl, HN2.out, by first | rfl | trivial⟩
            case measure => (simp [intOf] <;> omega)
    · obtain rfl : k = W0.length := by omega
      obtain rfl : best = ((b + gs.sum : Nat) : Int) := bestR_end HBR.out HROW.out (chain_lo HCH.out) (by rw [← HT1.out]; exact HBA.out)
      obtain ⟨⟨vb, hvb, hvb2⟩, -, -⟩ := HBA.out
      have HS0 := Lib.hid (sfx_start HCH.out HWC.out hvb hvb2)
      have hbl2 : b < F.length := (List.getElem?_eq_some_iff.1 hvb).1
      obtain ⟨BB, hBB⟩ : ∃ x, x = b + gs.sum := ⟨_, rfl⟩
      rw [← hBB]
      have hBBl : BB ≤ 2000000000 := by omega
      have HN0 := Lib.hid (show numsF gs Cs b = [] ++ numsF (gs.drop 0) (Cs.drop 0) b by rw [List.drop_zero, List.drop_zero]; rfl)
      have HBB := Lib.hid hBB
      have y9 : IntKind.i64.wrap (rst + (BB : Int)) = T + (b : Int) := (IntWalk.i64_in _ (by omega)).trans (by have := HT1.out; omega)
      clear hvb hvb2 hBB hbl
      go_wp2_with fail
      go_loopw [18, 19, 79] (fun ov lv iv wr => ∃ (i y S LV : Nat) (ns : List Nat), i ≤ gs.length ∧ iv = .int .i64 (i : Nat) ∧ lv = .int .i64 (LV : Nat) ∧ LV = y + S ∧ S = (gs.drop i).sum ∧ LV ≤ 2000000000 ∧ ns.length = i ∧ numsF gs Cs b = ns ++ numsF (gs.drop i) (Cs.drop i) y ∧ Sfx m gs Cs Ws i y ∧
        wr.ownsRow w5.heap.size 3 1 ov ns.length (ns.map oneN) ∧ Below w5.heap.size w5 wr) (fun _ _ iv _ => gs.length - (intOf iv).toNat)
      case atStart => exact ⟨0, b, gs.sum, BB, [], Nat.zero_le _, rfl, rfl, HBB.out, by rw [List.drop_zero], hBBl, rfl, HN0.out, HS0.out, own_nil, Below.refl _ _⟩
      case round =>
        obtain ⟨w7, rfl⟩ : ∃ x, x = wr := ⟨wr, rfl⟩
        obtain ⟨i, y, S, LV, ns, hil, rfl, rfl, hLV, hS, hLb, hns, hnm, hsf, ho, hw⟩ := hrel
        have HNM := Lib.hid hnm
        have HO7 := Lib.hid ho
        have HW7 := Lib.hid hw
        have zw := hw.size
        have hiz : (0 : Int) ≤ (i : Int) := by omega
        obtain ⟨Av, cv, rfl, v1, v2, -⟩ := own_cells ho
        have v2' : cv ≤ 9223372036854775807 := v2
        have hns2 : ns.length ≤ 60 := by omega
        have HNS := Lib.hid hns
        clear hnm ho v2 hns
        by_cases hlt : i < gs.length
        · have hi : gs[i]? = some gs[i] := List.getElem?_eq_getElem hlt
          obtain ⟨W, Wp, n, yn, zq, a, bb, e1, e2, e3, e4, e5, e6, e7, e8, e15, e9, e11, e12, e13⟩ := sheet_step hm.1 HNEG.out hsf hi
          obtain ⟨bg, off, rfl, hblt, hcs⟩ := (HRN.out.below (B35.out.trans (hw.mono z5))) (by omega)
          have c0 := by simpa using hcs i _ hi 0 _ rfl
          obtain ⟨gi, hgi⟩ := at_len HRW.out.len e1
          obtain ⟨gj, hgj⟩ := at_len HRW.out.len e2
          have hO7 := (hw.block O (blk_lt HO.out)).trans HO.out
          have k0 : w7.cell? ⟨O, i, none⟩ = some (.slice (some ⟨gi, 0, none⟩) W.length W.length) := by
            rw [blk_cell hO7, List.getElem?_toArray]
            exact rwV_at e1 hgi
          have k1 : w7.cell? ⟨O, i + 1, none⟩ = some (.slice (some ⟨gj, 0, none⟩) Wp.length Wp.length) := by
            rw [blk_cell hO7, List.getElem?_toArray]
            exact rwV_at e2 hgj
          have ho1 := (HRW.out.old hw).own i W gi e1 hgi
          have ho2 := (HRW.out.old hw).own (i + 1) Wp gj e2 hgj
          rw [← hS] at e5 e6
          obtain ⟨S1, hS1⟩ : ∃ x, x = (gs.drop (i + 1)).sum := ⟨_, rfl⟩
          rw [← hS1] at e5 e7 e9
          have hWn := (List.getElem?_eq_some_iff.1 e6).1
          have hWpn := (List.getElem?_eq_some_iff.1 e7).1
          rw [← hLV] at e6 hWn
          obtain ⟨f1, l1⟩ := own_cellC (j := LV) (v := .int .i64 a) ho1 (by rw [List.getElem?_map, e6]; rfl)
          have HK0 := Lib.hid k0
          have HK1 := Lib.hid k1
          have HF1 := Lib.hid f1
          have HO2 := Lib.hid ho2
          have HE7 := Lib.hid e7
          have HE9 := Lib.hid e9
          have HE11 := Lib.hid e11
          have HE12 := Lib.hid e12
          have HE13 := Lib.hid e13
          have HS1 := Lib.hid hS1
          have hOl := blk_lt hO7
          have hgjl := (ho2.lt _ rfl).2
          have hgil := (ho1.lt _ rfl).2
          have x1 : (i : Int) < (gs.length : Int) := by omega
          have x2 : (i : Int) < (N : Int) := by have := HN.out; omega
          have x3 : (i : Int) + 1 < (N : Int) := by have := HN.out; omega
          have x4 : IntKind.i64.wrap ((i : Int) + 1) = (i : Int) + 1 := IntWalk.i64_in _ (by omega)
          have x5 : (0 : Int) ≤ (i : Int) + 1 := by omega
          have x6 : (0 : Int) ≤ (LV : Int) := by omega
          have x7 : (LV : Int) < (W.length : Int) := by omega
          have hn8 : n + 1 ≤ 8 := by omega
          have hgS : gs[i] ≤ 2000000000 := by omega
          have HE4 := Lib.hid e4
          have HE5 := Lib.hid e5
          have HLV := Lib.hid hLV
          have HS := Lib.hid hS
          clear hcs hi hgi hgj hO7 k0 k1 f1 ho1 ho2 e1 e2 e4 e5 e6 e7 e9 e11 e12 e13 hw hS1 hsf hLV hS
          generalize gs[i] = g at *
          go_wp2_with fail
          go_loopw [22] (fun kv wx => ∃ K : Nat, 1 ≤ K ∧ K ≤ n + 1 ∧ kv = .int .i64 (K : Nat) ∧ Below w7.heap.size w7 wx) (fun kv _ => n + 2 - (intOf kv).toNat)
          case atStart => exact ⟨1, Nat.le_refl _, by omega, rfl, Below.refl _ _⟩
          case round =>
            obtain ⟨w8, rfl⟩ : ∃ x, x = wr := ⟨wr, rfl⟩
            obtain ⟨K, hK1, hKn, rfl, hw8⟩ := hrel
            have HW8 := Lib.hid hw8
            have z8 := hw8.size
            obtain ⟨kg, hkg⟩ : ∃ x, x = K * g := ⟨_, rfl⟩
            have hkl : kg ≤ LV := by
              have h1 := Nat.mul_le_mul_right g hKn
              rw [← hkg, Nat.add_mul, Nat.one_mul] at h1
              have h4 := HE4.out
              have h5 := HE5.out
              have h6 := HLV.out
              omega
            obtain ⟨z, hz⟩ : ∃ z, z = LV - kg := ⟨_, rfl⟩
            have hke : (K : Int) * (g : Int) = (kg : Int) := by rw [hkg, Int.natCast_mul]
            have y1 : IntKind.i64.wrap ((K : Int) * (g : Int)) = (kg : Int) := (IntWalk.i64_in _ (by rw [hke]; omega)).trans hke
            have y2 : IntKind.i64.wrap ((LV : Int) - (kg : Int)) = (z : Int) := (IntWalk.i64_in _ (by omega)).trans (by omega)
            have y3 : decide ((z : Int) < 0) = false := decide_eq_false (by omega)
            have y4 : (0 : Int) ≤ (z : Int) := by omega
            have y5 : IntKind.i64.wrap ((K : Int) + 1) = (K : Int) + 1 := IntWalk.i64_in _ (by omega)
            have k0 := (hw8.cell (p := ⟨O, i, none⟩) hOl).trans HK0.out
            have k1 := (hw8.cell (p := ⟨O, i + 1, none⟩) hOl).trans HK1.out
            have f1 := (hw8.cell (p := ⟨gi, LV, none⟩) hgil).trans HF1.out
            have HZ := Lib.hid hz
            have HKG := Lib.hid hkg
            have ho8 := own_below HO2.out hw8
            clear hkg hke hz hw8
            by_cases hKe : K = n + 1
            · have hze : z = yn + S1 := by
                have h0 := HZ.out
                have h1 := HKG.out
                rw [hKe, Nat.add_mul, Nat.one_mul] at h1
                have h4 := HE4.out
                have h5 := HE5.out
                have h6 := HLV.out
                omega
              obtain ⟨f2, -⟩ := own_cellC (j := z) (v := .int .i64 bb) ho8 (by rw [List.getElem?_map, hze, HE7.out]; rfl)
              have d1 : decide ((Wp.length : Int) ≤ (z : Int)) = false := decide_eq_false (by omega)
              have d1' : (z : Int) < (Wp.length : Int) := by omega
              have d1n : z < Wp.length := by omega
              have d1m : decide (Wp.length ≤ z) = false := decide_eq_false (by omega)
              have d2 : decide (bb < 0) = false := decide_eq_false (by omega)
              obtain ⟨a2, ha2⟩ : ∃ x, x = a := ⟨a, rfl⟩
              have d3 : IntKind.i64.wrap (bb + (K : Int)) = a2 := (IntWalk.i64_in _ (by have := HE13.out yn; have h9 := HE13.out _ _ HE7.out; unfold neverN at h9; omega)).trans (by omega)
              have d4 : (a2 != a) = false := by simp [ha2]
              clear e15 ha2
              have HKE := Lib.hid hKe
              have HZE := Lib.hid hze
              clear ho8 hKe hze
              go_wp2_with fail
              go_cut [142] (fun s142 wx => s142 = .bool false ∧ ∃ q, wx = w8.drewN q)
              case first =>
                go_quiet (fail)
                go_wp2_with fail
                go_meet
                exact ⟨rfl, _, rfl⟩
              case rest =>
                obtain ⟨rfl, nq, rfl⟩ := hcut
                clear d1 d1' d1n d1m d2 d3 d4 f2 k0 k1 f1
                have OWN := Lib.hid (fun (q : Nat) => own_drewN (own_below HO7.out HW8.out) q)
                have HWX := Lib.hid (fun (q : Nat) => below_drewN (HW7.out.trans (HW8.out.mono zw)) q)
                go_wp2_with (first
                  | (at_builtin; go_loud (refine wpList_append_lies _ rfl (.tmp 145) (.tmp 147) 43 rfl w5.heap.size 3 i1 (.int .i64 0) 1 8 Try.underlying43 hi1 hy0 hy1 hy2 rfl (by omega) (.slice Av ns.length cv) ns.length (ns.map oneN) rfl ((OWN.out _).alloc _) ⟨w8.heap.size, 0, none⟩ 1 1 [.int .i64 (K : Int)] rfl rfl (one_new _ _ _) (by simp [Value.oneCell']) (by omega) (by unfold maxLen; omega) (by omega) (by simp; omega) (w8.heap.size + 1) (by simp) ?_); intro gg cap w9 hown9 hgrow hat9 hlt9; have HO9 := Lib.hid hown9; have HG9 := Lib.hid hgrow; clear hown9 hgrow hat9))
                go_roundw
                case rel =>
                  have hbb := below_app ((HWX.out nq).alloc (show w5.heap.size ≤ w8.heap.size by omega) _) ((OWN.out nq).alloc _) HG9.out (Nat.le_refl _) (by simp; omega)
                  refine ⟨i + 1, yn, S1, z, ns ++ [n], by omega, by go_num, rfl, HZE.out, HS1.out, by have := HZ.out; omega, by rw [List.length_append, HNS.out]; rfl, by rw [HNM.out, HE11.out, List.append_assoc]; rfl, HE12.out, ?_, hbb⟩
                  rw [List.length_append, List.map_append]
                  have ek : oneN n = .int .i64 (K : Int) := by
                    unfold oneN
                    rw [HKE.out]
                    rfl
                  rw [List.map_singleton, ek]
                  exact HO9.out
                case measure => (simp [intOf] <;> omega)
            · have hj : K - 1 < n := by omega
              by_cases hzl : Wp.length ≤ z
              · have d1 : decide ((Wp.length : Int) ≤ (z : Int)) = true := decide_eq_true (by omega)
                clear ho8
                go_wp2_with fail
                go_quiet (fail)
                go_wp2_with fail
                go_roundw
                case rel => exact ⟨K + 1, by omega, by omega, by go_num, below_drewN HW8.out _⟩
                case measure => (simp [intOf] <;> omega)
              · have hzl' : z < Wp.length := by omega
                have hp : Wp[z]? = some Wp[z] := List.getElem?_eq_getElem hzl'
                have hpn := HE13.out _ _ hp
                unfold neverN at hpn
                have hne := HE9.out (K - 1) hj z _ (by
                  have h0 := HZ.out
                  have h1 := HKG.out
                  obtain ⟨K1, rfl⟩ : ∃ K1, K = K1 + 1 := ⟨K - 1, by omega⟩
                  rw [Nat.add_mul, Nat.one_mul] at h1
                  have h5 := HE5.out
                  have h6 := HLV.out
                  rw [Nat.add_sub_cancel]
                  omega) hp
                rw [show K - 1 + 1 = K by omega] at hne
                obtain ⟨f2, -⟩ := own_cellC (j := z) (v := .int .i64 Wp[z]) ho8 (by rw [List.getElem?_map, hp]; rfl)
                have d1 : decide ((Wp.length : Int) ≤ (z : Int)) = false := decide_eq_false (by omega)
                have d1' : (z : Int) < (Wp.length : Int) := by omega
                clear ho8 hp
                generalize Wp[z] = p at *
                by_cases hp0 : p < 0
                · have d2 : decide (p < 0) = true := decide_eq_true hp0
                  go_wp2_with fail
                  go_quiet (fail)
                  go_wp2_with fail
                  go_roundw
                  case rel => exact ⟨K + 1, by omega, by omega, by go_num, below_drewN HW8.out _⟩
                  case measure => (simp [intOf] <;> omega)
                · have d2 : decide (p < 0) = false := decide_eq_false hp0
                  have d3 : IntKind.i64.wrap (p + (K : Int)) = p + (K : Int) := IntWalk.i64_in _ (by omega)
                  have d4 : (p + (K : Int) != a) = true := by
                    rw [bne_iff_ne]
                    omega
                  go_wp2_with fail
                  go_quiet (fail)
                  go_wp2_with fail
                  go_roundw
                  case rel => exact ⟨K + 1, by omega, by omega, by go_num, below_drewN HW8.out _⟩
                  case measure => (simp [intOf] <;> omega)
        · obtain rfl : i = gs.length := by omega
          have HE := Lib.hid (show numsF gs Cs b = ns by
            have := HNM.out
            rw [nums_nil, List.append_nil] at this
            exact this)
          clear hw hsf
          go_wp2_with fail
          go_ret3
          refine ⟨_, rfl, ?_, B5.out.trans (HW7.out.mono (by omega))⟩
          rw [HE.out, ← HNS.out]
          exact own_lower HO7.out (show w.heap.size ≤ w5.heap.size by omega)
end
end Go.Proofs.Ytdlglnkhhbkndaa

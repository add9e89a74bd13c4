/- How many sheets each layer has (numbers), whatever the world. -/
import Derived.Test.YtdlglnkhhbkndaaFews
namespace Go.Proofs.Ytdlglnkhhbkndaa
open Go.RowKit Go.Maps
set_option linter.unusedSimpArgs false
set_option linter.unusedVariables false
set_option maxRecDepth 100000

theorem chain_step {m g : Nat} {gs : List Nat} {F : List Int} {C : List Nat} {Cs : List (List Nat)} (h : Chain m (g :: gs) F (C :: Cs)) {y : Nat} {v : Int} (hy : F[y]? = some v) (hv : v < neverN) :
    ∃ (F' : List Int) (n y' : Nat) (k : Int), C[y]? = some n ∧ n < m ∧ y = y' + n * g ∧ Chain m gs F' Cs ∧ F'[y']? = some k ∧ k < neverN ∧ numsF (g :: gs) (C :: Cs) y = n :: numsF gs Cs y' := by
  cases h with
  | cons hc ht =>
    obtain ⟨n, y', k, h1, h2, h3, h4, h5⟩ := ht.pick y v hy hv
    have hk := chain_lo hc y' k h4
    refine ⟨_, n, y', k, h1, h2, h3, hc, h4, by omega, ?_⟩
    rw [numsF, h1]
    simp only [Option.getD_some]
    rw [h3, Nat.add_sub_cancel]
theorem chain_cons {m g : Nat} {gs : List Nat} {F : List Int} {Cs : List (List Nat)} (h : Chain m (g :: gs) F Cs) : ∃ C Cs', Cs = C :: Cs' := by
  cases h with
  | cons _ _ => exact ⟨_, _, rfl⟩
def oneN (n : Nat) : Value := .int .i64 ((n : Int) + 1)
theorem chV_at {Cs : List (List Nat)} {Gs : List Nat} {q : Nat} {C : List Nat} {g : Nat} (h1 : Cs[q]? = some C) (h2 : Gs[q]? = some g) : (chV Cs Gs)[q]? = some (.slice (some ⟨g, 0, none⟩) C.length C.length) := by
  unfold chV
  rw [List.getElem?_zipWith, h1, h2]
set_option maxHeartbeats 4000000 in
theorem numbers_any (A : Option Addr) (gs : List Nat) (c m x G1 n1 GC base : Nat) (F : List Int) (Cs : List (List Nat)) (Gs : List Nat) (v : Int) (w : World) (hm8 : m ≤ 8) (hk : gs.length ≤ 1000) (hch : Chain m gs F Cs) (hx : F[x]? = some v) (hv : v < neverN) (hxb : x ≤ 1000000000) (hd : RdG 1 (fun g : Nat => [Value.int .i64 (g : Nat)]) w A gs) (hcw : ChW base Cs Gs w) (hgc : w.heap[GC]? = some (.cells (chV Cs Gs).toArray 126 (0, 0))) :
    Calls Try.prog 71 #[.agg #[.slice (some ⟨G1, 0, none⟩) n1 n1, .slice (some ⟨GC, 0, none⟩) gs.length gs.length], .slice A gs.length c, .int .i64 (x : Nat)] w fun e w' => ∃ vv, e = .returned vv ∧ w'.ownsRow w.heap.size 3 1 vv gs.length ((numsF gs Cs x).map oneN) ∧ Below w.heap.size w w' := by
  obtain ⟨i1, hi1, hy0, hy1, hy2⟩ := info_parts infoInt
  have HD := Lib.hid hd
  have HCW := Lib.hid hcw
  have HGC := Lib.hid hgc
  have lgc := blk_lt hgc
  have hlen := chain_len hch
  have HLEN := Lib.hid hlen
  have HGL := Lib.hid hcw.len
  have HN0 := Lib.hid (show numsF gs Cs x = [] ++ numsF (gs.drop 0) (Cs.drop 0) x by rw [List.drop_zero, List.drop_zero]; rfl)
  have HC0 := Lib.hid (show Chain m (gs.drop 0) F (Cs.drop 0) by rw [List.drop_zero, List.drop_zero]; exact hch)
  have HX := Lib.hid hx
  have HV := Lib.hid hv
  clear hd hcw hgc hlen hch hx hv
  go_enter Try.func71, Try.ntmps71
  go_wp2_with fail
  go_loopw [2, 7, 13] (fun yv ov iv wr => ∃ (k y : Nat) (ns : List Nat) (F' : List Int) (v' : Int), k ≤ gs.length ∧ iv = .int .i64 (k : Nat) ∧ yv = .int .i64 (y : Nat) ∧ y ≤ 1000000000 ∧ ns.length = k ∧ numsF gs Cs x = ns ++ numsF (gs.drop k) (Cs.drop k) y ∧ Chain m (gs.drop k) F' (Cs.drop k) ∧ F'[y]? = some v' ∧ v' < neverN ∧
    wr.ownsRow (w.heap.size + 1) 3 1 ov ns.length (ns.map oneN) ∧ Below (w.heap.size + 1) (w.alloc (.cells #[.slice (some ⟨G1, 0, none⟩) n1 n1, .slice (some ⟨GC, 0, none⟩) gs.length gs.length] 96)) wr) (fun _ _ iv _ => gs.length - (intOf iv).toNat)
  case atStart => exact ⟨0, x, [], F, v, Nat.zero_le _, rfl, rfl, hxb, rfl, HN0.out, HC0.out, HX.out, HV.out, own_nil, Below.refl _ _⟩
  case round =>
    obtain ⟨k, y, ns, F', v', hkl, rfl, rfl, hyb, hns, hnm, hch, hy, hv', ho, hw⟩ := hrel
    have HNM := Lib.hid hnm
    have HCH := Lib.hid hch
    have HO := Lib.hid ho
    have HW := Lib.hid hw
    have zw : w.heap.size + 1 ≤ wr.heap.size := by simpa using hw.size
    have BW := Lib.hid (((Below.refl w.heap.size w).alloc (Nat.le_refl _) (.cells #[.slice (some ⟨G1, 0, none⟩) n1 n1, .slice (some ⟨GC, 0, none⟩) gs.length gs.length] 96)).trans (hw.mono (Nat.le_succ _)))
    have hkz : (0 : Int) ≤ (k : Int) := by omega
    have b1 : wr.cell? ⟨w.heap.size, 1, none⟩ = some (.slice (some ⟨GC, 0, none⟩) gs.length gs.length) := (hw.cell (p := ⟨w.heap.size, 1, none⟩) (Nat.lt_succ_self _)).trans (anc9 w _ _ 1 rfl)
    obtain ⟨Av, cv, rfl, u1, u2, -⟩ := own_cells ho
    have u2' : cv ≤ 9223372036854775807 := u2
    have hns2 : ns.length ≤ 1000 := by omega
    have HNS := Lib.hid hns
    clear hnm ho u2 hns
    by_cases hlt : k < gs.length
    · obtain ⟨bg, off, rfl, hblt, hcs⟩ := (HD.out.below BW.out) (by omega)
      have hi : gs[k]? = some gs[k] := List.getElem?_eq_getElem hlt
      have c0 := by simpa using hcs k _ hi 0 _ rfl
      have hdr : gs.drop k = gs[k] :: gs.drop (k + 1) := List.drop_eq_getElem_cons hlt
      have hlt2 : k < Cs.length := by rw [HLEN.out]; exact hlt
      have hlt3 : k < Gs.length := by rw [HGL.out]; exact hlt2
      have hci : Cs[k]? = some Cs[k] := List.getElem?_eq_getElem hlt2
      have hgi : Gs[k]? = some Gs[k] := List.getElem?_eq_getElem hlt3
      have hdc : Cs.drop k = Cs[k] :: Cs.drop (k + 1) := List.drop_eq_getElem_cons hlt2
      have hoC := (HCW.out.old BW.out).own k _ _ hci hgi
      have e0 : wr.cell? ⟨GC, k, none⟩ = some (.slice (some ⟨Gs[k], 0, none⟩) Cs[k].length Cs[k].length) := by
        rw [blk_cell ((BW.out.block GC lgc).trans HGC.out), List.getElem?_toArray]
        exact chV_at hci hgi
      rw [hdr, hdc] at hch
      obtain ⟨F2, n, y', kk, t1, t2, t3, t4, t5, t6, t7⟩ := chain_step hch hy hv'
      have HNN := Lib.hid (show numsF gs Cs x = (ns ++ [n]) ++ numsF (gs.drop (k + 1)) (Cs.drop (k + 1)) y' by rw [HNM.out, hdr, hdc, t7, List.append_assoc]; rfl)
      have hyl : y < Cs[k].length := (List.getElem?_eq_some_iff.1 t1).1
      obtain ⟨f1, -⟩ := own_cellC (j := y) (v := u8V n) hoC (by rw [List.getElem?_map, t1]; rfl)
      have T4 := Lib.hid t4
      have T5 := Lib.hid t5
      have T6 := Lib.hid t6
      clear hcs hi hdr hci hgi hdc hoC hch hy hv' t1 t4 t5 t6 t7 hw
      generalize Gs[k] = gk at *
      generalize Cs[k] = Ck at *
      generalize gs[k] = g at *
      obtain ⟨ng, hng⟩ : ∃ z, z = n * g := ⟨_, rfl⟩
      rw [← hng] at t3
      have hnge : (n : Int) * (g : Int) = (ng : Int) := by rw [hng, Int.natCast_mul]
      have y0 : IntKind.i64.wrap (n : Int) = (n : Int) := IntWalk.i64_in _ (by omega)
      have y1 : IntKind.i64.wrap ((1 : Int) + (n : Int)) = (n : Int) + 1 := (IntWalk.i64_in _ (by omega)).trans (by omega)
      have y2 : IntKind.i64.wrap ((n : Int) * (g : Int)) = (ng : Int) := (IntWalk.i64_in _ (by rw [hnge]; omega)).trans hnge
      have y3 : IntKind.i64.wrap ((y : Int) - (ng : Int)) = (y' : Int) := (IntWalk.i64_in _ (by omega)).trans (by omega)
      have y4 : (0 : Int) ≤ (y : Int) := by omega
      have y5 : (y : Int) < (Ck.length : Int) := by omega
      have y6 : (k : Int) < (gs.length : Int) := by omega
      have hyb' : y' ≤ 1000000000 := by omega
      clear hng hnge t3 hlt2 hlt3
      go_wp2_with (first
        | (at_builtin; go_loud (refine wpList_append_lies _ rfl (.tmp 27) (.tmp 30) 43 rfl (w.heap.size + 1) 3 i1 (.int .i64 0) 1 8 Try.underlying43 hi1 hy0 hy1 hy2 rfl (by omega) (.slice Av ns.length cv) ns.length (ns.map oneN) rfl (HO.out.alloc _) ⟨wr.heap.size, 0, none⟩ 1 1 [.int .i64 ((n : Int) + 1)] rfl rfl (one_new _ _ _) (by simp [Value.oneCell']) (by omega) (by unfold maxLen; omega) (by omega) (by simp; omega) (wr.heap.size + 1) (by simp) ?_); intro gg cap w5 hown5 hgrow hat5 hlt5; have HO5 := Lib.hid hown5; have HG5 := Lib.hid hgrow; clear hown5 hgrow hat5))
      go_roundw
      case rel =>
        have hbb : Below (w.heap.size + 1) (w.alloc (.cells #[.slice (some ⟨G1, 0, none⟩) n1 n1, .slice (some ⟨GC, 0, none⟩) gs.length gs.length] 96)) w5 := below_app (HW.out.alloc zw _) (HO.out.alloc _) HG5.out (Nat.le_refl _) (by simp; omega)
        refine ⟨k + 1, y', ns ++ [n], F2, kk, by omega, by go_num, rfl, hyb', by rw [List.length_append, HNS.out]; rfl, HNN.out, T4.out, T5.out, T6.out, ?_, hbb⟩
        rw [List.length_append, List.map_append]
        exact HO5.out
      case measure => (simp [intOf] <;> omega)
    · obtain rfl : k = gs.length := by omega
      have HE := Lib.hid (show numsF gs Cs x = ns by
        have := HNM.out
        rw [List.drop_length] at this
        rw [this, numsF]
        · rw [List.append_nil]
        · intro _ _ _ _ e; cases e)
      clear hw
      go_wp2_with fail
      go_ret
      refine ⟨_, rfl, ?_, BW.out⟩
      rw [HE.out, ← HNS.out]
      exact own_lower HO.out (Nat.le_succ _)
end Go.Proofs.Ytdlglnkhhbkndaa

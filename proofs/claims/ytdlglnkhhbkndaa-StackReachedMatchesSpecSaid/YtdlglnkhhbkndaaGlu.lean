/- The layers of glue of a stack, as a plain list; glues of the reference, whatever the world. -/
import Derived.Test.YtdlglnkhhbkndaaRFn
import Derived.Test.YtdlglnkhhbkndaaStkP
import Derived.Test.YtdlglnkhhbkndaaPiled
import Derived.Test.YtdlglnkhhbkndaaRep
namespace Go.Proofs.Ytdlglnkhhbkndaa
open Go.RowKit Go.Maps
set_option linter.unusedSimpArgs false
set_option linter.unusedVariables false
set_option maxRecDepth 100000

theorem one_atG (W : World) (x : Value) (t : TypeId) {g : Nat} (hg : g = W.heap.size) : ∀ j v, [x][j]? = some v → (W.alloc (.cells #[x] t)).cell? ((⟨g, 0, none⟩ : Addr).add j) = some v := by
  subst hg
  exact one_new W x t
def gluF : List Row → List Nat
  | [] => []
  | r :: R => if r.2.kind = 3 then r.2.thick.toNat :: gluF R else gluF R
def rstF : List Row → Int
  | [] => 0
  | r :: R => if r.2.kind = 3 then rstF R else r.2.thick + rstF R
theorem glu_snoc : ∀ (R : List Row) (r : Row), gluF (R ++ [r]) = if r.2.kind = 3 then gluF R ++ [r.2.thick.toNat] else gluF R
  | [], r => by simp [gluF]
  | q :: R, r => by
    rw [List.cons_append, gluF, gluF, glu_snoc R r]
    split <;> split <;> rfl
theorem rst_snoc : ∀ (R : List Row) (r : Row), rstF (R ++ [r]) = if r.2.kind = 3 then rstF R else rstF R + r.2.thick
  | [], r => by
    simp only [List.nil_append, rstF]
    split <;> omega
  | q :: R, r => by
    rw [List.cons_append, rstF, rstF, rst_snoc R r]
    split <;> split <;> omega
theorem thick_glu : ∀ {R : List Row}, (∀ r ∈ R, 1 ≤ r.2.thick ∧ r.2.thick ≤ 2000) → thick R = rstF R + ((gluF R).sum : Nat) ∧ 0 ≤ rstF R ∧ (gluF R).sum ≤ 2000 * R.length ∧ rstF R ≤ 2000 * R.length ∧ (gluF R).length ≤ R.length ∧ ∀ g ∈ gluF R, g ≤ 2000
  | [], _ => ⟨rfl, Int.le_refl _, Nat.le_refl _, Int.le_refl _, Nat.le_refl _, fun g hg => by cases hg⟩
  | r :: R, h => by
    obtain ⟨h1, h2, h3, h4, h5, h6⟩ := thick_glu (R := R) fun q hq => h q (List.mem_cons_of_mem _ hq)
    have hr := h r (List.mem_cons_self ..)
    rw [thick, gluF, rstF, List.length_cons]
    split
    · refine ⟨?_, h2, ?_, by omega, by rw [List.length_cons]; omega, fun g hg => ?_⟩
      · rw [List.sum_cons]; omega
      · rw [List.sum_cons]; omega
      · rcases List.mem_cons.1 hg with rfl | hg
        · omega
        · exact h6 g hg
    · exact ⟨by omega, by omega, by omega, by omega, by omega, h6⟩
section
variable {A : Option Addr} {l : List Mat} {c : Nat} {A2 : Option Addr} {s : List Lay} {c2 : Nat} {w : World}
theorem rows_thick (h0 : stackF l s = 0) : ∀ r ∈ rowsOf l s, 1 ≤ r.2.thick ∧ r.2.thick ≤ 2000 := by
  intro r hr
  rw [rows_eq h0] at hr
  obtain ⟨y, hy, rfl⟩ := List.mem_map.1 hr
  obtain ⟨x, hx⟩ := Option.isSome_iff_exists.1 (rows_found h0 y hy)
  have hz := matF_zero (matsF_mem (stackF_mats h0) x (matOf_mem hx))
  have e : (rowOf l y).2 = x := by
    show (matOf l y.mat).getD noMat = x
    rw [hx]
    rfl
  rw [e]
  omega
set_option maxHeartbeats 2000000 in
theorem glues_any (h : StkIn A l A2 s w) (h0 : stackF l s = 0) :
    Calls Try.prog 72 #[.slice A l.length c, .slice A2 s.length c2] w fun e w' => ∃ v, e = .returned (.tuple #[v, .int .i64 (rstF (rowsOf l s))]) ∧ w'.ownsRow w.heap.size 3 1 v (gluF (rowsOf l s)).length ((gluF (rowsOf l s)).map fun g : Nat => Value.int .i64 (g : Nat)) ∧ Below w.heap.size w w' := by
  obtain ⟨i1, hi1, hy0, hy1, hy2⟩ := info_parts infoInt
  have HS := Lib.hid h
  have hre := rows_eq h0
  have hs60 := (stackF_go h0).2.1
  have HTH := Lib.hid (rows_thick h0)
  have CM := Lib.hid (fun n W (hb : Below w.heap.size w W) => materialOf_any A l c n W h.l1 (h.m.below hb))
  have HRE := Lib.hid hre
  have hRl : (rowsOf l s).length = s.length := by rw [hre, List.length_map]
  clear h h0 hre
  generalize rowsOf l s = R at *
  go_enter Try.func72, Try.ntmps72
  go_wp2_with fail
  go_loopw [6, 7, 13] (fun ov rv iv wr => ∃ k : Nat, k ≤ s.length ∧ iv = .int .i64 (k : Nat) ∧ rv = .int .i64 (rstF (R.take k)) ∧ wr.ownsRow w.heap.size 3 1 ov (gluF (R.take k)).length ((gluF (R.take k)).map fun g : Nat => Value.int .i64 (g : Nat)) ∧ Below w.heap.size w wr) (fun _ _ iv _ => s.length - (intOf iv).toNat)
  case atStart => exact ⟨0, Nat.zero_le _, rfl, rfl, own_nil, Below.refl _ _⟩
  case round =>
    obtain ⟨k, hk, rfl, rfl, ho, hw⟩ := hrel
    have HO := Lib.hid ho
    have HW := Lib.hid hw
    have zw := hw.size
    have hkz : (0 : Int) ≤ (k : Int) := by omega
    obtain ⟨Av, cv, rfl, u1, u2, -⟩ := own_cells ho
    have u2' : cv ≤ 9223372036854775807 := u2
    have hTK := thick_glu (R := R.take k) (fun r hr => HTH.out r (List.mem_of_mem_take hr))
    have htl : (R.take k).length ≤ 60 := by rw [List.length_take]; omega
    have hg1 : (gluF (R.take k)).length ≤ 60 := by omega
    have hg2 : 0 ≤ rstF (R.take k) ∧ rstF (R.take k) ≤ 120000 := by omega
    clear ho u2 hTK htl
    by_cases hlt : k < s.length
    · obtain ⟨b, off, rfl, hblt, hcs⟩ := (HS.out.y.below hw) (by omega)
      have hi : s[k]? = some s[k] := List.getElem?_eq_getElem hlt
      have c0 := by simpa using hcs k _ hi 0 _ rfl
      have c1 := hcs k _ hi 1 _ rfl
      have hrk : R[k]? = some (rowOf l s[k]) := by rw [HRE.out, List.getElem?_map, hi]; rfl
      have htk : R.take (k + 1) = R.take k ++ [rowOf l s[k]] := by rw [List.take_add_one, hrk]; rfl
      have hth := HTH.out _ (List.mem_of_getElem? hrk)
      have HGK := Lib.hid (show gluF (R.take (k + 1)) = if ((matOf l s[k].mat).getD noMat).kind = 3 then gluF (R.take k) ++ [((matOf l s[k].mat).getD noMat).thick.toNat] else gluF (R.take k) by rw [htk]; exact glu_snoc _ _)
      have HRK := Lib.hid (show rstF (R.take (k + 1)) = if ((matOf l s[k].mat).getD noMat).kind = 3 then rstF (R.take k) else rstF (R.take k) + ((matOf l s[k].mat).getD noMat).thick by rw [htk]; exact rst_snoc _ _)
      have hth2 : 1 ≤ ((matOf l s[k].mat).getD noMat).thick ∧ ((matOf l s[k].mat).getD noMat).thick ≤ 2000 := hth
      have CMK := Lib.hid (fun W hb => CM.out s[k].mat W hb)
      clear hcs hi hrk htk hth hw
      generalize (matOf l s[k].mat).getD noMat = x at *
      generalize s[k].mat = ym at *
      generalize s[k].name = yn at *
      generalize gluF (R.take k) = Q at *
      generalize rstF (R.take k) = q at *
      by_cases hx3 : x.kind = 3
      · have hx4 : (x.kind == 3) = true := by simpa using hx3
        have HN1 := Lib.hid (show gluF (R.take (k + 1)) = Q ++ [x.thick.toNat] by rw [HGK.out, if_pos hx3])
        have HN2 := Lib.hid (show rstF (R.take (k + 1)) = q by rw [HRK.out, if_pos hx3])
        have HXT := Lib.hid (show (x.thick.toNat : Int) = x.thick by omega)
        clear hx3
        go_wp2_with (first
          | (go_at_call 68; refine (CMK.out _ (HW.out.alloc zw _)).mono ?_; rintro e w1 ⟨rfl, hb⟩; have B1 := Lib.hid (HW.out.trans (((Below.refl wr.heap.size wr).alloc (Nat.le_refl _) _).trans (hb.mono (by simp)) |>.mono zw)); have O1 := Lib.hid (own_below (HO.out.alloc _) hb); have z1 := B1.out.size; clear hb)
          | (at_builtin; go_loud (refine wpList_append_lies _ rfl (.tmp 24) (.tmp 27) 43 rfl w.heap.size 3 i1 (.int .i64 0) 1 8 Try.underlying43 hi1 hy0 hy1 hy2 rfl (by omega) (.slice Av Q.length cv) Q.length (Q.map fun g : Nat => Value.int .i64 (g : Nat)) rfl ((O1.out.alloc _).alloc _) ⟨w1.heap.size + 1, 0, none⟩ 1 1 [.int .i64 x.thick] rfl rfl (one_atG _ _ _ (by simp)) (by simp [Value.oneCell']) (by omega) (by unfold maxLen; omega) (by omega) (by simp; omega) (w1.heap.size + 2) (by simp) ?_); intro gg cap w5 hown5 hgrow hat5 hlt5; have HO5 := Lib.hid hown5; have B5 := Lib.hid (below_app ((B1.out.alloc z1 _).alloc (by simp; omega) _) ((O1.out.alloc _).alloc _) hgrow (Nat.le_refl _) (by simp; omega)); clear hown5 hgrow hat5))
        go_roundw
        case rel =>
          refine ⟨k + 1, by omega, by go_num, by rw [HN2.out], ?_, B5.out⟩
          rw [HN1.out, List.length_append, List.map_append, List.map_singleton, HXT.out]
          exact HO5.out
        case measure => (simp [intOf] <;> omega)
      · have hx4 : (x.kind == 3) = false := by simpa using hx3
        have HN1 := Lib.hid (show gluF (R.take (k + 1)) = Q by rw [HGK.out, if_neg hx3])
        have HN2 := Lib.hid (show rstF (R.take (k + 1)) = q + x.thick by rw [HRK.out, if_neg hx3])
        have y1 : IntKind.i64.wrap (q + x.thick) = q + x.thick := IntWalk.i64_in _ (by omega)
        clear hx3
        go_wp2_with (first
          | (go_at_call 68; refine (CMK.out _ (HW.out.alloc zw _)).mono ?_; rintro e w1 ⟨rfl, hb⟩; have B1 := Lib.hid (HW.out.trans (((Below.refl wr.heap.size wr).alloc (Nat.le_refl _) _).trans (hb.mono (by simp)) |>.mono zw)); have O1 := Lib.hid (own_below (HO.out.alloc _) hb); have z1 := B1.out.size; clear hb))
        go_roundw
        case rel => exact ⟨k + 1, by omega, by go_num, by rw [HN2.out], by rw [HN1.out]; exact O1.out.alloc _, B1.out.alloc z1 _⟩
        case measure => (simp [intOf] <;> omega)
    · obtain rfl : k = s.length := by omega
      have HT := Lib.hid (show R.take s.length = R by rw [← hRl, List.take_length])
      rw [HT.out] at HO
      go_wp2_with fail
      go_ret2
      exact ⟨_, by rw [HT.out]; rfl, HO.out, HW.out⟩
end
end Go.Proofs.Ytdlglnkhhbkndaa

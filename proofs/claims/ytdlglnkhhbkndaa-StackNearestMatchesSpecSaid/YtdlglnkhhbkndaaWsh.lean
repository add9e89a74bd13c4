/- How thick a stack is with other sheets of glue (WithSheets, Below, Far of the reference), whatever the world. -/
import Derived.Test.YtdlglnkhhbkndaaGlu
import Derived.Test.YtdlglnkhhbkndaaTop
namespace Go.Proofs.Ytdlglnkhhbkndaa
open Go.RowKit Go.Maps
set_option linter.unusedSimpArgs false
set_option linter.unusedVariables false
set_option maxRecDepth 100000

def dotI : List Nat → List Int → Int
  | g :: gs, z :: zs => (g : Int) * z + dotI gs zs
  | _, _ => 0
theorem dot_snoc : ∀ (gs : List Nat) (zs : List Int) (k : Nat) (g : Nat) (z : Int), gs[k]? = some g → zs[k]? = some z → dotI (gs.take (k + 1)) (zs.take (k + 1)) = dotI (gs.take k) (zs.take k) + (g : Int) * z
  | [], _, k, _, _, h, _ => by simp at h
  | _ :: _, [], k, _, _, _, h => by simp at h
  | a :: gs, b :: zs, 0, g, z, h1, h2 => by
    simp at h1 h2
    subst h1 h2
    simp [dotI]
  | a :: gs, b :: zs, k + 1, g, z, h1, h2 => by
    have ih := dot_snoc gs zs k g z (by simpa using h1) (by simpa using h2)
    rw [List.take_succ_cons, List.take_succ_cons, dotI, ih, List.take_succ_cons, List.take_succ_cons, dotI]
    omega
theorem mul_small {g : Nat} {z : Int} (hg : g ≤ 2000) (h1 : 0 ≤ z) (h2 : z ≤ 8) : 0 ≤ (g : Int) * z ∧ (g : Int) * z ≤ 16000 :=
  ⟨Int.mul_nonneg (by omega) h1, by
    have := Int.mul_le_mul (a := (g : Int)) (b := z) (c := 2000) (d := 8) (by omega) h2 h1 (by decide)
    omega⟩
theorem dot_small : ∀ (gs : List Nat) (zs : List Int), (∀ g ∈ gs, g ≤ 2000) → (∀ z ∈ zs, 0 ≤ z ∧ z ≤ 8) → 0 ≤ dotI gs zs ∧ dotI gs zs ≤ 16000 * gs.length
  | [], _, _, _ => by simp [dotI]
  | _ :: _, [], _, _ => by simp [dotI]; omega
  | g :: gs, z :: zs, hg, hz => by
    have ih := dot_small gs zs (fun x hx => hg x (List.mem_cons_of_mem _ hx)) (fun x hx => hz x (List.mem_cons_of_mem _ hx))
    have h0 := hz z (List.mem_cons_self ..)
    have := mul_small (hg g (List.mem_cons_self ..)) h0.1 h0.2
    rw [dotI, List.length_cons]
    omega
section
variable {A : Option Addr} {l : List Mat} {c : Nat} {A2 : Option Addr} {s : List Lay} {c2 : Nat} {w : World}
set_option maxHeartbeats 2000000 in
theorem withSheets_any (h : StkIn A l A2 s w) (h0 : stackF l s = 0) (A3 : Option Addr) (zs : List Int) (c3 : Nat) (hz : zs.length = (gluF (rowsOf l s)).length) (hzb : ∀ z ∈ zs, 0 ≤ z ∧ z ≤ 8) (hd : RdG 1 (fun v : Int => [Value.int .i64 v]) w A3 zs) :
    Calls Try.prog 35 #[.slice A l.length c, .slice A2 s.length c2, .slice A3 zs.length c3] w fun e w' => e = .returned (.tuple #[.int .i64 (rstF (rowsOf l s) + dotI (gluF (rowsOf l s)) zs), .bool true]) ∧ Below w.heap.size w w' := by
  have CG := Lib.hid (glues_any (c := c) (c2 := c2) h h0)
  have HD := Lib.hid hd
  have HTG := Lib.hid (thick_glu (rows_thick h0))
  have hRl : (rowsOf l s).length ≤ 60 := by rw [rows_eq h0, List.length_map]; exact (stackF_go h0).2.1
  have HZB := Lib.hid hzb
  clear h hd h0 hzb
  obtain ⟨-, g1, g2, g3, g4, g5⟩ := HTG.out
  have HG5 := Lib.hid g5
  clear g5
  generalize hR : rowsOf l s = R at *
  have HR := Lib.hid hR
  clear hR
  generalize gluF R = gs at *
  generalize rstF R = rst at *
  have HLZ := Lib.hid hz
  rw [hz]
  have hgl : gs.length ≤ 60 := by omega
  have hrb : rst ≤ 120000 := by omega
  clear hz
  go_enter Try.func35, Try.ntmps35
  go_wp2_with fail
  refine CG.out.mono ?_
  rintro e w1 ⟨v, rfl, ho, hb⟩
  obtain ⟨Ag, cg, rfl, u1, u2, u3⟩ := own_cells ho
  have B1 := Lib.hid hb
  have z1 := hb.size
  have HU3 := Lib.hid u3
  have u2' : cg ≤ 9223372036854775807 := u2
  clear ho hb u2 u3
  have e1 : ((gs.length : Int) != (gs.length : Int)) = false := by simp
  go_wp2_with fail
  go_loopw [9, 25] (fun rv iv wr => ∃ k : Nat, k ≤ gs.length ∧ iv = .int .i64 (k : Nat) ∧ rv = .int .i64 (rst + dotI (gs.take k) (zs.take k)) ∧ Below w1.heap.size w1 wr) (fun _ iv _ => gs.length - (intOf iv).toNat)
  case atStart => exact ⟨0, Nat.zero_le _, rfl, by simp [dotI], Below.refl _ _⟩
  case round =>
    obtain ⟨k, hk, rfl, rfl, hw⟩ := hrel
    have HW := Lib.hid hw
    have zw := hw.size
    have hkz : (0 : Int) ≤ (k : Int) := by omega
    have hsm := dot_small (gs.take k) (zs.take k) (fun g hg => HG5.out g (List.mem_of_mem_take hg)) (fun z hz => HZB.out z (List.mem_of_mem_take hz))
    rw [List.length_take] at hsm
    by_cases hlt : k < gs.length
    · have hlz : k < zs.length := by rw [HLZ.out]; exact hlt
      obtain ⟨gg, rfl, _, hgl2, hcg⟩ := HU3.out (by omega)
      have hi : gs[k]? = some gs[k] := List.getElem?_eq_getElem hlt
      have hj : zs[k]? = some zs[k] := List.getElem?_eq_getElem hlz
      have f0 := (hw.cell (p := ⟨gg, k, none⟩) hgl2).trans (hcg k (.int .i64 (gs[k] : Nat)) (by rw [List.getElem?_map, hi]; rfl))
      obtain ⟨b3, o3, rfl, hb3, hcz⟩ := (HD.out.below (B1.out.trans (hw.mono z1))) (by omega)
      have d0 := by simpa using hcz k _ hj 0 _ rfl
      have HDS := Lib.hid (dot_snoc gs zs k _ _ hi hj)
      have hz0 := HZB.out _ (List.mem_of_getElem? hj)
      have hml := mul_small (HG5.out _ (List.mem_of_getElem? hi)) hz0.1 hz0.2
      clear hi hj hcg hcz hw
      generalize gs[k] = g at *
      generalize zs[k] = z at *
      generalize dotI (gs.take k) (zs.take k) = D at *
      obtain ⟨P, hP⟩ : ∃ P, P = (g : Int) * z := ⟨_, rfl⟩
      rw [← hP] at hml HDS
      have hPe : (g : Int) * z = P := hP.symm
      have y1 : IntKind.i64.wrap ((g : Int) * z) = P := (IntWalk.i64_in _ (by rw [hPe]; omega)).trans hPe
      have y2 : IntKind.i64.wrap (rst + D + P) = rst + D + P := IntWalk.i64_in _ (by omega)
      have y3 : rst + D + P = rst + (D + P) := by omega
      clear hP hPe
      go_wp2_with fail
      go_roundw
      case rel => exact ⟨k + 1, by omega, by go_num, by rw [HDS.out, ← y3], HW.out⟩
      case measure => (simp [intOf] <;> omega)
    · obtain rfl : k = gs.length := by omega
      have hT : dotI (gs.take gs.length) (zs.take gs.length) = dotI gs zs := by rw [List.take_length, List.take_of_length_le (by rw [HLZ.out]; exact Nat.le_refl _)]
      rw [hT] at *
      go_wp2_with fail
      go_ret2
      exact ⟨rfl, B1.out.trans (HW.out.mono z1)⟩
end
/-- A number below another one. -/
def belF (x n : Int) : Int := if x.tmod n < 0 then x.tmod n + n else x.tmod n
theorem tm_bound {x n : Int} (hn : 0 < n) : -n < x.tmod n ∧ x.tmod n < n := by
  by_cases h : 0 ≤ x
  · rw [Int.tmod_eq_emod_of_nonneg h]
    have h1 := Int.emod_nonneg x (show n ≠ 0 by omega)
    have h2 := Int.emod_lt_of_pos x hn
    omega
  · have e : x = -(-x) := by omega
    rw [e, Int.neg_tmod, Int.tmod_eq_emod_of_nonneg (show 0 ≤ -x by omega)]
    have h1 := Int.emod_nonneg (-x) (show n ≠ 0 by omega)
    have h2 := Int.emod_lt_of_pos (-x) hn
    omega
theorem belF_in {x n : Int} (hn : 0 < n) : 0 ≤ belF x n ∧ belF x n < n := by
  have := tm_bound (x := x) hn
  unfold belF
  split <;> omega
set_option maxHeartbeats 1000000 in
theorem below_any (x n : Int) (w : World) (hn : 1 ≤ n ∧ n ≤ 8) : Calls Try.prog 36 #[.int .i64 x, .int .i64 n] w fun e w' => e = .returned (.int .i64 (belF x n)) ∧ w' = w := by
  have hb := tm_bound (x := x) (n := n) (by omega)
  have hn0 : (n == 0) = false := by rw [beq_eq_false_iff_ne]; omega
  have hn1 : ¬ n = 0 := by omega
  obtain ⟨r, hr⟩ : ∃ r, x.tmod n = r := ⟨_, rfl⟩
  rw [hr] at hb
  have y0 : IntKind.i64.wrap r = r := IntWalk.i64_in _ (by omega)
  have HB := Lib.hid (show belF x n = if r < 0 then r + n else r by unfold belF; rw [hr])
  by_cases h0 : r < 0
  · have y1 : IntKind.i64.wrap (r + n) = r + n := IntWalk.i64_in _ (by omega)
    have HE := Lib.hid (show belF x n = r + n by rw [HB.out, if_pos h0])
    go_enter Try.func36, Try.ntmps36
    go_wp2_with fail
    go_ret
    exact ⟨by rw [HE.out]; rfl, rfl⟩
  · have HE := Lib.hid (show belF x n = r by rw [HB.out, if_neg h0])
    go_enter Try.func36, Try.ntmps36
    go_wp2_with fail
    go_ret
    exact ⟨by rw [HE.out]; rfl, rfl⟩
def farN (a b : Int) : Int := max a b - min a b
set_option maxHeartbeats 1000000 in
theorem apartN_any (a b : Int) (w : World) (ha : -100000000 ≤ a ∧ a ≤ 100000000) (hb : -100000000 ≤ b ∧ b ≤ 100000000) : Calls Try.prog 74 #[.int .i64 a, .int .i64 b] w fun e w' => e = .returned (.int .i64 (farN a b)) ∧ w' = w := by
  have y1 : IntKind.i64.wrap (max a b - min a b) = max a b - min a b := IntWalk.i64_in _ (by omega)
  go_enter Try.func74, Try.ntmps74
  go_wp2_with fail
  go_ret
  exact ⟨rfl, rfl⟩
set_option maxHeartbeats 1000000 in
theorem far_any (a b : Int) (w : World) (ha : -100000000 ≤ a ∧ a ≤ 100000000) (hb : -100000000 ≤ b ∧ b ≤ 100000000) : Calls Try.prog 37 #[.int .i64 a, .int .i64 b] w fun e w' => e = .returned (.int .i64 (farN a b)) ∧ w' = w := by
  have C := Lib.hid (apartN_any a b w ha hb)
  go_enter Try.func37, Try.ntmps37
  go_wp2_with fail
  refine C.out.mono ?_
  rintro e w1 ⟨rfl, hw1⟩
  obtain rfl := hw1.symm
  go_wp2_with fail
  go_ret
  exact ⟨rfl, rfl⟩
end Go.Proofs.Ytdlglnkhhbkndaa

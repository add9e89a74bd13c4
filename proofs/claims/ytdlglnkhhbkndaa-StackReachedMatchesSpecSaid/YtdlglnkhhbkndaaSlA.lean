/- Several texts in one: SlmP, Slm. -/
import Derived.Test.YtdlglnkhhbkndaaCyc
import Derived.Test.YtdlglnkhhbkndaaGlu
import Derived.Test.YtdlglnkhhbkndaaRep
/- Which holes are too deep for their size: plain lists. -/
namespace Go.Proofs.Ytdlglnkhhbkndaa
open Go.RowKit Go.Maps
set_option linter.unusedSimpArgs false
set_option linter.unusedVariables false

theorem quiet3m {P : Program} {f : FuncId} {args : Array Value} {w : World} {v : Value} (c : ∀ n, Calls P f args (w.drewN n) fun e w' => e = .returned v ∧ ∃ k, w' = (w.drewN n).drewN k) {n : Nat} :
    Calls P f args (w.drewN n) fun e w' => e = .returned v ∧ ∃ m, w' = w.drewN m :=
  (c n).mono fun _ _ h => ⟨h.1, by obtain ⟨k, hk⟩ := h.2; exact ⟨n + k, by rw [hk, World.drewN_drewN]⟩⟩
def szB (z : Int) : Bool := decide (1 ≤ z) && decide (z ≤ 2000)
def deepI (R : List Row) (x : Thr) : Int := thick (R.take ((cus R).getD (x.b - 1).toNat 0 + 1)) - thick (R.take ((cus R).getD (x.a - 1).toNat 0))
def slimB (R : List Row) (t : List Thr) (zs : List Int) (most : Int) (i : Nat) : Bool := decide (most * zs.getD i 0 < 10 * deepI R (t.getD i ⟨0, 0⟩))
def slimL (R : List Row) (t : List Thr) (zs : List Int) (most : Int) (j : Nat) : List Nat := (List.range j).filter (slimB R t zs most)
noncomputable def slimF (l : List Mat) (s : List Lay) (t : List Thr) (zs : List Int) (most : Int) : List Nat × Int :=
  if pressedF l s t = 0 then (if zs.length = t.length then (if zs.all szB then (if 1 ≤ most ∧ most ≤ 1000 then (slimL (rowsOf l s) t zs most t.length, 0) else ([], 1)) else ([], 1)) else ([], 3)) else ([], pressedF l s t)
theorem slim_step (R : List Row) (t : List Thr) (zs : List Int) (most : Int) (j : Nat) : slimL R t zs most (j + 1) = if slimB R t zs most j then slimL R t zs most j ++ [j] else slimL R t zs most j := by
  unfold slimL
  rw [List.range_succ, List.filter_append]
  cases h : slimB R t zs most j <;> simp [h]
theorem slim_len (R : List Row) (t : List Thr) (zs : List Int) (most : Int) (j : Nat) : (slimL R t zs most j).length ≤ j := by
  unfold slimL
  refine Nat.le_trans (List.length_filter_le _ _) ?_
  rw [List.length_range]
  exact Nat.le_refl _
theorem slimB_at {R : List Row} {t : List Thr} {zs : List Int} {most : Int} {i : Nat} {x : Thr} {z : Int} (hx : t[i]? = some x) (hz : zs[i]? = some z) : slimB R t zs most i = decide (most * z < 10 * deepI R x) := by
  unfold slimB
  rw [List.getD_eq_getElem?_getD, List.getD_eq_getElem?_getD, hx, hz]
  rfl
theorem deep_at {R : List Row} {x : Thr} {i j p q : Nat} (ha : x.a = ((i + 1 : Nat) : Int)) (hb : x.b = ((j + 1 : Nat) : Int)) (hp : (cus R)[i]? = some p) (hq : (cus R)[j]? = some q) : deepI R x = thick (R.take (q + 1)) - thick (R.take p) := by
  unfold deepI
  rw [ha, hb, show ((i + 1 : Nat) : Int) - 1 = (i : Int) by omega, show ((j + 1 : Nat) : Int) - 1 = (j : Int) by omega, Int.toNat_natCast, Int.toNat_natCast, List.getD_eq_getElem?_getD, List.getD_eq_getElem?_getD, hp, hq]
  rfl
theorem all_at {zs : List Int} (h : zs.all szB = true) {i : Nat} {z : Int} (hz : zs[i]? = some z) : 1 ≤ z ∧ z ≤ 2000 := by
  have := List.all_eq_true.1 h z (List.mem_of_getElem? hz)
  unfold szB at this
  rw [Bool.and_eq_true, decide_eq_true_eq, decide_eq_true_eq] at this
  exact this
theorem thick_few {R : List Row} (h : ∀ r ∈ R, 1 ≤ r.2.thick ∧ r.2.thick ≤ 2000) (hl : R.length ≤ 60) (j : Nat) : 0 ≤ thick (R.take j) ∧ thick (R.take j) ≤ 240000 := by
  obtain ⟨h1, h2, h3, h4, -, -⟩ := thick_glu (R := R.take j) (fun r hr => h r (List.mem_of_mem_take hr))
  rw [List.length_take] at h3 h4
  omega
theorem slimF_bad {l : List Mat} {s : List Lay} {t : List Thr} {zs : List Int} {most : Int} (h : pressedF l s t ≠ 0) : slimF l s t zs most = ([], pressedF l s t) := by unfold slimF; rw [if_neg h]
theorem slimF_len {l : List Mat} {s : List Lay} {t : List Thr} {zs : List Int} {most : Int} (h : pressedF l s t = 0) (h1 : zs.length ≠ t.length) : slimF l s t zs most = ([], 3) := by unfold slimF; rw [if_pos h, if_neg h1]
theorem slimF_size {l : List Mat} {s : List Lay} {t : List Thr} {zs : List Int} {most : Int} (h : pressedF l s t = 0) (h1 : zs.length = t.length) (h2 : ¬ zs.all szB = true) : slimF l s t zs most = ([], 1) := by unfold slimF; rw [if_pos h, if_pos h1, if_neg h2]
theorem slimF_most {l : List Mat} {s : List Lay} {t : List Thr} {zs : List Int} {most : Int} (h : pressedF l s t = 0) (h1 : zs.length = t.length) (h2 : zs.all szB = true) (h3 : ¬ (1 ≤ most ∧ most ≤ 1000)) : slimF l s t zs most = ([], 1) := by unfold slimF; rw [if_pos h, if_pos h1, if_pos h2, if_neg h3]
theorem slimF_yes {l : List Mat} {s : List Lay} {t : List Thr} {zs : List Int} {most : Int} (h : pressedF l s t = 0) (h1 : zs.length = t.length) (h2 : zs.all szB = true) (h3 : 1 ≤ most ∧ most ≤ 1000) : slimF l s t zs most = (slimL (rowsOf l s) t zs most t.length, 0) := by unfold slimF; rw [if_pos h, if_pos h1, if_pos h2, if_pos h3]
/-- All sizes so far are right. -/
def SzTo (zs : List Int) (k : Nat) : Prop := ∀ z ∈ zs.take k, szB z = true
theorem szTo_zero (zs : List Int) : SzTo zs 0 := fun z hz => by rw [List.take_zero] at hz; cases hz
theorem szTo_step {zs : List Int} {k : Nat} {z : Int} (h : SzTo zs k) (hz : zs[k]? = some z) (hb : szB z = true) : SzTo zs (k + 1) := by
  intro y hy
  rw [List.take_add_one, hz] at hy
  rcases List.mem_append.1 hy with hy | hy
  · exact h y hy
  · have : y = z := by simpa using hy
    rw [this]
    exact hb
theorem szTo_end {zs : List Int} (h : SzTo zs zs.length) : zs.all szB = true := by
  unfold SzTo at h
  rw [List.take_length] at h
  exact List.all_eq_true.2 h
theorem sz_no {zs : List Int} {k : Nat} {z : Int} (hz : zs[k]? = some z) (hb : ¬ szB z = true) : ¬ zs.all szB = true := fun h => hb (List.all_eq_true.1 h z (List.mem_of_getElem? hz))
/-- What Slim returns. -/
def SlmRet (r : List Nat × Int) (w : World) (e : Ending) (w' : World) : Prop :=
  ∃ v : Value, e = .returned (.tuple #[v, .int .i64 r.2]) ∧ w'.ownsRow w.heap.size 3 1 v r.1.length (r.1.map fun k => Value.int .i64 (k : Nat)) ∧ Below w.heap.size w w'
theorem slm_none {f : Int} {w w' : World} (hb : Below w.heap.size w w') : SlmRet ([], f) w (.returned (.tuple #[.slice none 0 0, .int .i64 f])) w' := ⟨_, rfl, own_nil, hb⟩
end Go.Proofs.Ytdlglnkhhbkndaa
/- Which holes are too deep for their size (Slim), whatever the world. -/
namespace Go.Proofs.Ytdlglnkhhbkndaa
open Go.RowKit Go.Maps
set_option linter.unusedSimpArgs false
set_option linter.unusedVariables false
set_option maxRecDepth 100000

section
variable {A : Option Addr} {l : List Mat} {c : Nat} {A2 : Option Addr} {s : List Lay} {c2 : Nat} {w : World}
set_option maxHeartbeats 8000000 in
theorem slim_any (h : StkIn A l A2 s w) (A3 : Option Addr) (t : List Thr) (c3 : Nat) (hl : t.length ≤ 140737488355328) (hd : RdG 2 Thr.cs w A3 t) (A5 : Option Addr) (zs : List Int) (c5 : Nat) (hzl : zs.length ≤ 140737488355328) (hdz : RdG 1 (fun x : Int => [Value.int .i64 x]) w A5 zs) (most : Int) :
    Calls Try.prog 48 #[.slice A l.length c, .slice A2 s.length c2, .slice A3 t.length c3, .slice A5 zs.length c5, .int .i64 most] w (SlmRet (slimF l s t zs most) w) := by
  by_cases h0 : pressedF l s t = 0
  · obtain ⟨i1, hi1, hy0, hy1, hy2⟩ := info_parts infoInt
    have CP := Lib.hid (pressed_yes (c := c) (c2 := c2) h A3 t c3 hl hd h0)
    have HD := Lib.hid hd
    have HDZ := Lib.hid hdz
    by_cases h1 : zs.length = t.length
    · obtain ⟨t1, t2⟩ := thrF_zero (pressed_zero h0).2.1
      have HT2 := Lib.hid t2
      have HTH := Lib.hid (rows_thick (pressed_zero h0).1)
      have hR60 : (rowsOf l s).length ≤ 60 := by rw [rows_eq (pressed_zero h0).1, List.length_map]; exact (stackF_go (pressed_zero h0).1).2.1
      have hm1 : ((zs.length : Int) != (t.length : Int)) = false := by simp [h1]
      have HSZ := Lib.hid (fun h2 => slimF_size (most := most) h0 h1 h2)
      have HMO := Lib.hid (fun h2 h3 => slimF_most (most := most) h0 h1 h2 h3)
      have HYE := Lib.hid (fun h2 h3 => slimF_yes (most := most) h0 h1 h2 h3)
      have HZT := Lib.hid h1
      have hzl2 : zs.length ≤ 200 := by omega
      generalize slimF l s t zs most = SF at *
      generalize rowsOf l s = R at *
      clear h hd hdz h0 h1 t2
      go_enter Try.func48, Try.ntmps48
      go_wp2_with fail
      refine CP.out.mono ?_
      rintro e w1 ⟨p, q, kn, mv, tv, cv, nv, f, v, S, rfl, hL, -, -, -, hb⟩
      have B1 := Lib.hid hb
      have z1 := hb.size
      have HL := Lib.hid hL
      clear hb hL
      go_wp2_with fail
      go_loopw [39] (fun iv wr => ∃ k : Nat, k ≤ zs.length ∧ iv = .int .i64 (k : Nat) ∧ SzTo zs k ∧ w1 = wr) (fun iv _ => zs.length - (intOf iv).toNat)
      case atStart => exact ⟨0, Nat.zero_le _, rfl, szTo_zero _, rfl⟩
      case round =>
        obtain ⟨k, hk, rfl, hsz, rfl⟩ := hrel
        have HZ := Lib.hid hsz
        have hkz : (0 : Int) ≤ (k : Int) := by omega
        clear hsz
        by_cases hlt : k < zs.length
        · obtain ⟨bb, off, rfl, hblt, hcs⟩ := (HDZ.out.below B1.out) (by omega)
          have hi : zs[k]? = some zs[k] := List.getElem?_eq_getElem hlt
          have c0 := by simpa using hcs k _ hi 0 _ rfl
          have HI := Lib.hid hi
          clear hi hcs
          generalize zs[k] = z at *
          have hlt' : (k : Int) < (zs.length : Int) := by omega
          by_cases hz : szB z = true
          · have HN := Lib.hid (szTo_step HZ.out HI.out hz)
            have hz2 : 1 ≤ z ∧ z ≤ 2000 := by
              unfold szB at hz
              rw [Bool.and_eq_true, decide_eq_true_eq, decide_eq_true_eq] at hz
              exact hz
            have d1 : decide (z < 1) = false := decide_eq_false (by omega)
            have d2 : decide (2000 < z) = false := decide_eq_false (by omega)
            clear hz
            go_wp2_with fail
            go_roundw
            case rel => exact ⟨k + 1, by omega, by go_num, HN.out, by first | rfl | trivial⟩
            case measure => (simp [intOf] <;> omega)
          · have HN := Lib.hid (HSZ.out (sz_no HI.out hz))
            have hz2 : z < 1 ∨ 2000 < z := by
              unfold szB at hz
              rw [Bool.and_eq_true, decide_eq_true_eq, decide_eq_true_eq] at hz
              omega
            clear hz
            by_cases hz3 : z < 1
            · have d1 : decide (z < 1) = true := decide_eq_true hz3
              go_wp2_with fail
              go_ret2
              rw [HN.out]
              exact slm_none B1.out
            · have d1 : decide (z < 1) = false := decide_eq_false hz3
              have d2 : decide (2000 < z) = true := decide_eq_true (by omega)
              go_wp2_with fail
              go_ret2
              rw [HN.out]
              exact slm_none B1.out
        · obtain rfl : k = zs.length := by omega
          have HALL := Lib.hid (szTo_end HZ.out)
          by_cases hmo : 1 ≤ most ∧ most ≤ 1000
          · have HE := Lib.hid (HYE.out HALL.out hmo)
            have d1 : decide (most < 1) = false := decide_eq_false (by omega)
            have d2 : decide (1000 < most) = false := decide_eq_false (by omega)
            go_wp2_with fail
            go_loopw [17, 58] (fun ov iv wr => ∃ (j : Nat) (L : List Nat), j ≤ t.length ∧ iv = .int .i64 (j : Nat) ∧ L = slimL R t zs most j ∧ wr.ownsRow w1.heap.size 3 1 ov L.length (L.map fun k => Value.int .i64 (k : Nat)) ∧ Below w1.heap.size w1 wr) (fun _ iv _ => t.length - (intOf iv).toNat)
            case atStart => exact ⟨0, [], Nat.zero_le _, rfl, rfl, own_nil, Below.refl _ _⟩
            case round =>
              obtain ⟨w7, rfl⟩ : ∃ x, x = wr := ⟨wr, rfl⟩
              obtain ⟨j, L, hj, rfl, hL, ho, hw⟩ := hrel
              have HLJ := Lib.hid hL
              have HO := Lib.hid ho
              have HW := Lib.hid hw
              have zw := hw.size
              have hjz : (0 : Int) ≤ (j : Int) := by omega
              have hLl : L.length ≤ 200 := by
                rw [hL]
                exact Nat.le_trans (slim_len _ _ _ _ _) (by omega)
              obtain ⟨Av, cv9, rfl, v1, v2, -⟩ := own_cells ho
              have v2' : cv9 ≤ 9223372036854775807 := v2
              clear hL ho v2
              by_cases hlt : j < t.length
              · obtain ⟨bt, ot, rfl, hbt, hct⟩ := (HD.out.below (B1.out.trans (hw.mono z1))) (by omega)
                have hx : t[j]? = some t[j] := List.getElem?_eq_getElem hlt
                have e0 := by simpa using hct j _ hx 0 _ rfl
                have e1 := hct j _ hx 1 _ rfl
                obtain ⟨h3, h4, h5⟩ := HT2.out _ (List.getElem_mem hlt)
                have hlz : j < zs.length := by rw [HZT.out]; exact hlt
                obtain ⟨bz, oz, rfl, hbz, hcz⟩ := (HDZ.out.below (B1.out.trans (hw.mono z1))) (by omega)
                have hzx : zs[j]? = some zs[j] := List.getElem?_eq_getElem hlz
                have f0 := by simpa using hcz j _ hzx 0 _ rfl
                have hz2 := all_at HALL.out hzx
                have HSB := Lib.hid (slimB_at (R := R) (most := most) hx hzx)
                have HSS := Lib.hid (slim_step R t zs most j)
                clear hx hct hzx hcz hw
                generalize t[j] = x at *
                generalize zs[j] = z at *
                obtain ⟨ia, hia⟩ : ∃ ia : Nat, x.a = ((ia + 1 : Nat) : Int) := ⟨(x.a - 1).toNat, by omega⟩
                obtain ⟨ib, hib⟩ : ∃ ib : Nat, x.b = ((ib + 1 : Nat) : Int) := ⟨(x.b - 1).toNat, by omega⟩
                have hcl : (cus R).length ≤ R.length := cus_few R 0
                have hp : (cus R)[ia]? = some (cus R)[ia] := List.getElem?_eq_getElem (by omega)
                have hq : (cus R)[ib]? = some (cus R)[ib] := List.getElem?_eq_getElem (by omega)
                have HDP := Lib.hid (deep_at hia hib hp hq)
                have CB := Lib.hid (fun W (hb : Below w1.heap.size w1 W) => bottom_any (HL.out.old hb) hq)
                have CT := Lib.hid (fun W (hb : Below w1.heap.size w1 W) => top_any (HL.out.old hb) hp)
                have hk1 := thick_few HTH.out hR60 ((cus R)[ib] + 1)
                have hk2 := thick_few HTH.out hR60 (cus R)[ia]
                have hial : ia < 60 := by omega
                have hibl : ib < 60 := by omega
                clear hp hq
                generalize thick (R.take ((cus R)[ib] + 1)) = T1 at *
                generalize thick (R.take (cus R)[ia]) = T2 at *
                rw [HDP.out] at HSB
                obtain ⟨P, hP⟩ : ∃ P, P = most * z := ⟨_, rfl⟩
                have hPb : 0 ≤ P ∧ P ≤ 2000000 := by
                  rw [hP]
                  exact ⟨Int.mul_nonneg (by omega) (by omega), by have := Int.mul_le_mul (a := most) (b := z) (c := 1000) (d := 2000) hmo.2 hz2.2 (by omega) (by decide); omega⟩
                rw [← hP] at HSB
                have y1 : IntKind.i64.wrap (((ib + 1 : Nat) : Int) - 1) = (ib : Int) := (IntWalk.i64_in _ (by omega)).trans (by omega)
                have y2 : IntKind.i64.wrap (((ia + 1 : Nat) : Int) - 1) = (ia : Int) := (IntWalk.i64_in _ (by omega)).trans (by omega)
                obtain ⟨xa, hxa⟩ : ∃ xa : Int, xa = ((ia + 1 : Nat) : Int) := ⟨_, rfl⟩
                obtain ⟨xb, hxb⟩ : ∃ xb : Int, xb = ((ib + 1 : Nat) : Int) := ⟨_, rfl⟩
                rw [← hxb] at y1
                rw [← hxa] at y2
                rw [hia, ← hxa] at e0
                rw [hib, ← hxb] at e1
                have y3 : IntKind.i64.wrap (T1 - T2) = T1 - T2 := IntWalk.i64_in _ (by omega)
                have y4 : IntKind.i64.wrap (10 * (T1 - T2)) = 10 * (T1 - T2) := IntWalk.i64_in _ (by omega)
                have y5 : IntKind.i64.wrap (most * z) = P := (IntWalk.i64_in _ (by rw [← hP]; omega)).trans hP.symm
                have k8 := anc9 w7 #[.int .i64 xa, .int .i64 xb] 64 0 rfl
                have k9 := anc9 w7 #[.int .i64 xa, .int .i64 xb] 64 1 rfl
                have BX := Lib.hid (HW.out.alloc zw (.cells #[.int .i64 xa, .int .i64 xb] 64))
                have HOX := Lib.hid (HO.out.alloc (.cells #[.int .i64 xa, .int .i64 xb] 64))
                have f9 : (w7.alloc (.cells #[.int .i64 xa, .int .i64 xb] 64)).cell? ⟨bz, oz + j, none⟩ = some (.int .i64 z) := (World.cell?_alloc_lt _ _ _ (show bz < w7.heap.size from hbz)).trans f0
                have sz8 : (w7.alloc (.cells #[.int .i64 xa, .int .i64 xb] 64)).heap.size = w7.heap.size + 1 := by simp
                have CB2 := Lib.hid (fun q => CB.out _ (below_drewN BX.out q))
                have CT2 := Lib.hid (fun q => CT.out _ (below_drewN BX.out q))
                have hj1 : (j : Int) < (t.length : Int) := by omega
                have hj2 : (j : Int) < (zs.length : Int) := by omega
                clear hia hib h3 h4 h5 hP hxa hxb f0
                generalize hw8 : w7.alloc (.cells #[.int .i64 xa, .int .i64 xb] 64) = w8 at *
                have HB8 := Lib.hid hw8
                have hz8 := sz8
                have HSZ8 := Lib.hid sz8
                have l78 : w7.heap.size < w8.heap.size := by omega
                clear hz8 sz8
                by_cases hcmp : P < 10 * (T1 - T2)
                · have d3 : decide (P < 10 * (T1 - T2)) = true := decide_eq_true hcmp
                  have HNX := Lib.hid (show slimL R t zs most (j + 1) = slimL R t zs most j ++ [j] by rw [HSS.out, HSB.out, decide_eq_true hcmp]; rfl)
                  clear hcmp
                  go_wp2_with fail
                  clear hw8
                  go_quiet ((first | (go_at_call 65; exact quiet3m (fun n => CB2.out n)) | (go_at_call 63; exact quiet3m (fun n => CT2.out n))))
                  go_wp2_with (first
                    | (at_builtin; go_loud (refine wpList_append_lies _ rfl (.tmp 83) (.tmp 85) 43 rfl w1.heap.size 3 i1 (.int .i64 0) 1 8 Try.underlying43 hi1 hy0 hy1 hy2 rfl (by omega) (.slice Av L.length cv9) L.length (L.map fun k => Value.int .i64 (k : Nat)) rfl ((own_drewN HOX.out _).alloc _) ⟨w8.heap.size, 0, none⟩ 1 1 [.int .i64 (j : Nat)] rfl rfl (one_new _ _ _) (by simp [Value.oneCell']) (by omega) (by unfold maxLen; omega) (by omega) (by simp; omega) (w8.heap.size + 1) (by simp) ?_); intro gg cap w9 hown9 hgrow hat9 hlt9; have HO9 := Lib.hid hown9; have HG9 := Lib.hid hgrow; clear hown9 hgrow hat9))
                  go_roundw
                  case rel =>
                    refine ⟨j + 1, L ++ [j], by omega, by go_num, by rw [HNX.out, HLJ.out], ?_, below_app ((below_drewN BX.out nq).alloc (show w1.heap.size ≤ w8.heap.size by omega) _) ((own_drewN HOX.out nq).alloc _) HG9.out (Nat.le_refl _) (by simp; omega)⟩
                    rw [List.length_append, List.map_append]
                    exact HO9.out
                  case measure => (simp [intOf] <;> omega)
                · have d3 : decide (P < 10 * (T1 - T2)) = false := decide_eq_false hcmp
                  have HNX := Lib.hid (show slimL R t zs most (j + 1) = slimL R t zs most j by rw [HSS.out, HSB.out, decide_eq_false hcmp]; rfl)
                  clear hcmp
                  go_wp2_with fail
                  clear hw8
                  go_quiet ((first | (go_at_call 65; exact quiet3m (fun n => CB2.out n)) | (go_at_call 63; exact quiet3m (fun n => CT2.out n))))
                  go_wp2_with fail
                  go_roundw
                  case rel => exact ⟨j + 1, L, by omega, by go_num, by rw [HNX.out]; exact HLJ.out, own_drewN HOX.out nq, below_drewN BX.out nq⟩
                  case measure => (simp [intOf] <;> omega)
              · obtain rfl : j = t.length := by omega
                clear hw
                go_wp2_with fail
                go_ret2
                rw [HE.out]
                unfold SlmRet
                exact ⟨_, rfl, by rw [← HLJ.out]; exact own_lower HO.out z1, B1.out.trans (HW.out.mono z1)⟩
          · have HE := Lib.hid (HMO.out HALL.out hmo)
            by_cases hm3 : most < 1
            · have d1 : decide (most < 1) = true := decide_eq_true hm3
              go_wp2_with fail
              go_ret2
              rw [HE.out]
              exact slm_none B1.out
            · have d1 : decide (most < 1) = false := decide_eq_false hm3
              have d2 : decide (1000 < most) = true := decide_eq_true (by omega)
              go_wp2_with fail
              go_ret2
              rw [HE.out]
              exact slm_none B1.out
    · have HE := Lib.hid (slimF_len (most := most) h0 h1)
      generalize slimF l s t zs most = SF at *
      have hm1 : ((zs.length : Int) != (t.length : Int)) = true := by rw [bne_iff_ne]; omega
      clear h hd hdz h0 h1
      go_enter Try.func48, Try.ntmps48
      go_wp2_with fail
      refine CP.out.mono ?_
      rintro e w1 ⟨p, q, kn, mv, tv, cv, nv, f, v, S, rfl, hL, -, -, -, hb⟩
      have B1 := Lib.hid hb
      clear hb hL
      go_wp2_with fail
      go_ret2
      rw [HE.out]
      exact slm_none B1.out
  · have HE := Lib.hid (slimF_bad (zs := zs) (most := most) h0)
    have CP := Lib.hid (pressed_no (c := c) (c2 := c2) h A3 t c3 hl hd h0)
    generalize slimF l s t zs most = SF at *
    generalize pressedF l s t = F at *
    have hd1 : (F == 0) = false := by simpa using h0
    have hd2 : (F != 0) = true := by simpa using h0
    clear h hd hdz h0
    go_enter Try.func48, Try.ntmps48
    go_wp2_with fail
    refine CP.out.mono ?_
    rintro e w1 ⟨rfl, hb⟩
    have B1 := Lib.hid hb
    clear hb
    go_wp2_with fail
    go_ret2
    rw [HE.out]
    exact slm_none B1.out
end
end Go.Proofs.Ytdlglnkhhbkndaa

/- StackNearestIsNear, walked: no other choice of sheets is nearer to the target. -/
import Derived.Test.YtlfkackfnbbajaaNearY
import Derived.Test.YtlfkackfnbbajaaSAwake
namespace Go.Proofs.Ytlfkackfnbbajaa
open Go.RowKit Go.Maps
set_option linter.unusedSimpArgs false
set_option linter.unusedVariables false
set_option maxRecDepth 100000

theorem rd_ones {w : World} {B n c : Nat} {A : Option Addr} {ns : List Nat} (h : w.ownsRow B 3 1 (.slice A n c) n (ns.map oneN)) : RdG 1 (fun v : Int => [Value.int .i64 v]) w A (ns.map fun k : Nat => (k : Int) + 1) := by
  obtain ⟨_, _, e, _, _, h3⟩ := own_cells h
  cases e
  have hn : n = ns.length := by have := h.1; simpa using this.symm
  intro hp
  rw [List.length_map] at hp
  obtain ⟨g', rfl, _, hg, hc⟩ := h3 (by omega)
  refine ⟨g', 0, rfl, hg, fun i x hi j y hj => ?_⟩
  match j, hj with
  | 0, hj =>
    simp at hj
    subst hj
    rw [Nat.zero_add, Nat.mul_one, Nat.add_zero]
    rw [List.getElem?_map] at hi
    obtain ⟨k, hk, rfl⟩ := Option.map_eq_some_iff.1 hi
    exact hc _ _ (by rw [List.getElem?_map, hk]; rfl)
  | j + 1, hj => simp at hj
theorem ones_in {ns : List Nat} {m : Nat} (hm : m ≤ 8) (h : ∀ n ∈ ns, n < m) : ∀ z ∈ (ns.map fun k : Nat => (k : Int) + 1), 0 ≤ z ∧ z ≤ 8 := by
  intro z hz
  obtain ⟨n, hn, rfl⟩ := List.mem_map.1 hz
  have := h n hn
  omega
set_option maxHeartbeats 4000000 in
theorem nearIs_walk (A : Option Addr) (l : List Mat) (c : Nat) (A2 : Option Addr) (s : List Lay) (c2 : Nat) (m t : Int) (A5 : Option Addr) (zo : List Int) (c5 : Nat) (w : World) (h : StkIn A l A2 s w) (wm : (Lit.int .i64 m).wf = true) (wt : (Lit.int .i64 t).wf = true) (hl5 : zo.length ≤ c5) (hc5 : c5 ≤ 140737488355328) (hd : RdG 1 (fun x : Int => [Value.int .i64 x]) w A5 zo) (hzo : ∀ x ∈ zo, (Lit.int .i64 x).wf = true) :
    Calls Try.prog 8 #[.slice A l.length c, .slice A2 s.length c2, .int .i64 m, .int .i64 t, .slice A5 zo.length c5] w fun e w' => e = .returned (.bool true) ∧ Below w.heap.size w w' := by
  have CW := Lib.hid (fun W => awake_any W)
  by_cases h0 : stackF l s = 0
  · by_cases hr : 1 ≤ m ∧ m ≤ 8 ∧ 0 ≤ t ∧ t ≤ 1000000
    · obtain ⟨mm, rfl⟩ : ∃ mm : Nat, m = (mm : Int) := ⟨m.toNat, by omega⟩
      have hm : 1 ≤ mm ∧ mm ≤ 8 := by omega
      have ht : 0 ≤ t ∧ t ≤ 1000000 := by omega
      obtain ⟨i1, hi1, hy0, hy1, hy2⟩ := info_parts infoInt
      have C1 := Lib.hid (nearest_yes (c := c) (c2 := c2) h mm t h0 hm ht)
      have CS := Lib.hid (fun W (hb : Below w.heap.size w W) (A3 : Option Addr) (zs : List Int) (c3 : Nat) hz hzb hd => withSheets_any (c := c) (c2 := c2) (w := W) (h.below hb) h0 A3 zs c3 hz hzb hd)
      have HTG := Lib.hid (thick_glu (rows_thick h0))
      have hR60 : (rowsOf l s).length ≤ 60 := by rw [rows_eq h0, List.length_map]; exact (stackF_go h0).2.1
      have HD := Lib.hid hd
      clear h hd h0 wm wt hr hzo
      generalize rowsOf l s = R at *
      obtain ⟨t1, t2, t3, t4, t5, t6⟩ := HTG.out
      have HT6 := Lib.hid t6
      clear HTG t6
      generalize gluF R = gs at *
      generalize rstF R = rst at *
      generalize thick R = T at *
      have hgl : gs.length ≤ 60 := by omega
      have DOT := Lib.hid (fun (ns : List Nat) (hl : ns.length = gs.length) => show rst + dotI gs (ns.map fun k : Nat => (k : Int) + 1) = T + (sumG gs ns : Nat) by rw [dot_one gs ns hl, t1]; omega)
      have DSM := Lib.hid (fun (ns : List Nat) (hl : ns.length = gs.length) (hn : ∀ n ∈ ns, n < mm) => show 0 ≤ T + (sumG gs ns : Nat) ∧ T + (sumG gs ns : Nat) ≤ 2000000 by
        have h1 := dot_small gs (ns.map fun k : Nat => (k : Int) + 1) HT6.out (ones_in hm.2 hn)
        have h2 := dot_one gs ns hl
        omega)
      clear t1 t2 t3 t4 t5 hR60
      unfold NearRet at C1
      go_enter Try.func8, Try.ntmps8
      go_wp2_with fail
      refine C1.out.mono ?_
      rintro e w1 ⟨vv, ns, b, rfl, ho, hlen, hlt, hsum, hbest, hb⟩
      have B1 := Lib.hid hb
      have z1 := hb.size
      obtain ⟨Al, cl, rfl, u1, u2, -⟩ := own_cells ho
      have u2' : cl ≤ 9223372036854775807 := u2
      have hsm := DSM.out ns hlen hlt
      have CS1 := CS.out w1 hb Al (ns.map fun k : Nat => (k : Int) + 1) cl (by rw [List.length_map]; exact hlen) (ones_in hm.2 hlt) (rd_ones ho)
      rw [DOT.out ns hlen, List.length_map, hlen, hsum] at CS1
      rw [hsum] at hsm
      have CS1 := Lib.hid CS1
      have HBEST := Lib.hid hbest
      have HO1 := Lib.hid ho
      clear ho hb u2 hlen hlt hsum hbest
      have m1 : ((T + (b : Int)) != (T + (b : Int))) = false := by simp
      go_wp2_with fail
      refine CS1.out.mono ?_
      rintro e w2 ⟨rfl, hb⟩
      have B2 := Lib.hid (B1.out.trans (hb.mono z1))
      have z2 := B2.out.size
      clear hb
      go_wp2_with fail
      go_loopw [16, 56] (fun ov iv wr => ∃ (k : Nat) (ms : List Nat), k ≤ gs.length ∧ iv = .int .i64 (k : Nat) ∧ ms.length = k ∧ (∀ n ∈ ms, n < mm) ∧ wr.ownsRow w2.heap.size 3 1 ov ms.length (ms.map oneN) ∧ Below w2.heap.size w2 wr) (fun _ iv _ => gs.length - (intOf iv).toNat)
      case atStart => exact ⟨0, [], Nat.zero_le _, rfl, rfl, fun n hn => by simp at hn, own_nil, Below.refl _ _⟩
      case round =>
        obtain ⟨k, ms, hk, rfl, hms, hmn, ho, hw⟩ := hrel
        have HO := Lib.hid ho
        have HW := Lib.hid hw
        have zw := hw.size
        have hkz : (0 : Int) ≤ (k : Int) := by omega
        obtain ⟨Av, cv, rfl, v1, v2, -⟩ := own_cells ho
        have v2' : cv ≤ 9223372036854775807 := v2
        have HMN := Lib.hid hmn
        have HMS := Lib.hid hms
        have hms2 : ms.length ≤ 60 := by omega
        clear ho v2 hmn
        by_cases hlt : k < gs.length
        · clear hms
          by_cases hko : k < zo.length
          · obtain ⟨bo, off, rfl, hbo, hcs⟩ := (HD.out.below (B2.out.trans (hw.mono z2))) (by omega)
            have hi : zo[k]? = some zo[k] := List.getElem?_eq_getElem hko
            have c0 := by simpa using hcs k _ hi 0 _ rfl
            clear hcs hi hw
            generalize zo[k] = z at *
            have CB := Lib.hid (fun W => below_any z (mm : Int) W (by omega))
            obtain ⟨q, hq⟩ : ∃ q, q = (belF z mm).toNat := ⟨_, rfl⟩
            have hbi := belF_in (x := z) (n := (mm : Int)) (by omega)
            have hqm : q < mm := by omega
            have y1 : IntKind.i64.wrap (1 + belF z mm) = (q : Int) + 1 := (IntWalk.i64_in _ (by omega)).trans (by omega)
            have hko' : (k : Int) < (zo.length : Int) := by omega
            clear hq hbi
            go_wp2_with (first
              | (go_at_call 36; refine (CB.out _).mono ?_; rintro e w3 ⟨rfl, hw3⟩; obtain rfl := hw3.symm)
              | (at_builtin; go_loud (refine wpList_append_lies _ rfl (.tmp 70) (.tmp 72) 43 rfl w2.heap.size 3 i1 (.int .i64 0) 1 8 Try.underlying43 hi1 hy0 hy1 hy2 rfl (by omega) (.slice Av ms.length cv) ms.length (ms.map oneN) rfl (HO.out.alloc _) ⟨wr.heap.size, 0, none⟩ 1 1 [.int .i64 ((q : Int) + 1)] rfl rfl (one_new _ _ _) (by simp [Value.oneCell']) (by omega) (by unfold maxLen; omega) (by omega) (by simp; omega) (wr.heap.size + 1) (by simp) ?_); intro gg cap w5 hown5 hgrow hat5 hlt5; have HO5 := Lib.hid hown5; have B5 := Lib.hid (below_app (HW.out.alloc zw _) (HO.out.alloc _) hgrow (Nat.le_refl _) (by simp; omega)); clear hown5 hgrow hat5))
            go_roundw
            case rel =>
              refine ⟨k + 1, ms ++ [q], by omega, by go_num, by rw [List.length_append, HMS.out]; rfl, fun n hn => ?_, ?_, B5.out⟩
              · rcases List.mem_append.1 hn with hn | hn
                · exact HMN.out n hn
                · rw [List.mem_singleton.1 hn]; exact hqm
              · rw [List.length_append, List.map_append]
                exact HO5.out
            case measure => (simp [intOf] <;> omega)
          · have hko' : decide ((k : Int) < (zo.length : Int)) = false := decide_eq_false (by omega)
            clear hw
            go_wp2_with (first
              | (at_builtin; go_loud (refine wpList_append_lies _ rfl (.tmp 70) (.tmp 72) 43 rfl w2.heap.size 3 i1 (.int .i64 0) 1 8 Try.underlying43 hi1 hy0 hy1 hy2 rfl (by omega) (.slice Av ms.length cv) ms.length (ms.map oneN) rfl (HO.out.alloc _) ⟨wr.heap.size, 0, none⟩ 1 1 [.int .i64 1] rfl rfl (one_new _ _ _) (by simp [Value.oneCell']) (by omega) (by unfold maxLen; omega) (by omega) (by simp; omega) (wr.heap.size + 1) (by simp) ?_); intro gg cap w5 hown5 hgrow hat5 hlt5; have HO5 := Lib.hid hown5; have B5 := Lib.hid (below_app (HW.out.alloc zw _) (HO.out.alloc _) hgrow (Nat.le_refl _) (by simp; omega)); clear hown5 hgrow hat5))
            go_roundw
            case rel =>
              refine ⟨k + 1, ms ++ [0], by omega, by go_num, by rw [List.length_append, HMS.out]; rfl, fun n hn => ?_, ?_, B5.out⟩
              · rcases List.mem_append.1 hn with hn | hn
                · exact HMN.out n hn
                · rw [List.mem_singleton.1 hn]; exact hm.1
              · rw [List.length_append, List.map_append]
                exact HO5.out
            case measure => (simp [intOf] <;> omega)
        · obtain rfl : k = gs.length := by omega
          have hsm2 := DSM.out ms hms HMN.out
          have BW := Lib.hid (B2.out.trans (hw.mono z2))
          have CS2 := CS.out wr BW.out Av (ms.map fun k : Nat => (k : Int) + 1) cv (by rw [List.length_map]; exact hms) (ones_in hm.2 HMN.out) (rd_ones HO.out)
          rw [DOT.out ms hms, List.length_map] at CS2
          have CS2 := Lib.hid CS2
          have hbb := HBEST.out ms hms HMN.out
          rw [awy_far, awy_far] at hbb
          have hbd : decide (farN (T + (b : Int)) t ≤ farN (T + (sumG gs ms : Nat)) t) = true := decide_eq_true hbb
          have CF1 := Lib.hid (fun W => far_any (T + (b : Int)) t W (by omega) (by omega))
          have CF2 := Lib.hid (fun W => far_any (T + (sumG gs ms : Nat)) t W (by omega) (by omega))
          clear hw hms
          generalize sumG gs ms = b2 at *
          go_wp2_with fail
          refine CS2.out.mono ?_
          rintro e w3 ⟨rfl, hb⟩
          have B3 := Lib.hid (BW.out.trans (hb.mono BW.out.size))
          have z3 := B3.out.size
          clear hb
          go_wp2_with fail
          refine (CF1.out _).mono ?_
          rintro e w4 ⟨rfl, hw4⟩
          obtain rfl := hw4.symm
          go_wp2_with fail
          refine (CF2.out _).mono ?_
          rintro e w5 ⟨rfl, hw5⟩
          obtain rfl := hw5.symm
          go_wp2_with fail
          refine (CW.out _).mono ?_
          rintro e w9 ⟨rfl, hb⟩
          have B9 := Lib.hid (B3.out.trans (hb.mono z3))
          clear hb
          go_wp2_with fail
          go_ret
          exact ⟨rfl, B9.out⟩
    · have C1 := Lib.hid (nearest_range (c := c) (c2 := c2) h m t h0 hr)
      clear h hd h0 hr
      go_enter Try.func8, Try.ntmps8
      go_wp2_with fail
      refine C1.out.mono ?_
      rintro e w1 ⟨rfl, hb⟩
      have B1 := Lib.hid hb
      have z1 := hb.size
      clear hb
      go_wp2_with fail
      refine (CW.out _).mono ?_
      rintro e w9 ⟨rfl, hb⟩
      have B9 := Lib.hid (B1.out.trans (hb.mono z1))
      clear hb
      go_wp2_with fail
      go_ret
      exact ⟨rfl, B9.out⟩
  · have C1 := Lib.hid (nearest_no (c := c) (c2 := c2) h m t h0)
    generalize stackF l s = F at *
    have hd1 : (F == 0) = false := by simpa using h0
    have hd2 : (F != 0) = true := by simpa using h0
    clear h hd h0
    go_enter Try.func8, Try.ntmps8
    go_wp2_with fail
    refine C1.out.mono ?_
    rintro e w1 ⟨rfl, hb⟩
    have B1 := Lib.hid hb
    have z1 := hb.size
    clear hb
    go_wp2_with fail
    refine (CW.out _).mono ?_
    rintro e w9 ⟨rfl, hb⟩
    have B9 := Lib.hid (B1.out.trans (hb.mono z1))
    clear hb
    go_wp2_with fail
    go_ret
    exact ⟨rfl, B9.out⟩
end Go.Proofs.Ytlfkackfnbbajaa

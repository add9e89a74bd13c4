/- The law StackReachedBothWays returns true, whatever the world. -/
import Derived.Test.YtnjcahdelcdcfaaRchP
import Derived.Test.YtnjcahdelcdcfaaSAwake
namespace Go.Proofs.Ytnjcahdelcdcfaa
open Go.RowKit Go.Maps
set_option linter.unusedSimpArgs false
set_option linter.unusedVariables false
set_option maxRecDepth 100000

theorem nms_apart {R : List Row} (h : GoodR R) : (nms R).Pairwise (· ≠ ·) := by
  unfold nms
  rw [List.pairwise_map]
  refine List.Pairwise.imp_of_mem ?_ (List.Pairwise.filter isCu h.d)
  intro q r hq hr hqr
  exact hqr (List.mem_filter.1 hq).2 (List.mem_filter.1 hr).2
theorem nms_small {R : List Row} (h : GoodR R) : ∀ b ∈ nms R, b.size ≤ maxLen := by
  intro b hb
  unfold nms at hb
  obtain ⟨r, hr, rfl⟩ := List.mem_map.1 hb
  obtain ⟨h1, h2⟩ := List.mem_filter.1 hr
  have := h.w r h1 h2
  unfold wordB at this
  simp only [Bool.and_eq_true, decide_eq_true_eq] at this
  unfold maxLen
  omega
theorem reach_mem {R : List Row} {t : List Thr} {i : Nat} : ∀ b ∈ reachL R t i, b ∈ nms R := by
  intro b hb
  unfold reachL at hb
  exact List.mem_of_mem_drop (List.mem_of_mem_take hb)
theorem getD_cells {w : World} {g : Nat} {zs : List ByteArray} (h : ∀ (j : Nat) (u : Value), (zs.map Value.string)[j]? = some u → w.cell? ⟨g, j, none⟩ = some u) : ∀ j, j < zs.length → w.cell? ⟨g, 0 + j, none⟩ = some (.string (zs.getD j ByteArray.empty)) := by
  intro j hj
  rw [Nat.zero_add]
  refine h _ _ ?_
  rw [List.getElem?_map, List.getD_eq_getElem?_getD, List.getElem?_eq_getElem hj]
  rfl
section
set_option maxHeartbeats 8000000 in
theorem bothWays_walk (A : Option Addr) (l : List Mat) (c : Nat) (A2 : Option Addr) (s : List Lay) (c2 : Nat) (A3 : Option Addr) (t : List Thr) (c3 : Nat) (a : ByteArray) (w : World) (h : StkIn A l A2 s w) (hl3 : t.length ≤ c3) (hc3 : c3 ≤ 140737488355328) (hd : RdG 2 Thr.cs w A3 t) (htr : True) (ha : a.size ≤ maxLen) :
    Calls Try.prog 12 #[.slice A l.length c, .slice A2 s.length c2, .slice A3 t.length c3, .string a] w fun e w' => e = .returned (.bool true) ∧ Below w.heap.size w w' := by
  have CW := Lib.hid (fun W => awake_any W)
  by_cases h0 : pressedF l s t = 0
  · cases hp : numI (rowsOf l s) a with
    | some i =>
      have HGD := Lib.hid (rows_good (pressed_zero h0).1)
      have HNB := Lib.hid (stack_names (pressed_zero h0).1)
      have C1 := Lib.hid (fun W (hS : StkIn A l A2 s W) (hD : RdG 2 Thr.cs W A3 t) b (hb : b.size ≤ maxLen) k (hk : numI (rowsOf l s) b = some k) => reached_yes (c := c) (c2 := c2) hS A3 t c3 b hb (by omega) hD h0 hk)
      have HI := Lib.hid hp
      have HS := Lib.hid h
      have HD := Lib.hid hd
      clear h hd h0 htr hp
      generalize rowsOf l s = R at *
      obtain ⟨ni, hni⟩ := num_some HI.out
      obtain ⟨zs, hzs⟩ : ∃ zs, reachL R t i = zs := ⟨_, rfl⟩
      have HZ := Lib.hid hzs
      have hsm : ∀ b ∈ zs, b.size ≤ maxLen := by
        rw [← hzs]
        exact fun b hb => nms_small HGD.out b (reach_mem b hb)
      have hself : a ∈ zs := by
        rw [← hzs]
        exact reach_self HI.out
      have hback : ∀ (q : Nat) (b : ByteArray), zs[q]? = some b → ∃ k, numI R b = some k ∧ reachL R t k = zs := by
        rw [← hzs]
        exact fun q b hb => reach_back (nms_apart HGD.out) hni hb
      have hlen : zs.length ≤ 100000 := by
        have u3 := upJ_ge t ((nms R).length - 1 - i) i
        have u4 := HNB.out
        rw [← hzs, reach_len hni]
        omega
      have hpos : 0 < zs.length := List.length_pos_of_mem hself
      have HSM := Lib.hid hsm
      have HSELF := Lib.hid hself
      have HBACK := Lib.hid hback
      have CF := Lib.hid (C1.out w HS.out HD.out a ha i HI.out)
      rw [HZ.out] at CF
      clear hzs hsm hself hback ni hni
      go_enter Try.func12, Try.ntmps12
      go_wp2_with fail
      refine CF.out.mono ?_
      rintro e w1 ⟨v, rfl, ho, hb⟩
      obtain ⟨Ax, cx, hvx, x1, x2, x3⟩ := own_cells ho
      obtain ⟨gx, rfl, _, hgx, hcx⟩ := x3 hpos
      subst hvx
      have B1 := Lib.hid hb
      have z1 := hb.size
      have HCX := Lib.hid hcx
      have x2' : cx ≤ 9223372036854775807 := x2
      clear hb ho hcx x3 x2
      go_wp2_with fail
      go_loopw [33] (fun i wr => ∃ k : Nat, k ≤ zs.length ∧ i = .int .i64 k ∧ Below w1.heap.size w1 wr) (fun i _ => zs.length - (intOf i).toNat)
      case atStart => exact ⟨0, Nat.zero_le _, rfl, Below.refl _ _⟩
      case round =>
        obtain ⟨k, hk, rfl, hw⟩ := hrel
        have HW := Lib.hid hw
        have zw := hw.size
        have hkz : (0 : Int) ≤ (k : Int) := by omega
        by_cases hlt : k < zs.length
        · have hi : zs[k]? = some zs[k] := List.getElem?_eq_getElem hlt
          have c0 := (hw.cell (p := ⟨gx, k, none⟩) hgx).trans (HCX.out k _ (by rw [List.getElem?_map, hi]; rfl))
          obtain ⟨kk, hk1, hk2⟩ := HBACK.out k _ hi
          have hbs := HSM.out _ (List.getElem_mem hlt)
          have B2 := Lib.hid (B1.out.trans (hw.mono z1))
          have CG := Lib.hid (C1.out wr (HS.out.below B2.out) (HD.out.below B2.out) zs[k] hbs kk hk1)
          rw [hk2] at CG
          clear hi hk1 hk2 hw
          generalize zs[k] = b at *
          go_wp2_with fail
          refine CG.out.mono ?_
          rintro e w3 ⟨v3, rfl, ho3, hb3⟩
          obtain ⟨Ay, cy, hvy, y1, y2, y3⟩ := own_cells ho3
          obtain ⟨gy, rfl, _, hgy, hcy⟩ := y3 hpos
          subst hvy
          have B3 := Lib.hid (HW.out.trans (hb3.mono zw))
          have CE := Lib.hid (Try.slices_Equal_string gx 0 zs.length cx gy 0 zs.length cy zs zs w3 (Nat.le_refl _) (Nat.le_refl _) (by omega) (by omega) (getD_cells (fun j u hj => (B3.out.cell (p := ⟨gx, j, none⟩) hgx).trans (HCX.out j u hj))) (getD_cells hcy))
          have z3 := B3.out.size
          clear ho3 hb3 hcy y3
          go_wp2_with (first | (go_at_call 47; refine CE.out.mono ?_; rintro e w4 ⟨rfl, q4, rfl⟩))
          go_roundw
          case rel => exact ⟨k + 1, by omega, by go_num, below_drewN B3.out _⟩
          case measure => simp [intOf]; omega
        · obtain rfl : k = zs.length := by omega
          have CC := Lib.hid (Try.slices_Contains_string gx 0 zs.length cx zs a wr (Nat.le_refl _) (by omega) (getD_cells (fun j u hj => (HW.out.cell (p := ⟨gx, j, none⟩) hgx).trans (HCX.out j u hj))))
          rw [List.take_length, (Lib.containsS_iff zs a).2 HSELF.out] at CC
          have B2 := Lib.hid (B1.out.trans (hw.mono z1))
          clear hw
          go_wp2_with (first
            | (go_at_call 53; refine CC.out.mono ?_; rintro e w4 ⟨rfl, rfl⟩)
            | (go_at_call 20; refine (CW.out _).mono ?_; rintro e w9 ⟨rfl, hb⟩; have B9 := Lib.hid (B2.out.trans (hb.mono B2.out.size)); clear hb))
          go_ret
          exact ⟨rfl, B9.out⟩
    | none =>
      have C1 := Lib.hid (reached_none (c := c) (c2 := c2) h A3 t c3 a ha (by omega) hd h0 hp)
      clear h hd h0 htr hp
      go_enter Try.func12, Try.ntmps12
      go_wp2_with fail
      refine C1.out.mono ?_
      rintro e w1 ⟨rfl, hb⟩
      have B1 := Lib.hid hb
      clear hb
      go_wp2_with (first | (go_at_call 20; refine (CW.out _).mono ?_; rintro e w9 ⟨rfl, hb⟩; have B9 := Lib.hid (B1.out.trans (hb.mono B1.out.size)); clear hb))
      go_ret
      exact ⟨rfl, B9.out⟩
  · have C1 := Lib.hid (reached_bad (c := c) (c2 := c2) h A3 t c3 a (by omega) hd h0)
    generalize pressedF l s t = F at *
    have hd1 : (F == 0) = false := by simpa using h0
    have hd2 : (F != 0) = true := by simpa using h0
    clear h hd h0 htr
    go_enter Try.func12, Try.ntmps12
    go_wp2_with fail
    refine C1.out.mono ?_
    rintro e w1 ⟨rfl, hb⟩
    have B1 := Lib.hid hb
    clear hb
    go_wp2_with (first | (go_at_call 20; refine (CW.out _).mono ?_; rintro e w9 ⟨rfl, hb⟩; have B9 := Lib.hid (B1.out.trans (hb.mono B1.out.size)); clear hb))
    go_ret
    exact ⟨rfl, B9.out⟩
end
end Go.Proofs.Ytnjcahdelcdcfaa

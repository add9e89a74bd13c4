/- StackDepthsAddUp, walked: what is between two coppers, the upper one itself, and its depth are the depth of the lower one. -/
import Derived.Test.YtnjcahdelcdcfaaStkP
import Derived.Test.YtnjcahdelcdcfaaSAwake
namespace Go.Proofs.Ytnjcahdelcdcfaa
open Go.RowKit Go.Maps Go.WideAt Go.WideMaps
set_option linter.unusedSimpArgs false
set_option linter.unusedVariables false
set_option maxRecDepth 100000

set_option maxHeartbeats 2000000 in
theorem isUpper_any (A : Option Addr) (l : List Lay) (c : Nat) (a b : ByteArray) (w : World) (hl : l.length ≤ 140737488355328) (h : RdG 2 Lay.cs w A l) :
    Calls Try.prog 25 #[.slice A l.length c, .string a, .string b] w fun e w' => e = .returned (.bool (upB a b l)) ∧ Below w.heap.size w w' := by
  have H := Lib.hid h
  clear h
  go_enter Try.func25, Try.ntmps25
  go_wp2_with fail
  go_loopw [11] (fun i wr => ∃ k : Nat, k ≤ l.length ∧ i = .int .i64 k ∧ upB a b l = upB a b (l.drop k) ∧ Below w.heap.size w wr) (fun i _ => l.length - (intOf i).toNat)
  case atStart => exact ⟨0, Nat.zero_le _, rfl, rfl, by (repeat' (first | (with_reducible exact Below.refl _ _) | (with_reducible assumption) | (with_reducible refine Below.alloc ?_ ?_ _) | (with_reducible refine Below.drew ?_) | (with_reducible refine below_drewN ?_ _) | (with_reducible refine Below.setCell ?_ ?_ _) | (with_reducible exact Nat.le_refl _) | omega | (simp only [World.size_alloc, World.size_setCell, World.size_drew]; omega) | (simp; omega) | (simp; done)))⟩
  case round =>
    obtain ⟨k, hk, rfl, hf, hw⟩ := hrel
    have HF := Lib.hid hf
    have zw := hw.size
    clear hf
    have hkz : (0 : Int) ≤ (k : Int) := by omega
    by_cases hlt : k < l.length
    · obtain ⟨bb, off, rfl, hblt, hcs⟩ := (H.out.below hw) (by omega)
      have hi : l[k]? = some l[k] := List.getElem?_eq_getElem hlt
      have c0 := by simpa using hcs k _ hi 0 _ rfl
      have c1 := hcs k _ hi 1 _ rfl
      have hd : l.drop k = l[k] :: l.drop (k + 1) := List.drop_eq_getElem_cons hlt
      have HD := Lib.hid hd
      clear hd hi hcs
      generalize l[k] = p at *
      by_cases he : p.name = a
      · have HN := Lib.hid (show upB a b l = true by rw [HF.out, HD.out, upB, if_pos he])
        have f1 : (p.name.toList == a.toList) = true := eqS_true.2 he
        clear he
        go_wp2_with fail
        go_ret
        exact ⟨by rw [HN.out]; rfl, by (repeat' (first | (with_reducible exact Below.refl _ _) | (with_reducible assumption) | (with_reducible refine Below.alloc ?_ ?_ _) | (with_reducible refine Below.drew ?_) | (with_reducible refine below_drewN ?_ _) | (with_reducible refine Below.setCell ?_ ?_ _) | (with_reducible exact Nat.le_refl _) | omega | (simp only [World.size_alloc, World.size_setCell, World.size_drew]; omega) | (simp; omega) | (simp; done)))⟩
      · have f1 : (p.name.toList == a.toList) = false := eqS_false.2 he
        by_cases he2 : p.name = b
        · have HN := Lib.hid (show upB a b l = false by rw [HF.out, HD.out, upB, if_neg he, if_pos he2])
          have f2 : (p.name.toList == b.toList) = true := eqS_true.2 he2
          clear he he2
          go_wp2_with fail
          go_ret
          exact ⟨by rw [HN.out]; rfl, by (repeat' (first | (with_reducible exact Below.refl _ _) | (with_reducible assumption) | (with_reducible refine Below.alloc ?_ ?_ _) | (with_reducible refine Below.drew ?_) | (with_reducible refine below_drewN ?_ _) | (with_reducible refine Below.setCell ?_ ?_ _) | (with_reducible exact Nat.le_refl _) | omega | (simp only [World.size_alloc, World.size_setCell, World.size_drew]; omega) | (simp; omega) | (simp; done)))⟩
        · have HN := Lib.hid (show upB a b l = upB a b (l.drop (k + 1)) by rw [HF.out, HD.out, upB, if_neg he, if_neg he2])
          have f2 : (p.name.toList == b.toList) = false := eqS_false.2 he2
          clear he he2
          go_wp2_with fail
          go_roundw
          case rel => exact ⟨k + 1, by omega, by go_num, HN.out, by (repeat' (first | (with_reducible exact Below.refl _ _) | (with_reducible assumption) | (with_reducible refine Below.alloc ?_ ?_ _) | (with_reducible refine Below.drew ?_) | (with_reducible refine below_drewN ?_ _) | (with_reducible refine Below.setCell ?_ ?_ _) | (with_reducible exact Nat.le_refl _) | omega | (simp only [World.size_alloc, World.size_setCell, World.size_drew]; omega) | (simp; omega) | (simp; done)))⟩
          case measure => simp [intOf]; omega
    · obtain rfl : k = l.length := by omega
      have HN := Lib.hid (show upB a b l = false by rw [HF.out, List.drop_length]; rfl)
      go_wp2_with fail
      go_ret
      exact ⟨by rw [HN.out]; rfl, hw⟩
theorem alloc_old_cell {W : World} {b i : Nat} {v : Value} {o : Obj} (hb : b < W.heap.size) (h : W.cell? ⟨b, i, none⟩ = some v) : (W.alloc o).cell? ⟨b, i, none⟩ = some v := (World.cell?_alloc_lt W o _ hb).trans h
theorem thick_next {R : List Row} {i : Nat} {r : Row} (h : R[i]? = some r) : thick (R.take (i + 1)) = thick (R.take i) + r.2.thick := by
  rw [List.take_add_one, h, thick_append]
  simp [thick]
theorem thick_le {R : List Row} (h : RowsOk R) {i j : Nat} (hij : i ≤ j) : thick (R.take i) ≤ thick (R.take j) := by
  have e : R.take j = R.take i ++ (R.take j).drop i := by
    have := List.take_append_drop i (R.take j)
    rw [List.take_take, Nat.min_eq_left hij] at this
    exact this.symm
  rw [e, thick_append]
  have := thick_bound ((R.take j).drop i) (fun r hr => h r (List.mem_of_mem_take (List.mem_of_mem_drop hr)))
  omega
/-- What the law says of two coppers. -/
theorem adds_up {m : List Mat} {s : List Lay} (h : stackF m s = 0) {a b : ByteArray} {i j : Nat} (hi : placeOf (rowsOf m s) a = some i) (hj : placeOf (rowsOf m s) b = some j) (hne : i ≠ j) :
    min (thick ((rowsOf m s).take i)) (thick ((rowsOf m s).take j)) + outF s a b m 0 s + apartR (rowsOf m s) i j = max (thick ((rowsOf m s).take i)) (thick ((rowsOf m s).take j)) ∧ 1 ≤ outF s a b m 0 s ∧ outF s a b m 0 s ≤ 2000 := by
  obtain ⟨x, hx, ho⟩ := outF_val h hi hj hne
  have hok := stackF_rows h
  have hb := matF_zero (hok x (List.mem_of_getElem? hx))
  rw [ho]
  unfold apartR
  rw [if_neg hne]
  have e := thick_next hx
  rcases Nat.lt_or_gt_of_ne hne with hlt | hgt
  · have e1 : max i j = j := by omega
    have e2 : min i j = i := by omega
    rw [e2] at e
    have := thick_le hok (i := i) (j := j) (by omega)
    rw [e1, e2, e]
    omega
  · have e1 : max i j = i := by omega
    have e2 : min i j = j := by omega
    rw [e2] at e
    have := thick_le hok (i := j) (j := i) (by omega)
    rw [e1, e2, e]
    omega
theorem place_same {m : List Mat} {s : List Lay} (h : stackF m s = 0) {a b : ByteArray} {i j : Nat} (hi : placeOf (rowsOf m s) a = some i) (hj : placeOf (rowsOf m s) b = some j) : a = b ↔ i = j := by
  constructor
  · intro e
    subst e
    rw [hi] at hj
    exact Option.some.inj hj
  · intro e
    subst e
    obtain ⟨_, _, h1, h2, _⟩ := place_only h hi
    obtain ⟨_, _, g1, g2, _⟩ := place_only h hj
    rw [h1] at g1
    cases g1
    exact h2.symm.trans g2

/-- The two numbers of a walk: what Depth and Apart answer, laid open. -/
theorem fault_cases (F : Int) (hF : F ≠ 0) : (F == 0) = false ∧ (F != 0) = true := ⟨by simpa using hF, by simpa using hF⟩
set_option maxHeartbeats 4000000 in
theorem addUp_walk (A : Option Addr) (l : List Mat) (c : Nat) (A2 : Option Addr) (s : List Lay) (c2 : Nat) (a b : ByteArray) (w : World) (h : StkIn A l A2 s w) (ha : a.size ≤ maxLen) (hb' : b.size ≤ maxLen) :
    Calls Try.prog 5 #[.slice A l.length c, .slice A2 s.length c2, .string a, .string b] w fun e w' => e = .returned (.bool true) ∧ Below w.heap.size w w' := by
  have HS := Lib.hid h
  have D1 := Lib.hid (fun W h => depth_law (c := c) (c2 := c2) (l := l) (s := s) (A := A) (A2 := A2) (w := W) a ha h)
  have D2 := Lib.hid (fun W h => depth_law (c := c) (c2 := c2) (l := l) (s := s) (A := A) (A2 := A2) (w := W) b hb' h)
  have D3 := Lib.hid (fun W h => apart_law (c := c) (c2 := c2) (l := l) (s := s) (A := A) (A2 := A2) (w := W) a b ha hb' h)
  have CW := Lib.hid (fun W => awake_any W)
  have hl1 := h.l1
  have hl2 := h.l2
  clear h
  by_cases h0 : stackF l s = 0
  · cases hp : placeOf (rowsOf l s) a with
    | none =>
      have e1 : depthF l s a = (0, 9) := by unfold depthF; rw [if_pos h0, hp]
      have e3 : apartF l s a b = (0, 9) := by unfold apartF; rw [if_pos h0, hp]
      rw [e1] at D1
      rw [e3] at D3
      obtain ⟨x2, f2, e2⟩ : ∃ x2 f2, depthF l s b = (x2, f2) := ⟨_, _, rfl⟩
      rw [e2] at D2
      clear e1 e2 e3 hp h0
      go_enter Try.func5, Try.ntmps5
      go_wp2_with fail
      refine (D1.out _ HS.out).mono ?_
      rintro e w1 ⟨rfl, hb⟩
      have B1 := Lib.hid hb
      have z1 := hb.size
      clear hb
      go_wp2_with fail
      refine (D2.out _ (HS.out.below B1.out)).mono ?_
      rintro e w2 ⟨rfl, hb⟩
      have B2 := Lib.hid (B1.out.trans (hb.mono z1))
      have z2 := B2.out.size
      clear hb
      go_wp2_with fail
      refine (D3.out _ (HS.out.below B2.out)).mono ?_
      rintro e w3 ⟨rfl, hb⟩
      have B3 := Lib.hid (B2.out.trans (hb.mono z2))
      have z3 := B3.out.size
      clear hb
      go_wp2_with fail
      refine (CW.out _).mono ?_
      rintro e w9 ⟨rfl, hb⟩
      have B9 := Lib.hid (B3.out.trans (hb.mono B3.out.size))
      clear hb
      go_wp2_with fail
      go_ret
      exact ⟨rfl, B9.out⟩
    | some i =>
      have e1 : depthF l s a = (thick ((rowsOf l s).take i), 0) := by unfold depthF; rw [if_pos h0, hp]
      rw [e1] at D1
      cases hp2 : placeOf (rowsOf l s) b with
      | none =>
        have e2 : depthF l s b = (0, 9) := by unfold depthF; rw [if_pos h0, hp2]
        have e3 : apartF l s a b = (0, 9) := by unfold apartF; rw [if_pos h0, hp, hp2]
        rw [e2] at D2
        rw [e3] at D3
        generalize thick ((rowsOf l s).take i) = T1 at *
        clear e1 e2 e3 hp hp2 h0
        go_enter Try.func5, Try.ntmps5
        go_wp2_with fail
        refine (D1.out _ HS.out).mono ?_
        rintro e w1 ⟨rfl, hb⟩
        have B1 := Lib.hid hb
        have z1 := hb.size
        clear hb
        go_wp2_with fail
        refine (D2.out _ (HS.out.below B1.out)).mono ?_
        rintro e w2 ⟨rfl, hb⟩
        have B2 := Lib.hid (B1.out.trans (hb.mono z1))
        have z2 := B2.out.size
        clear hb
        go_wp2_with fail
        refine (D3.out _ (HS.out.below B2.out)).mono ?_
        rintro e w3 ⟨rfl, hb⟩
        have B3 := Lib.hid (B2.out.trans (hb.mono z2))
        have z3 := B3.out.size
        clear hb
        go_wp2_with fail
        refine (CW.out _).mono ?_
        rintro e w9 ⟨rfl, hb⟩
        have B9 := Lib.hid (B3.out.trans (hb.mono B3.out.size))
        clear hb
        go_wp2_with fail
        go_ret
        exact ⟨rfl, B9.out⟩
      | some j =>
        have e2 : depthF l s b = (thick ((rowsOf l s).take j), 0) := by unfold depthF; rw [if_pos h0, hp2]
        have e3 : apartF l s a b = (apartR (rowsOf l s) i j, 0) := by unfold apartF; rw [if_pos h0, hp, hp2]
        rw [e2] at D2
        rw [e3] at D3
        by_cases hab : a = b
        · have hij := (place_same h0 hp hp2).1 hab
          subst hij
          have ea : apartR (rowsOf l s) i i = 0 := by unfold apartR; rw [if_pos rfl]
          rw [ea] at D3
          have f1 : (a.toList == b.toList) = true := eqS_true.2 hab
          generalize thick ((rowsOf l s).take i) = T1 at *
          have f2 : (T1 == T1) = true := by simp
          clear e1 e2 e3 hp hp2 h0 hab ea
          go_enter Try.func5, Try.ntmps5
          go_wp2_with fail
          refine (D1.out _ HS.out).mono ?_
          rintro e w1 ⟨rfl, hb⟩
          have B1 := Lib.hid hb
          have z1 := hb.size
          clear hb
          go_wp2_with fail
          refine (D2.out _ (HS.out.below B1.out)).mono ?_
          rintro e w2 ⟨rfl, hb⟩
          have B2 := Lib.hid (B1.out.trans (hb.mono z1))
          have z2 := B2.out.size
          clear hb
          go_wp2_with fail
          refine (D3.out _ (HS.out.below B2.out)).mono ?_
          rintro e w3 ⟨rfl, hb⟩
          have B3 := Lib.hid (B2.out.trans (hb.mono z2))
          have z3 := B3.out.size
          clear hb
          go_wp2_with fail
          refine (CW.out _).mono ?_
          rintro e w9 ⟨rfl, hb⟩
          have B9 := Lib.hid (B3.out.trans (hb.mono B3.out.size))
          clear hb
          go_wp2_with fail
          go_ret
          exact ⟨rfl, B9.out⟩
        · have hij : i ≠ j := fun e => hab ((place_same h0 hp hp2).2 e)
          have HAU := Lib.hid (adds_up h0 hp hp2 hij)
          have hok := stackF_rows h0
          have hrl : (rowsOf l s).length ≤ 1000 := by
            rw [rows_eq h0, List.length_map]
            have := (stackF_go h0).2.1
            omega
          obtain ⟨m1, m2⟩ := take_bound hok i hrl
          obtain ⟨m3, m4⟩ := take_bound hok j hrl
          have m5 : 0 ≤ apartR (rowsOf l s) i j ∧ apartR (rowsOf l s) i j ≤ 2000000 := by
            obtain ⟨q1, q2, q3⟩ := adds_up h0 hp hp2 hij
            have n1 := take_bound hok (max i j) hrl
            have n2 := take_bound hok (min i j + 1) hrl
            have n3 := thick_le hok (i := min i j + 1) (j := max i j) (by omega)
            unfold apartR
            rw [if_neg hij]
            omega
          obtain ⟨m5, m6⟩ := m5
          have f1 : (a.toList == b.toList) = false := eqS_false.2 hab
          generalize thick ((rowsOf l s).take i) = T1 at *
          generalize thick ((rowsOf l s).take j) = T2 at *
          generalize apartR (rowsOf l s) i j = T3 at *
          have HAB := Lib.hid hab
          clear e1 e2 e3 hp hp2 h0 hij hok hrl hab
          go_enter Try.func5, Try.ntmps5
          go_wp2_with fail
          refine (D1.out _ HS.out).mono ?_
          rintro e w1 ⟨rfl, hb⟩
          have B1 := Lib.hid hb
          have z1 := hb.size
          clear hb
          go_wp2_with fail
          refine (D2.out _ (HS.out.below B1.out)).mono ?_
          rintro e w2 ⟨rfl, hb⟩
          have B2 := Lib.hid (B1.out.trans (hb.mono z1))
          have z2 := B2.out.size
          clear hb
          go_wp2_with fail
          refine (D3.out _ (HS.out.below B2.out)).mono ?_
          rintro e w3 ⟨rfl, hb⟩
          have B3 := Lib.hid (B2.out.trans (hb.mono z2))
          have z3 := B3.out.size
          clear hb
          go_wp2_with fail
          go_loopw [15, 76] (fun t i wr => ∃ (k : Nat) (tv : Int), k ≤ s.length ∧ i = .int .i64 k ∧ t = .int .i64 tv ∧ outF s a b l 0 s = outF s a b l tv (s.drop k) ∧ Below w.heap.size w wr) (fun _ i _ => s.length - (intOf i).toNat)
          case atStart => exact ⟨0, 0, Nat.zero_le _, rfl, rfl, rfl, B3.out⟩
          case round =>
            obtain ⟨k, tv, hk, rfl, rfl, hf, hw⟩ := hrel
            have HF := Lib.hid hf
            have HW := Lib.hid hw
            have zw := hw.size
            clear hf hw
            have hkz : (0 : Int) ≤ (k : Int) := by omega
            by_cases hlt : k < s.length
            · obtain ⟨w8, rfl⟩ : ∃ w8, w8 = wr := ⟨wr, rfl⟩
              obtain ⟨bb, off, rfl, hblt, hcs⟩ := (HS.out.y.below HW.out) (by omega)
              have hi : s[k]? = some s[k] := List.getElem?_eq_getElem hlt
              have c0 := by simpa using hcs k _ hi 0 _ rfl
              have c1 := hcs k _ hi 1 _ rfl
              have hd : s.drop k = s[k] :: s.drop (k + 1) := List.drop_eq_getElem_cons hlt
              have HD := Lib.hid hd
              clear hd hi hcs
              generalize s[k] = y at *
              go_wp2_with fail
              go_loopw [15, 82] (fun t i wr => ∃ (j : Nat) (tu : Int), j ≤ l.length ∧ i = .int .i64 j ∧ t = .int .i64 tu ∧ innF s a b y tv l = innF s a b y tu (l.drop j) ∧ wr.cell? ⟨w8.heap.size, 0, none⟩ = some (.string y.name) ∧ wr.cell? ⟨w8.heap.size, 1, none⟩ = some (.string y.mat) ∧ w8.heap.size < wr.heap.size ∧ Below w.heap.size w wr) (fun _ i _ => l.length - (intOf i).toNat)
              case atStart => exact ⟨0, tv, Nat.zero_le _, rfl, rfl, rfl, by simp [go_sem], by simp [go_sem], by simp, HW.out.alloc zw _⟩
              case round =>
                obtain ⟨j, tu, hj, rfl, rfl, hg, b0, b1, bl, hv⟩ := hrel
                have HG := Lib.hid hg
                have HV := Lib.hid hv
                have zv := hv.size
                clear hg hv
                have hjz : (0 : Int) ≤ (j : Int) := by omega
                by_cases hltj : j < l.length
                · obtain ⟨bm, offm, hAe, hbm, hcm⟩ := (HS.out.m.below HV.out) (by omega)
                  subst hAe
                  have hi : l[j]? = some l[j] := List.getElem?_eq_getElem hltj
                  have d0 := by simpa using hcm j _ hi 0 _ rfl
                  have d1 := hcm j _ hi 1 _ rfl
                  have d2 := hcm j _ hi 2 _ rfl
                  have d3 := hcm j _ hi 3 _ rfl
                  have hd : l.drop j = l[j] :: l.drop (j + 1) := List.drop_eq_getElem_cons hltj
                  have HDJ := Lib.hid hd
                  clear hd hi hcm
                  generalize l[j] = x at *
                  have CU := Lib.hid (fun W hb => isUpper_any (some ⟨bb, off, none⟩) s c2 a b W hl2 (HS.out.y.below hb) : ∀ W, Below w.heap.size w W → _)
                  have CV := Lib.hid (fun W hb => isUpper_any (some ⟨bb, off, none⟩) s c2 b a W hl2 (HS.out.y.below hb) : ∀ W, Below w.heap.size w W → _)
                  by_cases hxn : x.name = y.mat
                  · have g1 : (x.name.toList == y.mat.toList) = true := eqS_true.2 hxn
                    by_cases hya : y.name = a
                    · have g2 : (y.name.toList == a.toList) = true := eqS_true.2 hya
                      have hyb : ¬ y.name = b := fun e => HAB.out (hya.symm.trans e)
                      have g3 : (y.name.toList == b.toList) = false := eqS_false.2 hyb
                      by_cases hxk : x.kind = 1
                      · have g4 : (x.kind == 1) = true := by simpa using hxk
                        cases hup : upB a b s
                        · rw [hup] at CU
                          have HNX := Lib.hid (show innF s a b y tv l = innF s a b y tu (l.drop (j + 1)) by rw [HG.out, HDJ.out, innF]; simp [hitB, HAB.out, Ne.symm HAB.out, hxn, hya, hyb, hxk, hup])
                          clear hxn hya hyb hxk hup
                          go_wp2_with fail
                          refine (CU.out _ (HV.out.alloc zv _)).mono ?_
                          rintro e w4 ⟨rfl, hb⟩
                          have q0 := hb.size
                          have K0 : w4.cell? ⟨w8.heap.size, 0, none⟩ = some (.string y.name) := ((bcell hb).1 _ _ (by simp; omega)).trans (alloc_old_cell bl b0)
                          have K1 : w4.cell? ⟨w8.heap.size, 1, none⟩ = some (.string y.mat) := ((bcell hb).1 _ _ (by simp; omega)).trans (alloc_old_cell bl b1)
                          have K2 : ∀ i, w4.cell? ⟨wr.heap.size, i, none⟩ = (#[Value.string x.name, .int .i64 x.kind, .int .i64 x.thick, .int .i64 x.grow])[i]? := fun i => ((bcell hb).1 _ _ (by simp)).trans (alloc_cells rfl _ _ _)
                          have K20 := K2 0
                          have K21 := K2 1
                          have K22 := K2 2
                          simp only [List.getElem?_toArray, List.getElem?_cons_zero, List.getElem?_cons_succ] at K20 K21 K22
                          have KB := Lib.hid ((HV.out.alloc zv (.cells #[.string x.name, .int .i64 x.kind, .int .i64 x.thick, .int .i64 x.grow] 37)).trans (hb.mono (by simp; omega)))
                          have KL : w8.heap.size < w4.heap.size := by simp at q0; omega
                          clear hb K2 q0
                          go_wp2_with fail
                          go_roundw
                          case rel => exact ⟨j + 1, tu, by omega, by go_num, rfl, HNX.out, K0, K1, KL, KB.out⟩
                          case measure => simp [intOf]; omega
                        · rw [hup] at CU
                          have HNX := Lib.hid (show innF s a b y tv l = innF s a b y x.thick (l.drop (j + 1)) by rw [HG.out, HDJ.out, innF]; simp [hitB, HAB.out, Ne.symm HAB.out, hxn, hya, hyb, hxk, hup])
                          clear hxn hya hyb hxk hup
                          go_wp2_with fail
                          refine (CU.out _ (HV.out.alloc zv _)).mono ?_
                          rintro e w4 ⟨rfl, hb⟩
                          have q0 := hb.size
                          have K0 : w4.cell? ⟨w8.heap.size, 0, none⟩ = some (.string y.name) := ((bcell hb).1 _ _ (by simp; omega)).trans (alloc_old_cell bl b0)
                          have K1 : w4.cell? ⟨w8.heap.size, 1, none⟩ = some (.string y.mat) := ((bcell hb).1 _ _ (by simp; omega)).trans (alloc_old_cell bl b1)
                          have K2 : ∀ i, w4.cell? ⟨wr.heap.size, i, none⟩ = (#[Value.string x.name, .int .i64 x.kind, .int .i64 x.thick, .int .i64 x.grow])[i]? := fun i => ((bcell hb).1 _ _ (by simp)).trans (alloc_cells rfl _ _ _)
                          have K20 := K2 0
                          have K21 := K2 1
                          have K22 := K2 2
                          simp only [List.getElem?_toArray, List.getElem?_cons_zero, List.getElem?_cons_succ] at K20 K21 K22
                          have KB := Lib.hid ((HV.out.alloc zv (.cells #[.string x.name, .int .i64 x.kind, .int .i64 x.thick, .int .i64 x.grow] 37)).trans (hb.mono (by simp; omega)))
                          have KL : w8.heap.size < w4.heap.size := by simp at q0; omega
                          clear hb K2 q0
                          go_wp2_with fail
                          go_roundw
                          case rel => exact ⟨j + 1, x.thick, by omega, by go_num, rfl, HNX.out, K0, K1, KL, KB.out⟩
                          case measure => simp [intOf]; omega
                      · have g4 : (x.kind == 1) = false := by simpa using hxk
                        have HNX := Lib.hid (show innF s a b y tv l = innF s a b y tu (l.drop (j + 1)) by rw [HG.out, HDJ.out, innF]; simp [hitB, HAB.out, Ne.symm HAB.out, hxn, hya, hyb, hxk])
                        clear hxn hya hyb hxk
                        go_wp2_with fail
                        go_roundw
                        case rel => exact ⟨j + 1, tu, by omega, by go_num, rfl, HNX.out, by simp [go_sem, b0, bl], by simp [go_sem, b1, bl], by simp; omega, HV.out.alloc zv _⟩
                        case measure => simp [intOf]; omega
                    · have g2 : (y.name.toList == a.toList) = false := eqS_false.2 hya
                      by_cases hyb : y.name = b
                      · have g3 : (y.name.toList == b.toList) = true := eqS_true.2 hyb
                        by_cases hxk : x.kind = 1
                        · have g4 : (x.kind == 1) = true := by simpa using hxk
                          cases hup : upB b a s
                          · rw [hup] at CV
                            have HNX := Lib.hid (show innF s a b y tv l = innF s a b y tu (l.drop (j + 1)) by rw [HG.out, HDJ.out, innF]; simp [hitB, HAB.out, Ne.symm HAB.out, hxn, hya, hyb, hxk, hup])
                            clear hxn hya hyb hxk hup
                            go_wp2_with fail
                            refine (CV.out _ (HV.out.alloc zv _)).mono ?_
                            rintro e w4 ⟨rfl, hb⟩
                            have q0 := hb.size
                            have K0 : w4.cell? ⟨w8.heap.size, 0, none⟩ = some (.string y.name) := ((bcell hb).1 _ _ (by simp; omega)).trans (alloc_old_cell bl b0)
                            have K1 : w4.cell? ⟨w8.heap.size, 1, none⟩ = some (.string y.mat) := ((bcell hb).1 _ _ (by simp; omega)).trans (alloc_old_cell bl b1)
                            have K2 : ∀ i, w4.cell? ⟨wr.heap.size, i, none⟩ = (#[Value.string x.name, .int .i64 x.kind, .int .i64 x.thick, .int .i64 x.grow])[i]? := fun i => ((bcell hb).1 _ _ (by simp)).trans (alloc_cells rfl _ _ _)
                            have K20 := K2 0
                            have K21 := K2 1
                            have K22 := K2 2
                            simp only [List.getElem?_toArray, List.getElem?_cons_zero, List.getElem?_cons_succ] at K20 K21 K22
                            have KB := Lib.hid ((HV.out.alloc zv (.cells #[.string x.name, .int .i64 x.kind, .int .i64 x.thick, .int .i64 x.grow] 37)).trans (hb.mono (by simp; omega)))
                            have KL : w8.heap.size < w4.heap.size := by simp at q0; omega
                            clear hb K2 q0
                            go_wp2_with fail
                            go_roundw
                            case rel => exact ⟨j + 1, tu, by omega, by go_num, rfl, HNX.out, K0, K1, KL, KB.out⟩
                            case measure => simp [intOf]; omega
                          · rw [hup] at CV
                            have HNX := Lib.hid (show innF s a b y tv l = innF s a b y x.thick (l.drop (j + 1)) by rw [HG.out, HDJ.out, innF]; simp [hitB, HAB.out, Ne.symm HAB.out, hxn, hya, hyb, hxk, hup])
                            clear hxn hya hyb hxk hup
                            go_wp2_with fail
                            refine (CV.out _ (HV.out.alloc zv _)).mono ?_
                            rintro e w4 ⟨rfl, hb⟩
                            have q0 := hb.size
                            have K0 : w4.cell? ⟨w8.heap.size, 0, none⟩ = some (.string y.name) := ((bcell hb).1 _ _ (by simp; omega)).trans (alloc_old_cell bl b0)
                            have K1 : w4.cell? ⟨w8.heap.size, 1, none⟩ = some (.string y.mat) := ((bcell hb).1 _ _ (by simp; omega)).trans (alloc_old_cell bl b1)
                            have K2 : ∀ i, w4.cell? ⟨wr.heap.size, i, none⟩ = (#[Value.string x.name, .int .i64 x.kind, .int .i64 x.thick, .int .i64 x.grow])[i]? := fun i => ((bcell hb).1 _ _ (by simp)).trans (alloc_cells rfl _ _ _)
                            have K20 := K2 0
                            have K21 := K2 1
                            have K22 := K2 2
                            simp only [List.getElem?_toArray, List.getElem?_cons_zero, List.getElem?_cons_succ] at K20 K21 K22
                            have KB := Lib.hid ((HV.out.alloc zv (.cells #[.string x.name, .int .i64 x.kind, .int .i64 x.thick, .int .i64 x.grow] 37)).trans (hb.mono (by simp; omega)))
                            have KL : w8.heap.size < w4.heap.size := by simp at q0; omega
                            clear hb K2 q0
                            go_wp2_with fail
                            go_roundw
                            case rel => exact ⟨j + 1, x.thick, by omega, by go_num, rfl, HNX.out, K0, K1, KL, KB.out⟩
                            case measure => simp [intOf]; omega
                        · have g4 : (x.kind == 1) = false := by simpa using hxk
                          have HNX := Lib.hid (show innF s a b y tv l = innF s a b y tu (l.drop (j + 1)) by rw [HG.out, HDJ.out, innF]; simp [hitB, HAB.out, Ne.symm HAB.out, hxn, hya, hyb, hxk])
                          clear hxn hya hyb hxk
                          go_wp2_with fail
                          go_roundw
                          case rel => exact ⟨j + 1, tu, by omega, by go_num, rfl, HNX.out, by simp [go_sem, b0, bl], by simp [go_sem, b1, bl], by simp; omega, HV.out.alloc zv _⟩
                          case measure => simp [intOf]; omega
                      · have g3 : (y.name.toList == b.toList) = false := eqS_false.2 hyb
                        have HNX := Lib.hid (show innF s a b y tv l = innF s a b y tu (l.drop (j + 1)) by rw [HG.out, HDJ.out, innF]; simp [hitB, HAB.out, Ne.symm HAB.out, hxn, hya, hyb])
                        clear hxn hya hyb
                        go_wp2_with fail
                        go_roundw
                        case rel => exact ⟨j + 1, tu, by omega, by go_num, rfl, HNX.out, by simp [go_sem, b0, bl], by simp [go_sem, b1, bl], by simp; omega, HV.out.alloc zv _⟩
                        case measure => simp [intOf]; omega
                  · have g1 : (x.name.toList == y.mat.toList) = false := eqS_false.2 hxn
                    have HNX := Lib.hid (show innF s a b y tv l = innF s a b y tu (l.drop (j + 1)) by rw [HG.out, HDJ.out, innF]; simp [hitB, HAB.out, Ne.symm HAB.out, hxn])
                    clear hxn
                    go_wp2_with fail
                    go_roundw
                    case rel => exact ⟨j + 1, tu, by omega, by go_num, rfl, HNX.out, by simp [go_sem, b0, bl], by simp [go_sem, b1, bl], by simp; omega, HV.out.alloc zv _⟩
                    case measure => simp [intOf]; omega
                · obtain rfl : j = l.length := by omega
                  have HNI := Lib.hid (show outF s a b l 0 s = outF s a b l tu (s.drop (k + 1)) by
                    have e := HG.out
                    rw [List.drop_length] at e
                    rw [HF.out, HD.out, outF, e]
                    rfl)
                  go_wp2_with fail
                  go_roundw
                  case rel => exact ⟨k + 1, tu, by omega, by go_num, rfl, HNI.out, HV.out⟩
                  case measure => simp [intOf]; omega
            · obtain rfl : k = s.length := by omega
              have hT : outF s a b l 0 s = tv := by
                rw [HF.out, List.drop_length]
                rfl
              obtain ⟨n1, n2, n3⟩ := HAU.out
              rw [hT] at n1 n2 n3
              clear HAU hT
              have y1 : IntKind.i64.wrap (min T1 T2 + tv) = min T1 T2 + tv := IntWalk.i64_in _ (by omega)
              have y2 : IntKind.i64.wrap (min T1 T2 + tv + T3) = min T1 T2 + tv + T3 := IntWalk.i64_in _ (by omega)
              have y3 : (min T1 T2 + tv + T3 == max T1 T2) = true := by rw [n1]; simp
              rcases (show T1 < T2 ∨ T2 < T1 by omega) with h12 | h12
              · have e1 : min T1 T2 = T1 := by omega
                have e2 : max T1 T2 = T2 := by omega
                rw [e1, e2] at n1 y3
                rw [e1] at y1 y2
                have h13 : ¬ T2 < T1 := by omega
                clear e1 e2 n1
                go_wp2_with fail
                refine (CW.out _).mono ?_
                rintro e w9 ⟨rfl, hb⟩
                have B9 := Lib.hid (HW.out.trans (hb.mono HW.out.size))
                clear hb
                go_wp2_with fail
                go_ret
                exact ⟨rfl, B9.out⟩
              · have e1 : min T1 T2 = T2 := by omega
                have e2 : max T1 T2 = T1 := by omega
                rw [e1, e2] at n1 y3
                rw [e1] at y1 y2
                have h13 : ¬ T1 < T2 := by omega
                clear e1 e2 n1
                go_wp2_with fail
                refine (CW.out _).mono ?_
                rintro e w9 ⟨rfl, hb⟩
                have B9 := Lib.hid (HW.out.trans (hb.mono HW.out.size))
                clear hb
                go_wp2_with fail
                go_ret
                exact ⟨rfl, B9.out⟩
  · have e1 : depthF l s a = (0, stackF l s) := by unfold depthF; rw [if_neg h0]
    have e2 : depthF l s b = (0, stackF l s) := by unfold depthF; rw [if_neg h0]
    have e3 : apartF l s a b = (0, stackF l s) := by unfold apartF; rw [if_neg h0]
    rw [e1] at D1
    rw [e2] at D2
    rw [e3] at D3
    generalize stackF l s = F at *
    obtain ⟨hd1, hd2⟩ := fault_cases F h0
    clear e1 e2 e3 h0
    go_enter Try.func5, Try.ntmps5
    go_wp2_with fail
    refine (D1.out _ HS.out).mono ?_
    rintro e w1 ⟨rfl, hb⟩
    have B1 := Lib.hid hb
    have z1 := hb.size
    clear hb
    go_wp2_with fail
    refine (D2.out _ (HS.out.below B1.out)).mono ?_
    rintro e w2 ⟨rfl, hb⟩
    have B2 := Lib.hid (B1.out.trans (hb.mono z1))
    have z2 := B2.out.size
    clear hb
    go_wp2_with fail
    refine (D3.out _ (HS.out.below B2.out)).mono ?_
    rintro e w3 ⟨rfl, hb⟩
    have B3 := Lib.hid (B2.out.trans (hb.mono z2))
    have z3 := B3.out.size
    clear hb
    go_wp2_with fail
    refine (CW.out _).mono ?_
    rintro e w9 ⟨rfl, hb⟩
    have B9 := Lib.hid (B3.out.trans (hb.mono B3.out.size))
    clear hb
    go_wp2_with fail
    go_ret
    exact ⟨rfl, B9.out⟩
end Go.Proofs.Ytnjcahdelcdcfaa

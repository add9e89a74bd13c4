/- What the reference of chapter 4 answers of a stack (Thickness, Depth, Apart), whatever the world. -/
import Derived.Test.YtnjcahdelcdcfaaRStack
namespace Go.Proofs.Ytnjcahdelcdcfaa
open Go.RowKit
set_option linter.unusedSimpArgs false
set_option linter.unusedVariables false
set_option maxRecDepth 100000

theorem RdG.part {α : Type} {size : Nat} {cells : α → List Value} {w : World} {b off : Nat} {L : List α} (h : RdG size cells w (some ⟨b, off, none⟩) L) (lo hi : Nat) : RdG size cells w (some ⟨b, off + lo * size, none⟩) ((L.take hi).drop lo) := by
  intro hpos
  have hL : 0 < L.length := by
    rw [List.length_drop, List.length_take] at hpos
    omega
  obtain ⟨b', off', e, hlt, hc⟩ := h hL
  simp only [Option.some.injEq, Addr.mk.injEq] at e
  obtain ⟨rfl, rfl, -⟩ := e
  refine ⟨b, _, rfl, hlt, fun i x hx j v hv => ?_⟩
  rw [List.getElem?_drop] at hx
  have hlt2 : lo + i < hi := by
    have := (List.getElem?_eq_some_iff.1 hx).1
    rw [List.length_take] at this
    omega
  rw [List.getElem?_take_of_lt hlt2] at hx
  have := hc _ _ hx j v hv
  rwa [show off + lo * size + i * size = off + (lo + i) * size by rw [Nat.add_mul]; omega]
section
variable {A : Option Addr} {l : List Mat} {c : Nat} {A2 : Option Addr} {s : List Lay} {c2 : Nat} {w : World}
theorem rThickness_law (hc2 : s.length ≤ c2) (hc3 : c2 ≤ 140737488355328) (h : StkIn A l A2 s w) : Calls Try.prog 15 #[.slice A l.length c, .slice A2 s.length c2] w fun e w' => e = .returned (.tuple #[.int .i64 (thickF l s), .int .i64 (stackF l s)]) ∧ Below w.heap.size w w' := by
  unfold thickF
  by_cases h0 : stackF l s = 0
  · rw [if_pos h0]
    have CP := Lib.hid (h0 ▸ rCheckStack_any (c := c) A2 s c2 hc2 hc3 h : Calls _ _ _ w fun e w' => e = .returned (.int .i64 0) ∧ Below w.heap.size w w')
    have HSI := Lib.hid h
    have hmm := matsF_mem (stackF_mats h0)
    have hl1 := h.l1
    have hl2 := h.l2
    have hs60 := (stackF_go h0).2.1
    have HRW := Lib.hid (rows_eq h0)
    have CT := Lib.hid (fun W (hb : Below w.heap.size w W) => rThick_any (c := c) (w := W) A2 s c2 hl1 hmm (by omega) (HSI.out.m.below hb) (HSI.out.y.below hb))
    rw [← HRW.out] at CT
    rw [h0]
    generalize thick (rowsOf l s) = T at *
    clear h0 h hmm
    go_enter Try.func15, Try.ntmps15
    go_wp2_with fail
    refine CP.out.mono ?_
    rintro e w1 ⟨rfl, hb⟩
    have B1 := Lib.hid hb
    clear hb
    go_wp2_with fail
    refine (CT.out _ B1.out).mono ?_
    rintro e w2 ⟨rfl, hb⟩
    have B2 := Lib.hid (B1.out.trans (hb.mono B1.out.size))
    clear hb
    go_wp2_with fail
    go_ret2
    exact ⟨rfl, B2.out⟩
  · rw [if_neg h0]
    have CP := Lib.hid (rCheckStack_any (c := c) A2 s c2 hc2 hc3 h)
    generalize stackF l s = F at *
    have hd1 : (F == 0) = false := by simpa using h0
    have hd2 : (F != 0) = true := by simpa using h0
    clear h0 h
    go_enter Try.func15, Try.ntmps15
    go_wp2_with fail
    refine CP.out.mono ?_
    rintro e w1 ⟨rfl, hb⟩
    have B1 := Lib.hid hb
    clear hb
    go_wp2_with fail
    go_ret2
    exact ⟨rfl, B1.out⟩
theorem placeI_none {R : List Row} {a : ByteArray} (h : placeOf R a = none) : placeI R a = -1 := by unfold placeI; rw [h]
theorem placeI_some {R : List Row} {a : ByteArray} {i : Nat} (h : placeOf R a = some i) : placeI R a = i := by unfold placeI; rw [h]
theorem placeOf_lt {R : List Row} {a : ByteArray} {i : Nat} (h : placeOf R a = some i) : i < R.length := (List.findIdx?_eq_some_iff_getElem.1 h).1
set_option maxHeartbeats 1000000 in
theorem rDepth_law (a : ByteArray) (hc2 : s.length ≤ c2) (hc3 : c2 ≤ 140737488355328) (h : StkIn A l A2 s w) : Calls Try.prog 22 #[.slice A l.length c, .slice A2 s.length c2, .string a] w fun e w' => e = .returned (.tuple #[.int .i64 (depthF l s a).1, .int .i64 (depthF l s a).2]) ∧ Below w.heap.size w w' := by
  by_cases h0 : stackF l s = 0
  · have HE0 := Lib.hid (show depthF l s a = (match placeOf (rowsOf l s) a with | none => (0, 9) | some i => (thick ((rowsOf l s).take i), 0)) by unfold depthF; rw [if_pos h0]; rfl)
    have CP := Lib.hid (h0 ▸ rCheckStack_any (c := c) A2 s c2 hc2 hc3 h : Calls _ _ _ w fun e w' => e = .returned (.int .i64 0) ∧ Below w.heap.size w w')
    have HSI := Lib.hid h
    have hmm := matsF_mem (stackF_mats h0)
    have hl1 := h.l1
    have hl2 := h.l2
    have hs60 := (stackF_go h0).2.1
    have HRW := Lib.hid (rows_eq h0)
    have CPl := Lib.hid (fun W (hb : Below w.heap.size w W) => rPlace_any (c := c) (w := W) A2 s c2 a hl1 hl2 (HSI.out.m.below hb) (HSI.out.y.below hb))
    rw [← HRW.out] at CPl
    cases hp : placeOf (rowsOf l s) a with
    | none =>
      have HE := Lib.hid (show depthF l s a = (0, 9) by rw [HE0.out, hp])
      rw [placeI_none hp] at CPl
      clear h0 h hmm hp
      go_enter Try.func22, Try.ntmps22
      go_wp2_with fail
      refine CP.out.mono ?_
      rintro e w1 ⟨rfl, hb⟩
      have B1 := Lib.hid hb
      clear hb
      go_wp2_with fail
      refine (CPl.out _ B1.out).mono ?_
      rintro e w2 ⟨rfl, hb⟩
      have B2 := Lib.hid (B1.out.trans (hb.mono B1.out.size))
      clear hb
      go_wp2_with fail
      go_ret2
      exact ⟨by rw [HE.out]; rfl, B2.out⟩
    | some i =>
      have HE := Lib.hid (show depthF l s a = (thick ((rowsOf l s).take i), 0) by rw [HE0.out, hp])
      rw [placeI_some hp] at CPl
      have hil : i < s.length := by
        have := placeOf_lt hp
        rwa [HRW.out, List.length_map] at this
      have hpos : 0 < s.length := by omega
      obtain ⟨b, off, hA2, -, -⟩ := HSI.out.y hpos
      subst hA2
      have CT := Lib.hid (fun W (hb : Below w.heap.size w W) => rThick_any (c := c) (w := W) (some ⟨b, off, none⟩) (s.take i) c2 hl1 hmm (by rw [List.length_take]; omega) (HSI.out.m.below hb) (by have := (HSI.out.y.below hb).part 0 i; simpa using this))
      rw [List.map_take, ← HRW.out, List.length_take, Nat.min_eq_left (Nat.le_of_lt hil)] at CT
      generalize thick ((rowsOf l s).take i) = T at *
      have x1 : (0 : Int) ≤ (i : Int) := by omega
      have x2 : (i : Int) ≤ (c2 : Int) := by omega
      have x3 : ¬ (i : Int) < 0 := by omega
      have x4 : decide ((i : Int) < 0) = false := by simp
      clear h0 h hmm hp
      go_enter Try.func22, Try.ntmps22
      go_wp2_with fail
      refine CP.out.mono ?_
      rintro e w1 ⟨rfl, hb⟩
      have B1 := Lib.hid hb
      clear hb
      go_wp2_with fail
      refine (CPl.out _ B1.out).mono ?_
      rintro e w2 ⟨rfl, hb⟩
      have B2 := Lib.hid (B1.out.trans (hb.mono B1.out.size))
      clear hb
      go_wp2_with fail
      refine (CT.out _ B2.out).mono ?_
      rintro e w3 ⟨rfl, hb⟩
      have B3 := Lib.hid (B2.out.trans (hb.mono B2.out.size))
      clear hb
      go_wp2_with fail
      go_ret2
      exact ⟨by rw [HE.out]; rfl, B3.out⟩
  · have HE := Lib.hid (show depthF l s a = (0, stackF l s) by unfold depthF; rw [if_neg h0])
    have CP := Lib.hid (rCheckStack_any (c := c) A2 s c2 hc2 hc3 h)
    generalize stackF l s = F at *
    have hd1 : (F == 0) = false := by simpa using h0
    have hd2 : (F != 0) = true := by simpa using h0
    clear h0 h
    go_enter Try.func22, Try.ntmps22
    go_wp2_with fail
    refine CP.out.mono ?_
    rintro e w1 ⟨rfl, hb⟩
    have B1 := Lib.hid hb
    clear hb
    go_wp2_with fail
    go_ret2
    exact ⟨by rw [HE.out]; rfl, B1.out⟩
set_option maxHeartbeats 2000000 in
theorem rApart_law (a b : ByteArray) (hc2 : s.length ≤ c2) (hc3 : c2 ≤ 140737488355328) (h : StkIn A l A2 s w) : Calls Try.prog 24 #[.slice A l.length c, .slice A2 s.length c2, .string a, .string b] w fun e w' => e = .returned (.tuple #[.int .i64 (apartF l s a b).1, .int .i64 (apartF l s a b).2]) ∧ Below w.heap.size w w' := by
  by_cases h0 : stackF l s = 0
  · have HE0 := Lib.hid (show apartF l s a b = (match placeOf (rowsOf l s) a, placeOf (rowsOf l s) b with | some i, some j => (apartR (rowsOf l s) i j, 0) | _, _ => (0, 9)) by unfold apartF; rw [if_pos h0]; rfl)
    have CP := Lib.hid (h0 ▸ rCheckStack_any (c := c) A2 s c2 hc2 hc3 h : Calls _ _ _ w fun e w' => e = .returned (.int .i64 0) ∧ Below w.heap.size w w')
    have HSI := Lib.hid h
    have hmm := matsF_mem (stackF_mats h0)
    have hl1 := h.l1
    have hl2 := h.l2
    have hs60 := (stackF_go h0).2.1
    have HRW := Lib.hid (rows_eq h0)
    have CA := Lib.hid (fun W (hb : Below w.heap.size w W) => rPlace_any (c := c) (w := W) A2 s c2 a hl1 hl2 (HSI.out.m.below hb) (HSI.out.y.below hb))
    have CB := Lib.hid (fun W (hb : Below w.heap.size w W) => rPlace_any (c := c) (w := W) A2 s c2 b hl1 hl2 (HSI.out.m.below hb) (HSI.out.y.below hb))
    rw [← HRW.out] at CA CB
    cases hp : placeOf (rowsOf l s) a with
    | none =>
      have HE := Lib.hid (show apartF l s a b = (0, 9) by rw [HE0.out, hp])
      rw [placeI_none hp] at CA
      generalize placeI (rowsOf l s) b = pb at *
      clear h0 h hmm hp
      go_enter Try.func24, Try.ntmps24
      go_wp2_with fail
      refine CP.out.mono ?_
      rintro e w1 ⟨rfl, hb⟩
      have B1 := Lib.hid hb
      clear hb
      go_wp2_with fail
      refine (CA.out _ B1.out).mono ?_
      rintro e w2 ⟨rfl, hb⟩
      have B2 := Lib.hid (B1.out.trans (hb.mono B1.out.size))
      clear hb
      go_wp2_with fail
      refine (CB.out _ B2.out).mono ?_
      rintro e w3 ⟨rfl, hb⟩
      have B3 := Lib.hid (B2.out.trans (hb.mono B2.out.size))
      clear hb
      go_wp2_with fail
      go_ret2
      exact ⟨by rw [HE.out]; rfl, B3.out⟩
    | some i =>
      rw [placeI_some hp] at CA
      have hil : i < s.length := by
        have := placeOf_lt hp
        rwa [HRW.out, List.length_map] at this
      cases hp2 : placeOf (rowsOf l s) b with
      | none =>
        have HE := Lib.hid (show apartF l s a b = (0, 9) by rw [HE0.out, hp, hp2])
        rw [placeI_none hp2] at CB
        have x3 : decide ((i : Int) < 0) = false := by simp
        clear h0 h hmm hp hp2
        go_enter Try.func24, Try.ntmps24
        go_wp2_with fail
        refine CP.out.mono ?_
        rintro e w1 ⟨rfl, hb⟩
        have B1 := Lib.hid hb
        clear hb
        go_wp2_with fail
        refine (CA.out _ B1.out).mono ?_
        rintro e w2 ⟨rfl, hb⟩
        have B2 := Lib.hid (B1.out.trans (hb.mono B1.out.size))
        clear hb
        go_wp2_with fail
        refine (CB.out _ B2.out).mono ?_
        rintro e w3 ⟨rfl, hb⟩
        have B3 := Lib.hid (B2.out.trans (hb.mono B2.out.size))
        clear hb
        go_wp2_with fail
        go_ret2
        exact ⟨by rw [HE.out]; rfl, B3.out⟩
      | some j =>
        rw [placeI_some hp2] at CB
        have hjl : j < s.length := by
          have := placeOf_lt hp2
          rwa [HRW.out, List.length_map] at this
        rcases Nat.lt_trichotomy i j with hlt | heq | hlt
        · skip
          have HE := Lib.hid (show apartF l s a b = (thick ((rowsOf l s).take j) - thick ((rowsOf l s).take (i + 1)), 0) by
            rw [HE0.out, hp, hp2]
            show (apartR _ i j, (0 : Int)) = _
            unfold apartR
            rw [if_neg (by omega), show max i j = j by omega, show min i j = i by omega])
          have hpos : 0 < s.length := by omega
          obtain ⟨bb, off, hA2, -, -⟩ := HSI.out.y hpos
          subst hA2
          have CT := Lib.hid (fun W (hb : Below w.heap.size w W) => rThick_any (c := c) (w := W) (some ⟨bb, off + (i + 1) * 2, none⟩) ((s.take j).drop (i + 1)) (c2 - (i + 1)) hl1 hmm (by rw [List.length_drop, List.length_take]; omega) (HSI.out.m.below hb) ((HSI.out.y.below hb).part (i + 1) j))
          have hth : thick (((s.take j).drop (i + 1)).map (rowOf l)) = thick ((rowsOf l s).take j) - thick ((rowsOf l s).take (i + 1)) := by
            have e := List.take_append_drop (i + 1) (((rowsOf l s).take j))
            rw [List.take_take, Nat.min_eq_left (show i + 1 ≤ j by omega)] at e
            have e2 := thick_append ((rowsOf l s).take (i + 1)) (((rowsOf l s).take j).drop (i + 1))
            rw [e] at e2
            rw [List.map_drop, List.map_take, ← HRW.out]
            omega
          rw [hth, List.length_drop, List.length_take, Nat.min_eq_left (Nat.le_of_lt (show j < s.length by omega))] at CT
          generalize thick ((rowsOf l s).take j) - thick ((rowsOf l s).take (i + 1)) = T at *
          have d1 : ((i : Int) == (j : Int)) = false := by simp; omega
          have m1 : (i : Int) < (j : Int) := by omega
          have m2 : ¬ (j : Int) < (i : Int) := by omega
          have y1 : IntKind.i64.wrap ((i : Int) + 1) = (i : Int) + 1 := IntWalk.i64_in _ (by omega)
          have y2 : (0 : Int) ≤ (i : Int) + 1 := by omega
          have y3 : (i : Int) + 1 ≤ (j : Int) := by omega
          have y4 : (j : Int) ≤ (c2 : Int) := by omega
          have y5 : ((i : Int) + 1).toNat = i + 1 := by omega
          have y6 : ¬ c2 = i + 1 := by omega
          have y7 : ¬ i + 1 = c2 := by omega
          have x3 : decide ((i : Int) < 0) = false := by simp
          have x4 : decide ((j : Int) < 0) = false := by simp
          clear h0 h hmm hp hp2 hth
          go_enter Try.func24, Try.ntmps24
          go_wp2_with fail
          refine CP.out.mono ?_
          rintro e w1 ⟨rfl, hb⟩
          have B1 := Lib.hid hb
          clear hb
          go_wp2_with fail
          refine (CA.out _ B1.out).mono ?_
          rintro e w2 ⟨rfl, hb⟩
          have B2 := Lib.hid (B1.out.trans (hb.mono B1.out.size))
          clear hb
          go_wp2_with fail
          refine (CB.out _ B2.out).mono ?_
          rintro e w3 ⟨rfl, hb⟩
          have B3 := Lib.hid (B2.out.trans (hb.mono B2.out.size))
          clear hb
          go_wp2_with fail
          rw [show (min (i : Int) (j : Int) + 1).toNat = i + 1 by omega, show (max (i : Int) (j : Int)).toNat = j by omega]
          with_reducible refine (CT.out _ B3.out).mono ?_
          rintro e w4 ⟨rfl, hb⟩
          have B4 := Lib.hid (B3.out.trans (hb.mono B3.out.size))
          clear hb
          go_wp2_with fail
          go_ret2
          exact ⟨by rw [HE.out]; rfl, B4.out⟩
        · subst heq
          have HE := Lib.hid (show apartF l s a b = (0, 0) by
            rw [HE0.out, hp, hp2]
            show (apartR _ i i, (0 : Int)) = _
            unfold apartR
            rw [if_pos rfl])
          have d1 : ((i : Int) == (i : Int)) = true := by simp
          have x3 : decide ((i : Int) < 0) = false := by simp
          clear h0 h hmm hp hp2
          go_enter Try.func24, Try.ntmps24
          go_wp2_with fail
          refine CP.out.mono ?_
          rintro e w1 ⟨rfl, hb⟩
          have B1 := Lib.hid hb
          clear hb
          go_wp2_with fail
          refine (CA.out _ B1.out).mono ?_
          rintro e w2 ⟨rfl, hb⟩
          have B2 := Lib.hid (B1.out.trans (hb.mono B1.out.size))
          clear hb
          go_wp2_with fail
          refine (CB.out _ B2.out).mono ?_
          rintro e w3 ⟨rfl, hb⟩
          have B3 := Lib.hid (B2.out.trans (hb.mono B2.out.size))
          clear hb
          go_wp2_with fail
          go_ret2
          exact ⟨by rw [HE.out]; rfl, B3.out⟩
        · skip
          have HE := Lib.hid (show apartF l s a b = (thick ((rowsOf l s).take i) - thick ((rowsOf l s).take (j + 1)), 0) by
            rw [HE0.out, hp, hp2]
            show (apartR _ i j, (0 : Int)) = _
            unfold apartR
            rw [if_neg (by omega), show max i j = i by omega, show min i j = j by omega])
          have hpos : 0 < s.length := by omega
          obtain ⟨bb, off, hA2, -, -⟩ := HSI.out.y hpos
          subst hA2
          have CT := Lib.hid (fun W (hb : Below w.heap.size w W) => rThick_any (c := c) (w := W) (some ⟨bb, off + (j + 1) * 2, none⟩) ((s.take i).drop (j + 1)) (c2 - (j + 1)) hl1 hmm (by rw [List.length_drop, List.length_take]; omega) (HSI.out.m.below hb) ((HSI.out.y.below hb).part (j + 1) i))
          have hth : thick (((s.take i).drop (j + 1)).map (rowOf l)) = thick ((rowsOf l s).take i) - thick ((rowsOf l s).take (j + 1)) := by
            have e := List.take_append_drop (j + 1) (((rowsOf l s).take i))
            rw [List.take_take, Nat.min_eq_left (show j + 1 ≤ i by omega)] at e
            have e2 := thick_append ((rowsOf l s).take (j + 1)) (((rowsOf l s).take i).drop (j + 1))
            rw [e] at e2
            rw [List.map_drop, List.map_take, ← HRW.out]
            omega
          rw [hth, List.length_drop, List.length_take, Nat.min_eq_left (Nat.le_of_lt (show i < s.length by omega))] at CT
          generalize thick ((rowsOf l s).take i) - thick ((rowsOf l s).take (j + 1)) = T at *
          have d1 : ((i : Int) == (j : Int)) = false := by simp; omega
          have m1 : (j : Int) < (i : Int) := by omega
          have m2 : ¬ (i : Int) < (j : Int) := by omega
          have y1 : IntKind.i64.wrap ((j : Int) + 1) = (j : Int) + 1 := IntWalk.i64_in _ (by omega)
          have y2 : (0 : Int) ≤ (j : Int) + 1 := by omega
          have y3 : (j : Int) + 1 ≤ (i : Int) := by omega
          have y4 : (i : Int) ≤ (c2 : Int) := by omega
          have y5 : ((j : Int) + 1).toNat = j + 1 := by omega
          have y6 : ¬ c2 = j + 1 := by omega
          have y7 : ¬ j + 1 = c2 := by omega
          have x3 : decide ((i : Int) < 0) = false := by simp
          have x4 : decide ((j : Int) < 0) = false := by simp
          clear h0 h hmm hp hp2 hth
          go_enter Try.func24, Try.ntmps24
          go_wp2_with fail
          refine CP.out.mono ?_
          rintro e w1 ⟨rfl, hb⟩
          have B1 := Lib.hid hb
          clear hb
          go_wp2_with fail
          refine (CA.out _ B1.out).mono ?_
          rintro e w2 ⟨rfl, hb⟩
          have B2 := Lib.hid (B1.out.trans (hb.mono B1.out.size))
          clear hb
          go_wp2_with fail
          refine (CB.out _ B2.out).mono ?_
          rintro e w3 ⟨rfl, hb⟩
          have B3 := Lib.hid (B2.out.trans (hb.mono B2.out.size))
          clear hb
          go_wp2_with fail
          rw [show (min (i : Int) (j : Int) + 1).toNat = j + 1 by omega, show (max (i : Int) (j : Int)).toNat = i by omega]
          with_reducible refine (CT.out _ B3.out).mono ?_
          rintro e w4 ⟨rfl, hb⟩
          have B4 := Lib.hid (B3.out.trans (hb.mono B3.out.size))
          clear hb
          go_wp2_with fail
          go_ret2
          exact ⟨by rw [HE.out]; rfl, B4.out⟩
  · have HE := Lib.hid (show apartF l s a b = (0, stackF l s) by unfold apartF; rw [if_neg h0])
    have CP := Lib.hid (rCheckStack_any (c := c) A2 s c2 hc2 hc3 h)
    generalize stackF l s = F at *
    have hd1 : (F == 0) = false := by simpa using h0
    have hd2 : (F != 0) = true := by simpa using h0
    clear h0 h
    go_enter Try.func24, Try.ntmps24
    go_wp2_with fail
    refine CP.out.mono ?_
    rintro e w1 ⟨rfl, hb⟩
    have B1 := Lib.hid hb
    clear hb
    go_wp2_with fail
    go_ret2
    exact ⟨by rw [HE.out]; rfl, B1.out⟩
end
end Go.Proofs.Ytnjcahdelcdcfaa

/- A copper: what the reference says of it, whatever the world. -/
import Derived.Test.YtdlglnkhhbkndaaRChkA
namespace Go.Proofs.Ytdlglnkhhbkndaa
open Go.RowKit
set_option linter.unusedSimpArgs false
set_option linter.unusedVariables false
set_option maxRecDepth 100000
section
variable {A : Option Addr} {l : List Mat} {c : Nat} {w : World}
set_option maxHeartbeats 2000000 in
theorem checkLayer_twice (A2 : Option Addr) (s : List Lay) (c2 : Nat) (i : Nat) (hi' : i < s.length) (hc2 : s.length ≤ c2) (hc3 : c2 ≤ 140737488355328) (hl : l.length ≤ 140737488355328) (hm : ∀ x ∈ l, matF x = 0) (hn : ∀ y ∈ s, y.name.size ≤ maxLen ∧ y.mat.size ≤ maxLen) (h : RdG 4 Mat.cs w A l) (h2 : RdG 2 Lay.cs w A2 s) {x : Mat} (hmo : matOf l s[i].mat = some x) (hk : x.kind = 1) (hw : wordB s[i].name = true) (htw : ((s.take i).any fun z => decide (z.name = s[i].name)) = true) :
    Calls Try.prog 60 #[.slice A l.length c, .slice A2 s.length c2, .int .i64 (i : Nat)] w fun e w' => e = .returned (.int .i64 7) ∧ Below w.heap.size w w' := by
  have hi : s[i]? = some s[i] := List.getElem?_eq_getElem hi'
  obtain ⟨b, off, rfl, hblt, hcs⟩ := h2 (by omega)
  have c0 := by simpa using hcs i _ hi 0 _ rfl
  have c1 := hcs i _ hi 1 _ rfl
  have HCS := Lib.hid hcs
  have HI := Lib.hid hi
  have HM := Lib.hid hm
  have hnm := (hn s[i] (List.getElem_mem hi')).1
  have C := Lib.hid (fun n W hb => materialOf_any A l c n W hl (h.below hb) : ∀ n W, Below w.heap.size w W → _)
  have x1 : (0 : Int) ≤ (i : Int) := by omega
  have x2 : (i : Int) < (s.length : Int) := by omega
  have x3 : (i : Int) ≤ (c2 : Int) := by omega
  have hH2 := Lib.hid h2
  clear hcs hi h h2 hm hn
  have CW := Lib.hid (fun (W : World) => hw ▸ rIsWord_any s[i].name W hnm)
  have HTW := Lib.hid htw
  have CY := Lib.hid (C.out s[i].mat)
  rw [hmo] at CY
  generalize s[i] = y at *
  simp only [Option.getD_some] at CY
  clear hmo
  obtain ⟨xn, xk, xt, xg⟩ := x
  simp only at hk CY
  subst hk
  clear hw htw
  have hf1 := matField1
  go_enter Try.func60, Try.ntmps60
  go_wp2_with fail
  refine (CY.out _ (by (repeat' (first | (with_reducible exact Below.refl _ _) | (with_reducible assumption) | (with_reducible refine Below.alloc ?_ ?_ _) | (with_reducible refine Below.drew ?_) | (with_reducible refine below_drewN ?_ _) | (with_reducible refine Below.setCell ?_ ?_ _) | (with_reducible exact Nat.le_refl _) | omega | (simp only [World.size_alloc, World.size_setCell, World.size_drew]; omega) | (simp; omega) | (simp; done))))).mono ?_
  rintro e w1 ⟨rfl, hb⟩
  have B1 := Lib.hid hb
  have E0 : w1.cell? ⟨b, off + i * 2, none⟩ = some (.string y.name) := ((bcell hb).1 _ _ hblt).trans c0
  have E1 : w1.cell? ⟨b, off + i * 2 + 1, none⟩ = some (.string y.mat) := ((bcell hb).1 _ _ hblt).trans c1
  have z1 := hb.size
  clear hb
  go_wp2_with (go_at_call 58; refine (CW.out _).mono ?_; rintro e w2 ⟨rfl, rfl⟩)
  have H2W := Lib.hid (fun W hb => hH2.out.below hb : ∀ W, Below w.heap.size w W → _)
  go_loopw [50] (fun t wr => ∃ k : Nat, k ≤ i ∧ t = .int .i64 k ∧ ((s.take k).any fun z => decide (z.name = y.name)) = false ∧ Below w.heap.size w wr) (fun t _ => i - (intOf t).toNat)
  case atStart => exact ⟨0, Nat.zero_le _, rfl, rfl, B1.out⟩
  case round =>
    obtain ⟨k, hk, rfl, ha, hw⟩ := hrel
    have HA := Lib.hid ha
    have HW := Lib.hid hw
    have zw := hw.size
    have y0 : wr.cell? ⟨b, off + i * 2, none⟩ = some (.string y.name) := ((bcell hw).1 _ _ hblt).trans c0
    have hblw : b < wr.heap.size := Nat.lt_of_lt_of_le hblt zw
    clear ha hw
    have hkz : (0 : Int) ≤ (k : Int) := by omega
    by_cases hlt : k < i
    · have hks : s[k]? = some s[k] := List.getElem?_eq_getElem (by omega)
      have g0 := ((bcell HW.out).1 _ _ hblt).trans (by simpa using HCS.out k _ hks 0 _ rfl)
      have g1 := ((bcell HW.out).1 _ _ hblt).trans (HCS.out k _ hks 1 _ rfl)
      have HT := Lib.hid (show ((s.take (k + 1)).any fun z => decide (z.name = y.name)) = (((s.take k).any fun z => decide (z.name = y.name)) || decide (s[k].name = y.name)) by rw [List.take_add_one, hks, List.any_append]; simp)
      have HM2 := Lib.hid (show s[k] ∈ s.take i from List.mem_take_iff_getElem.2 ⟨k, by omega, rfl⟩)
      clear hks
      generalize s[k] = z at *
      have a0 : ∀ (cs : Array Value) (t : TypeId), (wr.alloc (.cells cs t)).cell? ⟨b, off + i * 2, none⟩ = some (.string y.name) := fun cs t => (World.cell?_alloc_lt _ _ _ hblw).trans y0
      by_cases he : z.name = y.name
      · have f1 : (z.name.toList == y.name.toList) = true := eqS_true.2 he
        clear he
        go_wp2_with fail
        go_quiet (fail)
        go_wp2_with fail
        go_ret
        exact ⟨rfl, by have := HW.out; exact below_drewN (by (repeat' (first | (with_reducible exact Below.refl _ _) | (with_reducible assumption) | (with_reducible refine Below.alloc ?_ ?_ _) | (with_reducible refine Below.drew ?_) | (with_reducible refine below_drewN ?_ _) | (with_reducible refine Below.setCell ?_ ?_ _) | (with_reducible exact Nat.le_refl _) | omega | (simp only [World.size_alloc, World.size_setCell, World.size_drew]; omega) | (simp; omega) | (simp; done)))) _⟩
      · have f1 : (z.name.toList == y.name.toList) = false := eqS_false.2 he
        have HN := Lib.hid (show ((s.take (k + 1)).any fun z => decide (z.name = y.name)) = false by rw [HT.out, HA.out, decide_eq_false he]; rfl)
        clear he
        go_wp2_with fail
        go_quiet (fail)
        go_wp2_with fail
        go_roundw
        case rel => exact ⟨k + 1, by omega, by go_num, HN.out, by have := HW.out; exact below_drewN (by (repeat' (first | (with_reducible exact Below.refl _ _) | (with_reducible assumption) | (with_reducible refine Below.alloc ?_ ?_ _) | (with_reducible refine Below.drew ?_) | (with_reducible refine below_drewN ?_ _) | (with_reducible refine Below.setCell ?_ ?_ _) | (with_reducible exact Nat.le_refl _) | omega | (simp only [World.size_alloc, World.size_setCell, World.size_drew]; omega) | (simp; omega) | (simp; done)))) _⟩
        case measure => simp [intOf]; omega
    · obtain rfl : k = i := by omega
      have := HA.out
      rw [HTW.out] at this
      cases this
set_option maxHeartbeats 2000000 in
theorem checkLayer_cu0 (A2 : Option Addr) (s : List Lay) (c2 : Nat) (i : Nat) (hi' : i < s.length) (hc2 : s.length ≤ c2) (hc3 : c2 ≤ 140737488355328) (hl : l.length ≤ 140737488355328) (hm : ∀ x ∈ l, matF x = 0) (hn : ∀ y ∈ s, y.name.size ≤ maxLen ∧ y.mat.size ≤ maxLen) (h : RdG 4 Mat.cs w A l) (h2 : RdG 2 Lay.cs w A2 s) {x : Mat} (hmo : matOf l s[i].mat = some x) (hk : x.kind = 1) (hw : wordB s[i].name = true) (htw : ((s.take i).any fun z => decide (z.name = s[i].name)) = false) (h0 : i = 0) :
    Calls Try.prog 60 #[.slice A l.length c, .slice A2 s.length c2, .int .i64 (i : Nat)] w fun e w' => e = .returned (.int .i64 0) ∧ Below w.heap.size w w' := by
  have hi : s[i]? = some s[i] := List.getElem?_eq_getElem hi'
  obtain ⟨b, off, rfl, hblt, hcs⟩ := h2 (by omega)
  have c0 := by simpa using hcs i _ hi 0 _ rfl
  have c1 := hcs i _ hi 1 _ rfl
  have HCS := Lib.hid hcs
  have HI := Lib.hid hi
  have HM := Lib.hid hm
  have hnm := (hn s[i] (List.getElem_mem hi')).1
  have C := Lib.hid (fun n W hb => materialOf_any A l c n W hl (h.below hb) : ∀ n W, Below w.heap.size w W → _)
  have x1 : (0 : Int) ≤ (i : Int) := by omega
  have x2 : (i : Int) < (s.length : Int) := by omega
  have x3 : (i : Int) ≤ (c2 : Int) := by omega
  have hH2 := Lib.hid h2
  clear hcs hi h h2 hm hn
  have CW := Lib.hid (fun (W : World) => hw ▸ rIsWord_any s[i].name W hnm)
  have HTW := Lib.hid htw
  have CY := Lib.hid (C.out s[i].mat)
  rw [hmo] at CY
  generalize s[i] = y at *
  simp only [Option.getD_some] at CY
  clear hmo
  obtain ⟨xn, xk, xt, xg⟩ := x
  simp only at hk CY
  subst hk
  clear hw htw
  have e0 : ((i : Int) == 0) = true := by simp; omega
  clear h0
  have hf1 := matField1
  go_enter Try.func60, Try.ntmps60
  go_wp2_with fail
  refine (CY.out _ (by (repeat' (first | (with_reducible exact Below.refl _ _) | (with_reducible assumption) | (with_reducible refine Below.alloc ?_ ?_ _) | (with_reducible refine Below.drew ?_) | (with_reducible refine below_drewN ?_ _) | (with_reducible refine Below.setCell ?_ ?_ _) | (with_reducible exact Nat.le_refl _) | omega | (simp only [World.size_alloc, World.size_setCell, World.size_drew]; omega) | (simp; omega) | (simp; done))))).mono ?_
  rintro e w1 ⟨rfl, hb⟩
  have B1 := Lib.hid hb
  have E0 : w1.cell? ⟨b, off + i * 2, none⟩ = some (.string y.name) := ((bcell hb).1 _ _ hblt).trans c0
  have E1 : w1.cell? ⟨b, off + i * 2 + 1, none⟩ = some (.string y.mat) := ((bcell hb).1 _ _ hblt).trans c1
  have z1 := hb.size
  clear hb
  go_wp2_with (go_at_call 58; refine (CW.out _).mono ?_; rintro e w2 ⟨rfl, rfl⟩)
  have H2W := Lib.hid (fun W hb => hH2.out.below hb : ∀ W, Below w.heap.size w W → _)
  go_loopw [50] (fun t wr => ∃ k : Nat, k ≤ i ∧ t = .int .i64 k ∧ ((s.take k).any fun z => decide (z.name = y.name)) = false ∧ Below w.heap.size w wr) (fun t _ => i - (intOf t).toNat)
  case atStart => exact ⟨0, Nat.zero_le _, rfl, rfl, B1.out⟩
  case round =>
    obtain ⟨k, hk, rfl, ha, hw⟩ := hrel
    have HA := Lib.hid ha
    have HW := Lib.hid hw
    have zw := hw.size
    have y0 : wr.cell? ⟨b, off + i * 2, none⟩ = some (.string y.name) := ((bcell hw).1 _ _ hblt).trans c0
    have hblw : b < wr.heap.size := Nat.lt_of_lt_of_le hblt zw
    clear ha hw
    have hkz : (0 : Int) ≤ (k : Int) := by omega
    by_cases hlt : k < i
    · have hks : s[k]? = some s[k] := List.getElem?_eq_getElem (by omega)
      have g0 := ((bcell HW.out).1 _ _ hblt).trans (by simpa using HCS.out k _ hks 0 _ rfl)
      have g1 := ((bcell HW.out).1 _ _ hblt).trans (HCS.out k _ hks 1 _ rfl)
      have HT := Lib.hid (show ((s.take (k + 1)).any fun z => decide (z.name = y.name)) = (((s.take k).any fun z => decide (z.name = y.name)) || decide (s[k].name = y.name)) by rw [List.take_add_one, hks, List.any_append]; simp)
      have HM2 := Lib.hid (show s[k] ∈ s.take i from List.mem_take_iff_getElem.2 ⟨k, by omega, rfl⟩)
      clear hks
      generalize s[k] = z at *
      have a0 : ∀ (cs : Array Value) (t : TypeId), (wr.alloc (.cells cs t)).cell? ⟨b, off + i * 2, none⟩ = some (.string y.name) := fun cs t => (World.cell?_alloc_lt _ _ _ hblw).trans y0
      by_cases he : z.name = y.name
      · exact absurd (List.any_eq_true.2 ⟨z, HM2.out, decide_eq_true he⟩) (by rw [HTW.out]; decide)
      · have f1 : (z.name.toList == y.name.toList) = false := eqS_false.2 he
        have HN := Lib.hid (show ((s.take (k + 1)).any fun z => decide (z.name = y.name)) = false by rw [HT.out, HA.out, decide_eq_false he]; rfl)
        clear he
        go_wp2_with fail
        go_quiet (fail)
        go_wp2_with fail
        go_roundw
        case rel => exact ⟨k + 1, by omega, by go_num, HN.out, by have := HW.out; exact below_drewN (by (repeat' (first | (with_reducible exact Below.refl _ _) | (with_reducible assumption) | (with_reducible refine Below.alloc ?_ ?_ _) | (with_reducible refine Below.drew ?_) | (with_reducible refine below_drewN ?_ _) | (with_reducible refine Below.setCell ?_ ?_ _) | (with_reducible exact Nat.le_refl _) | omega | (simp only [World.size_alloc, World.size_setCell, World.size_drew]; omega) | (simp; omega) | (simp; done)))) _⟩
        case measure => simp [intOf]; omega
    · obtain rfl : k = i := by omega
      go_wp2_with fail
      go_ret
      exact ⟨rfl, HW.out⟩
set_option maxHeartbeats 2000000 in
theorem checkLayer_cumeet (A2 : Option Addr) (s : List Lay) (c2 : Nat) (i : Nat) (hi' : i < s.length) (hc2 : s.length ≤ c2) (hc3 : c2 ≤ 140737488355328) (hl : l.length ≤ 140737488355328) (hm : ∀ x ∈ l, matF x = 0) (hn : ∀ y ∈ s, y.name.size ≤ maxLen ∧ y.mat.size ≤ maxLen) (h : RdG 4 Mat.cs w A l) (h2 : RdG 2 Lay.cs w A2 s) {x u : Mat} (hmo : matOf l s[i].mat = some x) (hk : x.kind = 1) (hw : wordB s[i].name = true) (htw : ((s.take i).any fun z => decide (z.name = s[i].name)) = false) (h0 : i ≠ 0) (hmj : matOf l s[i - 1].mat = some u) (hu : u.kind ≠ 1) :
    Calls Try.prog 60 #[.slice A l.length c, .slice A2 s.length c2, .int .i64 (i : Nat)] w fun e w' => e = .returned (.int .i64 0) ∧ Below w.heap.size w w' := by
  have hi : s[i]? = some s[i] := List.getElem?_eq_getElem hi'
  obtain ⟨b, off, rfl, hblt, hcs⟩ := h2 (by omega)
  have c0 := by simpa using hcs i _ hi 0 _ rfl
  have c1 := hcs i _ hi 1 _ rfl
  have HCS := Lib.hid hcs
  have HI := Lib.hid hi
  have HM := Lib.hid hm
  have hnm := (hn s[i] (List.getElem_mem hi')).1
  have C := Lib.hid (fun n W hb => materialOf_any A l c n W hl (h.below hb) : ∀ n W, Below w.heap.size w W → _)
  have x1 : (0 : Int) ≤ (i : Int) := by omega
  have x2 : (i : Int) < (s.length : Int) := by omega
  have x3 : (i : Int) ≤ (c2 : Int) := by omega
  have hH2 := Lib.hid h2
  clear hcs hi h h2 hm hn
  obtain ⟨j, hij⟩ : ∃ j, i = j + 1 := ⟨i - 1, by omega⟩
  have hjl : j < s.length := by omega
  have hj : s[j]? = some s[j] := List.getElem?_eq_getElem hjl
  have p1 := HCS.out j _ hj 1 _ rfl
  have CZ := Lib.hid (C.out s[j].mat)
  have hmj' : matOf l s[j].mat = some u := by
    have e : j = i - 1 := by omega
    subst e
    exact hmj
  rw [hmj'] at CZ
  simp only [Option.getD_some] at CZ
  have e0 : ((i : Int) == 0) = false := by simp; omega
  have e1 : IntKind.i64.wrap ((i : Int) - 1) = (i : Int) - 1 := IntWalk.i64_in _ (by omega)
  have e3 : (0 : Int) ≤ (i : Int) - 1 := by omega
  have e4 : (i : Int) - 1 < (s.length : Int) := by omega
  have e5 : ((i : Int) - 1).toNat = j := by omega
  have HIJ := Lib.hid hij
  clear hj hmj hmj' h0 hij
  generalize s[j] = z9 at *
  have CW := Lib.hid (fun (W : World) => hw ▸ rIsWord_any s[i].name W hnm)
  have HTW := Lib.hid htw
  have CY := Lib.hid (C.out s[i].mat)
  rw [hmo] at CY
  generalize s[i] = y at *
  simp only [Option.getD_some] at CY
  clear hmo
  obtain ⟨xn, xk, xt, xg⟩ := x
  simp only at hk CY
  subst hk
  clear hw htw
  obtain ⟨un, uk, ut, ug⟩ := u
  simp only at hu CZ
  have d5 : (uk == 1) = false := by simpa using hu
  clear hu
  have hf1 := matField1
  go_enter Try.func60, Try.ntmps60
  go_wp2_with fail
  refine (CY.out _ (by (repeat' (first | (with_reducible exact Below.refl _ _) | (with_reducible assumption) | (with_reducible refine Below.alloc ?_ ?_ _) | (with_reducible refine Below.drew ?_) | (with_reducible refine below_drewN ?_ _) | (with_reducible refine Below.setCell ?_ ?_ _) | (with_reducible exact Nat.le_refl _) | omega | (simp only [World.size_alloc, World.size_setCell, World.size_drew]; omega) | (simp; omega) | (simp; done))))).mono ?_
  rintro e w1 ⟨rfl, hb⟩
  have B1 := Lib.hid hb
  have E0 : w1.cell? ⟨b, off + i * 2, none⟩ = some (.string y.name) := ((bcell hb).1 _ _ hblt).trans c0
  have E1 : w1.cell? ⟨b, off + i * 2 + 1, none⟩ = some (.string y.mat) := ((bcell hb).1 _ _ hblt).trans c1
  have z1 := hb.size
  clear hb
  go_wp2_with (go_at_call 58; refine (CW.out _).mono ?_; rintro e w2 ⟨rfl, rfl⟩)
  have H2W := Lib.hid (fun W hb => hH2.out.below hb : ∀ W, Below w.heap.size w W → _)
  go_loopw [50] (fun t wr => ∃ k : Nat, k ≤ i ∧ t = .int .i64 k ∧ ((s.take k).any fun z => decide (z.name = y.name)) = false ∧ Below w.heap.size w wr) (fun t _ => i - (intOf t).toNat)
  case atStart => exact ⟨0, Nat.zero_le _, rfl, rfl, B1.out⟩
  case round =>
    obtain ⟨k, hk, rfl, ha, hw⟩ := hrel
    have HA := Lib.hid ha
    have HW := Lib.hid hw
    have zw := hw.size
    have y0 : wr.cell? ⟨b, off + i * 2, none⟩ = some (.string y.name) := ((bcell hw).1 _ _ hblt).trans c0
    have hblw : b < wr.heap.size := Nat.lt_of_lt_of_le hblt zw
    clear ha hw
    have hkz : (0 : Int) ≤ (k : Int) := by omega
    by_cases hlt : k < i
    · have hks : s[k]? = some s[k] := List.getElem?_eq_getElem (by omega)
      have g0 := ((bcell HW.out).1 _ _ hblt).trans (by simpa using HCS.out k _ hks 0 _ rfl)
      have g1 := ((bcell HW.out).1 _ _ hblt).trans (HCS.out k _ hks 1 _ rfl)
      have HT := Lib.hid (show ((s.take (k + 1)).any fun z => decide (z.name = y.name)) = (((s.take k).any fun z => decide (z.name = y.name)) || decide (s[k].name = y.name)) by rw [List.take_add_one, hks, List.any_append]; simp)
      have HM2 := Lib.hid (show s[k] ∈ s.take i from List.mem_take_iff_getElem.2 ⟨k, by omega, rfl⟩)
      clear hks
      generalize s[k] = z at *
      have a0 : ∀ (cs : Array Value) (t : TypeId), (wr.alloc (.cells cs t)).cell? ⟨b, off + i * 2, none⟩ = some (.string y.name) := fun cs t => (World.cell?_alloc_lt _ _ _ hblw).trans y0
      by_cases he : z.name = y.name
      · exact absurd (List.any_eq_true.2 ⟨z, HM2.out, decide_eq_true he⟩) (by rw [HTW.out]; decide)
      · have f1 : (z.name.toList == y.name.toList) = false := eqS_false.2 he
        have HN := Lib.hid (show ((s.take (k + 1)).any fun z => decide (z.name = y.name)) = false by rw [HT.out, HA.out, decide_eq_false he]; rfl)
        clear he
        go_wp2_with fail
        go_quiet (fail)
        go_wp2_with fail
        go_roundw
        case rel => exact ⟨k + 1, by omega, by go_num, HN.out, by have := HW.out; exact below_drewN (by (repeat' (first | (with_reducible exact Below.refl _ _) | (with_reducible assumption) | (with_reducible refine Below.alloc ?_ ?_ _) | (with_reducible refine Below.drew ?_) | (with_reducible refine below_drewN ?_ _) | (with_reducible refine Below.setCell ?_ ?_ _) | (with_reducible exact Nat.le_refl _) | omega | (simp only [World.size_alloc, World.size_setCell, World.size_drew]; omega) | (simp; omega) | (simp; done)))) _⟩
        case measure => simp [intOf]; omega
    · obtain rfl : k = i := by omega
      have P1 : wr.cell? ⟨b, off + j * 2 + 1, none⟩ = some (.string z9.mat) := ((bcell HW.out).1 _ _ hblt).trans p1
      go_wp2_with fail
      refine (CZ.out _ HW.out).mono ?_
      rintro e w3 ⟨rfl, hb⟩
      have B3 := Lib.hid (HW.out.trans (hb.mono zw))
      clear hb
      go_wp2_with fail
      all_goals
        go_ret
        exact ⟨rfl, B3.out⟩
set_option maxHeartbeats 2000000 in
theorem checkLayer_cuclash (A2 : Option Addr) (s : List Lay) (c2 : Nat) (i : Nat) (hi' : i < s.length) (hc2 : s.length ≤ c2) (hc3 : c2 ≤ 140737488355328) (hl : l.length ≤ 140737488355328) (hm : ∀ x ∈ l, matF x = 0) (hn : ∀ y ∈ s, y.name.size ≤ maxLen ∧ y.mat.size ≤ maxLen) (h : RdG 4 Mat.cs w A l) (h2 : RdG 2 Lay.cs w A2 s) {x u : Mat} (hmo : matOf l s[i].mat = some x) (hk : x.kind = 1) (hw : wordB s[i].name = true) (htw : ((s.take i).any fun z => decide (z.name = s[i].name)) = false) (h0 : i ≠ 0) (hmj : matOf l s[i - 1].mat = some u) (hu : u.kind = 1) :
    Calls Try.prog 60 #[.slice A l.length c, .slice A2 s.length c2, .int .i64 (i : Nat)] w fun e w' => e = .returned (.int .i64 8) ∧ Below w.heap.size w w' := by
  have hi : s[i]? = some s[i] := List.getElem?_eq_getElem hi'
  obtain ⟨b, off, rfl, hblt, hcs⟩ := h2 (by omega)
  have c0 := by simpa using hcs i _ hi 0 _ rfl
  have c1 := hcs i _ hi 1 _ rfl
  have HCS := Lib.hid hcs
  have HI := Lib.hid hi
  have HM := Lib.hid hm
  have hnm := (hn s[i] (List.getElem_mem hi')).1
  have C := Lib.hid (fun n W hb => materialOf_any A l c n W hl (h.below hb) : ∀ n W, Below w.heap.size w W → _)
  have x1 : (0 : Int) ≤ (i : Int) := by omega
  have x2 : (i : Int) < (s.length : Int) := by omega
  have x3 : (i : Int) ≤ (c2 : Int) := by omega
  have hH2 := Lib.hid h2
  clear hcs hi h h2 hm hn
  obtain ⟨j, hij⟩ : ∃ j, i = j + 1 := ⟨i - 1, by omega⟩
  have hjl : j < s.length := by omega
  have hj : s[j]? = some s[j] := List.getElem?_eq_getElem hjl
  have p1 := HCS.out j _ hj 1 _ rfl
  have CZ := Lib.hid (C.out s[j].mat)
  have hmj' : matOf l s[j].mat = some u := by
    have e : j = i - 1 := by omega
    subst e
    exact hmj
  rw [hmj'] at CZ
  simp only [Option.getD_some] at CZ
  have e0 : ((i : Int) == 0) = false := by simp; omega
  have e1 : IntKind.i64.wrap ((i : Int) - 1) = (i : Int) - 1 := IntWalk.i64_in _ (by omega)
  have e3 : (0 : Int) ≤ (i : Int) - 1 := by omega
  have e4 : (i : Int) - 1 < (s.length : Int) := by omega
  have e5 : ((i : Int) - 1).toNat = j := by omega
  have HIJ := Lib.hid hij
  clear hj hmj hmj' h0 hij
  generalize s[j] = z9 at *
  have CW := Lib.hid (fun (W : World) => hw ▸ rIsWord_any s[i].name W hnm)
  have HTW := Lib.hid htw
  have CY := Lib.hid (C.out s[i].mat)
  rw [hmo] at CY
  generalize s[i] = y at *
  simp only [Option.getD_some] at CY
  clear hmo
  obtain ⟨xn, xk, xt, xg⟩ := x
  simp only at hk CY
  subst hk
  clear hw htw
  obtain ⟨un, uk, ut, ug⟩ := u
  simp only at hu CZ
  subst hu
  have hf1 := matField1
  go_enter Try.func60, Try.ntmps60
  go_wp2_with fail
  refine (CY.out _ (by (repeat' (first | (with_reducible exact Below.refl _ _) | (with_reducible assumption) | (with_reducible refine Below.alloc ?_ ?_ _) | (with_reducible refine Below.drew ?_) | (with_reducible refine below_drewN ?_ _) | (with_reducible refine Below.setCell ?_ ?_ _) | (with_reducible exact Nat.le_refl _) | omega | (simp only [World.size_alloc, World.size_setCell, World.size_drew]; omega) | (simp; omega) | (simp; done))))).mono ?_
  rintro e w1 ⟨rfl, hb⟩
  have B1 := Lib.hid hb
  have E0 : w1.cell? ⟨b, off + i * 2, none⟩ = some (.string y.name) := ((bcell hb).1 _ _ hblt).trans c0
  have E1 : w1.cell? ⟨b, off + i * 2 + 1, none⟩ = some (.string y.mat) := ((bcell hb).1 _ _ hblt).trans c1
  have z1 := hb.size
  clear hb
  go_wp2_with (go_at_call 58; refine (CW.out _).mono ?_; rintro e w2 ⟨rfl, rfl⟩)
  have H2W := Lib.hid (fun W hb => hH2.out.below hb : ∀ W, Below w.heap.size w W → _)
  go_loopw [50] (fun t wr => ∃ k : Nat, k ≤ i ∧ t = .int .i64 k ∧ ((s.take k).any fun z => decide (z.name = y.name)) = false ∧ Below w.heap.size w wr) (fun t _ => i - (intOf t).toNat)
  case atStart => exact ⟨0, Nat.zero_le _, rfl, rfl, B1.out⟩
  case round =>
    obtain ⟨k, hk, rfl, ha, hw⟩ := hrel
    have HA := Lib.hid ha
    have HW := Lib.hid hw
    have zw := hw.size
    have y0 : wr.cell? ⟨b, off + i * 2, none⟩ = some (.string y.name) := ((bcell hw).1 _ _ hblt).trans c0
    have hblw : b < wr.heap.size := Nat.lt_of_lt_of_le hblt zw
    clear ha hw
    have hkz : (0 : Int) ≤ (k : Int) := by omega
    by_cases hlt : k < i
    · have hks : s[k]? = some s[k] := List.getElem?_eq_getElem (by omega)
      have g0 := ((bcell HW.out).1 _ _ hblt).trans (by simpa using HCS.out k _ hks 0 _ rfl)
      have g1 := ((bcell HW.out).1 _ _ hblt).trans (HCS.out k _ hks 1 _ rfl)
      have HT := Lib.hid (show ((s.take (k + 1)).any fun z => decide (z.name = y.name)) = (((s.take k).any fun z => decide (z.name = y.name)) || decide (s[k].name = y.name)) by rw [List.take_add_one, hks, List.any_append]; simp)
      have HM2 := Lib.hid (show s[k] ∈ s.take i from List.mem_take_iff_getElem.2 ⟨k, by omega, rfl⟩)
      clear hks
      generalize s[k] = z at *
      have a0 : ∀ (cs : Array Value) (t : TypeId), (wr.alloc (.cells cs t)).cell? ⟨b, off + i * 2, none⟩ = some (.string y.name) := fun cs t => (World.cell?_alloc_lt _ _ _ hblw).trans y0
      by_cases he : z.name = y.name
      · exact absurd (List.any_eq_true.2 ⟨z, HM2.out, decide_eq_true he⟩) (by rw [HTW.out]; decide)
      · have f1 : (z.name.toList == y.name.toList) = false := eqS_false.2 he
        have HN := Lib.hid (show ((s.take (k + 1)).any fun z => decide (z.name = y.name)) = false by rw [HT.out, HA.out, decide_eq_false he]; rfl)
        clear he
        go_wp2_with fail
        go_quiet (fail)
        go_wp2_with fail
        go_roundw
        case rel => exact ⟨k + 1, by omega, by go_num, HN.out, by have := HW.out; exact below_drewN (by (repeat' (first | (with_reducible exact Below.refl _ _) | (with_reducible assumption) | (with_reducible refine Below.alloc ?_ ?_ _) | (with_reducible refine Below.drew ?_) | (with_reducible refine below_drewN ?_ _) | (with_reducible refine Below.setCell ?_ ?_ _) | (with_reducible exact Nat.le_refl _) | omega | (simp only [World.size_alloc, World.size_setCell, World.size_drew]; omega) | (simp; omega) | (simp; done)))) _⟩
        case measure => simp [intOf]; omega
    · obtain rfl : k = i := by omega
      have P1 : wr.cell? ⟨b, off + j * 2 + 1, none⟩ = some (.string z9.mat) := ((bcell HW.out).1 _ _ hblt).trans p1
      go_wp2_with fail
      refine (CZ.out _ HW.out).mono ?_
      rintro e w3 ⟨rfl, hb⟩
      have B3 := Lib.hid (HW.out.trans (hb.mono zw))
      clear hb
      go_wp2_with fail
      all_goals
        go_ret
        exact ⟨rfl, B3.out⟩
end
end Go.Proofs.Ytdlglnkhhbkndaa

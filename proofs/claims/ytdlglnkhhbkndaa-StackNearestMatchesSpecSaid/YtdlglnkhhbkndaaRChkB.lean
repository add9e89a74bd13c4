/- A layer that is no copper, behind another one: what the reference says, whatever the world. -/
import Derived.Test.YtdlglnkhhbkndaaRChkA
namespace Go.Proofs.Ytdlglnkhhbkndaa
open Go.RowKit
set_option linter.unusedSimpArgs false
set_option linter.unusedVariables false
set_option maxRecDepth 100000
section
variable {A : Option Addr} {l : List Mat} {c : Nat} {w : World}
set_option maxHeartbeats 2000000 in
theorem checkLayer_m21 (A2 : Option Addr) (s : List Lay) (c2 : Nat) (i : Nat) (hi' : i < s.length) (hc2 : s.length ≤ c2) (hc3 : c2 ≤ 140737488355328) (hl : l.length ≤ 140737488355328) (hm : ∀ x ∈ l, matF x = 0) (hn : ∀ y ∈ s, y.name.size ≤ maxLen ∧ y.mat.size ≤ maxLen) (h : RdG 4 Mat.cs w A l) (h2 : RdG 2 Lay.cs w A2 s) {x u : Mat} (hmo : matOf l s[i].mat = some x) (hk : x.kind = 2) (hw : s[i].name = ByteArray.empty) (h0 : i ≠ 0) (hmj : matOf l s[i - 1].mat = some u) (hu : u.kind = 1) :
    Calls Try.prog 60 #[.slice A l.length c, .slice A2 s.length c2, .int .i64 (i : Nat)] w fun e w' => e = .returned (.int .i64 0) ∧ Below w.heap.size w w' := by
  have hi : s[i]? = some s[i] := List.getElem?_eq_getElem hi'
  obtain ⟨b, off, rfl, hblt, hcs⟩ := h2 (by omega)
  have c0 := by simpa using hcs i _ hi 0 _ rfl
  have c1 := hcs i _ hi 1 _ rfl
  have HCS := Lib.hid hcs
  have HI := Lib.hid hi
  have HM := Lib.hid hm
  have hnm := (hn s[i] (List.getElem_mem hi')).1
  have C := Lib.hid (fun n W hb => materialOf_any A l c n W hl (h.below hb) : ∀ n W, Below w.heap.size w W → _)
  have x1 : (0 : Int) ≤ (i : Int) := by omega
  have x2 : (i : Int) < (s.length : Int) := by omega
  have x3 : (i : Int) ≤ (c2 : Int) := by omega
  have hH2 := Lib.hid h2
  clear hcs hi h h2 hm hn
  obtain ⟨j, hij⟩ : ∃ j, i = j + 1 := ⟨i - 1, by omega⟩
  have hjl : j < s.length := by omega
  have hj : s[j]? = some s[j] := List.getElem?_eq_getElem hjl
  have p1 := HCS.out j _ hj 1 _ rfl
  have CZ := Lib.hid (C.out s[j].mat)
  have hmj' : matOf l s[j].mat = some u := by
    have e : j = i - 1 := by omega
    subst e
    exact hmj
  rw [hmj'] at CZ
  simp only [Option.getD_some] at CZ
  have e0 : ((i : Int) == 0) = false := by simp; omega
  have e1 : IntKind.i64.wrap ((i : Int) - 1) = (i : Int) - 1 := IntWalk.i64_in _ (by omega)
  have e3 : (0 : Int) ≤ (i : Int) - 1 := by omega
  have e4 : (i : Int) - 1 < (s.length : Int) := by omega
  have e5 : ((i : Int) - 1).toNat = j := by omega
  have HIJ := Lib.hid hij
  clear hj hmj hmj' h0 hij
  generalize s[j] = z9 at *
  have CY := Lib.hid (C.out s[i].mat)
  rw [hmo] at CY
  generalize s[i] = y at *
  simp only [Option.getD_some] at CY
  clear hmo
  have n0 : y.name.toList = [] := by rw [hw, ByteArray.toList_eq]; rfl
  have n1 : (y.name.toList == []) = true := by rw [n0]; rfl
  have n2 : (y.name.toList != []) = false := by rw [n0]; rfl
  have n3 : y.name.toList.isEmpty = true := by rw [n0]; rfl
  have n4 : (!y.name.toList.isEmpty) = false := by rw [n3]; rfl
  clear hw n0
  obtain ⟨xn, xk, xt, xg⟩ := x
  obtain ⟨un, uk, ut, ug⟩ := u
  simp only at hk hu CY CZ
  subst hk hu
  have hf1 := matField1
  go_enter Try.func60, Try.ntmps60
  go_wp2_with fail
  refine (CY.out _ (by (repeat' (first | (with_reducible exact Below.refl _ _) | (with_reducible assumption) | (with_reducible refine Below.alloc ?_ ?_ _) | (with_reducible refine Below.drew ?_) | (with_reducible refine below_drewN ?_ _) | (with_reducible refine Below.setCell ?_ ?_ _) | (with_reducible exact Nat.le_refl _) | omega | (simp only [World.size_alloc, World.size_setCell, World.size_drew]; omega) | (simp; omega) | (simp; done))))).mono ?_
  rintro e w1 ⟨rfl, hb⟩
  have B1 := Lib.hid hb
  have E0 : w1.cell? ⟨b, off + i * 2, none⟩ = some (.string y.name) := ((bcell hb).1 _ _ hblt).trans c0
  have E1 : w1.cell? ⟨b, off + i * 2 + 1, none⟩ = some (.string y.mat) := ((bcell hb).1 _ _ hblt).trans c1
  have z1 := hb.size
  clear hb
  have P1 : w1.cell? ⟨b, off + j * 2 + 1, none⟩ = some (.string z9.mat) := ((bcell B1.out).1 _ _ hblt).trans p1
  go_wp2_with fail
  refine (CZ.out _ B1.out).mono ?_
  rintro e w3 ⟨rfl, hb⟩
  have B3 := Lib.hid (B1.out.trans (hb.mono z1))
  clear hb
  go_wp2_with fail
  go_ret
  exact ⟨rfl, B3.out⟩
set_option maxHeartbeats 2000000 in
theorem checkLayer_m22 (A2 : Option Addr) (s : List Lay) (c2 : Nat) (i : Nat) (hi' : i < s.length) (hc2 : s.length ≤ c2) (hc3 : c2 ≤ 140737488355328) (hl : l.length ≤ 140737488355328) (hm : ∀ x ∈ l, matF x = 0) (hn : ∀ y ∈ s, y.name.size ≤ maxLen ∧ y.mat.size ≤ maxLen) (h : RdG 4 Mat.cs w A l) (h2 : RdG 2 Lay.cs w A2 s) {x u : Mat} (hmo : matOf l s[i].mat = some x) (hk : x.kind = 2) (hw : s[i].name = ByteArray.empty) (h0 : i ≠ 0) (hmj : matOf l s[i - 1].mat = some u) (hu : u.kind = 2) :
    Calls Try.prog 60 #[.slice A l.length c, .slice A2 s.length c2, .int .i64 (i : Nat)] w fun e w' => e = .returned (.int .i64 8) ∧ Below w.heap.size w w' := by
  have hi : s[i]? = some s[i] := List.getElem?_eq_getElem hi'
  obtain ⟨b, off, rfl, hblt, hcs⟩ := h2 (by omega)
  have c0 := by simpa using hcs i _ hi 0 _ rfl
  have c1 := hcs i _ hi 1 _ rfl
  have HCS := Lib.hid hcs
  have HI := Lib.hid hi
  have HM := Lib.hid hm
  have hnm := (hn s[i] (List.getElem_mem hi')).1
  have C := Lib.hid (fun n W hb => materialOf_any A l c n W hl (h.below hb) : ∀ n W, Below w.heap.size w W → _)
  have x1 : (0 : Int) ≤ (i : Int) := by omega
  have x2 : (i : Int) < (s.length : Int) := by omega
  have x3 : (i : Int) ≤ (c2 : Int) := by omega
  have hH2 := Lib.hid h2
  clear hcs hi h h2 hm hn
  obtain ⟨j, hij⟩ : ∃ j, i = j + 1 := ⟨i - 1, by omega⟩
  have hjl : j < s.length := by omega
  have hj : s[j]? = some s[j] := List.getElem?_eq_getElem hjl
  have p1 := HCS.out j _ hj 1 _ rfl
  have CZ := Lib.hid (C.out s[j].mat)
  have hmj' : matOf l s[j].mat = some u := by
    have e : j = i - 1 := by omega
    subst e
    exact hmj
  rw [hmj'] at CZ
  simp only [Option.getD_some] at CZ
  have e0 : ((i : Int) == 0) = false := by simp; omega
  have e1 : IntKind.i64.wrap ((i : Int) - 1) = (i : Int) - 1 := IntWalk.i64_in _ (by omega)
  have e3 : (0 : Int) ≤ (i : Int) - 1 := by omega
  have e4 : (i : Int) - 1 < (s.length : Int) := by omega
  have e5 : ((i : Int) - 1).toNat = j := by omega
  have HIJ := Lib.hid hij
  clear hj hmj hmj' h0 hij
  generalize s[j] = z9 at *
  have CY := Lib.hid (C.out s[i].mat)
  rw [hmo] at CY
  generalize s[i] = y at *
  simp only [Option.getD_some] at CY
  clear hmo
  have n0 : y.name.toList = [] := by rw [hw, ByteArray.toList_eq]; rfl
  have n1 : (y.name.toList == []) = true := by rw [n0]; rfl
  have n2 : (y.name.toList != []) = false := by rw [n0]; rfl
  have n3 : y.name.toList.isEmpty = true := by rw [n0]; rfl
  have n4 : (!y.name.toList.isEmpty) = false := by rw [n3]; rfl
  clear hw n0
  obtain ⟨xn, xk, xt, xg⟩ := x
  obtain ⟨un, uk, ut, ug⟩ := u
  simp only at hk hu CY CZ
  subst hk hu
  have hf1 := matField1
  go_enter Try.func60, Try.ntmps60
  go_wp2_with fail
  refine (CY.out _ (by (repeat' (first | (with_reducible exact Below.refl _ _) | (with_reducible assumption) | (with_reducible refine Below.alloc ?_ ?_ _) | (with_reducible refine Below.drew ?_) | (with_reducible refine below_drewN ?_ _) | (with_reducible refine Below.setCell ?_ ?_ _) | (with_reducible exact Nat.le_refl _) | omega | (simp only [World.size_alloc, World.size_setCell, World.size_drew]; omega) | (simp; omega) | (simp; done))))).mono ?_
  rintro e w1 ⟨rfl, hb⟩
  have B1 := Lib.hid hb
  have E0 : w1.cell? ⟨b, off + i * 2, none⟩ = some (.string y.name) := ((bcell hb).1 _ _ hblt).trans c0
  have E1 : w1.cell? ⟨b, off + i * 2 + 1, none⟩ = some (.string y.mat) := ((bcell hb).1 _ _ hblt).trans c1
  have z1 := hb.size
  clear hb
  have P1 : w1.cell? ⟨b, off + j * 2 + 1, none⟩ = some (.string z9.mat) := ((bcell B1.out).1 _ _ hblt).trans p1
  go_wp2_with fail
  refine (CZ.out _ B1.out).mono ?_
  rintro e w3 ⟨rfl, hb⟩
  have B3 := Lib.hid (B1.out.trans (hb.mono z1))
  clear hb
  go_wp2_with fail
  go_ret
  exact ⟨rfl, B3.out⟩
set_option maxHeartbeats 2000000 in
theorem checkLayer_m23 (A2 : Option Addr) (s : List Lay) (c2 : Nat) (i : Nat) (hi' : i < s.length) (hc2 : s.length ≤ c2) (hc3 : c2 ≤ 140737488355328) (hl : l.length ≤ 140737488355328) (hm : ∀ x ∈ l, matF x = 0) (hn : ∀ y ∈ s, y.name.size ≤ maxLen ∧ y.mat.size ≤ maxLen) (h : RdG 4 Mat.cs w A l) (h2 : RdG 2 Lay.cs w A2 s) {x u : Mat} (hmo : matOf l s[i].mat = some x) (hk : x.kind = 2) (hw : s[i].name = ByteArray.empty) (h0 : i ≠ 0) (hmj : matOf l s[i - 1].mat = some u) (hu : u.kind = 3) :
    Calls Try.prog 60 #[.slice A l.length c, .slice A2 s.length c2, .int .i64 (i : Nat)] w fun e w' => e = .returned (.int .i64 8) ∧ Below w.heap.size w w' := by
  have hi : s[i]? = some s[i] := List.getElem?_eq_getElem hi'
  obtain ⟨b, off, rfl, hblt, hcs⟩ := h2 (by omega)
  have c0 := by simpa using hcs i _ hi 0 _ rfl
  have c1 := hcs i _ hi 1 _ rfl
  have HCS := Lib.hid hcs
  have HI := Lib.hid hi
  have HM := Lib.hid hm
  have hnm := (hn s[i] (List.getElem_mem hi')).1
  have C := Lib.hid (fun n W hb => materialOf_any A l c n W hl (h.below hb) : ∀ n W, Below w.heap.size w W → _)
  have x1 : (0 : Int) ≤ (i : Int) := by omega
  have x2 : (i : Int) < (s.length : Int) := by omega
  have x3 : (i : Int) ≤ (c2 : Int) := by omega
  have hH2 := Lib.hid h2
  clear hcs hi h h2 hm hn
  obtain ⟨j, hij⟩ : ∃ j, i = j + 1 := ⟨i - 1, by omega⟩
  have hjl : j < s.length := by omega
  have hj : s[j]? = some s[j] := List.getElem?_eq_getElem hjl
  have p1 := HCS.out j _ hj 1 _ rfl
  have CZ := Lib.hid (C.out s[j].mat)
  have hmj' : matOf l s[j].mat = some u := by
    have e : j = i - 1 := by omega
    subst e
    exact hmj
  rw [hmj'] at CZ
  simp only [Option.getD_some] at CZ
  have e0 : ((i : Int) == 0) = false := by simp; omega
  have e1 : IntKind.i64.wrap ((i : Int) - 1) = (i : Int) - 1 := IntWalk.i64_in _ (by omega)
  have e3 : (0 : Int) ≤ (i : Int) - 1 := by omega
  have e4 : (i : Int) - 1 < (s.length : Int) := by omega
  have e5 : ((i : Int) - 1).toNat = j := by omega
  have HIJ := Lib.hid hij
  clear hj hmj hmj' h0 hij
  generalize s[j] = z9 at *
  have CY := Lib.hid (C.out s[i].mat)
  rw [hmo] at CY
  generalize s[i] = y at *
  simp only [Option.getD_some] at CY
  clear hmo
  have n0 : y.name.toList = [] := by rw [hw, ByteArray.toList_eq]; rfl
  have n1 : (y.name.toList == []) = true := by rw [n0]; rfl
  have n2 : (y.name.toList != []) = false := by rw [n0]; rfl
  have n3 : y.name.toList.isEmpty = true := by rw [n0]; rfl
  have n4 : (!y.name.toList.isEmpty) = false := by rw [n3]; rfl
  clear hw n0
  obtain ⟨xn, xk, xt, xg⟩ := x
  obtain ⟨un, uk, ut, ug⟩ := u
  simp only at hk hu CY CZ
  subst hk hu
  have hf1 := matField1
  go_enter Try.func60, Try.ntmps60
  go_wp2_with fail
  refine (CY.out _ (by (repeat' (first | (with_reducible exact Below.refl _ _) | (with_reducible assumption) | (with_reducible refine Below.alloc ?_ ?_ _) | (with_reducible refine Below.drew ?_) | (with_reducible refine below_drewN ?_ _) | (with_reducible refine Below.setCell ?_ ?_ _) | (with_reducible exact Nat.le_refl _) | omega | (simp only [World.size_alloc, World.size_setCell, World.size_drew]; omega) | (simp; omega) | (simp; done))))).mono ?_
  rintro e w1 ⟨rfl, hb⟩
  have B1 := Lib.hid hb
  have E0 : w1.cell? ⟨b, off + i * 2, none⟩ = some (.string y.name) := ((bcell hb).1 _ _ hblt).trans c0
  have E1 : w1.cell? ⟨b, off + i * 2 + 1, none⟩ = some (.string y.mat) := ((bcell hb).1 _ _ hblt).trans c1
  have z1 := hb.size
  clear hb
  have P1 : w1.cell? ⟨b, off + j * 2 + 1, none⟩ = some (.string z9.mat) := ((bcell B1.out).1 _ _ hblt).trans p1
  go_wp2_with fail
  refine (CZ.out _ B1.out).mono ?_
  rintro e w3 ⟨rfl, hb⟩
  have B3 := Lib.hid (B1.out.trans (hb.mono z1))
  clear hb
  go_wp2_with fail
  go_ret
  exact ⟨rfl, B3.out⟩
set_option maxHeartbeats 2000000 in
theorem checkLayer_m31 (A2 : Option Addr) (s : List Lay) (c2 : Nat) (i : Nat) (hi' : i < s.length) (hc2 : s.length ≤ c2) (hc3 : c2 ≤ 140737488355328) (hl : l.length ≤ 140737488355328) (hm : ∀ x ∈ l, matF x = 0) (hn : ∀ y ∈ s, y.name.size ≤ maxLen ∧ y.mat.size ≤ maxLen) (h : RdG 4 Mat.cs w A l) (h2 : RdG 2 Lay.cs w A2 s) {x u : Mat} (hmo : matOf l s[i].mat = some x) (hk : x.kind = 3) (hw : s[i].name = ByteArray.empty) (h0 : i ≠ 0) (hmj : matOf l s[i - 1].mat = some u) (hu : u.kind = 1) :
    Calls Try.prog 60 #[.slice A l.length c, .slice A2 s.length c2, .int .i64 (i : Nat)] w fun e w' => e = .returned (.int .i64 0) ∧ Below w.heap.size w w' := by
  have hi : s[i]? = some s[i] := List.getElem?_eq_getElem hi'
  obtain ⟨b, off, rfl, hblt, hcs⟩ := h2 (by omega)
  have c0 := by simpa using hcs i _ hi 0 _ rfl
  have c1 := hcs i _ hi 1 _ rfl
  have HCS := Lib.hid hcs
  have HI := Lib.hid hi
  have HM := Lib.hid hm
  have hnm := (hn s[i] (List.getElem_mem hi')).1
  have C := Lib.hid (fun n W hb => materialOf_any A l c n W hl (h.below hb) : ∀ n W, Below w.heap.size w W → _)
  have x1 : (0 : Int) ≤ (i : Int) := by omega
  have x2 : (i : Int) < (s.length : Int) := by omega
  have x3 : (i : Int) ≤ (c2 : Int) := by omega
  have hH2 := Lib.hid h2
  clear hcs hi h h2 hm hn
  obtain ⟨j, hij⟩ : ∃ j, i = j + 1 := ⟨i - 1, by omega⟩
  have hjl : j < s.length := by omega
  have hj : s[j]? = some s[j] := List.getElem?_eq_getElem hjl
  have p1 := HCS.out j _ hj 1 _ rfl
  have CZ := Lib.hid (C.out s[j].mat)
  have hmj' : matOf l s[j].mat = some u := by
    have e : j = i - 1 := by omega
    subst e
    exact hmj
  rw [hmj'] at CZ
  simp only [Option.getD_some] at CZ
  have e0 : ((i : Int) == 0) = false := by simp; omega
  have e1 : IntKind.i64.wrap ((i : Int) - 1) = (i : Int) - 1 := IntWalk.i64_in _ (by omega)
  have e3 : (0 : Int) ≤ (i : Int) - 1 := by omega
  have e4 : (i : Int) - 1 < (s.length : Int) := by omega
  have e5 : ((i : Int) - 1).toNat = j := by omega
  have HIJ := Lib.hid hij
  clear hj hmj hmj' h0 hij
  generalize s[j] = z9 at *
  have CY := Lib.hid (C.out s[i].mat)
  rw [hmo] at CY
  generalize s[i] = y at *
  simp only [Option.getD_some] at CY
  clear hmo
  have n0 : y.name.toList = [] := by rw [hw, ByteArray.toList_eq]; rfl
  have n1 : (y.name.toList == []) = true := by rw [n0]; rfl
  have n2 : (y.name.toList != []) = false := by rw [n0]; rfl
  have n3 : y.name.toList.isEmpty = true := by rw [n0]; rfl
  have n4 : (!y.name.toList.isEmpty) = false := by rw [n3]; rfl
  clear hw n0
  obtain ⟨xn, xk, xt, xg⟩ := x
  obtain ⟨un, uk, ut, ug⟩ := u
  simp only at hk hu CY CZ
  subst hk hu
  have hf1 := matField1
  go_enter Try.func60, Try.ntmps60
  go_wp2_with fail
  refine (CY.out _ (by (repeat' (first | (with_reducible exact Below.refl _ _) | (with_reducible assumption) | (with_reducible refine Below.alloc ?_ ?_ _) | (with_reducible refine Below.drew ?_) | (with_reducible refine below_drewN ?_ _) | (with_reducible refine Below.setCell ?_ ?_ _) | (with_reducible exact Nat.le_refl _) | omega | (simp only [World.size_alloc, World.size_setCell, World.size_drew]; omega) | (simp; omega) | (simp; done))))).mono ?_
  rintro e w1 ⟨rfl, hb⟩
  have B1 := Lib.hid hb
  have E0 : w1.cell? ⟨b, off + i * 2, none⟩ = some (.string y.name) := ((bcell hb).1 _ _ hblt).trans c0
  have E1 : w1.cell? ⟨b, off + i * 2 + 1, none⟩ = some (.string y.mat) := ((bcell hb).1 _ _ hblt).trans c1
  have z1 := hb.size
  clear hb
  have P1 : w1.cell? ⟨b, off + j * 2 + 1, none⟩ = some (.string z9.mat) := ((bcell B1.out).1 _ _ hblt).trans p1
  go_wp2_with fail
  refine (CZ.out _ B1.out).mono ?_
  rintro e w3 ⟨rfl, hb⟩
  have B3 := Lib.hid (B1.out.trans (hb.mono z1))
  clear hb
  go_wp2_with fail
  go_ret
  exact ⟨rfl, B3.out⟩
set_option maxHeartbeats 2000000 in
theorem checkLayer_m32 (A2 : Option Addr) (s : List Lay) (c2 : Nat) (i : Nat) (hi' : i < s.length) (hc2 : s.length ≤ c2) (hc3 : c2 ≤ 140737488355328) (hl : l.length ≤ 140737488355328) (hm : ∀ x ∈ l, matF x = 0) (hn : ∀ y ∈ s, y.name.size ≤ maxLen ∧ y.mat.size ≤ maxLen) (h : RdG 4 Mat.cs w A l) (h2 : RdG 2 Lay.cs w A2 s) {x u : Mat} (hmo : matOf l s[i].mat = some x) (hk : x.kind = 3) (hw : s[i].name = ByteArray.empty) (h0 : i ≠ 0) (hmj : matOf l s[i - 1].mat = some u) (hu : u.kind = 2) :
    Calls Try.prog 60 #[.slice A l.length c, .slice A2 s.length c2, .int .i64 (i : Nat)] w fun e w' => e = .returned (.int .i64 8) ∧ Below w.heap.size w w' := by
  have hi : s[i]? = some s[i] := List.getElem?_eq_getElem hi'
  obtain ⟨b, off, rfl, hblt, hcs⟩ := h2 (by omega)
  have c0 := by simpa using hcs i _ hi 0 _ rfl
  have c1 := hcs i _ hi 1 _ rfl
  have HCS := Lib.hid hcs
  have HI := Lib.hid hi
  have HM := Lib.hid hm
  have hnm := (hn s[i] (List.getElem_mem hi')).1
  have C := Lib.hid (fun n W hb => materialOf_any A l c n W hl (h.below hb) : ∀ n W, Below w.heap.size w W → _)
  have x1 : (0 : Int) ≤ (i : Int) := by omega
  have x2 : (i : Int) < (s.length : Int) := by omega
  have x3 : (i : Int) ≤ (c2 : Int) := by omega
  have hH2 := Lib.hid h2
  clear hcs hi h h2 hm hn
  obtain ⟨j, hij⟩ : ∃ j, i = j + 1 := ⟨i - 1, by omega⟩
  have hjl : j < s.length := by omega
  have hj : s[j]? = some s[j] := List.getElem?_eq_getElem hjl
  have p1 := HCS.out j _ hj 1 _ rfl
  have CZ := Lib.hid (C.out s[j].mat)
  have hmj' : matOf l s[j].mat = some u := by
    have e : j = i - 1 := by omega
    subst e
    exact hmj
  rw [hmj'] at CZ
  simp only [Option.getD_some] at CZ
  have e0 : ((i : Int) == 0) = false := by simp; omega
  have e1 : IntKind.i64.wrap ((i : Int) - 1) = (i : Int) - 1 := IntWalk.i64_in _ (by omega)
  have e3 : (0 : Int) ≤ (i : Int) - 1 := by omega
  have e4 : (i : Int) - 1 < (s.length : Int) := by omega
  have e5 : ((i : Int) - 1).toNat = j := by omega
  have HIJ := Lib.hid hij
  clear hj hmj hmj' h0 hij
  generalize s[j] = z9 at *
  have CY := Lib.hid (C.out s[i].mat)
  rw [hmo] at CY
  generalize s[i] = y at *
  simp only [Option.getD_some] at CY
  clear hmo
  have n0 : y.name.toList = [] := by rw [hw, ByteArray.toList_eq]; rfl
  have n1 : (y.name.toList == []) = true := by rw [n0]; rfl
  have n2 : (y.name.toList != []) = false := by rw [n0]; rfl
  have n3 : y.name.toList.isEmpty = true := by rw [n0]; rfl
  have n4 : (!y.name.toList.isEmpty) = false := by rw [n3]; rfl
  clear hw n0
  obtain ⟨xn, xk, xt, xg⟩ := x
  obtain ⟨un, uk, ut, ug⟩ := u
  simp only at hk hu CY CZ
  subst hk hu
  have hf1 := matField1
  go_enter Try.func60, Try.ntmps60
  go_wp2_with fail
  refine (CY.out _ (by (repeat' (first | (with_reducible exact Below.refl _ _) | (with_reducible assumption) | (with_reducible refine Below.alloc ?_ ?_ _) | (with_reducible refine Below.drew ?_) | (with_reducible refine below_drewN ?_ _) | (with_reducible refine Below.setCell ?_ ?_ _) | (with_reducible exact Nat.le_refl _) | omega | (simp only [World.size_alloc, World.size_setCell, World.size_drew]; omega) | (simp; omega) | (simp; done))))).mono ?_
  rintro e w1 ⟨rfl, hb⟩
  have B1 := Lib.hid hb
  have E0 : w1.cell? ⟨b, off + i * 2, none⟩ = some (.string y.name) := ((bcell hb).1 _ _ hblt).trans c0
  have E1 : w1.cell? ⟨b, off + i * 2 + 1, none⟩ = some (.string y.mat) := ((bcell hb).1 _ _ hblt).trans c1
  have z1 := hb.size
  clear hb
  have P1 : w1.cell? ⟨b, off + j * 2 + 1, none⟩ = some (.string z9.mat) := ((bcell B1.out).1 _ _ hblt).trans p1
  go_wp2_with fail
  refine (CZ.out _ B1.out).mono ?_
  rintro e w3 ⟨rfl, hb⟩
  have B3 := Lib.hid (B1.out.trans (hb.mono z1))
  clear hb
  go_wp2_with fail
  go_ret
  exact ⟨rfl, B3.out⟩
set_option maxHeartbeats 2000000 in
theorem checkLayer_m33 (A2 : Option Addr) (s : List Lay) (c2 : Nat) (i : Nat) (hi' : i < s.length) (hc2 : s.length ≤ c2) (hc3 : c2 ≤ 140737488355328) (hl : l.length ≤ 140737488355328) (hm : ∀ x ∈ l, matF x = 0) (hn : ∀ y ∈ s, y.name.size ≤ maxLen ∧ y.mat.size ≤ maxLen) (h : RdG 4 Mat.cs w A l) (h2 : RdG 2 Lay.cs w A2 s) {x u : Mat} (hmo : matOf l s[i].mat = some x) (hk : x.kind = 3) (hw : s[i].name = ByteArray.empty) (h0 : i ≠ 0) (hmj : matOf l s[i - 1].mat = some u) (hu : u.kind = 3) :
    Calls Try.prog 60 #[.slice A l.length c, .slice A2 s.length c2, .int .i64 (i : Nat)] w fun e w' => e = .returned (.int .i64 0) ∧ Below w.heap.size w w' := by
  have hi : s[i]? = some s[i] := List.getElem?_eq_getElem hi'
  obtain ⟨b, off, rfl, hblt, hcs⟩ := h2 (by omega)
  have c0 := by simpa using hcs i _ hi 0 _ rfl
  have c1 := hcs i _ hi 1 _ rfl
  have HCS := Lib.hid hcs
  have HI := Lib.hid hi
  have HM := Lib.hid hm
  have hnm := (hn s[i] (List.getElem_mem hi')).1
  have C := Lib.hid (fun n W hb => materialOf_any A l c n W hl (h.below hb) : ∀ n W, Below w.heap.size w W → _)
  have x1 : (0 : Int) ≤ (i : Int) := by omega
  have x2 : (i : Int) < (s.length : Int) := by omega
  have x3 : (i : Int) ≤ (c2 : Int) := by omega
  have hH2 := Lib.hid h2
  clear hcs hi h h2 hm hn
  obtain ⟨j, hij⟩ : ∃ j, i = j + 1 := ⟨i - 1, by omega⟩
  have hjl : j < s.length := by omega
  have hj : s[j]? = some s[j] := List.getElem?_eq_getElem hjl
  have p1 := HCS.out j _ hj 1 _ rfl
  have CZ := Lib.hid (C.out s[j].mat)
  have hmj' : matOf l s[j].mat = some u := by
    have e : j = i - 1 := by omega
    subst e
    exact hmj
  rw [hmj'] at CZ
  simp only [Option.getD_some] at CZ
  have e0 : ((i : Int) == 0) = false := by simp; omega
  have e1 : IntKind.i64.wrap ((i : Int) - 1) = (i : Int) - 1 := IntWalk.i64_in _ (by omega)
  have e3 : (0 : Int) ≤ (i : Int) - 1 := by omega
  have e4 : (i : Int) - 1 < (s.length : Int) := by omega
  have e5 : ((i : Int) - 1).toNat = j := by omega
  have HIJ := Lib.hid hij
  clear hj hmj hmj' h0 hij
  generalize s[j] = z9 at *
  have CY := Lib.hid (C.out s[i].mat)
  rw [hmo] at CY
  generalize s[i] = y at *
  simp only [Option.getD_some] at CY
  clear hmo
  have n0 : y.name.toList = [] := by rw [hw, ByteArray.toList_eq]; rfl
  have n1 : (y.name.toList == []) = true := by rw [n0]; rfl
  have n2 : (y.name.toList != []) = false := by rw [n0]; rfl
  have n3 : y.name.toList.isEmpty = true := by rw [n0]; rfl
  have n4 : (!y.name.toList.isEmpty) = false := by rw [n3]; rfl
  clear hw n0
  obtain ⟨xn, xk, xt, xg⟩ := x
  obtain ⟨un, uk, ut, ug⟩ := u
  simp only at hk hu CY CZ
  subst hk hu
  have hf1 := matField1
  go_enter Try.func60, Try.ntmps60
  go_wp2_with fail
  refine (CY.out _ (by (repeat' (first | (with_reducible exact Below.refl _ _) | (with_reducible assumption) | (with_reducible refine Below.alloc ?_ ?_ _) | (with_reducible refine Below.drew ?_) | (with_reducible refine below_drewN ?_ _) | (with_reducible refine Below.setCell ?_ ?_ _) | (with_reducible exact Nat.le_refl _) | omega | (simp only [World.size_alloc, World.size_setCell, World.size_drew]; omega) | (simp; omega) | (simp; done))))).mono ?_
  rintro e w1 ⟨rfl, hb⟩
  have B1 := Lib.hid hb
  have E0 : w1.cell? ⟨b, off + i * 2, none⟩ = some (.string y.name) := ((bcell hb).1 _ _ hblt).trans c0
  have E1 : w1.cell? ⟨b, off + i * 2 + 1, none⟩ = some (.string y.mat) := ((bcell hb).1 _ _ hblt).trans c1
  have z1 := hb.size
  clear hb
  have P1 : w1.cell? ⟨b, off + j * 2 + 1, none⟩ = some (.string z9.mat) := ((bcell B1.out).1 _ _ hblt).trans p1
  go_wp2_with fail
  refine (CZ.out _ B1.out).mono ?_
  rintro e w3 ⟨rfl, hb⟩
  have B3 := Lib.hid (B1.out.trans (hb.mono z1))
  clear hb
  go_wp2_with fail
  go_ret
  exact ⟨rfl, B3.out⟩
end
end Go.Proofs.Ytdlglnkhhbkndaa

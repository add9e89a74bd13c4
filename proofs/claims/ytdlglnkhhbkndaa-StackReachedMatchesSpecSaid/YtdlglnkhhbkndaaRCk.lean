/- Several texts in one: RChkA, RChkB, RChkC, RStack. -/
import Derived.Test.YtdlglnkhhbkndaaRFn
/- Whether a stack is right: what the reference of chapter 4 says of each layer, whatever the world. -/
namespace Go.Proofs.Ytdlglnkhhbkndaa
open Go.RowKit
set_option linter.unusedSimpArgs false
set_option linter.unusedVariables false
set_option maxRecDepth 100000

def layF (l : List Mat) (R : List Row) (y : Lay) : Int := match matOf l y.mat with | none => 9 | some x => rowF R (y.name, x)
theorem twice_eq {l : List Mat} {s : List Lay} {n : ByteArray} (hg : GoodR (s.map (rowOf l))) (hw : wordB n = true) : (s.any fun z => decide (z.name = n)) = (s.map (rowOf l)).any (fun q => isCu q && decide (q.1 = n)) := by
  rw [List.any_map]
  have key : ∀ z ∈ s, decide (z.name = n) = ((fun q : Row => isCu q && decide (q.1 = n)) ∘ rowOf l) z := by
   intro z hz
   by_cases he : z.name = n
   · have hr : rowOf l z ∈ s.map (rowOf l) := List.mem_map_of_mem hz
     cases hc : isCu (rowOf l z)
     · have := hg.e _ hr hc
       rw [← he, show z.name = ByteArray.empty from this] at hw
       cases hw
     · simp only [Function.comp, hc, Bool.true_and]
       rfl
   · simp [he, rowOf]
  rw [Bool.eq_iff_iff, List.any_eq_true, List.any_eq_true]
  constructor
  · rintro ⟨z, hz, h⟩
    exact ⟨z, hz, (key z hz) ▸ h⟩
  · rintro ⟨z, hz, h⟩
    exact ⟨z, hz, (key z hz).symm ▸ h⟩
theorem kind_cases {x : Mat} (h : matF x = 0) : x.kind = 1 ∨ x.kind = 2 ∨ x.kind = 3 := by
  have := matF_zero h
  omega
theorem rowF_cu {R : List Row} {n : ByteArray} {x : Mat} (hk : x.kind = 1) : rowF R (n, x) = if wordB n = false then 5 else if R.any (fun q => isCu q && decide (q.1 = n)) then 7 else if R.getLast?.all (fun q => decide (q.2.kind ≠ 1)) then 0 else 8 := by
  have hc : isCu (n, x) = true := by simp [isCu, hk]
  unfold rowF
  rw [hc]
  have e : ∀ b, meetB b x.kind = decide (b ≠ 1) := fun b => by simp [meetB, hk]
  simp only [e]
  cases wordB n <;> rfl
theorem rowF_no {R : List Row} {n : ByteArray} {x : Mat} (hk : x.kind ≠ 1) : rowF R (n, x) = if n ≠ ByteArray.empty then 5 else if R.getLast?.all (fun q => meetB q.2.kind x.kind) then 0 else 8 := by
  have hc : isCu (n, x) = false := by simp [isCu, hk]
  unfold rowF
  rw [hc]
  simp
section
variable {A : Option Addr} {l : List Mat} {c : Nat} {w : World}
set_option maxHeartbeats 2000000 in
theorem checkLayer_none (A2 : Option Addr) (s : List Lay) (c2 : Nat) (i : Nat) (hi' : i < s.length) (hc2 : s.length ≤ c2) (hc3 : c2 ≤ 140737488355328) (hl : l.length ≤ 140737488355328) (hm : ∀ x ∈ l, matF x = 0) (hn : ∀ y ∈ s, y.name.size ≤ maxLen ∧ y.mat.size ≤ maxLen) (h : RdG 4 Mat.cs w A l) (h2 : RdG 2 Lay.cs w A2 s) (hmo : matOf l s[i].mat = none) :
    Calls Try.prog 60 #[.slice A l.length c, .slice A2 s.length c2, .int .i64 (i : Nat)] w fun e w' => e = .returned (.int .i64 9) ∧ Below w.heap.size w w' := by
  have hi : s[i]? = some s[i] := List.getElem?_eq_getElem hi'
  obtain ⟨b, off, rfl, hblt, hcs⟩ := h2 (by omega)
  have c0 := by simpa using hcs i _ hi 0 _ rfl
  have c1 := hcs i _ hi 1 _ rfl
  have HCS := Lib.hid hcs
  have HI := Lib.hid hi
  have HM := Lib.hid hm
  have hnm := (hn s[i] (List.getElem_mem hi')).1
  have C := Lib.hid (fun n W hb => materialOf_any A l c n W hl (h.below hb) : ∀ n W, Below w.heap.size w W → _)
  have x1 : (0 : Int) ≤ (i : Int) := by omega
  have x2 : (i : Int) < (s.length : Int) := by omega
  have x3 : (i : Int) ≤ (c2 : Int) := by omega
  have hH2 := Lib.hid h2
  clear hcs hi h h2 hm hn
  have CY := Lib.hid (C.out s[i].mat)
  rw [hmo] at CY
  generalize s[i] = y at *
  clear hmo
  have hf1 := matField1
  go_enter Try.func60, Try.ntmps60
  go_wp2_with fail
  refine (CY.out _ (by (repeat' (first | (with_reducible exact Below.refl _ _) | (with_reducible assumption) | (with_reducible refine Below.alloc ?_ ?_ _) | (with_reducible refine Below.drew ?_) | (with_reducible refine below_drewN ?_ _) | (with_reducible refine Below.setCell ?_ ?_ _) | (with_reducible exact Nat.le_refl _) | omega | (simp only [World.size_alloc, World.size_setCell, World.size_drew]; omega) | (simp; omega) | (simp; done))))).mono ?_
  rintro e w1 ⟨rfl, hb⟩
  have B1 := Lib.hid hb
  have E0 : w1.cell? ⟨b, off + i * 2, none⟩ = some (.string y.name) := ((bcell hb).1 _ _ hblt).trans c0
  have E1 : w1.cell? ⟨b, off + i * 2 + 1, none⟩ = some (.string y.mat) := ((bcell hb).1 _ _ hblt).trans c1
  have z1 := hb.size
  clear hb
  go_wp2_with fail
  go_ret
  exact ⟨rfl, B1.out⟩
set_option maxHeartbeats 2000000 in
theorem checkLayer_noword (A2 : Option Addr) (s : List Lay) (c2 : Nat) (i : Nat) (hi' : i < s.length) (hc2 : s.length ≤ c2) (hc3 : c2 ≤ 140737488355328) (hl : l.length ≤ 140737488355328) (hm : ∀ x ∈ l, matF x = 0) (hn : ∀ y ∈ s, y.name.size ≤ maxLen ∧ y.mat.size ≤ maxLen) (h : RdG 4 Mat.cs w A l) (h2 : RdG 2 Lay.cs w A2 s) {x : Mat} (hmo : matOf l s[i].mat = some x) (hk : x.kind = 1) (hw : wordB s[i].name = false) :
    Calls Try.prog 60 #[.slice A l.length c, .slice A2 s.length c2, .int .i64 (i : Nat)] w fun e w' => e = .returned (.int .i64 5) ∧ Below w.heap.size w w' := by
  have hi : s[i]? = some s[i] := List.getElem?_eq_getElem hi'
  obtain ⟨b, off, rfl, hblt, hcs⟩ := h2 (by omega)
  have c0 := by simpa using hcs i _ hi 0 _ rfl
  have c1 := hcs i _ hi 1 _ rfl
  have HCS := Lib.hid hcs
  have HI := Lib.hid hi
  have HM := Lib.hid hm
  have hnm := (hn s[i] (List.getElem_mem hi')).1
  have C := Lib.hid (fun n W hb => materialOf_any A l c n W hl (h.below hb) : ∀ n W, Below w.heap.size w W → _)
  have x1 : (0 : Int) ≤ (i : Int) := by omega
  have x2 : (i : Int) < (s.length : Int) := by omega
  have x3 : (i : Int) ≤ (c2 : Int) := by omega
  have hH2 := Lib.hid h2
  clear hcs hi h h2 hm hn
  have CW := Lib.hid (fun (W : World) => hw ▸ rIsWord_any s[i].name W hnm)
  have CY := Lib.hid (C.out s[i].mat)
  rw [hmo] at CY
  generalize s[i] = y at *
  simp only [Option.getD_some] at CY
  clear hmo
  obtain ⟨xn, xk, xt, xg⟩ := x
  simp only at hk CY
  subst hk
  clear hw
  have hf1 := matField1
  go_enter Try.func60, Try.ntmps60
  go_wp2_with fail
  refine (CY.out _ (by (repeat' (first | (with_reducible exact Below.refl _ _) | (with_reducible assumption) | (with_reducible refine Below.alloc ?_ ?_ _) | (with_reducible refine Below.drew ?_) | (with_reducible refine below_drewN ?_ _) | (with_reducible refine Below.setCell ?_ ?_ _) | (with_reducible exact Nat.le_refl _) | omega | (simp only [World.size_alloc, World.size_setCell, World.size_drew]; omega) | (simp; omega) | (simp; done))))).mono ?_
  rintro e w1 ⟨rfl, hb⟩
  have B1 := Lib.hid hb
  have E0 : w1.cell? ⟨b, off + i * 2, none⟩ = some (.string y.name) := ((bcell hb).1 _ _ hblt).trans c0
  have E1 : w1.cell? ⟨b, off + i * 2 + 1, none⟩ = some (.string y.mat) := ((bcell hb).1 _ _ hblt).trans c1
  have z1 := hb.size
  clear hb
  go_wp2_with (go_at_call 58; refine (CW.out _).mono ?_; rintro e w2 ⟨rfl, rfl⟩)
  go_ret
  exact ⟨rfl, B1.out⟩
set_option maxHeartbeats 2000000 in
theorem checkLayer_named (A2 : Option Addr) (s : List Lay) (c2 : Nat) (i : Nat) (hi' : i < s.length) (hc2 : s.length ≤ c2) (hc3 : c2 ≤ 140737488355328) (hl : l.length ≤ 140737488355328) (hm : ∀ x ∈ l, matF x = 0) (hn : ∀ y ∈ s, y.name.size ≤ maxLen ∧ y.mat.size ≤ maxLen) (h : RdG 4 Mat.cs w A l) (h2 : RdG 2 Lay.cs w A2 s) {x : Mat} (hmo : matOf l s[i].mat = some x) (hk : x.kind ≠ 1) (hk0 : x.kind ≠ 0) (hw : s[i].name ≠ ByteArray.empty) :
    Calls Try.prog 60 #[.slice A l.length c, .slice A2 s.length c2, .int .i64 (i : Nat)] w fun e w' => e = .returned (.int .i64 5) ∧ Below w.heap.size w w' := by
  have hi : s[i]? = some s[i] := List.getElem?_eq_getElem hi'
  obtain ⟨b, off, rfl, hblt, hcs⟩ := h2 (by omega)
  have c0 := by simpa using hcs i _ hi 0 _ rfl
  have c1 := hcs i _ hi 1 _ rfl
  have HCS := Lib.hid hcs
  have HI := Lib.hid hi
  have HM := Lib.hid hm
  have hnm := (hn s[i] (List.getElem_mem hi')).1
  have C := Lib.hid (fun n W hb => materialOf_any A l c n W hl (h.below hb) : ∀ n W, Below w.heap.size w W → _)
  have x1 : (0 : Int) ≤ (i : Int) := by omega
  have x2 : (i : Int) < (s.length : Int) := by omega
  have x3 : (i : Int) ≤ (c2 : Int) := by omega
  have hH2 := Lib.hid h2
  clear hcs hi h h2 hm hn
  have CY := Lib.hid (C.out s[i].mat)
  rw [hmo] at CY
  generalize s[i] = y at *
  simp only [Option.getD_some] at CY
  clear hmo
  have hw1 : y.name.toList ≠ [] := fun e => hw (by rw [ByteArray.toList_eq] at e; cases hq : y.name with | mk a => rw [hq] at e; exact congrArg ByteArray.mk (Array.toList_inj.1 e))
  have n1 : (y.name.toList == []) = false := by simpa using hw1
  have n2 : (y.name.toList != []) = true := by simpa using hw1
  have n3 : y.name.toList.isEmpty = false := by simpa using hw1
  have n4 : (!y.name.toList.isEmpty) = true := by rw [n3]; rfl
  clear hw hw1
  obtain ⟨xn, xk, xt, xg⟩ := x
  simp only at hk hk0 CY
  have d1 : (xk == 1) = false := by simpa using hk
  have d2 : (xk == 0) = false := by simpa using hk0
  have d3 : (xk != 1) = true := by simpa using hk
  clear hk hk0
  have hf1 := matField1
  go_enter Try.func60, Try.ntmps60
  go_wp2_with fail
  refine (CY.out _ (by (repeat' (first | (with_reducible exact Below.refl _ _) | (with_reducible assumption) | (with_reducible refine Below.alloc ?_ ?_ _) | (with_reducible refine Below.drew ?_) | (with_reducible refine below_drewN ?_ _) | (with_reducible refine Below.setCell ?_ ?_ _) | (with_reducible exact Nat.le_refl _) | omega | (simp only [World.size_alloc, World.size_setCell, World.size_drew]; omega) | (simp; omega) | (simp; done))))).mono ?_
  rintro e w1 ⟨rfl, hb⟩
  have B1 := Lib.hid hb
  have E0 : w1.cell? ⟨b, off + i * 2, none⟩ = some (.string y.name) := ((bcell hb).1 _ _ hblt).trans c0
  have E1 : w1.cell? ⟨b, off + i * 2 + 1, none⟩ = some (.string y.mat) := ((bcell hb).1 _ _ hblt).trans c1
  have z1 := hb.size
  clear hb
  go_wp2_with fail
  go_ret
  exact ⟨rfl, B1.out⟩
set_option maxHeartbeats 2000000 in
theorem checkLayer_first (A2 : Option Addr) (s : List Lay) (c2 : Nat) (i : Nat) (hi' : i < s.length) (hc2 : s.length ≤ c2) (hc3 : c2 ≤ 140737488355328) (hl : l.length ≤ 140737488355328) (hm : ∀ x ∈ l, matF x = 0) (hn : ∀ y ∈ s, y.name.size ≤ maxLen ∧ y.mat.size ≤ maxLen) (h : RdG 4 Mat.cs w A l) (h2 : RdG 2 Lay.cs w A2 s) {x : Mat} (hmo : matOf l s[i].mat = some x) (hk : x.kind ≠ 1) (hk0 : x.kind ≠ 0) (hw : s[i].name = ByteArray.empty) (h0 : i = 0) :
    Calls Try.prog 60 #[.slice A l.length c, .slice A2 s.length c2, .int .i64 (i : Nat)] w fun e w' => e = .returned (.int .i64 0) ∧ Below w.heap.size w w' := by
  have hi : s[i]? = some s[i] := List.getElem?_eq_getElem hi'
  obtain ⟨b, off, rfl, hblt, hcs⟩ := h2 (by omega)
  have c0 := by simpa using hcs i _ hi 0 _ rfl
  have c1 := hcs i _ hi 1 _ rfl
  have HCS := Lib.hid hcs
  have HI := Lib.hid hi
  have HM := Lib.hid hm
  have hnm := (hn s[i] (List.getElem_mem hi')).1
  have C := Lib.hid (fun n W hb => materialOf_any A l c n W hl (h.below hb) : ∀ n W, Below w.heap.size w W → _)
  have x1 : (0 : Int) ≤ (i : Int) := by omega
  have x2 : (i : Int) < (s.length : Int) := by omega
  have x3 : (i : Int) ≤ (c2 : Int) := by omega
  have hH2 := Lib.hid h2
  clear hcs hi h h2 hm hn
  have CY := Lib.hid (C.out s[i].mat)
  rw [hmo] at CY
  generalize s[i] = y at *
  simp only [Option.getD_some] at CY
  clear hmo
  have n0 : y.name.toList = [] := by rw [hw, ByteArray.toList_eq]; rfl
  have n1 : (y.name.toList == []) = true := by rw [n0]; rfl
  have n2 : (y.name.toList != []) = false := by rw [n0]; rfl
  have n3 : y.name.toList.isEmpty = true := by rw [n0]; rfl
  have n4 : (!y.name.toList.isEmpty) = false := by rw [n3]; rfl
  clear hw n0
  obtain ⟨xn, xk, xt, xg⟩ := x
  simp only at hk hk0 CY
  have d1 : (xk == 1) = false := by simpa using hk
  have d2 : (xk == 0) = false := by simpa using hk0
  have d3 : (xk != 1) = true := by simpa using hk
  have e0 : ((i : Int) == 0) = true := by simp; omega
  clear hk hk0 h0
  have hf1 := matField1
  go_enter Try.func60, Try.ntmps60
  go_wp2_with fail
  refine (CY.out _ (by (repeat' (first | (with_reducible exact Below.refl _ _) | (with_reducible assumption) | (with_reducible refine Below.alloc ?_ ?_ _) | (with_reducible refine Below.drew ?_) | (with_reducible refine below_drewN ?_ _) | (with_reducible refine Below.setCell ?_ ?_ _) | (with_reducible exact Nat.le_refl _) | omega | (simp only [World.size_alloc, World.size_setCell, World.size_drew]; omega) | (simp; omega) | (simp; done))))).mono ?_
  rintro e w1 ⟨rfl, hb⟩
  have B1 := Lib.hid hb
  have E0 : w1.cell? ⟨b, off + i * 2, none⟩ = some (.string y.name) := ((bcell hb).1 _ _ hblt).trans c0
  have E1 : w1.cell? ⟨b, off + i * 2 + 1, none⟩ = some (.string y.mat) := ((bcell hb).1 _ _ hblt).trans c1
  have z1 := hb.size
  clear hb
  go_wp2_with fail
  go_ret
  exact ⟨rfl, B1.out⟩
end
end Go.Proofs.Ytdlglnkhhbkndaa
/- A layer that is no copper, behind another one: what the reference says, whatever the world. -/
namespace Go.Proofs.Ytdlglnkhhbkndaa
open Go.RowKit
set_option linter.unusedSimpArgs false
set_option linter.unusedVariables false
set_option maxRecDepth 100000
section
variable {A : Option Addr} {l : List Mat} {c : Nat} {w : World}
set_option maxHeartbeats 2000000 in
theorem checkLayer_m21 (A2 : Option Addr) (s : List Lay) (c2 : Nat) (i : Nat) (hi' : i < s.length) (hc2 : s.length ≤ c2) (hc3 : c2 ≤ 140737488355328) (hl : l.length ≤ 140737488355328) (hm : ∀ x ∈ l, matF x = 0) (hn : ∀ y ∈ s, y.name.size ≤ maxLen ∧ y.mat.size ≤ maxLen) (h : RdG 4 Mat.cs w A l) (h2 : RdG 2 Lay.cs w A2 s) {x u : Mat} (hmo : matOf l s[i].mat = some x) (hk : x.kind = 2) (hw : s[i].name = ByteArray.empty) (h0 : i ≠ 0) (hmj : matOf l s[i - 1].mat = some u) (hu : u.kind = 1) :
    Calls Try.prog 60 #[.slice A l.length c, .slice A2 s.length c2, .int .i64 (i : Nat)] w fun e w' => e = .returned (.int .i64 0) ∧ Below w.heap.size w w' := by
  have hi : s[i]? = some s[i] := List.getElem?_eq_getElem hi'
  obtain ⟨b, off, rfl, hblt, hcs⟩ := h2 (by omega)
  have c0 := by simpa using hcs i _ hi 0 _ rfl
  have c1 := hcs i _ hi 1 _ rfl
  have HCS := Lib.hid hcs
  have HI := Lib.hid hi
  have HM := Lib.hid hm
  have hnm := (hn s[i] (List.getElem_mem hi')).1
  have C := Lib.hid (fun n W hb => materialOf_any A l c n W hl (h.below hb) : ∀ n W, Below w.heap.size w W → _)
  have x1 : (0 : Int) ≤ (i : Int) := by omega
  have x2 : (i : Int) < (s.length : Int) := by omega
  have x3 : (i : Int) ≤ (c2 : Int) := by omega
  have hH2 := Lib.hid h2
  clear hcs hi h h2 hm hn
  obtain ⟨j, hij⟩ : ∃ j, i = j + 1 := ⟨i - 1, by omega⟩
  have hjl : j < s.length := by omega
  have hj : s[j]? = some s[j] := List.getElem?_eq_getElem hjl
  have p1 := HCS.out j _ hj 1 _ rfl
  have CZ := Lib.hid (C.out s[j].mat)
  have hmj' : matOf l s[j].mat = some u := by
    have e : j = i - 1 := by omega
    subst e
    exact hmj
  rw [hmj'] at CZ
  simp only [Option.getD_some] at CZ
  have e0 : ((i : Int) == 0) = false := by simp; omega
  have e1 : IntKind.i64.wrap ((i : Int) - 1) = (i : Int) - 1 := IntWalk.i64_in _ (by omega)
  have e3 : (0 : Int) ≤ (i : Int) - 1 := by omega
  have e4 : (i : Int) - 1 < (s.length : Int) := by omega
  have e5 : ((i : Int) - 1).toNat = j := by omega
  have HIJ := Lib.hid hij
  clear hj hmj hmj' h0 hij
  generalize s[j] = z9 at *
  have CY := Lib.hid (C.out s[i].mat)
  rw [hmo] at CY
  generalize s[i] = y at *
  simp only [Option.getD_some] at CY
  clear hmo
  have n0 : y.name.toList = [] := by rw [hw, ByteArray.toList_eq]; rfl
  have n1 : (y.name.toList == []) = true := by rw [n0]; rfl
  have n2 : (y.name.toList != []) = false := by rw [n0]; rfl
  have n3 : y.name.toList.isEmpty = true := by rw [n0]; rfl
  have n4 : (!y.name.toList.isEmpty) = false := by rw [n3]; rfl
  clear hw n0
  obtain ⟨xn, xk, xt, xg⟩ := x
  obtain ⟨un, uk, ut, ug⟩ := u
  simp only at hk hu CY CZ
  subst hk hu
  have hf1 := matField1
  go_enter Try.func60, Try.ntmps60
  go_wp2_with fail
  refine (CY.out _ (by (repeat' (first | (with_reducible exact Below.refl _ _) | (with_reducible assumption) | (with_reducible refine Below.alloc ?_ ?_ _) | (with_reducible refine Below.drew ?_) | (with_reducible refine below_drewN ?_ _) | (with_reducible refine Below.setCell ?_ ?_ _) | (with_reducible exact Nat.le_refl _) | omega | (simp only [World.size_alloc, World.size_setCell, World.size_drew]; omega) | (simp; omega) | (simp; done))))).mono ?_
  rintro e w1 ⟨rfl, hb⟩
  have B1 := Lib.hid hb
  have E0 : w1.cell? ⟨b, off + i * 2, none⟩ = some (.string y.name) := ((bcell hb).1 _ _ hblt).trans c0
  have E1 : w1.cell? ⟨b, off + i * 2 + 1, none⟩ = some (.string y.mat) := ((bcell hb).1 _ _ hblt).trans c1
  have z1 := hb.size
  clear hb
  have P1 : w1.cell? ⟨b, off + j * 2 + 1, none⟩ = some (.string z9.mat) := ((bcell B1.out).1 _ _ hblt).trans p1
  go_wp2_with fail
  refine (CZ.out _ B1.out).mono ?_
  rintro e w3 ⟨rfl, hb⟩
  have B3 := Lib.hid (B1.out.trans (hb.mono z1))
  clear hb
  go_wp2_with fail
  go_ret
  exact ⟨rfl, B3.out⟩
set_option maxHeartbeats 2000000 in
theorem checkLayer_m22 (A2 : Option Addr) (s : List Lay) (c2 : Nat) (i : Nat) (hi' : i < s.length) (hc2 : s.length ≤ c2) (hc3 : c2 ≤ 140737488355328) (hl : l.length ≤ 140737488355328) (hm : ∀ x ∈ l, matF x = 0) (hn : ∀ y ∈ s, y.name.size ≤ maxLen ∧ y.mat.size ≤ maxLen) (h : RdG 4 Mat.cs w A l) (h2 : RdG 2 Lay.cs w A2 s) {x u : Mat} (hmo : matOf l s[i].mat = some x) (hk : x.kind = 2) (hw : s[i].name = ByteArray.empty) (h0 : i ≠ 0) (hmj : matOf l s[i - 1].mat = some u) (hu : u.kind = 2) :
    Calls Try.prog 60 #[.slice A l.length c, .slice A2 s.length c2, .int .i64 (i : Nat)] w fun e w' => e = .returned (.int .i64 8) ∧ Below w.heap.size w w' := by
  have hi : s[i]? = some s[i] := List.getElem?_eq_getElem hi'
  obtain ⟨b, off, rfl, hblt, hcs⟩ := h2 (by omega)
  have c0 := by simpa using hcs i _ hi 0 _ rfl
  have c1 := hcs i _ hi 1 _ rfl
  have HCS := Lib.hid hcs
  have HI := Lib.hid hi
  have HM := Lib.hid hm
  have hnm := (hn s[i] (List.getElem_mem hi')).1
  have C := Lib.hid (fun n W hb => materialOf_any A l c n W hl (h.below hb) : ∀ n W, Below w.heap.size w W → _)
  have x1 : (0 : Int) ≤ (i : Int) := by omega
  have x2 : (i : Int) < (s.length : Int) := by omega
  have x3 : (i : Int) ≤ (c2 : Int) := by omega
  have hH2 := Lib.hid h2
  clear hcs hi h h2 hm hn
  obtain ⟨j, hij⟩ : ∃ j, i = j + 1 := ⟨i - 1, by omega⟩
  have hjl : j < s.length := by omega
  have hj : s[j]? = some s[j] := List.getElem?_eq_getElem hjl
  have p1 := HCS.out j _ hj 1 _ rfl
  have CZ := Lib.hid (C.out s[j].mat)
  have hmj' : matOf l s[j].mat = some u := by
    have e : j = i - 1 := by omega
    subst e
    exact hmj
  rw [hmj'] at CZ
  simp only [Option.getD_some] at CZ
  have e0 : ((i : Int) == 0) = false := by simp; omega
  have e1 : IntKind.i64.wrap ((i : Int) - 1) = (i : Int) - 1 := IntWalk.i64_in _ (by omega)
  have e3 : (0 : Int) ≤ (i : Int) - 1 := by omega
  have e4 : (i : Int) - 1 < (s.length : Int) := by omega
  have e5 : ((i : Int) - 1).toNat = j := by omega
  have HIJ := Lib.hid hij
  clear hj hmj hmj' h0 hij
  generalize s[j] = z9 at *
  have CY := Lib.hid (C.out s[i].mat)
  rw [hmo] at CY
  generalize s[i] = y at *
  simp only [Option.getD_some] at CY
  clear hmo
  have n0 : y.name.toList = [] := by rw [hw, ByteArray.toList_eq]; rfl
  have n1 : (y.name.toList == []) = true := by rw [n0]; rfl
  have n2 : (y.name.toList != []) = false := by rw [n0]; rfl
  have n3 : y.name.toList.isEmpty = true := by rw [n0]; rfl
  have n4 : (!y.name.toList.isEmpty) = false := by rw [n3]; rfl
  clear hw n0
  obtain ⟨xn, xk, xt, xg⟩ := x
  obtain ⟨un, uk, ut, ug⟩ := u
  simp only at hk hu CY CZ
  subst hk hu
  have hf1 := matField1
  go_enter Try.func60, Try.ntmps60
  go_wp2_with fail
  refine (CY.out _ (by (repeat' (first | (with_reducible exact Below.refl _ _) | (with_reducible assumption) | (with_reducible refine Below.alloc ?_ ?_ _) | (with_reducible refine Below.drew ?_) | (with_reducible refine below_drewN ?_ _) | (with_reducible refine Below.setCell ?_ ?_ _) | (with_reducible exact Nat.le_refl _) | omega | (simp only [World.size_alloc, World.size_setCell, World.size_drew]; omega) | (simp; omega) | (simp; done))))).mono ?_
  rintro e w1 ⟨rfl, hb⟩
  have B1 := Lib.hid hb
  have E0 : w1.cell? ⟨b, off + i * 2, none⟩ = some (.string y.name) := ((bcell hb).1 _ _ hblt).trans c0
  have E1 : w1.cell? ⟨b, off + i * 2 + 1, none⟩ = some (.string y.mat) := ((bcell hb).1 _ _ hblt).trans c1
  have z1 := hb.size
  clear hb
  have P1 : w1.cell? ⟨b, off + j * 2 + 1, none⟩ = some (.string z9.mat) := ((bcell B1.out).1 _ _ hblt).trans p1
  go_wp2_with fail
  refine (CZ.out _ B1.out).mono ?_
  rintro e w3 ⟨rfl, hb⟩
  have B3 := Lib.hid (B1.out.trans (hb.mono z1))
  clear hb
  go_wp2_with fail
  go_ret
  exact ⟨rfl, B3.out⟩
set_option maxHeartbeats 2000000 in
theorem checkLayer_m23 (A2 : Option Addr) (s : List Lay) (c2 : Nat) (i : Nat) (hi' : i < s.length) (hc2 : s.length ≤ c2) (hc3 : c2 ≤ 140737488355328) (hl : l.length ≤ 140737488355328) (hm : ∀ x ∈ l, matF x = 0) (hn : ∀ y ∈ s, y.name.size ≤ maxLen ∧ y.mat.size ≤ maxLen) (h : RdG 4 Mat.cs w A l) (h2 : RdG 2 Lay.cs w A2 s) {x u : Mat} (hmo : matOf l s[i].mat = some x) (hk : x.kind = 2) (hw : s[i].name = ByteArray.empty) (h0 : i ≠ 0) (hmj : matOf l s[i - 1].mat = some u) (hu : u.kind = 3) :
    Calls Try.prog 60 #[.slice A l.length c, .slice A2 s.length c2, .int .i64 (i : Nat)] w fun e w' => e = .returned (.int .i64 8) ∧ Below w.heap.size w w' := by
  have hi : s[i]? = some s[i] := List.getElem?_eq_getElem hi'
  obtain ⟨b, off, rfl, hblt, hcs⟩ := h2 (by omega)
  have c0 := by simpa using hcs i _ hi 0 _ rfl
  have c1 := hcs i _ hi 1 _ rfl
  have HCS := Lib.hid hcs
  have HI := Lib.hid hi
  have HM := Lib.hid hm
  have hnm := (hn s[i] (List.getElem_mem hi')).1
  have C := Lib.hid (fun n W hb => materialOf_any A l c n W hl (h.below hb) : ∀ n W, Below w.heap.size w W → _)
  have x1 : (0 : Int) ≤ (i : Int) := by omega
  have x2 : (i : Int) < (s.length : Int) := by omega
  have x3 : (i : Int) ≤ (c2 : Int) := by omega
  have hH2 := Lib.hid h2
  clear hcs hi h h2 hm hn
  obtain ⟨j, hij⟩ : ∃ j, i = j + 1 := ⟨i - 1, by omega⟩
  have hjl : j < s.length := by omega
  have hj : s[j]? = some s[j] := List.getElem?_eq_getElem hjl
  have p1 := HCS.out j _ hj 1 _ rfl
  have CZ := Lib.hid (C.out s[j].mat)
  have hmj' : matOf l s[j].mat = some u := by
    have e : j = i - 1 := by omega
    subst e
    exact hmj
  rw [hmj'] at CZ
  simp only [Option.getD_some] at CZ
  have e0 : ((i : Int) == 0) = false := by simp; omega
  have e1 : IntKind.i64.wrap ((i : Int) - 1) = (i : Int) - 1 := IntWalk.i64_in _ (by omega)
  have e3 : (0 : Int) ≤ (i : Int) - 1 := by omega
  have e4 : (i : Int) - 1 < (s.length : Int) := by omega
  have e5 : ((i : Int) - 1).toNat = j := by omega
  have HIJ := Lib.hid hij
  clear hj hmj hmj' h0 hij
  generalize s[j] = z9 at *
  have CY := Lib.hid (C.out s[i].mat)
  rw [hmo] at CY
  generalize s[i] = y at *
  simp only [Option.getD_some] at CY
  clear hmo
  have n0 : y.name.toList = [] := by rw [hw, ByteArray.toList_eq]; rfl
  have n1 : (y.name.toList == []) = true := by rw [n0]; rfl
  have n2 : (y.name.toList != []) = false := by rw [n0]; rfl
  have n3 : y.name.toList.isEmpty = true := by rw [n0]; rfl
  have n4 : (!y.name.toList.isEmpty) = false := by rw [n3]; rfl
  clear hw n0
  obtain ⟨xn, xk, xt, xg⟩ := x
  obtain ⟨un, uk, ut, ug⟩ := u
  simp only at hk hu CY CZ
  subst hk hu
  have hf1 := matField1
  go_enter Try.func60, Try.ntmps60
  go_wp2_with fail
  refine (CY.out _ (by (repeat' (first | (with_reducible exact Below.refl _ _) | (with_reducible assumption) | (with_reducible refine Below.alloc ?_ ?_ _) | (with_reducible refine Below.drew ?_) | (with_reducible refine below_drewN ?_ _) | (with_reducible refine Below.setCell ?_ ?_ _) | (with_reducible exact Nat.le_refl _) | omega | (simp only [World.size_alloc, World.size_setCell, World.size_drew]; omega) | (simp; omega) | (simp; done))))).mono ?_
  rintro e w1 ⟨rfl, hb⟩
  have B1 := Lib.hid hb
  have E0 : w1.cell? ⟨b, off + i * 2, none⟩ = some (.string y.name) := ((bcell hb).1 _ _ hblt).trans c0
  have E1 : w1.cell? ⟨b, off + i * 2 + 1, none⟩ = some (.string y.mat) := ((bcell hb).1 _ _ hblt).trans c1
  have z1 := hb.size
  clear hb
  have P1 : w1.cell? ⟨b, off + j * 2 + 1, none⟩ = some (.string z9.mat) := ((bcell B1.out).1 _ _ hblt).trans p1
  go_wp2_with fail
  refine (CZ.out _ B1.out).mono ?_
  rintro e w3 ⟨rfl, hb⟩
  have B3 := Lib.hid (B1.out.trans (hb.mono z1))
  clear hb
  go_wp2_with fail
  go_ret
  exact ⟨rfl, B3.out⟩
set_option maxHeartbeats 2000000 in
theorem checkLayer_m31 (A2 : Option Addr) (s : List Lay) (c2 : Nat) (i : Nat) (hi' : i < s.length) (hc2 : s.length ≤ c2) (hc3 : c2 ≤ 140737488355328) (hl : l.length ≤ 140737488355328) (hm : ∀ x ∈ l, matF x = 0) (hn : ∀ y ∈ s, y.name.size ≤ maxLen ∧ y.mat.size ≤ maxLen) (h : RdG 4 Mat.cs w A l) (h2 : RdG 2 Lay.cs w A2 s) {x u : Mat} (hmo : matOf l s[i].mat = some x) (hk : x.kind = 3) (hw : s[i].name = ByteArray.empty) (h0 : i ≠ 0) (hmj : matOf l s[i - 1].mat = some u) (hu : u.kind = 1) :
    Calls Try.prog 60 #[.slice A l.length c, .slice A2 s.length c2, .int .i64 (i : Nat)] w fun e w' => e = .returned (.int .i64 0) ∧ Below w.heap.size w w' := by
  have hi : s[i]? = some s[i] := List.getElem?_eq_getElem hi'
  obtain ⟨b, off, rfl, hblt, hcs⟩ := h2 (by omega)
  have c0 := by simpa using hcs i _ hi 0 _ rfl
  have c1 := hcs i _ hi 1 _ rfl
  have HCS := Lib.hid hcs
  have HI := Lib.hid hi
  have HM := Lib.hid hm
  have hnm := (hn s[i] (List.getElem_mem hi')).1
  have C := Lib.hid (fun n W hb => materialOf_any A l c n W hl (h.below hb) : ∀ n W, Below w.heap.size w W → _)
  have x1 : (0 : Int) ≤ (i : Int) := by omega
  have x2 : (i : Int) < (s.length : Int) := by omega
  have x3 : (i : Int) ≤ (c2 : Int) := by omega
  have hH2 := Lib.hid h2
  clear hcs hi h h2 hm hn
  obtain ⟨j, hij⟩ : ∃ j, i = j + 1 := ⟨i - 1, by omega⟩
  have hjl : j < s.length := by omega
  have hj : s[j]? = some s[j] := List.getElem?_eq_getElem hjl
  have p1 := HCS.out j _ hj 1 _ rfl
  have CZ := Lib.hid (C.out s[j].mat)
  have hmj' : matOf l s[j].mat = some u := by
    have e : j = i - 1 := by omega
    subst e
    exact hmj
  rw [hmj'] at CZ
  simp only [Option.getD_some] at CZ
  have e0 : ((i : Int) == 0) = false := by simp; omega
  have e1 : IntKind.i64.wrap ((i : Int) - 1) = (i : Int) - 1 := IntWalk.i64_in _ (by omega)
  have e3 : (0 : Int) ≤ (i : Int) - 1 := by omega
  have e4 : (i : Int) - 1 < (s.length : Int) := by omega
  have e5 : ((i : Int) - 1).toNat = j := by omega
  have HIJ := Lib.hid hij
  clear hj hmj hmj' h0 hij
  generalize s[j] = z9 at *
  have CY := Lib.hid (C.out s[i].mat)
  rw [hmo] at CY
  generalize s[i] = y at *
  simp only [Option.getD_some] at CY
  clear hmo
  have n0 : y.name.toList = [] := by rw [hw, ByteArray.toList_eq]; rfl
  have n1 : (y.name.toList == []) = true := by rw [n0]; rfl
  have n2 : (y.name.toList != []) = false := by rw [n0]; rfl
  have n3 : y.name.toList.isEmpty = true := by rw [n0]; rfl
  have n4 : (!y.name.toList.isEmpty) = false := by rw [n3]; rfl
  clear hw n0
  obtain ⟨xn, xk, xt, xg⟩ := x
  obtain ⟨un, uk, ut, ug⟩ := u
  simp only at hk hu CY CZ
  subst hk hu
  have hf1 := matField1
  go_enter Try.func60, Try.ntmps60
  go_wp2_with fail
  refine (CY.out _ (by (repeat' (first | (with_reducible exact Below.refl _ _) | (with_reducible assumption) | (with_reducible refine Below.alloc ?_ ?_ _) | (with_reducible refine Below.drew ?_) | (with_reducible refine below_drewN ?_ _) | (with_reducible refine Below.setCell ?_ ?_ _) | (with_reducible exact Nat.le_refl _) | omega | (simp only [World.size_alloc, World.size_setCell, World.size_drew]; omega) | (simp; omega) | (simp; done))))).mono ?_
  rintro e w1 ⟨rfl, hb⟩
  have B1 := Lib.hid hb
  have E0 : w1.cell? ⟨b, off + i * 2, none⟩ = some (.string y.name) := ((bcell hb).1 _ _ hblt).trans c0
  have E1 : w1.cell? ⟨b, off + i * 2 + 1, none⟩ = some (.string y.mat) := ((bcell hb).1 _ _ hblt).trans c1
  have z1 := hb.size
  clear hb
  have P1 : w1.cell? ⟨b, off + j * 2 + 1, none⟩ = some (.string z9.mat) := ((bcell B1.out).1 _ _ hblt).trans p1
  go_wp2_with fail
  refine (CZ.out _ B1.out).mono ?_
  rintro e w3 ⟨rfl, hb⟩
  have B3 := Lib.hid (B1.out.trans (hb.mono z1))
  clear hb
  go_wp2_with fail
  go_ret
  exact ⟨rfl, B3.out⟩
set_option maxHeartbeats 2000000 in
theorem checkLayer_m32 (A2 : Option Addr) (s : List Lay) (c2 : Nat) (i : Nat) (hi' : i < s.length) (hc2 : s.length ≤ c2) (hc3 : c2 ≤ 140737488355328) (hl : l.length ≤ 140737488355328) (hm : ∀ x ∈ l, matF x = 0) (hn : ∀ y ∈ s, y.name.size ≤ maxLen ∧ y.mat.size ≤ maxLen) (h : RdG 4 Mat.cs w A l) (h2 : RdG 2 Lay.cs w A2 s) {x u : Mat} (hmo : matOf l s[i].mat = some x) (hk : x.kind = 3) (hw : s[i].name = ByteArray.empty) (h0 : i ≠ 0) (hmj : matOf l s[i - 1].mat = some u) (hu : u.kind = 2) :
    Calls Try.prog 60 #[.slice A l.length c, .slice A2 s.length c2, .int .i64 (i : Nat)] w fun e w' => e = .returned (.int .i64 8) ∧ Below w.heap.size w w' := by
  have hi : s[i]? = some s[i] := List.getElem?_eq_getElem hi'
  obtain ⟨b, off, rfl, hblt, hcs⟩ := h2 (by omega)
  have c0 := by simpa using hcs i _ hi 0 _ rfl
  have c1 := hcs i _ hi 1 _ rfl
  have HCS := Lib.hid hcs
  have HI := Lib.hid hi
  have HM := Lib.hid hm
  have hnm := (hn s[i] (List.getElem_mem hi')).1
  have C := Lib.hid (fun n W hb => materialOf_any A l c n W hl (h.below hb) : ∀ n W, Below w.heap.size w W → _)
  have x1 : (0 : Int) ≤ (i : Int) := by omega
  have x2 : (i : Int) < (s.length : Int) := by omega
  have x3 : (i : Int) ≤ (c2 : Int) := by omega
  have hH2 := Lib.hid h2
  clear hcs hi h h2 hm hn
  obtain ⟨j, hij⟩ : ∃ j, i = j + 1 := ⟨i - 1, by omega⟩
  have hjl : j < s.length := by omega
  have hj : s[j]? = some s[j] := List.getElem?_eq_getElem hjl
  have p1 := HCS.out j _ hj 1 _ rfl
  have CZ := Lib.hid (C.out s[j].mat)
  have hmj' : matOf l s[j].mat = some u := by
    have e : j = i - 1 := by omega
    subst e
    exact hmj
  rw [hmj'] at CZ
  simp only [Option.getD_some] at CZ
  have e0 : ((i : Int) == 0) = false := by simp; omega
  have e1 : IntKind.i64.wrap ((i : Int) - 1) = (i : Int) - 1 := IntWalk.i64_in _ (by omega)
  have e3 : (0 : Int) ≤ (i : Int) - 1 := by omega
  have e4 : (i : Int) - 1 < (s.length : Int) := by omega
  have e5 : ((i : Int) - 1).toNat = j := by omega
  have HIJ := Lib.hid hij
  clear hj hmj hmj' h0 hij
  generalize s[j] = z9 at *
  have CY := Lib.hid (C.out s[i].mat)
  rw [hmo] at CY
  generalize s[i] = y at *
  simp only [Option.getD_some] at CY
  clear hmo
  have n0 : y.name.toList = [] := by rw [hw, ByteArray.toList_eq]; rfl
  have n1 : (y.name.toList == []) = true := by rw [n0]; rfl
  have n2 : (y.name.toList != []) = false := by rw [n0]; rfl
  have n3 : y.name.toList.isEmpty = true := by rw [n0]; rfl
  have n4 : (!y.name.toList.isEmpty) = false := by rw [n3]; rfl
  clear hw n0
  obtain ⟨xn, xk, xt, xg⟩ := x
  obtain ⟨un, uk, ut, ug⟩ := u
  simp only at hk hu CY CZ
  subst hk hu
  have hf1 := matField1
  go_enter Try.func60, Try.ntmps60
  go_wp2_with fail
  refine (CY.out _ (by (repeat' (first | (with_reducible exact Below.refl _ _) | (with_reducible assumption) | (with_reducible refine Below.alloc ?_ ?_ _) | (with_reducible refine Below.drew ?_) | (with_reducible refine below_drewN ?_ _) | (with_reducible refine Below.setCell ?_ ?_ _) | (with_reducible exact Nat.le_refl _) | omega | (simp only [World.size_alloc, World.size_setCell, World.size_drew]; omega) | (simp; omega) | (simp; done))))).mono ?_
  rintro e w1 ⟨rfl, hb⟩
  have B1 := Lib.hid hb
  have E0 : w1.cell? ⟨b, off + i * 2, none⟩ = some (.string y.name) := ((bcell hb).1 _ _ hblt).trans c0
  have E1 : w1.cell? ⟨b, off + i * 2 + 1, none⟩ = some (.string y.mat) := ((bcell hb).1 _ _ hblt).trans c1
  have z1 := hb.size
  clear hb
  have P1 : w1.cell? ⟨b, off + j * 2 + 1, none⟩ = some (.string z9.mat) := ((bcell B1.out).1 _ _ hblt).trans p1
  go_wp2_with fail
  refine (CZ.out _ B1.out).mono ?_
  rintro e w3 ⟨rfl, hb⟩
  have B3 := Lib.hid (B1.out.trans (hb.mono z1))
  clear hb
  go_wp2_with fail
  go_ret
  exact ⟨rfl, B3.out⟩
set_option maxHeartbeats 2000000 in
theorem checkLayer_m33 (A2 : Option Addr) (s : List Lay) (c2 : Nat) (i : Nat) (hi' : i < s.length) (hc2 : s.length ≤ c2) (hc3 : c2 ≤ 140737488355328) (hl : l.length ≤ 140737488355328) (hm : ∀ x ∈ l, matF x = 0) (hn : ∀ y ∈ s, y.name.size ≤ maxLen ∧ y.mat.size ≤ maxLen) (h : RdG 4 Mat.cs w A l) (h2 : RdG 2 Lay.cs w A2 s) {x u : Mat} (hmo : matOf l s[i].mat = some x) (hk : x.kind = 3) (hw : s[i].name = ByteArray.empty) (h0 : i ≠ 0) (hmj : matOf l s[i - 1].mat = some u) (hu : u.kind = 3) :
    Calls Try.prog 60 #[.slice A l.length c, .slice A2 s.length c2, .int .i64 (i : Nat)] w fun e w' => e = .returned (.int .i64 0) ∧ Below w.heap.size w w' := by
  have hi : s[i]? = some s[i] := List.getElem?_eq_getElem hi'
  obtain ⟨b, off, rfl, hblt, hcs⟩ := h2 (by omega)
  have c0 := by simpa using hcs i _ hi 0 _ rfl
  have c1 := hcs i _ hi 1 _ rfl
  have HCS := Lib.hid hcs
  have HI := Lib.hid hi
  have HM := Lib.hid hm
  have hnm := (hn s[i] (List.getElem_mem hi')).1
  have C := Lib.hid (fun n W hb => materialOf_any A l c n W hl (h.below hb) : ∀ n W, Below w.heap.size w W → _)
  have x1 : (0 : Int) ≤ (i : Int) := by omega
  have x2 : (i : Int) < (s.length : Int) := by omega
  have x3 : (i : Int) ≤ (c2 : Int) := by omega
  have hH2 := Lib.hid h2
  clear hcs hi h h2 hm hn
  obtain ⟨j, hij⟩ : ∃ j, i = j + 1 := ⟨i - 1, by omega⟩
  have hjl : j < s.length := by omega
  have hj : s[j]? = some s[j] := List.getElem?_eq_getElem hjl
  have p1 := HCS.out j _ hj 1 _ rfl
  have CZ := Lib.hid (C.out s[j].mat)
  have hmj' : matOf l s[j].mat = some u := by
    have e : j = i - 1 := by omega
    subst e
    exact hmj
  rw [hmj'] at CZ
  simp only [Option.getD_some] at CZ
  have e0 : ((i : Int) == 0) = false := by simp; omega
  have e1 : IntKind.i64.wrap ((i : Int) - 1) = (i : Int) - 1 := IntWalk.i64_in _ (by omega)
  have e3 : (0 : Int) ≤ (i : Int) - 1 := by omega
  have e4 : (i : Int) - 1 < (s.length : Int) := by omega
  have e5 : ((i : Int) - 1).toNat = j := by omega
  have HIJ := Lib.hid hij
  clear hj hmj hmj' h0 hij
  generalize s[j] = z9 at *
  have CY := Lib.hid (C.out s[i].mat)
  rw [hmo] at CY
  generalize s[i] = y at *
  simp only [Option.getD_some] at CY
  clear hmo
  have n0 : y.name.toList = [] := by rw [hw, ByteArray.toList_eq]; rfl
  have n1 : (y.name.toList == []) = true := by rw [n0]; rfl
  have n2 : (y.name.toList != []) = false := by rw [n0]; rfl
  have n3 : y.name.toList.isEmpty = true := by rw [n0]; rfl
  have n4 : (!y.name.toList.isEmpty) = false := by rw [n3]; rfl
  clear hw n0
  obtain ⟨xn, xk, xt, xg⟩ := x
  obtain ⟨un, uk, ut, ug⟩ := u
  simp only at hk hu CY CZ
  subst hk hu
  have hf1 := matField1
  go_enter Try.func60, Try.ntmps60
  go_wp2_with fail
  refine (CY.out _ (by (repeat' (first | (with_reducible exact Below.refl _ _) | (with_reducible assumption) | (with_reducible refine Below.alloc ?_ ?_ _) | (with_reducible refine Below.drew ?_) | (with_reducible refine below_drewN ?_ _) | (with_reducible refine Below.setCell ?_ ?_ _) | (with_reducible exact Nat.le_refl _) | omega | (simp only [World.size_alloc, World.size_setCell, World.size_drew]; omega) | (simp; omega) | (simp; done))))).mono ?_
  rintro e w1 ⟨rfl, hb⟩
  have B1 := Lib.hid hb
  have E0 : w1.cell? ⟨b, off + i * 2, none⟩ = some (.string y.name) := ((bcell hb).1 _ _ hblt).trans c0
  have E1 : w1.cell? ⟨b, off + i * 2 + 1, none⟩ = some (.string y.mat) := ((bcell hb).1 _ _ hblt).trans c1
  have z1 := hb.size
  clear hb
  have P1 : w1.cell? ⟨b, off + j * 2 + 1, none⟩ = some (.string z9.mat) := ((bcell B1.out).1 _ _ hblt).trans p1
  go_wp2_with fail
  refine (CZ.out _ B1.out).mono ?_
  rintro e w3 ⟨rfl, hb⟩
  have B3 := Lib.hid (B1.out.trans (hb.mono z1))
  clear hb
  go_wp2_with fail
  go_ret
  exact ⟨rfl, B3.out⟩
end
end Go.Proofs.Ytdlglnkhhbkndaa
/- A copper: what the reference says of it, whatever the world. -/
namespace Go.Proofs.Ytdlglnkhhbkndaa
open Go.RowKit
set_option linter.unusedSimpArgs false
set_option linter.unusedVariables false
set_option maxRecDepth 100000
section
variable {A : Option Addr} {l : List Mat} {c : Nat} {w : World}
set_option maxHeartbeats 2000000 in
theorem checkLayer_twice (A2 : Option Addr) (s : List Lay) (c2 : Nat) (i : Nat) (hi' : i < s.length) (hc2 : s.length ≤ c2) (hc3 : c2 ≤ 140737488355328) (hl : l.length ≤ 140737488355328) (hm : ∀ x ∈ l, matF x = 0) (hn : ∀ y ∈ s, y.name.size ≤ maxLen ∧ y.mat.size ≤ maxLen) (h : RdG 4 Mat.cs w A l) (h2 : RdG 2 Lay.cs w A2 s) {x : Mat} (hmo : matOf l s[i].mat = some x) (hk : x.kind = 1) (hw : wordB s[i].name = true) (htw : ((s.take i).any fun z => decide (z.name = s[i].name)) = true) :
    Calls Try.prog 60 #[.slice A l.length c, .slice A2 s.length c2, .int .i64 (i : Nat)] w fun e w' => e = .returned (.int .i64 7) ∧ Below w.heap.size w w' := by
  have hi : s[i]? = some s[i] := List.getElem?_eq_getElem hi'
  obtain ⟨b, off, rfl, hblt, hcs⟩ := h2 (by omega)
  have c0 := by simpa using hcs i _ hi 0 _ rfl
  have c1 := hcs i _ hi 1 _ rfl
  have HCS := Lib.hid hcs
  have HI := Lib.hid hi
  have HM := Lib.hid hm
  have hnm := (hn s[i] (List.getElem_mem hi')).1
  have C := Lib.hid (fun n W hb => materialOf_any A l c n W hl (h.below hb) : ∀ n W, Below w.heap.size w W → _)
  have x1 : (0 : Int) ≤ (i : Int) := by omega
  have x2 : (i : Int) < (s.length : Int) := by omega
  have x3 : (i : Int) ≤ (c2 : Int) := by omega
  have hH2 := Lib.hid h2
  clear hcs hi h h2 hm hn
  have CW := Lib.hid (fun (W : World) => hw ▸ rIsWord_any s[i].name W hnm)
  have HTW := Lib.hid htw
  have CY := Lib.hid (C.out s[i].mat)
  rw [hmo] at CY
  generalize s[i] = y at *
  simp only [Option.getD_some] at CY
  clear hmo
  obtain ⟨xn, xk, xt, xg⟩ := x
  simp only at hk CY
  subst hk
  clear hw htw
  have hf1 := matField1
  go_enter Try.func60, Try.ntmps60
  go_wp2_with fail
  refine (CY.out _ (by (repeat' (first | (with_reducible exact Below.refl _ _) | (with_reducible assumption) | (with_reducible refine Below.alloc ?_ ?_ _) | (with_reducible refine Below.drew ?_) | (with_reducible refine below_drewN ?_ _) | (with_reducible refine Below.setCell ?_ ?_ _) | (with_reducible exact Nat.le_refl _) | omega | (simp only [World.size_alloc, World.size_setCell, World.size_drew]; omega) | (simp; omega) | (simp; done))))).mono ?_
  rintro e w1 ⟨rfl, hb⟩
  have B1 := Lib.hid hb
  have E0 : w1.cell? ⟨b, off + i * 2, none⟩ = some (.string y.name) := ((bcell hb).1 _ _ hblt).trans c0
  have E1 : w1.cell? ⟨b, off + i * 2 + 1, none⟩ = some (.string y.mat) := ((bcell hb).1 _ _ hblt).trans c1
  have z1 := hb.size
  clear hb
  go_wp2_with (go_at_call 58; refine (CW.out _).mono ?_; rintro e w2 ⟨rfl, rfl⟩)
  have H2W := Lib.hid (fun W hb => hH2.out.below hb : ∀ W, Below w.heap.size w W → _)
  go_loopw [50] (fun t wr => ∃ k : Nat, k ≤ i ∧ t = .int .i64 k ∧ ((s.take k).any fun z => decide (z.name = y.name)) = false ∧ Below w.heap.size w wr) (fun t _ => i - (intOf t).toNat)
  case atStart => exact ⟨0, Nat.zero_le _, rfl, rfl, B1.out⟩
  case round =>
    obtain ⟨k, hk, rfl, ha, hw⟩ := hrel
    have HA := Lib.hid ha
    have HW := Lib.hid hw
    have zw := hw.size
    have y0 : wr.cell? ⟨b, off + i * 2, none⟩ = some (.string y.name) := ((bcell hw).1 _ _ hblt).trans c0
    have hblw : b < wr.heap.size := Nat.lt_of_lt_of_le hblt zw
    clear ha hw
    have hkz : (0 : Int) ≤ (k : Int) := by omega
    by_cases hlt : k < i
    · have hks : s[k]? = some s[k] := List.getElem?_eq_getElem (by omega)
      have g0 := ((bcell HW.out).1 _ _ hblt).trans (by simpa using HCS.out k _ hks 0 _ rfl)
      have g1 := ((bcell HW.out).1 _ _ hblt).trans (HCS.out k _ hks 1 _ rfl)
      have HT := Lib.hid (show ((s.take (k + 1)).any fun z => decide (z.name = y.name)) = (((s.take k).any fun z => decide (z.name = y.name)) || decide (s[k].name = y.name)) by rw [List.take_add_one, hks, List.any_append]; simp)
      have HM2 := Lib.hid (show s[k] ∈ s.take i from List.mem_take_iff_getElem.2 ⟨k, by omega, rfl⟩)
      clear hks
      generalize s[k] = z at *
      have a0 : ∀ (cs : Array Value) (t : TypeId), (wr.alloc (.cells cs t)).cell? ⟨b, off + i * 2, none⟩ = some (.string y.name) := fun cs t => (World.cell?_alloc_lt _ _ _ hblw).trans y0
      by_cases he : z.name = y.name
      · have f1 : (z.name.toList == y.name.toList) = true := eqS_true.2 he
        clear he
        go_wp2_with fail
        go_quiet (fail)
        go_wp2_with fail
        go_ret
        exact ⟨rfl, by have := HW.out; exact below_drewN (by (repeat' (first | (with_reducible exact Below.refl _ _) | (with_reducible assumption) | (with_reducible refine Below.alloc ?_ ?_ _) | (with_reducible refine Below.drew ?_) | (with_reducible refine below_drewN ?_ _) | (with_reducible refine Below.setCell ?_ ?_ _) | (with_reducible exact Nat.le_refl _) | omega | (simp only [World.size_alloc, World.size_setCell, World.size_drew]; omega) | (simp; omega) | (simp; done)))) _⟩
      · have f1 : (z.name.toList == y.name.toList) = false := eqS_false.2 he
        have HN := Lib.hid (show ((s.take (k + 1)).any fun z => decide (z.name = y.name)) = false by rw [HT.out, HA.out, decide_eq_false he]; rfl)
        clear he
        go_wp2_with fail
        go_quiet (fail)
        go_wp2_with fail
        go_roundw
        case rel => exact ⟨k + 1, by omega, by go_num, HN.out, by have := HW.out; exact below_drewN (by (repeat' (first | (with_reducible exact Below.refl _ _) | (with_reducible assumption) | (with_reducible refine Below.alloc ?_ ?_ _) | (with_reducible refine Below.drew ?_) | (with_reducible refine below_drewN ?_ _) | (with_reducible refine Below.setCell ?_ ?_ _) | (with_reducible exact Nat.le_refl _) | omega | (simp only [World.size_alloc, World.size_setCell, World.size_drew]; omega) | (simp; omega) | (simp; done)))) _⟩
        case measure => simp [intOf]; omega
    · obtain rfl : k = i := by omega
      have := HA.out
      rw [HTW.out] at this
      cases this
set_option maxHeartbeats 2000000 in
theorem checkLayer_cu0 (A2 : Option Addr) (s : List Lay) (c2 : Nat) (i : Nat) (hi' : i < s.length) (hc2 : s.length ≤ c2) (hc3 : c2 ≤ 140737488355328) (hl : l.length ≤ 140737488355328) (hm : ∀ x ∈ l, matF x = 0) (hn : ∀ y ∈ s, y.name.size ≤ maxLen ∧ y.mat.size ≤ maxLen) (h : RdG 4 Mat.cs w A l) (h2 : RdG 2 Lay.cs w A2 s) {x : Mat} (hmo : matOf l s[i].mat = some x) (hk : x.kind = 1) (hw : wordB s[i].name = true) (htw : ((s.take i).any fun z => decide (z.name = s[i].name)) = false) (h0 : i = 0) :
    Calls Try.prog 60 #[.slice A l.length c, .slice A2 s.length c2, .int .i64 (i : Nat)] w fun e w' => e = .returned (.int .i64 0) ∧ Below w.heap.size w w' := by
  have hi : s[i]? = some s[i] := List.getElem?_eq_getElem hi'
  obtain ⟨b, off, rfl, hblt, hcs⟩ := h2 (by omega)
  have c0 := by simpa using hcs i _ hi 0 _ rfl
  have c1 := hcs i _ hi 1 _ rfl
  have HCS := Lib.hid hcs
  have HI := Lib.hid hi
  have HM := Lib.hid hm
  have hnm := (hn s[i] (List.getElem_mem hi')).1
  have C := Lib.hid (fun n W hb => materialOf_any A l c n W hl (h.below hb) : ∀ n W, Below w.heap.size w W → _)
  have x1 : (0 : Int) ≤ (i : Int) := by omega
  have x2 : (i : Int) < (s.length : Int) := by omega
  have x3 : (i : Int) ≤ (c2 : Int) := by omega
  have hH2 := Lib.hid h2
  clear hcs hi h h2 hm hn
  have CW := Lib.hid (fun (W : World) => hw ▸ rIsWord_any s[i].name W hnm)
  have HTW := Lib.hid htw
  have CY := Lib.hid (C.out s[i].mat)
  rw [hmo] at CY
  generalize s[i] = y at *
  simp only [Option.getD_some] at CY
  clear hmo
  obtain ⟨xn, xk, xt, xg⟩ := x
  simp only at hk CY
  subst hk
  clear hw htw
  have e0 : ((i : Int) == 0) = true := by simp; omega
  clear h0
  have hf1 := matField1
  go_enter Try.func60, Try.ntmps60
  go_wp2_with fail
  refine (CY.out _ (by (repeat' (first | (with_reducible exact Below.refl _ _) | (with_reducible assumption) | (with_reducible refine Below.alloc ?_ ?_ _) | (with_reducible refine Below.drew ?_) | (with_reducible refine below_drewN ?_ _) | (with_reducible refine Below.setCell ?_ ?_ _) | (with_reducible exact Nat.le_refl _) | omega | (simp only [World.size_alloc, World.size_setCell, World.size_drew]; omega) | (simp; omega) | (simp; done))))).mono ?_
  rintro e w1 ⟨rfl, hb⟩
  have B1 := Lib.hid hb
  have E0 : w1.cell? ⟨b, off + i * 2, none⟩ = some (.string y.name) := ((bcell hb).1 _ _ hblt).trans c0
  have E1 : w1.cell? ⟨b, off + i * 2 + 1, none⟩ = some (.string y.mat) := ((bcell hb).1 _ _ hblt).trans c1
  have z1 := hb.size
  clear hb
  go_wp2_with (go_at_call 58; refine (CW.out _).mono ?_; rintro e w2 ⟨rfl, rfl⟩)
  have H2W := Lib.hid (fun W hb => hH2.out.below hb : ∀ W, Below w.heap.size w W → _)
  go_loopw [50] (fun t wr => ∃ k : Nat, k ≤ i ∧ t = .int .i64 k ∧ ((s.take k).any fun z => decide (z.name = y.name)) = false ∧ Below w.heap.size w wr) (fun t _ => i - (intOf t).toNat)
  case atStart => exact ⟨0, Nat.zero_le _, rfl, rfl, B1.out⟩
  case round =>
    obtain ⟨k, hk, rfl, ha, hw⟩ := hrel
    have HA := Lib.hid ha
    have HW := Lib.hid hw
    have zw := hw.size
    have y0 : wr.cell? ⟨b, off + i * 2, none⟩ = some (.string y.name) := ((bcell hw).1 _ _ hblt).trans c0
    have hblw : b < wr.heap.size := Nat.lt_of_lt_of_le hblt zw
    clear ha hw
    have hkz : (0 : Int) ≤ (k : Int) := by omega
    by_cases hlt : k < i
    · have hks : s[k]? = some s[k] := List.getElem?_eq_getElem (by omega)
      have g0 := ((bcell HW.out).1 _ _ hblt).trans (by simpa using HCS.out k _ hks 0 _ rfl)
      have g1 := ((bcell HW.out).1 _ _ hblt).trans (HCS.out k _ hks 1 _ rfl)
      have HT := Lib.hid (show ((s.take (k + 1)).any fun z => decide (z.name = y.name)) = (((s.take k).any fun z => decide (z.name = y.name)) || decide (s[k].name = y.name)) by rw [List.take_add_one, hks, List.any_append]; simp)
      have HM2 := Lib.hid (show s[k] ∈ s.take i from List.mem_take_iff_getElem.2 ⟨k, by omega, rfl⟩)
      clear hks
      generalize s[k] = z at *
      have a0 : ∀ (cs : Array Value) (t : TypeId), (wr.alloc (.cells cs t)).cell? ⟨b, off + i * 2, none⟩ = some (.string y.name) := fun cs t => (World.cell?_alloc_lt _ _ _ hblw).trans y0
      by_cases he : z.name = y.name
      · exact absurd (List.any_eq_true.2 ⟨z, HM2.out, decide_eq_true he⟩) (by rw [HTW.out]; decide)
      · have f1 : (z.name.toList == y.name.toList) = false := eqS_false.2 he
        have HN := Lib.hid (show ((s.take (k + 1)).any fun z => decide (z.name = y.name)) = false by rw [HT.out, HA.out, decide_eq_false he]; rfl)
        clear he
        go_wp2_with fail
        go_quiet (fail)
        go_wp2_with fail
        go_roundw
        case rel => exact ⟨k + 1, by omega, by go_num, HN.out, by have := HW.out; exact below_drewN (by (repeat' (first | (with_reducible exact Below.refl _ _) | (with_reducible assumption) | (with_reducible refine Below.alloc ?_ ?_ _) | (with_reducible refine Below.drew ?_) | (with_reducible refine below_drewN ?_ _) | (with_reducible refine Below.setCell ?_ ?_ _) | (with_reducible exact Nat.le_refl _) | omega | (simp only [World.size_alloc, World.size_setCell, World.size_drew]; omega) | (simp; omega) | (simp; done)))) _⟩
        case measure => simp [intOf]; omega
    · obtain rfl : k = i := by omega
      go_wp2_with fail
      go_ret
      exact ⟨rfl, HW.out⟩
set_option maxHeartbeats 2000000 in
theorem checkLayer_cumeet (A2 : Option Addr) (s : List Lay) (c2 : Nat) (i : Nat) (hi' : i < s.length) (hc2 : s.length ≤ c2) (hc3 : c2 ≤ 140737488355328) (hl : l.length ≤ 140737488355328) (hm : ∀ x ∈ l, matF x = 0) (hn : ∀ y ∈ s, y.name.size ≤ maxLen ∧ y.mat.size ≤ maxLen) (h : RdG 4 Mat.cs w A l) (h2 : RdG 2 Lay.cs w A2 s) {x u : Mat} (hmo : matOf l s[i].mat = some x) (hk : x.kind = 1) (hw : wordB s[i].name = true) (htw : ((s.take i).any fun z => decide (z.name = s[i].name)) = false) (h0 : i ≠ 0) (hmj : matOf l s[i - 1].mat = some u) (hu : u.kind ≠ 1) :
    Calls Try.prog 60 #[.slice A l.length c, .slice A2 s.length c2, .int .i64 (i : Nat)] w fun e w' => e = .returned (.int .i64 0) ∧ Below w.heap.size w w' := by
  have hi : s[i]? = some s[i] := List.getElem?_eq_getElem hi'
  obtain ⟨b, off, rfl, hblt, hcs⟩ := h2 (by omega)
  have c0 := by simpa using hcs i _ hi 0 _ rfl
  have c1 := hcs i _ hi 1 _ rfl
  have HCS := Lib.hid hcs
  have HI := Lib.hid hi
  have HM := Lib.hid hm
  have hnm := (hn s[i] (List.getElem_mem hi')).1
  have C := Lib.hid (fun n W hb => materialOf_any A l c n W hl (h.below hb) : ∀ n W, Below w.heap.size w W → _)
  have x1 : (0 : Int) ≤ (i : Int) := by omega
  have x2 : (i : Int) < (s.length : Int) := by omega
  have x3 : (i : Int) ≤ (c2 : Int) := by omega
  have hH2 := Lib.hid h2
  clear hcs hi h h2 hm hn
  obtain ⟨j, hij⟩ : ∃ j, i = j + 1 := ⟨i - 1, by omega⟩
  have hjl : j < s.length := by omega
  have hj : s[j]? = some s[j] := List.getElem?_eq_getElem hjl
  have p1 := HCS.out j _ hj 1 _ rfl
  have CZ := Lib.hid (C.out s[j].mat)
  have hmj' : matOf l s[j].mat = some u := by
    have e : j = i - 1 := by omega
    subst e
    exact hmj
  rw [hmj'] at CZ
  simp only [Option.getD_some] at CZ
  have e0 : ((i : Int) == 0) = false := by simp; omega
  have e1 : IntKind.i64.wrap ((i : Int) - 1) = (i : Int) - 1 := IntWalk.i64_in _ (by omega)
  have e3 : (0 : Int) ≤ (i : Int) - 1 := by omega
  have e4 : (i : Int) - 1 < (s.length : Int) := by omega
  have e5 : ((i : Int) - 1).toNat = j := by omega
  have HIJ := Lib.hid hij
  clear hj hmj hmj' h0 hij
  generalize s[j] = z9 at *
  have CW := Lib.hid (fun (W : World) => hw ▸ rIsWord_any s[i].name W hnm)
  have HTW := Lib.hid htw
  have CY := Lib.hid (C.out s[i].mat)
  rw [hmo] at CY
  generalize s[i] = y at *
  simp only [Option.getD_some] at CY
  clear hmo
  obtain ⟨xn, xk, xt, xg⟩ := x
  simp only at hk CY
  subst hk
  clear hw htw
  obtain ⟨un, uk, ut, ug⟩ := u
  simp only at hu CZ
  have d5 : (uk == 1) = false := by simpa using hu
  clear hu
  have hf1 := matField1
  go_enter Try.func60, Try.ntmps60
  go_wp2_with fail
  refine (CY.out _ (by (repeat' (first | (with_reducible exact Below.refl _ _) | (with_reducible assumption) | (with_reducible refine Below.alloc ?_ ?_ _) | (with_reducible refine Below.drew ?_) | (with_reducible refine below_drewN ?_ _) | (with_reducible refine Below.setCell ?_ ?_ _) | (with_reducible exact Nat.le_refl _) | omega | (simp only [World.size_alloc, World.size_setCell, World.size_drew]; omega) | (simp; omega) | (simp; done))))).mono ?_
  rintro e w1 ⟨rfl, hb⟩
  have B1 := Lib.hid hb
  have E0 : w1.cell? ⟨b, off + i * 2, none⟩ = some (.string y.name) := ((bcell hb).1 _ _ hblt).trans c0
  have E1 : w1.cell? ⟨b, off + i * 2 + 1, none⟩ = some (.string y.mat) := ((bcell hb).1 _ _ hblt).trans c1
  have z1 := hb.size
  clear hb
  go_wp2_with (go_at_call 58; refine (CW.out _).mono ?_; rintro e w2 ⟨rfl, rfl⟩)
  have H2W := Lib.hid (fun W hb => hH2.out.below hb : ∀ W, Below w.heap.size w W → _)
  go_loopw [50] (fun t wr => ∃ k : Nat, k ≤ i ∧ t = .int .i64 k ∧ ((s.take k).any fun z => decide (z.name = y.name)) = false ∧ Below w.heap.size w wr) (fun t _ => i - (intOf t).toNat)
  case atStart => exact ⟨0, Nat.zero_le _, rfl, rfl, B1.out⟩
  case round =>
    obtain ⟨k, hk, rfl, ha, hw⟩ := hrel
    have HA := Lib.hid ha
    have HW := Lib.hid hw
    have zw := hw.size
    have y0 : wr.cell? ⟨b, off + i * 2, none⟩ = some (.string y.name) := ((bcell hw).1 _ _ hblt).trans c0
    have hblw : b < wr.heap.size := Nat.lt_of_lt_of_le hblt zw
    clear ha hw
    have hkz : (0 : Int) ≤ (k : Int) := by omega
    by_cases hlt : k < i
    · have hks : s[k]? = some s[k] := List.getElem?_eq_getElem (by omega)
      have g0 := ((bcell HW.out).1 _ _ hblt).trans (by simpa using HCS.out k _ hks 0 _ rfl)
      have g1 := ((bcell HW.out).1 _ _ hblt).trans (HCS.out k _ hks 1 _ rfl)
      have HT := Lib.hid (show ((s.take (k + 1)).any fun z => decide (z.name = y.name)) = (((s.take k).any fun z => decide (z.name = y.name)) || decide (s[k].name = y.name)) by rw [List.take_add_one, hks, List.any_append]; simp)
      have HM2 := Lib.hid (show s[k] ∈ s.take i from List.mem_take_iff_getElem.2 ⟨k, by omega, rfl⟩)
      clear hks
      generalize s[k] = z at *
      have a0 : ∀ (cs : Array Value) (t : TypeId), (wr.alloc (.cells cs t)).cell? ⟨b, off + i * 2, none⟩ = some (.string y.name) := fun cs t => (World.cell?_alloc_lt _ _ _ hblw).trans y0
      by_cases he : z.name = y.name
      · exact absurd (List.any_eq_true.2 ⟨z, HM2.out, decide_eq_true he⟩) (by rw [HTW.out]; decide)
      · have f1 : (z.name.toList == y.name.toList) = false := eqS_false.2 he
        have HN := Lib.hid (show ((s.take (k + 1)).any fun z => decide (z.name = y.name)) = false by rw [HT.out, HA.out, decide_eq_false he]; rfl)
        clear he
        go_wp2_with fail
        go_quiet (fail)
        go_wp2_with fail
        go_roundw
        case rel => exact ⟨k + 1, by omega, by go_num, HN.out, by have := HW.out; exact below_drewN (by (repeat' (first | (with_reducible exact Below.refl _ _) | (with_reducible assumption) | (with_reducible refine Below.alloc ?_ ?_ _) | (with_reducible refine Below.drew ?_) | (with_reducible refine below_drewN ?_ _) | (with_reducible refine Below.setCell ?_ ?_ _) | (with_reducible exact Nat.le_refl _) | omega | (simp only [World.size_alloc, World.size_setCell, World.size_drew]; omega) | (simp; omega) | (simp; done)))) _⟩
        case measure => simp [intOf]; omega
    · obtain rfl : k = i := by omega
      have P1 : wr.cell? ⟨b, off + j * 2 + 1, none⟩ = some (.string z9.mat) := ((bcell HW.out).1 _ _ hblt).trans p1
      go_wp2_with fail
      refine (CZ.out _ HW.out).mono ?_
      rintro e w3 ⟨rfl, hb⟩
      have B3 := Lib.hid (HW.out.trans (hb.mono zw))
      clear hb
      go_wp2_with fail
      all_goals
        go_ret
        exact ⟨rfl, B3.out⟩
set_option maxHeartbeats 2000000 in
theorem checkLayer_cuclash (A2 : Option Addr) (s : List Lay) (c2 : Nat) (i : Nat) (hi' : i < s.length) (hc2 : s.length ≤ c2) (hc3 : c2 ≤ 140737488355328) (hl : l.length ≤ 140737488355328) (hm : ∀ x ∈ l, matF x = 0) (hn : ∀ y ∈ s, y.name.size ≤ maxLen ∧ y.mat.size ≤ maxLen) (h : RdG 4 Mat.cs w A l) (h2 : RdG 2 Lay.cs w A2 s) {x u : Mat} (hmo : matOf l s[i].mat = some x) (hk : x.kind = 1) (hw : wordB s[i].name = true) (htw : ((s.take i).any fun z => decide (z.name = s[i].name)) = false) (h0 : i ≠ 0) (hmj : matOf l s[i - 1].mat = some u) (hu : u.kind = 1) :
    Calls Try.prog 60 #[.slice A l.length c, .slice A2 s.length c2, .int .i64 (i : Nat)] w fun e w' => e = .returned (.int .i64 8) ∧ Below w.heap.size w w' := by
  have hi : s[i]? = some s[i] := List.getElem?_eq_getElem hi'
  obtain ⟨b, off, rfl, hblt, hcs⟩ := h2 (by omega)
  have c0 := by simpa using hcs i _ hi 0 _ rfl
  have c1 := hcs i _ hi 1 _ rfl
  have HCS := Lib.hid hcs
  have HI := Lib.hid hi
  have HM := Lib.hid hm
  have hnm := (hn s[i] (List.getElem_mem hi')).1
  have C := Lib.hid (fun n W hb => materialOf_any A l c n W hl (h.below hb) : ∀ n W, Below w.heap.size w W → _)
  have x1 : (0 : Int) ≤ (i : Int) := by omega
  have x2 : (i : Int) < (s.length : Int) := by omega
  have x3 : (i : Int) ≤ (c2 : Int) := by omega
  have hH2 := Lib.hid h2
  clear hcs hi h h2 hm hn
  obtain ⟨j, hij⟩ : ∃ j, i = j + 1 := ⟨i - 1, by omega⟩
  have hjl : j < s.length := by omega
  have hj : s[j]? = some s[j] := List.getElem?_eq_getElem hjl
  have p1 := HCS.out j _ hj 1 _ rfl
  have CZ := Lib.hid (C.out s[j].mat)
  have hmj' : matOf l s[j].mat = some u := by
    have e : j = i - 1 := by omega
    subst e
    exact hmj
  rw [hmj'] at CZ
  simp only [Option.getD_some] at CZ
  have e0 : ((i : Int) == 0) = false := by simp; omega
  have e1 : IntKind.i64.wrap ((i : Int) - 1) = (i : Int) - 1 := IntWalk.i64_in _ (by omega)
  have e3 : (0 : Int) ≤ (i : Int) - 1 := by omega
  have e4 : (i : Int) - 1 < (s.length : Int) := by omega
  have e5 : ((i : Int) - 1).toNat = j := by omega
  have HIJ := Lib.hid hij
  clear hj hmj hmj' h0 hij
  generalize s[j] = z9 at *
  have CW := Lib.hid (fun (W : World) => hw ▸ rIsWord_any s[i].name W hnm)
  have HTW := Lib.hid htw
  have CY := Lib.hid (C.out s[i].mat)
  rw [hmo] at CY
  generalize s[i] = y at *
  simp only [Option.getD_some] at CY
  clear hmo
  obtain ⟨xn, xk, xt, xg⟩ := x
  simp only at hk CY
  subst hk
  clear hw htw
  obtain ⟨un, uk, ut, ug⟩ := u
  simp only at hu CZ
  subst hu
  have hf1 := matField1
  go_enter Try.func60, Try.ntmps60
  go_wp2_with fail
  refine (CY.out _ (by (repeat' (first | (with_reducible exact Below.refl _ _) | (with_reducible assumption) | (with_reducible refine Below.alloc ?_ ?_ _) | (with_reducible refine Below.drew ?_) | (with_reducible refine below_drewN ?_ _) | (with_reducible refine Below.setCell ?_ ?_ _) | (with_reducible exact Nat.le_refl _) | omega | (simp only [World.size_alloc, World.size_setCell, World.size_drew]; omega) | (simp; omega) | (simp; done))))).mono ?_
  rintro e w1 ⟨rfl, hb⟩
  have B1 := Lib.hid hb
  have E0 : w1.cell? ⟨b, off + i * 2, none⟩ = some (.string y.name) := ((bcell hb).1 _ _ hblt).trans c0
  have E1 : w1.cell? ⟨b, off + i * 2 + 1, none⟩ = some (.string y.mat) := ((bcell hb).1 _ _ hblt).trans c1
  have z1 := hb.size
  clear hb
  go_wp2_with (go_at_call 58; refine (CW.out _).mono ?_; rintro e w2 ⟨rfl, rfl⟩)
  have H2W := Lib.hid (fun W hb => hH2.out.below hb : ∀ W, Below w.heap.size w W → _)
  go_loopw [50] (fun t wr => ∃ k : Nat, k ≤ i ∧ t = .int .i64 k ∧ ((s.take k).any fun z => decide (z.name = y.name)) = false ∧ Below w.heap.size w wr) (fun t _ => i - (intOf t).toNat)
  case atStart => exact ⟨0, Nat.zero_le _, rfl, rfl, B1.out⟩
  case round =>
    obtain ⟨k, hk, rfl, ha, hw⟩ := hrel
    have HA := Lib.hid ha
    have HW := Lib.hid hw
    have zw := hw.size
    have y0 : wr.cell? ⟨b, off + i * 2, none⟩ = some (.string y.name) := ((bcell hw).1 _ _ hblt).trans c0
    have hblw : b < wr.heap.size := Nat.lt_of_lt_of_le hblt zw
    clear ha hw
    have hkz : (0 : Int) ≤ (k : Int) := by omega
    by_cases hlt : k < i
    · have hks : s[k]? = some s[k] := List.getElem?_eq_getElem (by omega)
      have g0 := ((bcell HW.out).1 _ _ hblt).trans (by simpa using HCS.out k _ hks 0 _ rfl)
      have g1 := ((bcell HW.out).1 _ _ hblt).trans (HCS.out k _ hks 1 _ rfl)
      have HT := Lib.hid (show ((s.take (k + 1)).any fun z => decide (z.name = y.name)) = (((s.take k).any fun z => decide (z.name = y.name)) || decide (s[k].name = y.name)) by rw [List.take_add_one, hks, List.any_append]; simp)
      have HM2 := Lib.hid (show s[k] ∈ s.take i from List.mem_take_iff_getElem.2 ⟨k, by omega, rfl⟩)
      clear hks
      generalize s[k] = z at *
      have a0 : ∀ (cs : Array Value) (t : TypeId), (wr.alloc (.cells cs t)).cell? ⟨b, off + i * 2, none⟩ = some (.string y.name) := fun cs t => (World.cell?_alloc_lt _ _ _ hblw).trans y0
      by_cases he : z.name = y.name
      · exact absurd (List.any_eq_true.2 ⟨z, HM2.out, decide_eq_true he⟩) (by rw [HTW.out]; decide)
      · have f1 : (z.name.toList == y.name.toList) = false := eqS_false.2 he
        have HN := Lib.hid (show ((s.take (k + 1)).any fun z => decide (z.name = y.name)) = false by rw [HT.out, HA.out, decide_eq_false he]; rfl)
        clear he
        go_wp2_with fail
        go_quiet (fail)
        go_wp2_with fail
        go_roundw
        case rel => exact ⟨k + 1, by omega, by go_num, HN.out, by have := HW.out; exact below_drewN (by (repeat' (first | (with_reducible exact Below.refl _ _) | (with_reducible assumption) | (with_reducible refine Below.alloc ?_ ?_ _) | (with_reducible refine Below.drew ?_) | (with_reducible refine below_drewN ?_ _) | (with_reducible refine Below.setCell ?_ ?_ _) | (with_reducible exact Nat.le_refl _) | omega | (simp only [World.size_alloc, World.size_setCell, World.size_drew]; omega) | (simp; omega) | (simp; done)))) _⟩
        case measure => simp [intOf]; omega
    · obtain rfl : k = i := by omega
      have P1 : wr.cell? ⟨b, off + j * 2 + 1, none⟩ = some (.string z9.mat) := ((bcell HW.out).1 _ _ hblt).trans p1
      go_wp2_with fail
      refine (CZ.out _ HW.out).mono ?_
      rintro e w3 ⟨rfl, hb⟩
      have B3 := Lib.hid (HW.out.trans (hb.mono zw))
      clear hb
      go_wp2_with fail
      all_goals
        go_ret
        exact ⟨rfl, B3.out⟩
end
end Go.Proofs.Ytdlglnkhhbkndaa
/- Whether a stack is right: what the reference of chapter 4 says, whatever the world. -/
namespace Go.Proofs.Ytdlglnkhhbkndaa
open Go.RowKit
set_option linter.unusedSimpArgs false
set_option linter.unusedVariables false
set_option maxRecDepth 100000

section
variable {A : Option Addr} {l : List Mat} {c : Nat} {w : World}
theorem checkLayer_any (A2 : Option Addr) (s : List Lay) (c2 : Nat) (i : Nat) (hi' : i < s.length) (hc2 : s.length ≤ c2) (hc3 : c2 ≤ 140737488355328) (hl : l.length ≤ 140737488355328) (hm : ∀ x ∈ l, matF x = 0) (hn : ∀ y ∈ s, y.name.size ≤ maxLen ∧ y.mat.size ≤ maxLen) (h : RdG 4 Mat.cs w A l) (h2 : RdG 2 Lay.cs w A2 s)
    (hg : GoodR ((s.take i).map (rowOf l))) (hf : ∀ y ∈ s.take i, (matOf l y.mat).isSome = true) :
    Calls Try.prog 60 #[.slice A l.length c, .slice A2 s.length c2, .int .i64 (i : Nat)] w fun e w' => e = .returned (.int .i64 (layF l ((s.take i).map (rowOf l)) s[i])) ∧ Below w.heap.size w w' := by
  cases hmo : matOf l s[i].mat with
  | none =>
    have e : layF l ((s.take i).map (rowOf l)) s[i] = 9 := by unfold layF; rw [hmo]
    rw [e]
    exact checkLayer_none A2 s c2 i hi' hc2 hc3 hl hm hn h h2 hmo
  | some x =>
    have hx := hm x (matOf_mem hmo)
    have e : layF l ((s.take i).map (rowOf l)) s[i] = rowF ((s.take i).map (rowOf l)) (s[i].name, x) := by unfold layF; rw [hmo]
    -- what lies above
    have above : i ≠ 0 → ∃ u, matOf l s[i - 1].mat = some u ∧ matF u = 0 ∧ ((s.take i).map (rowOf l)).getLast? = some (s[i - 1].name, u) := by
      intro h0
      have hmem : s[i - 1] ∈ s.take i := List.mem_take_iff_getElem.2 ⟨i - 1, by omega, rfl⟩
      obtain ⟨u, hu⟩ := Option.isSome_iff_exists.1 (hf _ hmem)
      refine ⟨u, hu, hm u (matOf_mem hu), ?_⟩
      rw [List.getLast?_eq_getElem?, List.length_map, List.length_take, Nat.min_eq_left (by omega), List.getElem?_map, List.getElem?_take_of_lt (by omega), List.getElem?_eq_getElem (by omega)]
      simp [rowOf, hu]
    have first : i = 0 → ((s.take i).map (rowOf l)).getLast? = none := by
      intro h0
      subst h0
      rfl
    rw [e]
    by_cases hk : x.kind = 1
    · rw [rowF_cu hk]
      cases hw : wordB s[i].name
      · exact checkLayer_noword A2 s c2 i hi' hc2 hc3 hl hm hn h h2 hmo hk hw
      · rw [if_neg (by decide), ← twice_eq hg hw]
        cases htw : (s.take i).any fun z => decide (z.name = s[i].name)
        · rw [if_neg (by decide)]
          by_cases h0 : i = 0
          · rw [first h0]
            exact checkLayer_cu0 A2 s c2 i hi' hc2 hc3 hl hm hn h h2 hmo hk hw htw h0
          · obtain ⟨u, hu1, hu2, hu3⟩ := above h0
            rw [hu3]
            by_cases hu : u.kind = 1
            · rw [if_neg (by simp [hu])]
              exact checkLayer_cuclash A2 s c2 i hi' hc2 hc3 hl hm hn h h2 hmo hk hw htw h0 hu1 hu
            · rw [if_pos (by simp [hu])]
              exact checkLayer_cumeet A2 s c2 i hi' hc2 hc3 hl hm hn h h2 hmo hk hw htw h0 hu1 hu
        · rw [if_pos rfl]
          exact checkLayer_twice A2 s c2 i hi' hc2 hc3 hl hm hn h h2 hmo hk hw htw
    · rw [rowF_no hk]
      have hk0 : x.kind ≠ 0 := by have := matF_zero hx; omega
      by_cases hw : s[i].name = ByteArray.empty
      · rw [if_neg (by simp [hw])]
        by_cases h0 : i = 0
        · rw [first h0]
          exact checkLayer_first A2 s c2 i hi' hc2 hc3 hl hm hn h h2 hmo hk hk0 hw h0
        · obtain ⟨u, hu1, hu2, hu3⟩ := above h0
          rw [hu3]
          rw [show (if (some (s[i - 1].name, u)).all (fun q : Row => meetB q.2.kind x.kind) then (0 : Int) else 8) = (if meetB u.kind x.kind then 0 else 8) from rfl]
          rcases kind_cases hx with k1 | k2 | k3
          · exact absurd k1 hk
          · rcases kind_cases hu2 with b1 | b2 | b3
            · rw [k2, b1]
              exact checkLayer_m21 A2 s c2 i hi' hc2 hc3 hl hm hn h h2 hmo k2 hw h0 hu1 b1
            · rw [k2, b2]
              exact checkLayer_m22 A2 s c2 i hi' hc2 hc3 hl hm hn h h2 hmo k2 hw h0 hu1 b2
            · rw [k2, b3]
              exact checkLayer_m23 A2 s c2 i hi' hc2 hc3 hl hm hn h h2 hmo k2 hw h0 hu1 b3
          · rcases kind_cases hu2 with b1 | b2 | b3
            · rw [k3, b1]
              exact checkLayer_m31 A2 s c2 i hi' hc2 hc3 hl hm hn h h2 hmo k3 hw h0 hu1 b1
            · rw [k3, b2]
              exact checkLayer_m32 A2 s c2 i hi' hc2 hc3 hl hm hn h h2 hmo k3 hw h0 hu1 b2
            · rw [k3, b3]
              exact checkLayer_m33 A2 s c2 i hi' hc2 hc3 hl hm hn h h2 hmo k3 hw h0 hu1 b3
      · rw [if_pos hw]
        exact checkLayer_named A2 s c2 i hi' hc2 hc3 hl hm hn h h2 hmo hk hk0 hw
theorem rowsGo_pre {m : List Mat} : ∀ (s : List Lay) (R : List Row) (k : Nat) (y : Lay), s[k]? = some y → rowsGo m [] s = rowsGo m R (s.drop k) → layF m R y ≠ 0 → (rowsGo m [] s).1 = layF m R y
  | s, R, k, y, hk, h, h0 => by
    have hlt := (List.getElem?_eq_some_iff.1 hk).1
    have hd : s.drop k = y :: s.drop (k + 1) := by rw [List.drop_eq_getElem_cons hlt, (List.getElem?_eq_some_iff.1 hk).2]
    rw [h, hd]
    unfold layF at *
    cases hx : matOf m y.mat with
    | none => rw [rowsGo_none hx]
    | some x =>
      rw [hx] at h0
      rw [rowsGo_bad hx h0]
theorem rowsGo_step {m : List Mat} {s : List Lay} {R : List Row} {k : Nat} {y : Lay} (hk : s[k]? = some y) (h : rowsGo m [] s = rowsGo m R (s.drop k)) (h0 : layF m R y = 0) :
    ∃ x, matOf m y.mat = some x ∧ rowF R (y.name, x) = 0 ∧ rowOf m y = (y.name, x) ∧ rowsGo m [] s = rowsGo m (R ++ [(y.name, x)]) (s.drop (k + 1)) := by
  have hlt := (List.getElem?_eq_some_iff.1 hk).1
  have hd : s.drop k = y :: s.drop (k + 1) := by rw [List.drop_eq_getElem_cons hlt, (List.getElem?_eq_some_iff.1 hk).2]
  unfold layF at h0
  cases hx : matOf m y.mat with
  | none => rw [hx] at h0; cases h0
  | some x =>
    rw [hx] at h0
    exact ⟨x, rfl, h0, by simp [rowOf, hx], by rw [h, hd, rowsGo_go hx h0]⟩
set_option maxHeartbeats 4000000 in
theorem rCheckStack_any (A2 : Option Addr) (s : List Lay) (c2 : Nat) (hc2 : s.length ≤ c2) (hc3 : c2 ≤ 140737488355328) (hS : StkIn A l A2 s w) :
    Calls Try.prog 19 #[.slice A l.length c, .slice A2 s.length c2] w fun e w' => e = .returned (.int .i64 (stackF l s)) ∧ Below w.heap.size w w' := by
  have HS := Lib.hid hS
  have hl := hS.l1
  have C1 := Lib.hid (fun W h => rCheckMaterials_any A l c W hl hS.n h)
  clear hS
  by_cases h0 : matsF l = 0
  · have HM := Lib.hid h0
    have hmm := matsF_mem h0
    rw [h0] at C1
    clear h0
    by_cases h60 : 60 < s.length
    · have HF := Lib.hid (show stackF l s = 2 by unfold stackF; rw [if_pos HM.out, if_pos h60])
      have hd60 : decide (60 < (s.length : Int)) = true := by simp; omega
      clear hmm
      go_enter Try.func19, Try.ntmps19
      go_wp2_with fail
      refine (C1.out _ HS.out.m).mono ?_
      rintro e w1 ⟨rfl, hb⟩
      have B1 := Lib.hid hb
      clear hb
      go_wp2_with fail
      go_ret
      exact ⟨by rw [HF.out]; rfl, B1.out⟩
    · have HF := Lib.hid (show stackF l s = if (rowsGo l [] s).1 = 0 then (if formB (rowsGo l [] s).2 then 0 else 3) else (rowsGo l [] s).1 by unfold stackF; rw [if_pos HM.out, if_neg h60])
      have hd60 : decide (60 < (s.length : Int)) = false := by simp; omega
      have CL := Lib.hid (fun i hi' W hg hf (hb : Below w.heap.size w W) => checkLayer_any (c := c) (w := W) A2 s c2 i hi' hc2 hc3 hl hmm HS.out.t (HS.out.m.below hb) (HS.out.y.below hb) hg hf)
      have CC := Lib.hid (fun W (hb : Below w.heap.size w W) => rCoppers_any (A := A) (l := l) (c := c) (w := W) A2 s c2 hl (by omega) (HS.out.m.below hb) (HS.out.y.below hb))
      have CI := Lib.hid (fun y W (hb : Below w.heap.size w W) => isCopper_any (A := A) (l := l) (c := c) (w := W) y hl (HS.out.m.below hb))
      clear hmm
      go_enter Try.func19, Try.ntmps19
      go_wp2_with fail
      refine (C1.out _ HS.out.m).mono ?_
      rintro e w1 ⟨rfl, hb⟩
      have B1 := Lib.hid hb
      clear hb
      go_wp2_with fail
      go_loopw [18] (fun t wr => ∃ k : Nat, k ≤ s.length ∧ t = .int .i64 k ∧ rowsGo l [] s = rowsGo l ((s.take k).map (rowOf l)) (s.drop k) ∧ GoodR ((s.take k).map (rowOf l)) ∧ (∀ y ∈ s.take k, (matOf l y.mat).isSome = true) ∧ Below w.heap.size w wr) (fun t _ => s.length - (intOf t).toNat)
      case atStart => exact ⟨0, Nat.zero_le _, rfl, rfl, GoodR.nil, (fun y hy => by cases hy), B1.out⟩
      case round =>
        obtain ⟨k, hk, rfl, hr, hg, hf, hw⟩ := hrel
        have HR := Lib.hid hr
        have HGd := Lib.hid hg
        have HFd := Lib.hid hf
        have HW := Lib.hid hw
        have zw := hw.size
        clear hr hg hf hw
        have hkz : (0 : Int) ≤ (k : Int) := by omega
        by_cases hlt : k < s.length
        · have CK := Lib.hid (CL.out k hlt wr HGd.out HFd.out HW.out)
          have hi : s[k]? = some s[k] := List.getElem?_eq_getElem hlt
          by_cases hF0 : layF l ((s.take k).map (rowOf l)) s[k] = 0
          · obtain ⟨x, q1, q2, q3, q4⟩ := rowsGo_step hi HR.out hF0
            have ht : s.take (k + 1) = s.take k ++ [s[k]] := by rw [List.take_add_one, hi]; rfl
            have HN := Lib.hid (show rowsGo l [] s = rowsGo l ((s.take (k + 1)).map (rowOf l)) (s.drop (k + 1)) by rw [q4, ht, List.map_append, List.map_singleton, q3])
            have HG2 := Lib.hid (show GoodR ((s.take (k + 1)).map (rowOf l)) by rw [ht, List.map_append, List.map_singleton, q3]; exact HGd.out.snoc q2)
            have HF2 := Lib.hid (show ∀ y ∈ s.take (k + 1), (matOf l y.mat).isSome = true by
              intro y hy
              rw [ht] at hy
              rcases List.mem_append.1 hy with hy | hy
              · exact HFd.out y hy
              · rw [List.mem_singleton.1 hy, q1]; rfl)
            rw [hF0] at CK
            clear q1 q2 q3 q4 ht hi hF0
            go_wp2_with fail
            refine CK.out.mono ?_
            rintro e w2 ⟨rfl, hb⟩
            have B2 := Lib.hid (HW.out.trans (hb.mono zw))
            clear hb
            go_wp2_with fail
            go_roundw
            case rel => exact ⟨k + 1, by omega, by go_num, HN.out, HG2.out, HF2.out, B2.out⟩
            case measure => simp [intOf]; omega
          · obtain ⟨F, hFe⟩ : ∃ F, layF l ((s.take k).map (rowOf l)) s[k] = F := ⟨_, rfl⟩
            have HN := Lib.hid (show stackF l s = F by rw [HF.out, rowsGo_pre s _ k _ hi HR.out hF0, if_neg hF0, hFe])
            rw [hFe] at hF0 CK
            have hd1 : (F == 0) = false := by simpa using hF0
            have hd2 : (F != 0) = true := by simpa using hF0
            clear hi hF0 hFe
            go_wp2_with fail
            refine CK.out.mono ?_
            rintro e w2 ⟨rfl, hb⟩
            have B2 := Lib.hid (HW.out.trans (hb.mono zw))
            clear hb
            go_wp2_with fail
            go_ret
            exact ⟨by rw [HN.out]; rfl, B2.out⟩
        · obtain rfl : k = s.length := by omega
          have hRR : (s.take s.length).map (rowOf l) = s.map (rowOf l) := by rw [List.take_length]
          have HE := Lib.hid (show rowsGo l [] s = (0, s.map (rowOf l)) by rw [HR.out, hRR, List.drop_length]; rfl)
          have HN := Lib.hid (show stackF l s = if formB (s.map (rowOf l)) then 0 else 3 by rw [HF.out, HE.out]; rfl)
          have HFB := Lib.hid (show formB (s.map (rowOf l)) = (decide (2 ≤ (cus (s.map (rowOf l))).length) && (s.map (rowOf l)).head?.any isCu && (s.map (rowOf l)).getLast?.any isCu) from rfl)
          have hfew : (cus (s.map (rowOf l))).length ≤ s.length := by
            have := cus_few (s.map (rowOf l)) 0
            rwa [List.length_map] at this
          clear hRR hlt hk
          generalize (cus (s.map (rowOf l))).length = nc at *
          by_cases hnc : nc < 2
          · have HV := Lib.hid (show stackF l s = 3 by rw [HN.out, HFB.out, decide_eq_false (by omega)]; rfl)
            have d1 : decide ((nc : Int) < 2) = true := by simp; omega
            go_wp2_with fail
            refine (CC.out _ HW.out).mono ?_
            rintro e w2 ⟨v, rfl, ho, hb⟩
            have B2 := Lib.hid (HW.out.trans (hb.mono zw))
            obtain ⟨Av, cv, rfl, _, _, _⟩ := own_cells ho
            clear hb ho
            go_wp2_with fail
            go_ret
            exact ⟨by rw [HV.out]; rfl, B2.out⟩
          · have hpos : 0 < s.length := by omega
            have d1 : decide ((nc : Int) < 2) = false := by simp; omega
            have hi0 : s[0]? = some s[0] := List.getElem?_eq_getElem hpos
            have hi1 : s[s.length - 1]? = some s[s.length - 1] := List.getElem?_eq_getElem (by omega)
            have HB := Lib.hid (show formB (s.map (rowOf l)) = (isCu (rowOf l s[0]) && isCu (rowOf l s[s.length - 1])) by
              rw [HFB.out, decide_eq_true (by omega), List.head?_eq_getElem?, List.getLast?_eq_getElem?, List.length_map, List.getElem?_map, List.getElem?_map, hi0, hi1]
              rfl)
            have x4 : IntKind.i64.wrap ((s.length : Int) - 1) = (s.length : Int) - 1 := IntWalk.i64_in _ (by omega)
            have x5 : (0 : Int) ≤ (s.length : Int) - 1 := by omega
            have x6 : (s.length : Int) - 1 < (s.length : Int) := by omega
            have x7 : ((s.length : Int) - 1).toNat = s.length - 1 := by omega
            have x8 : (0 : Int) < (s.length : Int) := by omega
            obtain ⟨b, off, hA2, hblt, hcs⟩ := HS.out.y hpos
            subst hA2
            have g0 := by simpa using hcs 0 _ hi0 0 _ rfl
            have g1 := by simpa using hcs 0 _ hi0 1 _ rfl
            have g2 := by simpa using hcs _ _ hi1 0 _ rfl
            have g3 := hcs _ _ hi1 1 _ rfl
            have CI0 := Lib.hid (CI.out s[0])
            have CI1 := Lib.hid (CI.out s[s.length - 1])
            clear hi0 hi1 hcs HFB
            generalize s[0] = y0 at *
            generalize s[s.length - 1] = y1 at *
            have KEEP := Lib.hid (fun (W : World) (hb : Below w.heap.size w W) => (⟨((bcell hb).1 _ _ hblt).trans g0, ((bcell hb).1 _ _ hblt).trans g1, ((bcell hb).1 _ _ hblt).trans g2, ((bcell hb).1 _ _ hblt).trans g3⟩ : W.cell? ⟨b, off, none⟩ = some (.string y0.name) ∧ W.cell? ⟨b, off + 1, none⟩ = some (.string y0.mat) ∧ W.cell? ⟨b, off + (s.length - 1) * 2, none⟩ = some (.string y1.name) ∧ W.cell? ⟨b, off + (s.length - 1) * 2 + 1, none⟩ = some (.string y1.mat)))
            clear g0 g1 g2 g3
            go_wp2_with fail
            refine (CC.out _ HW.out).mono ?_
            rintro e w2 ⟨v, rfl, ho, hb⟩
            have B2 := Lib.hid (HW.out.trans (hb.mono zw))
            obtain ⟨Av, cv, rfl, _, _, _⟩ := own_cells ho
            clear hb ho
            obtain ⟨k0, k1, k2, k3⟩ := KEEP.out w2 B2.out
            cases hb0 : isCu (rowOf l y0)
            · have HV := Lib.hid (show stackF l s = 3 by rw [HN.out, HB.out, hb0]; rfl)
              rw [hb0] at CI0
              clear hb0
              go_wp2_with fail
              refine (CI0.out _ B2.out).mono ?_
              rintro e w3 ⟨rfl, hb⟩
              have B3 := Lib.hid (B2.out.trans (hb.mono B2.out.size))
              clear hb
              go_wp2_with fail
              go_ret
              exact ⟨by rw [HV.out]; rfl, B3.out⟩
            · rw [hb0] at CI0
              have HB0 := Lib.hid hb0
              clear hb0
              cases hb1 : isCu (rowOf l y1)
              · have HV := Lib.hid (show stackF l s = 3 by rw [HN.out, HB.out, HB0.out, hb1]; rfl)
                rw [hb1] at CI1
                clear hb1
                go_wp2_with fail
                refine (CI0.out _ B2.out).mono ?_
                rintro e w3 ⟨rfl, hb⟩
                have B3 := Lib.hid (B2.out.trans (hb.mono B2.out.size))
                clear hb k0 k1 k2 k3
                obtain ⟨k0, k1, k2, k3⟩ := KEEP.out w3 B3.out
                go_wp2_with fail
                refine (CI1.out _ B3.out).mono ?_
                rintro e w4 ⟨rfl, hb⟩
                have B4 := Lib.hid (B3.out.trans (hb.mono B3.out.size))
                clear hb
                go_wp2_with fail
                go_ret
                exact ⟨by rw [HV.out]; rfl, B4.out⟩
              · have HV := Lib.hid (show stackF l s = 0 by rw [HN.out, HB.out, HB0.out, hb1]; rfl)
                rw [hb1] at CI1
                clear hb1
                go_wp2_with fail
                refine (CI0.out _ B2.out).mono ?_
                rintro e w3 ⟨rfl, hb⟩
                have B3 := Lib.hid (B2.out.trans (hb.mono B2.out.size))
                clear hb k0 k1 k2 k3
                obtain ⟨k0, k1, k2, k3⟩ := KEEP.out w3 B3.out
                go_wp2_with fail
                refine (CI1.out _ B3.out).mono ?_
                rintro e w4 ⟨rfl, hb⟩
                have B4 := Lib.hid (B3.out.trans (hb.mono B3.out.size))
                clear hb
                go_wp2_with fail
                go_ret
                exact ⟨by rw [HV.out]; rfl, B4.out⟩
  · have HF := Lib.hid (show stackF l s = matsF l from if_neg h0)
    generalize matsF l = F at *
    have hd1 : (F == 0) = false := by simpa using h0
    have hd2 : (F != 0) = true := by simpa using h0
    clear h0
    go_enter Try.func19, Try.ntmps19
    go_wp2_with fail
    refine (C1.out _ HS.out.m).mono ?_
    rintro e w1 ⟨rfl, hb⟩
    have B1 := Lib.hid hb
    clear hb
    go_wp2_with fail
    go_ret
    exact ⟨by rw [HF.out]; rfl, B1.out⟩
end
end Go.Proofs.Ytdlglnkhhbkndaa

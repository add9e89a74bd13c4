/- Whether a stack is right: what the reference of chapter 4 says of each layer, whatever the world. -/
import Derived.Test.YtdlglnkhhbkndaaRFns
namespace Go.Proofs.Ytdlglnkhhbkndaa
open Go.RowKit
set_option linter.unusedSimpArgs false
set_option linter.unusedVariables false
set_option maxRecDepth 100000

def layF (l : List Mat) (R : List Row) (y : Lay) : Int := match matOf l y.mat with | none => 9 | some x => rowF R (y.name, x)
theorem twice_eq {l : List Mat} {s : List Lay} {n : ByteArray} (hg : GoodR (s.map (rowOf l))) (hw : wordB n = true) : (s.any fun z => decide (z.name = n)) = (s.map (rowOf l)).any (fun q => isCu q && decide (q.1 = n)) := by
  rw [List.any_map]
  have key : ∀ z ∈ s, decide (z.name = n) = ((fun q : Row => isCu q && decide (q.1 = n)) ∘ rowOf l) z := by
   intro z hz
   by_cases he : z.name = n
   · have hr : rowOf l z ∈ s.map (rowOf l) := List.mem_map_of_mem hz
     cases hc : isCu (rowOf l z)
     · have := hg.e _ hr hc
       rw [← he, show z.name = ByteArray.empty from this] at hw
       cases hw
     · simp only [Function.comp, hc, Bool.true_and]
       rfl
   · simp [he, rowOf]
  rw [Bool.eq_iff_iff, List.any_eq_true, List.any_eq_true]
  constructor
  · rintro ⟨z, hz, h⟩
    exact ⟨z, hz, (key z hz) ▸ h⟩
  · rintro ⟨z, hz, h⟩
    exact ⟨z, hz, (key z hz).symm ▸ h⟩
theorem kind_cases {x : Mat} (h : matF x = 0) : x.kind = 1 ∨ x.kind = 2 ∨ x.kind = 3 := by
  have := matF_zero h
  omega
theorem rowF_cu {R : List Row} {n : ByteArray} {x : Mat} (hk : x.kind = 1) : rowF R (n, x) = if wordB n = false then 5 else if R.any (fun q => isCu q && decide (q.1 = n)) then 7 else if R.getLast?.all (fun q => decide (q.2.kind ≠ 1)) then 0 else 8 := by
  have hc : isCu (n, x) = true := by simp [isCu, hk]
  unfold rowF
  rw [hc]
  have e : ∀ b, meetB b x.kind = decide (b ≠ 1) := fun b => by simp [meetB, hk]
  simp only [e]
  cases wordB n <;> rfl
theorem rowF_no {R : List Row} {n : ByteArray} {x : Mat} (hk : x.kind ≠ 1) : rowF R (n, x) = if n ≠ ByteArray.empty then 5 else if R.getLast?.all (fun q => meetB q.2.kind x.kind) then 0 else 8 := by
  have hc : isCu (n, x) = false := by simp [isCu, hk]
  unfold rowF
  rw [hc]
  simp
section
variable {A : Option Addr} {l : List Mat} {c : Nat} {w : World}
set_option maxHeartbeats 2000000 in
theorem checkLayer_none (A2 : Option Addr) (s : List Lay) (c2 : Nat) (i : Nat) (hi' : i < s.length) (hc2 : s.length ≤ c2) (hc3 : c2 ≤ 140737488355328) (hl : l.length ≤ 140737488355328) (hm : ∀ x ∈ l, matF x = 0) (hn : ∀ y ∈ s, y.name.size ≤ maxLen ∧ y.mat.size ≤ maxLen) (h : RdG 4 Mat.cs w A l) (h2 : RdG 2 Lay.cs w A2 s) (hmo : matOf l s[i].mat = none) :
    Calls Try.prog 60 #[.slice A l.length c, .slice A2 s.length c2, .int .i64 (i : Nat)] w fun e w' => e = .returned (.int .i64 9) ∧ Below w.heap.size w w' := by
  have hi : s[i]? = some s[i] := List.getElem?_eq_getElem hi'
  obtain ⟨b, off, rfl, hblt, hcs⟩ := h2 (by omega)
  have c0 := by simpa using hcs i _ hi 0 _ rfl
  have c1 := hcs i _ hi 1 _ rfl
  have HCS := Lib.hid hcs
  have HI := Lib.hid hi
  have HM := Lib.hid hm
  have hnm := (hn s[i] (List.getElem_mem hi')).1
  have C := Lib.hid (fun n W hb => materialOf_any A l c n W hl (h.below hb) : ∀ n W, Below w.heap.size w W → _)
  have x1 : (0 : Int) ≤ (i : Int) := by omega
  have x2 : (i : Int) < (s.length : Int) := by omega
  have x3 : (i : Int) ≤ (c2 : Int) := by omega
  have hH2 := Lib.hid h2
  clear hcs hi h h2 hm hn
  have CY := Lib.hid (C.out s[i].mat)
  rw [hmo] at CY
  generalize s[i] = y at *
  clear hmo
  have hf1 := matField1
  go_enter Try.func60, Try.ntmps60
  go_wp2_with fail
  refine (CY.out _ (by (repeat' (first | (with_reducible exact Below.refl _ _) | (with_reducible assumption) | (with_reducible refine Below.alloc ?_ ?_ _) | (with_reducible refine Below.drew ?_) | (with_reducible refine below_drewN ?_ _) | (with_reducible refine Below.setCell ?_ ?_ _) | (with_reducible exact Nat.le_refl _) | omega | (simp only [World.size_alloc, World.size_setCell, World.size_drew]; omega) | (simp; omega) | (simp; done))))).mono ?_
  rintro e w1 ⟨rfl, hb⟩
  have B1 := Lib.hid hb
  have E0 : w1.cell? ⟨b, off + i * 2, none⟩ = some (.string y.name) := ((bcell hb).1 _ _ hblt).trans c0
  have E1 : w1.cell? ⟨b, off + i * 2 + 1, none⟩ = some (.string y.mat) := ((bcell hb).1 _ _ hblt).trans c1
  have z1 := hb.size
  clear hb
  go_wp2_with fail
  go_ret
  exact ⟨rfl, B1.out⟩
set_option maxHeartbeats 2000000 in
theorem checkLayer_noword (A2 : Option Addr) (s : List Lay) (c2 : Nat) (i : Nat) (hi' : i < s.length) (hc2 : s.length ≤ c2) (hc3 : c2 ≤ 140737488355328) (hl : l.length ≤ 140737488355328) (hm : ∀ x ∈ l, matF x = 0) (hn : ∀ y ∈ s, y.name.size ≤ maxLen ∧ y.mat.size ≤ maxLen) (h : RdG 4 Mat.cs w A l) (h2 : RdG 2 Lay.cs w A2 s) {x : Mat} (hmo : matOf l s[i].mat = some x) (hk : x.kind = 1) (hw : wordB s[i].name = false) :
    Calls Try.prog 60 #[.slice A l.length c, .slice A2 s.length c2, .int .i64 (i : Nat)] w fun e w' => e = .returned (.int .i64 5) ∧ Below w.heap.size w w' := by
  have hi : s[i]? = some s[i] := List.getElem?_eq_getElem hi'
  obtain ⟨b, off, rfl, hblt, hcs⟩ := h2 (by omega)
  have c0 := by simpa using hcs i _ hi 0 _ rfl
  have c1 := hcs i _ hi 1 _ rfl
  have HCS := Lib.hid hcs
  have HI := Lib.hid hi
  have HM := Lib.hid hm
  have hnm := (hn s[i] (List.getElem_mem hi')).1
  have C := Lib.hid (fun n W hb => materialOf_any A l c n W hl (h.below hb) : ∀ n W, Below w.heap.size w W → _)
  have x1 : (0 : Int) ≤ (i : Int) := by omega
  have x2 : (i : Int) < (s.length : Int) := by omega
  have x3 : (i : Int) ≤ (c2 : Int) := by omega
  have hH2 := Lib.hid h2
  clear hcs hi h h2 hm hn
  have CW := Lib.hid (fun (W : World) => hw ▸ rIsWord_any s[i].name W hnm)
  have CY := Lib.hid (C.out s[i].mat)
  rw [hmo] at CY
  generalize s[i] = y at *
  simp only [Option.getD_some] at CY
  clear hmo
  obtain ⟨xn, xk, xt, xg⟩ := x
  simp only at hk CY
  subst hk
  clear hw
  have hf1 := matField1
  go_enter Try.func60, Try.ntmps60
  go_wp2_with fail
  refine (CY.out _ (by (repeat' (first | (with_reducible exact Below.refl _ _) | (with_reducible assumption) | (with_reducible refine Below.alloc ?_ ?_ _) | (with_reducible refine Below.drew ?_) | (with_reducible refine below_drewN ?_ _) | (with_reducible refine Below.setCell ?_ ?_ _) | (with_reducible exact Nat.le_refl _) | omega | (simp only [World.size_alloc, World.size_setCell, World.size_drew]; omega) | (simp; omega) | (simp; done))))).mono ?_
  rintro e w1 ⟨rfl, hb⟩
  have B1 := Lib.hid hb
  have E0 : w1.cell? ⟨b, off + i * 2, none⟩ = some (.string y.name) := ((bcell hb).1 _ _ hblt).trans c0
  have E1 : w1.cell? ⟨b, off + i * 2 + 1, none⟩ = some (.string y.mat) := ((bcell hb).1 _ _ hblt).trans c1
  have z1 := hb.size
  clear hb
  go_wp2_with (go_at_call 58; refine (CW.out _).mono ?_; rintro e w2 ⟨rfl, rfl⟩)
  go_ret
  exact ⟨rfl, B1.out⟩
set_option maxHeartbeats 2000000 in
theorem checkLayer_named (A2 : Option Addr) (s : List Lay) (c2 : Nat) (i : Nat) (hi' : i < s.length) (hc2 : s.length ≤ c2) (hc3 : c2 ≤ 140737488355328) (hl : l.length ≤ 140737488355328) (hm : ∀ x ∈ l, matF x = 0) (hn : ∀ y ∈ s, y.name.size ≤ maxLen ∧ y.mat.size ≤ maxLen) (h : RdG 4 Mat.cs w A l) (h2 : RdG 2 Lay.cs w A2 s) {x : Mat} (hmo : matOf l s[i].mat = some x) (hk : x.kind ≠ 1) (hk0 : x.kind ≠ 0) (hw : s[i].name ≠ ByteArray.empty) :
    Calls Try.prog 60 #[.slice A l.length c, .slice A2 s.length c2, .int .i64 (i : Nat)] w fun e w' => e = .returned (.int .i64 5) ∧ Below w.heap.size w w' := by
  have hi : s[i]? = some s[i] := List.getElem?_eq_getElem hi'
  obtain ⟨b, off, rfl, hblt, hcs⟩ := h2 (by omega)
  have c0 := by simpa using hcs i _ hi 0 _ rfl
  have c1 := hcs i _ hi 1 _ rfl
  have HCS := Lib.hid hcs
  have HI := Lib.hid hi
  have HM := Lib.hid hm
  have hnm := (hn s[i] (List.getElem_mem hi')).1
  have C := Lib.hid (fun n W hb => materialOf_any A l c n W hl (h.below hb) : ∀ n W, Below w.heap.size w W → _)
  have x1 : (0 : Int) ≤ (i : Int) := by omega
  have x2 : (i : Int) < (s.length : Int) := by omega
  have x3 : (i : Int) ≤ (c2 : Int) := by omega
  have hH2 := Lib.hid h2
  clear hcs hi h h2 hm hn
  have CY := Lib.hid (C.out s[i].mat)
  rw [hmo] at CY
  generalize s[i] = y at *
  simp only [Option.getD_some] at CY
  clear hmo
  have hw1 : y.name.toList ≠ [] := fun e => hw (by rw [ByteArray.toList_eq] at e; cases hq : y.name with | mk a => rw [hq] at e; exact congrArg ByteArray.mk (Array.toList_inj.1 e))
  have n1 : (y.name.toList == []) = false := by simpa using hw1
  have n2 : (y.name.toList != []) = true := by simpa using hw1
  have n3 : y.name.toList.isEmpty = false := by simpa using hw1
  have n4 : (!y.name.toList.isEmpty) = true := by rw [n3]; rfl
  clear hw hw1
  obtain ⟨xn, xk, xt, xg⟩ := x
  simp only at hk hk0 CY
  have d1 : (xk == 1) = false := by simpa using hk
  have d2 : (xk == 0) = false := by simpa using hk0
  have d3 : (xk != 1) = true := by simpa using hk
  clear hk hk0
  have hf1 := matField1
  go_enter Try.func60, Try.ntmps60
  go_wp2_with fail
  refine (CY.out _ (by (repeat' (first | (with_reducible exact Below.refl _ _) | (with_reducible assumption) | (with_reducible refine Below.alloc ?_ ?_ _) | (with_reducible refine Below.drew ?_) | (with_reducible refine below_drewN ?_ _) | (with_reducible refine Below.setCell ?_ ?_ _) | (with_reducible exact Nat.le_refl _) | omega | (simp only [World.size_alloc, World.size_setCell, World.size_drew]; omega) | (simp; omega) | (simp; done))))).mono ?_
  rintro e w1 ⟨rfl, hb⟩
  have B1 := Lib.hid hb
  have E0 : w1.cell? ⟨b, off + i * 2, none⟩ = some (.string y.name) := ((bcell hb).1 _ _ hblt).trans c0
  have E1 : w1.cell? ⟨b, off + i * 2 + 1, none⟩ = some (.string y.mat) := ((bcell hb).1 _ _ hblt).trans c1
  have z1 := hb.size
  clear hb
  go_wp2_with fail
  go_ret
  exact ⟨rfl, B1.out⟩
set_option maxHeartbeats 2000000 in
theorem checkLayer_first (A2 : Option Addr) (s : List Lay) (c2 : Nat) (i : Nat) (hi' : i < s.length) (hc2 : s.length ≤ c2) (hc3 : c2 ≤ 140737488355328) (hl : l.length ≤ 140737488355328) (hm : ∀ x ∈ l, matF x = 0) (hn : ∀ y ∈ s, y.name.size ≤ maxLen ∧ y.mat.size ≤ maxLen) (h : RdG 4 Mat.cs w A l) (h2 : RdG 2 Lay.cs w A2 s) {x : Mat} (hmo : matOf l s[i].mat = some x) (hk : x.kind ≠ 1) (hk0 : x.kind ≠ 0) (hw : s[i].name = ByteArray.empty) (h0 : i = 0) :
    Calls Try.prog 60 #[.slice A l.length c, .slice A2 s.length c2, .int .i64 (i : Nat)] w fun e w' => e = .returned (.int .i64 0) ∧ Below w.heap.size w w' := by
  have hi : s[i]? = some s[i] := List.getElem?_eq_getElem hi'
  obtain ⟨b, off, rfl, hblt, hcs⟩ := h2 (by omega)
  have c0 := by simpa using hcs i _ hi 0 _ rfl
  have c1 := hcs i _ hi 1 _ rfl
  have HCS := Lib.hid hcs
  have HI := Lib.hid hi
  have HM := Lib.hid hm
  have hnm := (hn s[i] (List.getElem_mem hi')).1
  have C := Lib.hid (fun n W hb => materialOf_any A l c n W hl (h.below hb) : ∀ n W, Below w.heap.size w W → _)
  have x1 : (0 : Int) ≤ (i : Int) := by omega
  have x2 : (i : Int) < (s.length : Int) := by omega
  have x3 : (i : Int) ≤ (c2 : Int) := by omega
  have hH2 := Lib.hid h2
  clear hcs hi h h2 hm hn
  have CY := Lib.hid (C.out s[i].mat)
  rw [hmo] at CY
  generalize s[i] = y at *
  simp only [Option.getD_some] at CY
  clear hmo
  have n0 : y.name.toList = [] := by rw [hw, ByteArray.toList_eq]; rfl
  have n1 : (y.name.toList == []) = true := by rw [n0]; rfl
  have n2 : (y.name.toList != []) = false := by rw [n0]; rfl
  have n3 : y.name.toList.isEmpty = true := by rw [n0]; rfl
  have n4 : (!y.name.toList.isEmpty) = false := by rw [n3]; rfl
  clear hw n0
  obtain ⟨xn, xk, xt, xg⟩ := x
  simp only at hk hk0 CY
  have d1 : (xk == 1) = false := by simpa using hk
  have d2 : (xk == 0) = false := by simpa using hk0
  have d3 : (xk != 1) = true := by simpa using hk
  have e0 : ((i : Int) == 0) = true := by simp; omega
  clear hk hk0 h0
  have hf1 := matField1
  go_enter Try.func60, Try.ntmps60
  go_wp2_with fail
  refine (CY.out _ (by (repeat' (first | (with_reducible exact Below.refl _ _) | (with_reducible assumption) | (with_reducible refine Below.alloc ?_ ?_ _) | (with_reducible refine Below.drew ?_) | (with_reducible refine below_drewN ?_ _) | (with_reducible refine Below.setCell ?_ ?_ _) | (with_reducible exact Nat.le_refl _) | omega | (simp only [World.size_alloc, World.size_setCell, World.size_drew]; omega) | (simp; omega) | (simp; done))))).mono ?_
  rintro e w1 ⟨rfl, hb⟩
  have B1 := Lib.hid hb
  have E0 : w1.cell? ⟨b, off + i * 2, none⟩ = some (.string y.name) := ((bcell hb).1 _ _ hblt).trans c0
  have E1 : w1.cell? ⟨b, off + i * 2 + 1, none⟩ = some (.string y.mat) := ((bcell hb).1 _ _ hblt).trans c1
  have z1 := hb.size
  clear hb
  go_wp2_with fail
  go_ret
  exact ⟨rfl, B1.out⟩
end
end Go.Proofs.Ytdlglnkhhbkndaa

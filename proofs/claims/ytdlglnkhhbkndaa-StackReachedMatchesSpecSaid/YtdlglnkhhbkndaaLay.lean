/- A layer is laid below the others (lay): what is refused, whatever the world. -/
import Derived.Test.YtdlglnkhhbkndaaPlA
namespace Go.Proofs.Ytdlglnkhhbkndaa
open Go.RowKit Go.Maps Go.WideAt Go.WideMaps
set_option linter.unusedSimpArgs false
set_option linter.unusedVariables false
set_option maxRecDepth 100000

theorem MapV.drewN {P : Program} {k : TypeId} {w : World} {b n : Nat} {f : Lit → Option Value} (h : MapV P k w b n f) (m : Nat) : MapV P k (w.drewN m) b n f := h
theorem zeroInt (w : World) : (zeroValue 3).run Try.prog w = .ok (.int .i64 0) w := by kernel_rfl
theorem str_law : Keyed Try.prog 9 := string_keyed Try.underlying9
theorem wpList_num {ops : Array Oper} {rest : List Oper} {o : Oper} {a : Act} {Q : Exit → Act → World → Prop} {w : World} (hg : o.guard = none) (m x : Operand) (hop : o.op = Op.lookup 86 m x true) (q kn : Nat) (f : Lit → Option Value) (ns : List ByteArray)
    (hm : a.eval m = .map (some q)) (hk : MapV Try.prog 9 w q kn f) (hf : NumOk f ns) (nm : ByteArray) (hx : a.eval x = .string nm) (hs : nm.size ≤ maxLen) (tw : Bool) (ht : (ns.findIdx? fun b => decide (b = nm)).isSome = tw)
    (hK : ∀ v : Int, wpList Try.prog ops Q rest (a.put o.dst (.tuple #[.int .i64 v, .bool tw])) w) : wpList Try.prog ops Q (o :: rest) a w := by
  have h1 := hf nm
  cases hi : ns.findIdx? fun b => decide (b = nm) with
  | none =>
    rw [hi] at ht h1
    subst ht
    exact wpList_lacks_mapV hg m x _ hop _ _ str_law Try.underlying86 (zeroInt w) q kn f hm hk _ _ hx (keyOf_string_mk Try.underlying9 hs) h1 (hK 0)
  | some i =>
    rw [hi] at ht h1
    subst ht
    exact wpList_got_mapV hg m x _ hop _ _ str_law Try.underlying86 (zeroInt w) q kn f hm hk _ _ hx (keyOf_string_mk Try.underlying9 hs) _ h1 (hK _)
/-- What is known of a pile where a layer is laid. -/
structure LayIn (base p q kn : Nat) (mv tv cv nv : Value) (f : Lit → Option Value) (R : List Row) (w : World) : Prop where
  g : PileG base p q kn mv tv cv nv f (R.map (·.2)) (tops R) (cus R) (nms R) w
  f : NumOk f (nms R)
  n : kn ≤ R.length
  l : R.length ≤ 1000
theorem mat_cell {m : List Mat} {k : Nat} {x : Mat} (h : m[k]? = some x) : (m.flatMap Mat.cs)[k * 4 + 1]? = some (.int .i64 x.kind) := by
  induction m generalizing k with
  | nil => simp at h
  | cons y m ih =>
    cases k with
    | zero =>
      simp at h
      subst h
      simp [Mat.cs]
    | succ k =>
      have := ih (k := k) (by simpa using h)
      rw [show (k + 1) * 4 + 1 = (k * 4 + 1) + 4 by omega]
      simpa [Mat.cs, List.flatMap_cons] using this
theorem last_row {R : List Row} {r0 : Row} {w : World} {base : Nat} {Am : Option Addr} (hr : R.getLast? = some r0)
    (g3 : 0 < (R.map (·.2)).length → ∃ g, Am = some ⟨g, 0, none⟩ ∧ base ≤ g ∧ g < w.heap.size ∧ ∀ j u, ((R.map (·.2)).flatMap Mat.cs)[j]? = some u → w.cell? ⟨g, j, none⟩ = some u) :
    ∃ g j, Am = some ⟨g, 0, none⟩ ∧ g < w.heap.size ∧ R.length = j + 1 ∧ w.cell? ⟨g, j * 4 + 1, none⟩ = some (.int .i64 r0.2.kind) := by
  obtain ⟨j, hj⟩ : ∃ j, R.length = j + 1 := by
    cases R with
    | nil => simp at hr
    | cons y l => exact ⟨l.length, rfl⟩
  have hr2 : R[R.length - 1]? = some r0 := by rw [← List.getLast?_eq_getElem?]; exact hr
  obtain ⟨g, e1, e2, e3, e4⟩ := g3 (by simp; omega)
  have h4 := e4 ((R.length - 1) * 4 + 1) _ (mat_cell (x := r0.2) (by rw [List.getElem?_map, hr2]; rfl))
  rw [hj] at h4
  exact ⟨g, j, e1, e3, hj, by simpa using h4⟩
section
variable {base p q kn : Nat} {mv tv cv nv : Value} {f : Lit → Option Value} {R : List Row} {w : World}
set_option maxHeartbeats 2000000 in
/-- A copper whose name is no word. -/
theorem lay_noword (h : LayIn base p q kn mv tv cv nv f R w) (nm : ByteArray) (hs : nm.size ≤ maxLen) (x : Mat) (hk : x.kind = 1) (hw : wordB nm = false) :
    Calls Try.prog 88 #[.pointer (some ⟨p, 0, none⟩), .string nm, .agg #[.string x.name, .int .i64 x.kind, .int .i64 x.thick, .int .i64 x.grow]] w fun e w' => e = .returned (.int .i64 5) ∧ Below base w w' := by
  obtain ⟨Am, cm, hvm, g1, g2, g3⟩ := own_cells h.g.m
  have c0 : w.cell? ⟨p, 0, none⟩ = some mv := by rw [blk_cell h.g.b]; rfl
  have c4 : w.cell? ⟨p, 4, none⟩ = some (.map (some q)) := by rw [blk_cell h.g.b]; rfl
  have hpl := blk_lt h.g.b
  have hbp := h.g.p
  have hl := h.l
  simp only [List.length_map] at hvm g1
  subst hvm
  have g2' : cm ≤ 9223372036854775807 := g2
  have HK := Lib.hid h.g.k
  have HF := Lib.hid h.f
  have x4 : IntKind.i64.wrap ((R.length : Int) - 1) = (R.length : Int) - 1 := IntWalk.i64_in _ (by omega)
  obtain ⟨tw, htw⟩ : ∃ tw, ((nms R).findIdx? fun b => decide (b = nm)).isSome = tw := ⟨_, rfl⟩
  have CW := Lib.hid (fun W => hw ▸ isWord_any nm W)
  obtain ⟨xn, xk, xt, xg⟩ := x
  simp only at hk
  subst hk
  clear hw
  have HT := Lib.hid htw
  clear h g2 g3 htw
  go_enter Try.func88, Try.ntmps88
  go_wp2_with fail
  go_quiet (fail)
  go_wp2_with (first
    | (at_lookup; refine wpList_num rfl (.tmp 24) (.tmp 25) rfl q kn f (nms R) rfl ((HK.out.alloc _).drewN _) HF.out nm rfl hs tw HT.out ?_; intro v9)
    | (go_at_call 57; refine (CW.out _).mono ?_; rintro e w2 ⟨rfl, rfl⟩))
  go_ret
  exact ⟨rfl, below_drewN (by (repeat' (first | (with_reducible exact Below.refl _ _) | (with_reducible assumption) | (with_reducible refine Below.alloc ?_ ?_ _) | (with_reducible refine Below.drew ?_) | (with_reducible refine below_drewN ?_ _) | (with_reducible refine Below.setCell ?_ ?_ _) | (with_reducible exact Nat.le_refl _) | omega | (simp only [World.size_alloc, World.size_setCell, World.size_drew]; omega) | (simp; omega) | (simp; done)))) _⟩
set_option maxHeartbeats 2000000 in
/-- No copper, but with a name. -/
theorem lay_named (h : LayIn base p q kn mv tv cv nv f R w) (nm : ByteArray) (hs : nm.size ≤ maxLen) (x : Mat) (hk : x.kind ≠ 1) (hw : nm ≠ ByteArray.empty) :
    Calls Try.prog 88 #[.pointer (some ⟨p, 0, none⟩), .string nm, .agg #[.string x.name, .int .i64 x.kind, .int .i64 x.thick, .int .i64 x.grow]] w fun e w' => e = .returned (.int .i64 5) ∧ Below base w w' := by
  obtain ⟨Am, cm, hvm, g1, g2, g3⟩ := own_cells h.g.m
  have c0 : w.cell? ⟨p, 0, none⟩ = some mv := by rw [blk_cell h.g.b]; rfl
  have c4 : w.cell? ⟨p, 4, none⟩ = some (.map (some q)) := by rw [blk_cell h.g.b]; rfl
  have hpl := blk_lt h.g.b
  have hbp := h.g.p
  have hl := h.l
  simp only [List.length_map] at hvm g1
  subst hvm
  have g2' : cm ≤ 9223372036854775807 := g2
  have HK := Lib.hid h.g.k
  have HF := Lib.hid h.f
  have x4 : IntKind.i64.wrap ((R.length : Int) - 1) = (R.length : Int) - 1 := IntWalk.i64_in _ (by omega)
  obtain ⟨tw, htw⟩ : ∃ tw, ((nms R).findIdx? fun b => decide (b = nm)).isSome = tw := ⟨_, rfl⟩
  obtain ⟨xn, xk, xt, xg⟩ := x
  simp only at hk
  have d1 : (xk == 1) = false := by simpa using hk
  have hw1 : nm.toList ≠ [] := fun e => hw (by rw [ByteArray.toList_eq] at e; cases nm with | mk a => exact congrArg ByteArray.mk (Array.toList_inj.1 e))
  have n1 : (nm.toList == []) = false := by simpa using hw1
  have n2 : (nm.toList != []) = true := by simpa using hw1
  have n3 : nm.toList.isEmpty = false := by simpa using hw1
  have n4 : (!nm.toList.isEmpty) = true := by rw [n3]; rfl
  clear hw hw1 hk
  have HT := Lib.hid htw
  clear h g2 g3 htw
  go_enter Try.func88, Try.ntmps88
  go_wp2_with fail
  go_quiet (fail)
  go_wp2_with (first
    | (at_lookup; refine wpList_num rfl (.tmp 24) (.tmp 25) rfl q kn f (nms R) rfl ((HK.out.alloc _).drewN _) HF.out nm rfl hs tw HT.out ?_; intro v9))
  go_ret
  exact ⟨rfl, below_drewN (by (repeat' (first | (with_reducible exact Below.refl _ _) | (with_reducible assumption) | (with_reducible refine Below.alloc ?_ ?_ _) | (with_reducible refine Below.drew ?_) | (with_reducible refine below_drewN ?_ _) | (with_reducible refine Below.setCell ?_ ?_ _) | (with_reducible exact Nat.le_refl _) | omega | (simp only [World.size_alloc, World.size_setCell, World.size_drew]; omega) | (simp; omega) | (simp; done)))) _⟩
set_option maxHeartbeats 2000000 in
/-- A copper whose name is there. -/
theorem lay_twice (h : LayIn base p q kn mv tv cv nv f R w) (nm : ByteArray) (hs : nm.size ≤ maxLen) (x : Mat) (hk : x.kind = 1) (hw : wordB nm = true) (ht : ((nms R).findIdx? fun b => decide (b = nm)).isSome = true) :
    Calls Try.prog 88 #[.pointer (some ⟨p, 0, none⟩), .string nm, .agg #[.string x.name, .int .i64 x.kind, .int .i64 x.thick, .int .i64 x.grow]] w fun e w' => e = .returned (.int .i64 7) ∧ Below base w w' := by
  obtain ⟨Am, cm, hvm, g1, g2, g3⟩ := own_cells h.g.m
  have c0 : w.cell? ⟨p, 0, none⟩ = some mv := by rw [blk_cell h.g.b]; rfl
  have c4 : w.cell? ⟨p, 4, none⟩ = some (.map (some q)) := by rw [blk_cell h.g.b]; rfl
  have hpl := blk_lt h.g.b
  have hbp := h.g.p
  have hl := h.l
  simp only [List.length_map] at hvm g1
  subst hvm
  have g2' : cm ≤ 9223372036854775807 := g2
  have HK := Lib.hid h.g.k
  have HF := Lib.hid h.f
  have x4 : IntKind.i64.wrap ((R.length : Int) - 1) = (R.length : Int) - 1 := IntWalk.i64_in _ (by omega)
  obtain ⟨tw, htw⟩ : ∃ tw, ((nms R).findIdx? fun b => decide (b = nm)).isSome = tw := ⟨_, rfl⟩
  have CW := Lib.hid (fun W => hw ▸ isWord_any nm W)
  obtain rfl : true = tw := ht.symm.trans htw
  obtain ⟨xn, xk, xt, xg⟩ := x
  simp only at hk
  subst hk
  clear hw ht
  have HT := Lib.hid htw
  clear h g2 g3 htw
  go_enter Try.func88, Try.ntmps88
  go_wp2_with fail
  go_quiet (fail)
  go_wp2_with (first
    | (at_lookup; refine wpList_num rfl (.tmp 24) (.tmp 25) rfl q kn f (nms R) rfl ((HK.out.alloc _).drewN _) HF.out nm rfl hs true HT.out ?_; intro v9)
    | (go_at_call 57; refine (CW.out _).mono ?_; rintro e w2 ⟨rfl, rfl⟩))
  go_ret
  exact ⟨rfl, below_drewN (by (repeat' (first | (with_reducible exact Below.refl _ _) | (with_reducible assumption) | (with_reducible refine Below.alloc ?_ ?_ _) | (with_reducible refine Below.drew ?_) | (with_reducible refine below_drewN ?_ _) | (with_reducible refine Below.setCell ?_ ?_ _) | (with_reducible exact Nat.le_refl _) | omega | (simp only [World.size_alloc, World.size_setCell, World.size_drew]; omega) | (simp; omega) | (simp; done)))) _⟩
set_option maxHeartbeats 2000000 in
/-- A copper that cannot lie on what lies above. -/
theorem lay_clash (h : LayIn base p q kn mv tv cv nv f R w) (nm : ByteArray) (hs : nm.size ≤ maxLen) (x : Mat) (hk : x.kind = 1) (hw : wordB nm = true) (ht : ((nms R).findIdx? fun b => decide (b = nm)).isSome = false) {r0 : Row} (hr : R.getLast? = some r0) (hm : meetB r0.2.kind x.kind = false) :
    Calls Try.prog 88 #[.pointer (some ⟨p, 0, none⟩), .string nm, .agg #[.string x.name, .int .i64 x.kind, .int .i64 x.thick, .int .i64 x.grow]] w fun e w' => e = .returned (.int .i64 8) ∧ Below base w w' := by
  obtain ⟨Am, cm, hvm, g1, g2, g3⟩ := own_cells h.g.m
  have c0 : w.cell? ⟨p, 0, none⟩ = some mv := by rw [blk_cell h.g.b]; rfl
  have c4 : w.cell? ⟨p, 4, none⟩ = some (.map (some q)) := by rw [blk_cell h.g.b]; rfl
  have hpl := blk_lt h.g.b
  have hbp := h.g.p
  have hl := h.l
  simp only [List.length_map] at hvm g1
  subst hvm
  have g2' : cm ≤ 9223372036854775807 := g2
  have HK := Lib.hid h.g.k
  have HF := Lib.hid h.f
  have x4 : IntKind.i64.wrap ((R.length : Int) - 1) = (R.length : Int) - 1 := IntWalk.i64_in _ (by omega)
  obtain ⟨tw, htw⟩ : ∃ tw, ((nms R).findIdx? fun b => decide (b = nm)).isSome = tw := ⟨_, rfl⟩
  obtain ⟨g, j, rfl, hgl, hj, hcell⟩ := last_row hr g3
  have y1 : decide ((0 : Int) ≤ (R.length : Int) - 1) = true := by simp; omega
  have y2 : ((R.length : Int) - 1).toNat = j := by omega
  have y3 : (0 : Int) ≤ (R.length : Int) - 1 := by omega
  have y4 : (R.length : Int) - 1 < (R.length : Int) := by omega
  have y5 : decide ((1 : Int) ≤ (R.length : Int)) = true := by simp; omega
  clear hj hr
  have CW := Lib.hid (fun W => hw ▸ isWord_any nm W)
  have CM := Lib.hid (fun W => hm ▸ canMeet_any r0.2.kind x.kind W)
  generalize r0.2.kind = K0 at *
  obtain rfl : false = tw := ht.symm.trans htw
  obtain ⟨xn, xk, xt, xg⟩ := x
  simp only at hk CM
  subst hk
  clear hw ht hm
  have HT := Lib.hid htw
  clear h g2 g3 htw
  go_enter Try.func88, Try.ntmps88
  go_wp2_with fail
  go_quiet (fail)
  go_wp2_with (first
    | (at_lookup; refine wpList_num rfl (.tmp 24) (.tmp 25) rfl q kn f (nms R) rfl ((HK.out.alloc _).drewN _) HF.out nm rfl hs false HT.out ?_; intro v9)
    | (go_at_call 57; refine (CW.out _).mono ?_; rintro e w2 ⟨rfl, rfl⟩))
  go_quiet ((go_at_call 98; exact quiet2 CM.out))
  go_wp2_with fail
  go_ret
  exact ⟨rfl, below_drewN (by (repeat' (first | (with_reducible exact Below.refl _ _) | (with_reducible assumption) | (with_reducible refine Below.alloc ?_ ?_ _) | (with_reducible refine Below.drew ?_) | (with_reducible refine below_drewN ?_ _) | (with_reducible refine Below.setCell ?_ ?_ _) | (with_reducible exact Nat.le_refl _) | omega | (simp only [World.size_alloc, World.size_setCell, World.size_drew]; omega) | (simp; omega) | (simp; done)))) _⟩
set_option maxHeartbeats 2000000 in
/-- What is no copper, and cannot lie on what lies above. -/
theorem lay_clash2 (h : LayIn base p q kn mv tv cv nv f R w) (nm : ByteArray) (hs : nm.size ≤ maxLen) (x : Mat) (hk : x.kind ≠ 1) (hw : nm = ByteArray.empty) {r0 : Row} (hr : R.getLast? = some r0) (hm : meetB r0.2.kind x.kind = false) :
    Calls Try.prog 88 #[.pointer (some ⟨p, 0, none⟩), .string nm, .agg #[.string x.name, .int .i64 x.kind, .int .i64 x.thick, .int .i64 x.grow]] w fun e w' => e = .returned (.int .i64 8) ∧ Below base w w' := by
  obtain ⟨Am, cm, hvm, g1, g2, g3⟩ := own_cells h.g.m
  have c0 : w.cell? ⟨p, 0, none⟩ = some mv := by rw [blk_cell h.g.b]; rfl
  have c4 : w.cell? ⟨p, 4, none⟩ = some (.map (some q)) := by rw [blk_cell h.g.b]; rfl
  have hpl := blk_lt h.g.b
  have hbp := h.g.p
  have hl := h.l
  simp only [List.length_map] at hvm g1
  subst hvm
  have g2' : cm ≤ 9223372036854775807 := g2
  have HK := Lib.hid h.g.k
  have HF := Lib.hid h.f
  have x4 : IntKind.i64.wrap ((R.length : Int) - 1) = (R.length : Int) - 1 := IntWalk.i64_in _ (by omega)
  obtain ⟨tw, htw⟩ : ∃ tw, ((nms R).findIdx? fun b => decide (b = nm)).isSome = tw := ⟨_, rfl⟩
  obtain ⟨g, j, rfl, hgl, hj, hcell⟩ := last_row hr g3
  have y1 : decide ((0 : Int) ≤ (R.length : Int) - 1) = true := by simp; omega
  have y2 : ((R.length : Int) - 1).toNat = j := by omega
  have y3 : (0 : Int) ≤ (R.length : Int) - 1 := by omega
  have y4 : (R.length : Int) - 1 < (R.length : Int) := by omega
  have y5 : decide ((1 : Int) ≤ (R.length : Int)) = true := by simp; omega
  clear hj hr
  have CM := Lib.hid (fun W => hm ▸ canMeet_any r0.2.kind x.kind W)
  generalize r0.2.kind = K0 at *
  obtain ⟨xn, xk, xt, xg⟩ := x
  simp only at hk CM
  have d1 : (xk == 1) = false := by simpa using hk
  have HS := Lib.hid hs
  subst hw
  clear hm hk hs
  have HT := Lib.hid htw
  clear h g2 g3 htw
  go_enter Try.func88, Try.ntmps88
  go_wp2_with fail
  go_quiet (fail)
  go_wp2_with (first
    | (at_lookup; refine wpList_num rfl (.tmp 24) (.tmp 25) rfl q kn f (nms R) rfl ((HK.out.alloc _).drewN _) HF.out ByteArray.empty rfl HS.out tw HT.out ?_; intro v9))
  go_quiet ((go_at_call 98; exact quiet2 CM.out))
  go_wp2_with fail
  go_ret
  exact ⟨rfl, below_drewN (by (repeat' (first | (with_reducible exact Below.refl _ _) | (with_reducible assumption) | (with_reducible refine Below.alloc ?_ ?_ _) | (with_reducible refine Below.drew ?_) | (with_reducible refine below_drewN ?_ _) | (with_reducible refine Below.setCell ?_ ?_ _) | (with_reducible exact Nat.le_refl _) | omega | (simp only [World.size_alloc, World.size_setCell, World.size_drew]; omega) | (simp; omega) | (simp; done)))) _⟩
end
end Go.Proofs.Ytdlglnkhhbkndaa

/- mayFollow and canonical of package shape say what their plain counterparts say, whatever the world. -/
import Derived.Test.YtmcbjaefnhfopaaGreatShapeC
namespace Go.Proofs.YtmcbjaefnhfopaaGreat
open Go.RowKit
open Reg (R4)
set_option linter.unusedSimpArgs false
set_option linter.unusedVariables false

theorem may1_any (r u : R4) (w : World) : Calls Tryz.prog 87 #[.agg #[.int .i64 r.x0, .int .i64 r.y0, .int .i64 r.x1, .int .i64 r.y1], .agg #[.int .i64 u.x0, .int .i64 u.y0, .int .i64 u.x1, .int .i64 u.y1]] w fun e w' =>
    e = .returned (.bool (decide (Reg.spanOf r = Reg.spanOf u))) ∧ Below w.heap.size w w' := by
  have e : decide (Reg.spanOf r = Reg.spanOf u) = (decide (r.x0 = u.x0) && decide (r.x1 = u.x1)) := by simp [Reg.spanOf, Bool.decide_and]
  rw [e]
  clear e
  by_cases h : r.x0 = u.x0
  · have hb : (r.x0 == u.x0) = true := by simpa using h
    by_cases h2 : r.x1 = u.x1
    · have hb2 : (r.x1 == u.x1) = true := by simpa using h2
      rw [decide_eq_true h, decide_eq_true h2]
      clear h h2
      go_enter Tryz.func87, Tryz.ntmps87
      go_wp2_with fail
      go_ret
      exact ⟨rfl, by (repeat' (first | (with_reducible exact Below.refl _ _) | (with_reducible assumption) | (with_reducible refine Below.alloc ?_ ?_ _) | (with_reducible refine Below.drew ?_) | (with_reducible refine below_drewN ?_ _) | (with_reducible refine Below.setCell ?_ ?_ _) | (with_reducible exact Nat.le_refl _) | omega | (simp only [World.size_alloc, World.size_setCell, World.size_drew]; omega) | (simp; omega) | (simp; done)))⟩
    · have hb2 : (r.x1 == u.x1) = false := by simpa using h2
      rw [decide_eq_true h, decide_eq_false h2]
      clear h h2
      go_enter Tryz.func87, Tryz.ntmps87
      go_wp2_with fail
      go_ret
      exact ⟨rfl, by (repeat' (first | (with_reducible exact Below.refl _ _) | (with_reducible assumption) | (with_reducible refine Below.alloc ?_ ?_ _) | (with_reducible refine Below.drew ?_) | (with_reducible refine below_drewN ?_ _) | (with_reducible refine Below.setCell ?_ ?_ _) | (with_reducible exact Nat.le_refl _) | omega | (simp only [World.size_alloc, World.size_setCell, World.size_drew]; omega) | (simp; omega) | (simp; done)))⟩
  · have hb : (r.x0 == u.x0) = false := by simpa using h
    rw [decide_eq_false h]
    clear h
    go_enter Tryz.func87, Tryz.ntmps87
    go_wp2_with fail
    go_ret
    exact ⟨rfl, by (repeat' (first | (with_reducible exact Below.refl _ _) | (with_reducible assumption) | (with_reducible refine Below.alloc ?_ ?_ _) | (with_reducible refine Below.drew ?_) | (with_reducible refine below_drewN ?_ _) | (with_reducible refine Below.setCell ?_ ?_ _) | (with_reducible exact Nat.le_refl _) | omega | (simp only [World.size_alloc, World.size_setCell, World.size_drew]; omega) | (simp; omega) | (simp; done)))⟩

theorem may1_as (r u : R4) (b : Bool) (h : decide (Reg.spanOf r = Reg.spanOf u) = b) (w : World) : Calls Tryz.prog 87 #[.agg #[.int .i64 r.x0, .int .i64 r.y0, .int .i64 r.x1, .int .i64 r.y1], .agg #[.int .i64 u.x0, .int .i64 u.y0, .int .i64 u.x1, .int .i64 u.y1]] w fun e w' =>
    e = .returned (.bool b) ∧ Below w.heap.size w w' := h ▸ may1_any r u w

theorem equalRects_any (A B : Option Addr) (l m : List R4) (c d : Nat) (w : World) (hl : l.length ≤ 140737488355328) (hm : m.length ≤ 140737488355328) (hA : Rd w A l) (hB : Rd w B m) :
    Calls Tryz.prog 86 #[.slice A l.length c, .slice B m.length d, .func (.func 87) #[] #[]] w fun e w' => e = .returned (.bool (decide (l.map Reg.spanOf = m.map Reg.spanOf))) ∧ Below w.heap.size w w' := by
  by_cases hlen : l.length = m.length
  · have HA := Lib.hid hA
    have HB := Lib.hid hB
    have hlb : ((l.length : Int) != (m.length : Int)) = false := by simp [hlen]
    have HL := Lib.hid hlen
    clear hA hB hlen
    go_enter Tryz.func86, Tryz.ntmps86
    go_wp2_with fail
    go_loopw [17] (fun i wr => ∃ k : Nat, k ≤ l.length ∧ i = .int .i64 k ∧ (l.take k).map Reg.spanOf = (m.take k).map Reg.spanOf ∧ Below w.heap.size w wr) (fun i _ => l.length - (intOf i).toNat)
    case atStart => exact ⟨0, Nat.zero_le _, rfl, rfl, Below.refl _ _⟩
    case round =>
      obtain ⟨k, hk, rfl, hf, hbw⟩ := hrel
      have zw := hbw.size
      have HF := Lib.hid hf
      clear hf
      have hbo := (bcell hbw).1
      by_cases hlt : k < l.length
      · obtain ⟨b, off, rfl, hblt, hcs⟩ := HA.out (by omega)
        obtain ⟨b2, off2, rfl, hblt2, hcs2⟩ := HB.out (by have := HL.out; omega)
        have hlt2 : k < m.length := by have := HL.out; omega
        have hi : l[k]? = some l[k] := List.getElem?_eq_getElem hlt
        have hi2 : m[k]? = some m[k] := List.getElem?_eq_getElem hlt2
        have hu := hcs k _ hi
        have hu2 := hcs2 k _ hi2
        have ht : l.take (k + 1) = l.take k ++ [l[k]] := List.take_succ_eq_append_getElem hlt
        have ht2 : m.take (k + 1) = m.take k ++ [m[k]] := List.take_succ_eq_append_getElem hlt2
        have hk1 : l = l.take k ++ l[k] :: l.drop (k + 1) := by rw [← List.drop_eq_getElem_cons hlt, List.take_append_drop]
        have hk2 : m = m.take k ++ m[k] :: m.drop (k + 1) := by rw [← List.drop_eq_getElem_cons hlt2, List.take_append_drop]
        have HT := Lib.hid ht
        have HT2 := Lib.hid ht2
        have HK1 := Lib.hid hk1
        have HK2 := Lib.hid hk2
        clear ht ht2 hk1 hk2 hi hi2 hcs hcs2
        generalize l[k] = r at *
        generalize m[k] = u at *
        have c0 := (hbo b _ hblt).trans hu.1
        have c1 := (hbo b _ hblt).trans hu.2.1
        have c2 := (hbo b _ hblt).trans hu.2.2.1
        have c3 := (hbo b _ hblt).trans hu.2.2.2
        have d0 := (hbo b2 _ hblt2).trans hu2.1
        have d1 := (hbo b2 _ hblt2).trans hu2.2.1
        have d2 := (hbo b2 _ hblt2).trans hu2.2.2.1
        have d3 := (hbo b2 _ hblt2).trans hu2.2.2.2
        clear hu hu2 hbo
        have e1 : b < wr.heap.size := by omega
        have e2 : b2 < wr.heap.size := by omega
        have hkz : (0 : Int) ≤ (k : Int) := by omega
        have hkz2 : (k : Int) < (m.length : Int) := by omega
        by_cases hs : Reg.spanOf r = Reg.spanOf u
        · have C := Lib.hid (fun w => may1_as r u true (by simp [hs]) w)
          have hn : (l.take (k + 1)).map Reg.spanOf = (m.take (k + 1)).map Reg.spanOf := by rw [HT.out, HT2.out, List.map_append, List.map_append, HF.out]; simp [hs]
          have HN := Lib.hid hn
          clear hn hs
          go_wp2_with fail
          refine (C.out _).mono ?_
          rintro e w1 ⟨rfl, hb⟩
          have B1 := up (B := w.heap.size) (w := w) (by (repeat' (first | (with_reducible exact Below.refl _ _) | (with_reducible assumption) | (with_reducible refine Below.alloc ?_ ?_ _) | (with_reducible refine Below.drew ?_) | (with_reducible refine below_drewN ?_ _) | (with_reducible refine Below.setCell ?_ ?_ _) | (with_reducible exact Nat.le_refl _) | omega | (simp only [World.size_alloc, World.size_setCell, World.size_drew]; omega) | (simp; omega) | (simp; done)))) hb (by (first | (with_reducible exact Nat.le_refl _) | (with_reducible assumption) | omega | (simp only [World.size_alloc, World.size_setCell, World.size_drew]; omega) | (simp; omega) | (simp; done)))
          clear hb
          go_wp2_with fail
          go_roundw
          case rel => exact ⟨k + 1, by omega, by go_num, HN.out, B1⟩
          case measure => simp [intOf]; omega
        · have C := Lib.hid (fun w => may1_as r u false (by simp [hs]) w)
          have hn : decide (l.map Reg.spanOf = m.map Reg.spanOf) = false := by
            rw [decide_eq_false_iff_not]
            intro he
            rw [HK1.out, HK2.out, List.map_append, List.map_append, HF.out, List.append_right_inj, List.map_cons, List.map_cons] at he
            exact hs (List.cons.inj he).1
          have HN := Lib.hid hn
          clear hn hs
          go_wp2_with fail
          refine (C.out _).mono ?_
          rintro e w1 ⟨rfl, hb⟩
          have B1 := up (B := w.heap.size) (w := w) (by (repeat' (first | (with_reducible exact Below.refl _ _) | (with_reducible assumption) | (with_reducible refine Below.alloc ?_ ?_ _) | (with_reducible refine Below.drew ?_) | (with_reducible refine below_drewN ?_ _) | (with_reducible refine Below.setCell ?_ ?_ _) | (with_reducible exact Nat.le_refl _) | omega | (simp only [World.size_alloc, World.size_setCell, World.size_drew]; omega) | (simp; omega) | (simp; done)))) hb (by (first | (with_reducible exact Nat.le_refl _) | (with_reducible assumption) | omega | (simp only [World.size_alloc, World.size_setCell, World.size_drew]; omega) | (simp; omega) | (simp; done)))
          clear hb
          go_wp2_with fail
          go_ret
          exact ⟨by rw [HN.out]; rfl, B1⟩
      · obtain rfl : k = l.length := by omega
        have hn : decide (l.map Reg.spanOf = m.map Reg.spanOf) = true := by
          rw [decide_eq_true_eq]
          have := HF.out
          rw [List.take_length] at this
          rw [this, HL.out, List.take_length]
        have HN := Lib.hid hn
        clear hn hbo
        go_wp2_with fail
        go_ret
        exact ⟨by rw [HN.out]; rfl, by (repeat' (first | (with_reducible exact Below.refl _ _) | (with_reducible assumption) | (with_reducible refine Below.alloc ?_ ?_ _) | (with_reducible refine Below.drew ?_) | (with_reducible refine below_drewN ?_ _) | (with_reducible refine Below.setCell ?_ ?_ _) | (with_reducible exact Nat.le_refl _) | omega | (simp only [World.size_alloc, World.size_setCell, World.size_drew]; omega) | (simp; omega) | (simp; done)))⟩
  · have hlb : ((l.length : Int) != (m.length : Int)) = true := by simp; omega
    have hn : decide (l.map Reg.spanOf = m.map Reg.spanOf) = false := by
      rw [decide_eq_false_iff_not]
      intro he
      have := congrArg List.length he
      simp at this
      exact hlen this
    have HN := Lib.hid hn
    clear hn hlen hA hB
    go_enter Tryz.func86, Tryz.ntmps86
    go_wp2_with fail
    go_ret
    exact ⟨by rw [HN.out]; rfl, by (repeat' (first | (with_reducible exact Below.refl _ _) | (with_reducible assumption) | (with_reducible refine Below.alloc ?_ ?_ _) | (with_reducible refine Below.drew ?_) | (with_reducible refine below_drewN ?_ _) | (with_reducible refine Below.setCell ?_ ?_ _) | (with_reducible exact Nat.le_refl _) | omega | (simp only [World.size_alloc, World.size_setCell, World.size_drew]; omega) | (simp; omega) | (simp; done)))⟩

theorem mayFollow_nil (A B : Option Addr) (m : List R4) (d c : Nat) (w : World) (hm : m.length ≤ 140737488355328) :
    Calls Tryz.prog 71 #[.slice A 0 c, .slice B m.length d] w fun e w' => e = .returned (.bool true) ∧ Below w.heap.size w w' := by
  go_enter Tryz.func71, Tryz.ntmps71
  go_wp2_with fail
  go_quiet (fail)
  go_wp2_with fail
  go_ret
  exact ⟨rfl, by (repeat' (first | (with_reducible exact Below.refl _ _) | (with_reducible assumption) | (with_reducible refine Below.alloc ?_ ?_ _) | (with_reducible refine Below.drew ?_) | (with_reducible refine below_drewN ?_ _) | (with_reducible refine Below.setCell ?_ ?_ _) | (with_reducible exact Nat.le_refl _) | omega | (simp only [World.size_alloc, World.size_setCell, World.size_drew]; omega) | (simp; omega) | (simp; done)))⟩

set_option maxRecDepth 100000 in
theorem mayFollow_any (A B : Option Addr) (r u : R4) (t m : List R4) (c d : Nat) (w : World) (hl : (r :: t).length ≤ 140737488355328) (hm : (u :: m).length ≤ 140737488355328) (hA : Rd w A (r :: t)) (hB : Rd w B (u :: m)) :
    Calls Tryz.prog 71 #[.slice A (t.length + 1) c, .slice B (m.length + 1) d] w fun e w' => e = .returned (.bool (Reg.mayF (r :: t) (u :: m))) ∧ Below w.heap.size w w' := by
  have HA := Lib.hid hA
  have HB := Lib.hid hB
  obtain ⟨b, off, rfl, hblt, hcs⟩ := hA (by simp)
  obtain ⟨b2, off2, rfl, hblt2, hcs2⟩ := hB (by simp)
  obtain ⟨_, _, _, x3⟩ := hcs 0 r rfl
  obtain ⟨_, y1, _, _⟩ := hcs2 0 u rfl
  clear hcs hcs2 hA hB
  simp only [Nat.zero_mul, Nat.add_zero] at x3 y1
  have hl' : t.length + 1 ≤ 140737488355328 := by simpa using hl
  have hm' : m.length + 1 ≤ 140737488355328 := by simpa using hm
  have hl0 : (((t.length : Int) + 1) == 0) = false := by simp; omega
  have hi0 : (0 : Int) < (t.length : Int) + 1 := by omega
  have hi1 : (0 : Int) < (m.length : Int) + 1 := by omega
  by_cases hlt : r.y1 < u.y0
  · have hn : Reg.mayF (r :: t) (u :: m) = true := by simp [Reg.mayF, hlt]
    have HN := Lib.hid hn
    clear hn
    go_enter Tryz.func71, Tryz.ntmps71
    go_wp2_with fail
    go_quiet (fail)
    go_wp2_with fail
    go_ret
    exact ⟨by rw [HN.out]; rfl, by (repeat' (first | (with_reducible exact Below.refl _ _) | (with_reducible assumption) | (with_reducible refine Below.alloc ?_ ?_ _) | (with_reducible refine Below.drew ?_) | (with_reducible refine below_drewN ?_ _) | (with_reducible refine Below.setCell ?_ ?_ _) | (with_reducible exact Nat.le_refl _) | omega | (simp only [World.size_alloc, World.size_setCell, World.size_drew]; omega) | (simp; omega) | (simp; done)))⟩
  · have hge : decide (r.y1 < u.y0) = false := by simpa using hlt
    by_cases he : r.y1 = u.y0
    · have hn : Reg.mayF (r :: t) (u :: m) = !decide ((r :: t).map Reg.spanOf = (u :: m).map Reg.spanOf) := by simp [Reg.mayF, he]
      have HN := Lib.hid hn
      have hbe : (r.y1 == u.y0) = true := by simpa using he
      have C0 : ∀ W, Rd W (some ⟨b, off, none⟩) (r :: t) → Rd W (some ⟨b2, off2, none⟩) (u :: m) → Calls Tryz.prog 86 #[.slice (some ⟨b, off, none⟩) (t.length + 1) c, .slice (some ⟨b2, off2, none⟩) (m.length + 1) d, .func (.func 87) #[] #[]] W fun e w' => e = .returned (.bool (decide ((r :: t).map Reg.spanOf = (u :: m).map Reg.spanOf))) ∧ Below W.heap.size W w' :=
        fun W hA hB => equalRects_any (some ⟨b, off, none⟩) (some ⟨b2, off2, none⟩) (r :: t) (u :: m) c d W hl hm hA hB
      have C := Lib.hid C0
      clear C0
      generalize decide ((r :: t).map Reg.spanOf = (u :: m).map Reg.spanOf) = D at *
      clear hn he hlt
      go_enter Tryz.func71, Tryz.ntmps71
      go_wp2_with fail
      go_quiet (fail)
      go_wp2_with fail
      go_region_held3 (fun w' => w'.cell? ⟨b, off + 3, none⟩ = some (.int .i64 r.y1) ∧ w'.cell? ⟨b2, off2 + 1, none⟩ = some (.int .i64 u.y0)) (first | go_keep | (exact ⟨((bcell hb).1 _ _ hblt).trans x3, ((bcell hb).1 _ _ hblt2).trans y1⟩))
        (first | (go_at_call 86; refine (C.out _ ?hA ?hB).mono ?_; (case hA => exact HA.out); (case hB => exact HB.out); rintro e w1 ⟨rfl, hb⟩))
      have B1 := up (B := w.heap.size) (w := w) (by (repeat' (first | (with_reducible exact Below.refl _ _) | (with_reducible assumption) | (with_reducible refine Below.alloc ?_ ?_ _) | (with_reducible refine Below.drew ?_) | (with_reducible refine below_drewN ?_ _) | (with_reducible refine Below.setCell ?_ ?_ _) | (with_reducible exact Nat.le_refl _) | omega | (simp only [World.size_alloc, World.size_setCell, World.size_drew]; omega) | (simp; omega) | (simp; done)))) hb (by (first | (with_reducible exact Nat.le_refl _) | (with_reducible assumption) | omega | (simp only [World.size_alloc, World.size_setCell, World.size_drew]; omega) | (simp; omega) | (simp; done)))
      go_wp2_with fail
      go_ret
      exact ⟨by rw [HN.out]; rfl, B1⟩
    · have hn : Reg.mayF (r :: t) (u :: m) = false := by simp [Reg.mayF, he]; omega
      have HN := Lib.hid hn
      have hbe : (r.y1 == u.y0) = false := by simpa using he
      clear hn he
      go_enter Tryz.func71, Tryz.ntmps71
      go_wp2_with fail
      go_quiet (fail)
      go_wp2_with fail
      go_quiet (fail)
      go_wp2_with fail
      go_ret
      exact ⟨by rw [HN.out]; rfl, by (repeat' (first | (with_reducible exact Below.refl _ _) | (with_reducible assumption) | (with_reducible refine Below.alloc ?_ ?_ _) | (with_reducible refine Below.drew ?_) | (with_reducible refine below_drewN ?_ _) | (with_reducible refine Below.setCell ?_ ?_ _) | (with_reducible exact Nat.le_refl _) | omega | (simp only [World.size_alloc, World.size_setCell, World.size_drew]; omega) | (simp; omega) | (simp; done)))⟩
end Go.Proofs.YtmcbjaefnhfopaaGreat

/- Rows of gaps: how they read, and slices.Equal of a row with itself. -/
import Derived.Test.YtkjbllhobannpaaGapP
import Derived.Test.YtkjbllhobannpaaRefG
import Derived.Test.YtkjbllhobannpaaSweepA
namespace Go.Proofs.Ytkjbllhobannpaa
open Go.RowKit
open Reg (R4)
set_option linter.unusedSimpArgs false
set_option linter.unusedVariables false

def cG (l : List G7) : List Value := l.flatMap fun g => [.int .i64 g.a, .int .i64 g.b, .int .i64 g.d, .int .i64 g.fx, .int .i64 g.fy, .int .i64 g.tx, .int .i64 g.ty]
theorem cG_len (l : List G7) : (cG l).length = l.length * 7 := by induction l <;> simp [cG] at *; omega
theorem cG_append (a b : List G7) : cG (a ++ b) = cG a ++ cG b := by simp [cG]
theorem cG_at {l : List G7} : ∀ {i : Nat} {g : G7}, l[i]? = some g → (cG l)[i * 7]? = some (.int .i64 g.a) ∧ (cG l)[i * 7 + 1]? = some (.int .i64 g.b) ∧ (cG l)[i * 7 + 2]? = some (.int .i64 g.d) ∧ (cG l)[i * 7 + 3]? = some (.int .i64 g.fx) ∧ (cG l)[i * 7 + 4]? = some (.int .i64 g.fy) ∧ (cG l)[i * 7 + 5]? = some (.int .i64 g.tx) ∧ (cG l)[i * 7 + 6]? = some (.int .i64 g.ty) := by
  induction l with
  | nil => intro i s h; simp at h
  | cons a l ih =>
    intro i s h
    cases i with
    | zero => simp at h; subst h; exact ⟨rfl, rfl, rfl, rfl, rfl, rfl, rfl⟩
    | succ i =>
      obtain ⟨h0, h1, h2, h3, h4, h5, h6⟩ := ih (i := i) (g := s) (by simpa using h)
      have e : ∀ m, (cG (a :: l))[(i + 1) * 7 + m]? = (cG l)[i * 7 + m]? := by
        intro m
        have : cG (a :: l) = [.int .i64 a.a, .int .i64 a.b, .int .i64 a.d, .int .i64 a.fx, .int .i64 a.fy, .int .i64 a.tx, .int .i64 a.ty] ++ cG l := rfl
        rw [this, List.getElem?_append_right (by simp; omega)]
        congr 1
        simp
        omega
      have e0 := e 0
      rw [Nat.add_zero, Nat.add_zero] at e0
      exact ⟨e0.trans h0, (e 1).trans h1, (e 2).trans h2, (e 3).trans h3, (e 4).trans h4, (e 5).trans h5, (e 6).trans h6⟩
/-- A slice of gaps reads as a list. -/
def RdG (w : World) (A : Option Addr) (l : List G7) : Prop :=
  0 < l.length → ∃ b off, A = some ⟨b, off, none⟩ ∧ b < w.heap.size ∧ ∀ i g, l[i]? = some g →
    w.cell? ⟨b, off + i * 7, none⟩ = some (.int .i64 g.a) ∧ w.cell? ⟨b, off + i * 7 + 1, none⟩ = some (.int .i64 g.b) ∧ w.cell? ⟨b, off + i * 7 + 2, none⟩ = some (.int .i64 g.d) ∧ w.cell? ⟨b, off + i * 7 + 3, none⟩ = some (.int .i64 g.fx) ∧ w.cell? ⟨b, off + i * 7 + 4, none⟩ = some (.int .i64 g.fy) ∧ w.cell? ⟨b, off + i * 7 + 5, none⟩ = some (.int .i64 g.tx) ∧ w.cell? ⟨b, off + i * 7 + 6, none⟩ = some (.int .i64 g.ty)
theorem RdG.below {w w' : World} {A : Option Addr} {l : List G7} (h : RdG w A l) (hb : Below w.heap.size w w') : RdG w' A l := fun hn => by
  obtain ⟨b, off, e, hlt, hc⟩ := h hn
  exact ⟨b, off, e, Nat.lt_of_lt_of_le hlt hb.size, fun i r hi => by
    obtain ⟨h0, h1, h2, h3, h4, h5, h6⟩ := hc i r hi
    exact ⟨((bcell hb).1 _ _ hlt).trans h0, ((bcell hb).1 _ _ hlt).trans h1, ((bcell hb).1 _ _ hlt).trans h2, ((bcell hb).1 _ _ hlt).trans h3, ((bcell hb).1 _ _ hlt).trans h4, ((bcell hb).1 _ _ hlt).trans h5, ((bcell hb).1 _ _ hlt).trans h6⟩⟩
theorem rdG_own {w : World} {base : Nat} {v : Value} {l : List G7} (h : w.ownsRow base 44 7 v l.length (cG l)) : ∃ A c, v = .slice A l.length c ∧ l.length ≤ c ∧ c ≤ maxLen ∧ RdG w A l := by
  obtain ⟨A, c, rfl, h1, h2, h3⟩ := own_cells h
  refine ⟨A, c, rfl, h1, h2, fun hpos => ?_⟩
  obtain ⟨g, rfl, hg, hlt, hc⟩ := h3 hpos
  refine ⟨g, 0, rfl, hlt, fun i r hi => ?_⟩
  rw [Nat.zero_add]
  obtain ⟨a0, a1, a2, a3, a4, a5, a6⟩ := cG_at hi
  exact ⟨hc _ _ a0, hc _ _ a1, hc _ _ a2, hc _ _ a3, hc _ _ a4, hc _ _ a5, hc _ _ a6⟩
theorem infoG : (Try.prog.info? 44).map (fun i => (i.zero, i.size, i.bytes)) = some (some (.agg #[.int .i64 0, .int .i64 0, .int .i64 0, .int .i64 0, .int .i64 0, .int .i64 0, .int .i64 0]), 7, 56) := by kernel_rfl

set_option maxRecDepth 100000 in
set_option maxHeartbeats 2000000 in
theorem equalG_any (A1 A2 : Option Addr) (l : List G7) (c1 c2 : Nat) (w : World) (hl : l.length ≤ maxLen) (h1 : RdG w A1 l) (h2 : RdG w A2 l) :
    Calls Try.prog 18 #[.slice A1 l.length c1, .slice A2 l.length c2] w fun e w' => e = .returned (.bool true) ∧ Below w.heap.size w w' := by
  unfold maxLen at hl
  have H1 := Lib.hid h1
  have H2 := Lib.hid h2
  clear h1 h2
  go_enter Try.func18, Try.ntmps18
  go_wp2_with fail
  go_loopw [13] (fun i wr => ∃ k : Nat, k ≤ l.length ∧ i = .int .i64 k ∧ Below w.heap.size w wr) (fun i _ => l.length - (intOf i).toNat)
  case atStart => exact ⟨0, Nat.zero_le _, rfl, by (repeat' (first | (with_reducible exact Below.refl _ _) | (with_reducible assumption) | (with_reducible refine Below.alloc ?_ ?_ _) | (with_reducible refine Below.drew ?_) | (with_reducible refine below_drewN ?_ _) | (with_reducible refine Below.setCell ?_ ?_ _) | (with_reducible exact Nat.le_refl _) | omega | (simp only [World.size_alloc, World.size_setCell, World.size_drew]; omega) | (simp; omega) | (simp; done)))⟩
  case round =>
    obtain ⟨k, hk, rfl, hbw⟩ := hrel
    have zw := hbw.size
    have hkz : (0 : Int) ≤ (k : Int) := by omega
    by_cases hlt : k < l.length
    · obtain ⟨b1, o1, e, hb1, hc1⟩ := (H1.out.below hbw) (by omega)
      subst e
      obtain ⟨b2, o2, e, hb2, hc2⟩ := (H2.out.below hbw) (by omega)
      subst e
      obtain ⟨a0, a1, a2, a3, a4, a5, a6⟩ := hc1 k _ (List.getElem?_eq_getElem hlt)
      obtain ⟨d0, d1, d2, d3, d4, d5, d6⟩ := hc2 k _ (List.getElem?_eq_getElem hlt)
      clear hc1 hc2
      generalize l[k] = r at *
      have hklt : (k : Int) < (l.length : Int) := by omega
      go_wp2_with fail
      go_quiet (fail)
      go_wp2_with fail
      go_roundw
      case rel => exact ⟨k + 1, by omega, by go_num, below_drewN hbw _⟩
      case measure => simp [intOf]; omega
    · obtain rfl : k = l.length := by omega
      go_wp2_with fail
      go_ret
      exact ⟨rfl, hbw⟩
end Go.Proofs.Ytkjbllhobannpaa

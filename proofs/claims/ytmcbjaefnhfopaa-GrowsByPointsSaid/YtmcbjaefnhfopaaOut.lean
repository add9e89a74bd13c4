/- outside of package shape, whatever the world. -/
import Derived.Test.YtmcbjaefnhfopaaGrowC
import Derived.Test.YtmcbjaefnhfopaaCountB
namespace Go.Proofs.Ytmcbjaefnhfopaa
open Go.RowKit Go.Shelf
open Reg (R4 inR canonL sweepL Kept)
set_option linter.unusedSimpArgs false
set_option linter.unusedVariables false

def frameR (l : List R4) : R4 := wideA 1 (aroundR l)
def outL (l : List R4) : List R4 := sweepL notK [frameR l] l
theorem beside_way {a b : List R4} (ga : Reg.Good a) (gb : Reg.Good b) (x y : Int) : wayB 3 (insB (Reg.rowL a y) x) (insB (Reg.rowL b y) x) = true ↔ Kept notK a b x y := by
  rw [kept_not, hasB_row ga, hasB_row gb, ← hasB_iff (l := a), ← hasB_iff (l := b)]
  simp [wayB]
theorem frame_ok {l : List R4} (h : regF l = 0) (hpos : 0 < l.length) : InB (-1000000) 1000000 (aroundR l) ∧ (∀ r, r ∈ l → Cov (aroundR l) r) ∧ Reg.Good [frameR l] := by
  obtain ⟨hg, h2000⟩ := good_of_rects (regF_zero.1 h).1
  have hin6 := rect_in (regF_rects h)
  obtain ⟨ain, acov⟩ := around_ok (lo := -1000000) (hi := 1000000) hpos fun r hr => by
    have := hin6 r hr
    simp only [In6] at this
    simp only [InB]
    omega
  refine ⟨ain, acov, fun r hr => ?_⟩
  simp at hr
  subst hr
  have c := acov _ (List.getElem_mem hpos)
  have g := hg _ (List.getElem_mem hpos)
  simp only [Cov] at c
  simp only [frameR, wideA]
  omega
theorem out_count {l : List R4} (h : regF l = 0) (hpos : 0 < l.length) : (outL l).length ≤ 6 * l.length + 4 := by
  obtain ⟨hg, -⟩ := good_of_rects (regF_zero.1 h).1
  obtain ⟨-, acov, gf⟩ := frame_ok h hpos
  rw [outL, ← combL_sweep (keep := notK) rfl gf hg (fun x y => beside_way gf hg x y)]
  refine beside_count 3 (region_banded h) fun r hr => ?_
  have c := acov r hr
  have g := hg r hr
  simp only [Cov] at c
  simp only [frameR, wideA]
  omega
theorem out_banded {l : List R4} (h : regF l = 0) (hpos : 0 < l.length) : Banded (outL l) ∧ Reg.Good (outL l) := by
  obtain ⟨hg, -⟩ := good_of_rects (regF_zero.1 h).1
  obtain ⟨-, -, gf⟩ := frame_ok h hpos
  obtain ⟨⟨z, c1⟩, -⟩ := Reg.bandsK_ok (keep := notK) rfl gf hg
  exact ⟨told_banded c1, Reg.sweepL_good (keep := notK) rfl gf hg⟩
theorem out_inR {l : List R4} (h : regF l = 0) (hpos : 0 < l.length) (x y : Int) : inR (outL l) x y ↔ ((aroundR l).x0 - 1 ≤ x ∧ x < (aroundR l).x1 + 1 ∧ (aroundR l).y0 - 1 ≤ y ∧ y < (aroundR l).y1 + 1) ∧ ¬ inR l x y := by
  obtain ⟨hg, -⟩ := good_of_rects (regF_zero.1 h).1
  obtain ⟨-, -, gf⟩ := frame_ok h hpos
  rw [outL, Reg.sweepL_inR (keep := notK) rfl gf hg, kept_not]
  have : inR [frameR l] x y ↔ ((aroundR l).x0 - 1 ≤ x ∧ x < (aroundR l).x1 + 1 ∧ (aroundR l).y0 - 1 ≤ y ∧ y < (aroundR l).y1 + 1) := by
    constructor
    · rintro ⟨r, hr, h1⟩
      simp at hr
      subst hr
      simpa [frameR, wideA, R4.has] using h1
    · intro h1
      exact ⟨frameR l, by simp, by simpa [frameR, wideA, R4.has] using h1⟩
  rw [this]

set_option maxRecDepth 100000 in
set_option maxHeartbeats 2000000 in
theorem outside_any (A : Option Addr) (l : List R4) (c : Nat) (w : World) (h0 : regF l = 0) (hpos : 0 < l.length) (h : Rd w A l) :
    Calls Try.prog 53 #[.slice A l.length c] w (GotOwn w (outL l)) := by
  have H0 := Lib.hid h
  obtain ⟨hg, h2000⟩ := good_of_rects (regF_zero.1 h0).1
  obtain ⟨ain, -, gf⟩ := frame_ok h0 hpos
  have hcount := out_count h0 hpos
  have C2 := Lib.hid (fun W h => around_any A l c W hpos (by omega) h)
  have C3 := Lib.hid (fun W => widened_any (aroundR l) 1 W (by simp only [InB] at ain; omega) (by omega) (by omega))
  have C4 := Lib.hid (fun A' W h1 h2 => sweep_any notK 47 eg_not (fun a b W => notK_any a b W) rfl A' A [frameR l] l 1 c 9223372036854775807 W (by omega) (by simp; omega) gf hg h1 h2)
  have hz : ((sweepL notK [frameR l] l).length : Int) ≤ 9223372036854775807 := by
    have : (outL l).length = (sweepL notK [frameR l] l).length := rfl
    omega
  rw [decide_eq_true hz] at C4
  have C3' := C3.out
  rw [show wideA 1 (aroundR l) = frameR l from rfl] at C3'
  have C3 := Lib.hid C3'
  clear C3'
  unfold GotOwn outL
  simp only [List.length_singleton] at C4
  clear h h0 hg ain gf hcount
  generalize sweepL notK [frameR l] l = L at *
  generalize frameR l = fr at *
  generalize aroundR l = ar at *
  go_enter Try.func53, Try.ntmps53
  go_wp2_with fail
  refine (C2.out w H0.out).mono ?_
  rintro e w2 ⟨rfl, hb⟩
  have B2 := Lib.hid hb
  clear hb
  go_wp2_with fail
  refine (C3.out w2).mono ?_
  rintro e w3 ⟨rfl, hb⟩
  have B3 := Lib.hid (B2.out.trans (hb.mono B2.out.size))
  have z3 := B3.out.size
  clear hb
  go_wp2_with fail
  refine (C4.out (some ⟨w3.heap.size, 0, none⟩) _ ?_ (H0.out.below (B3.out.alloc z3 _))).mono ?_
  · intro _
    refine ⟨_, _, rfl, by simp, fun i r hi => ?_⟩
    match i, hi with
    | 0, hi =>
      simp at hi; subst hi
      refine ⟨?_, ?_, ?_, ?_⟩ <;> simp [go_sem]
    | i + 1, hi => simp at hi
  rintro e w4 ⟨v, rfl, hb, ho, -⟩
  have O4 := Lib.hid (own_mono (base' := w.heap.size) (ho hz) (by simp; omega))
  have B4 := Lib.hid (up (B := w.heap.size) (w := w) (B3.out.alloc z3 _) hb (by simp; omega))
  clear hb ho
  go_wp2_with fail
  go_ret
  exact ⟨v, rfl, O4.out, B4.out⟩
end Go.Proofs.Ytmcbjaefnhfopaa

/- Several texts in one: CountB, Out, Shrink, Has, GrowOk, Opened. -/
import Derived.Test.YtmcbjaefnhfopaaGreatCount
import Derived.Test.YtmcbjaefnhfopaaGreatMix
import Derived.Test.YtmcbjaefnhfopaaGreatGrowC
import Derived.Test.YtmcbjaefnhfopaaGreatSets
/- How many rectangles lie beside a region. -/
namespace Go.Proofs.YtmcbjaefnhfopaaGreat
open Reg (R4 Span Band inR told rowL bandsFrom heightsL)
set_option linter.unusedSimpArgs false
set_option linter.unusedVariables false

theorem comb_count (way : Int) (a b : List R4) : (combL way a b).length ≤ ((heightsL (a ++ b)).map fun y => 2 * a.countP (alive y) + 2 * b.countP (alive y)).sum := by
  have h1 := told_bands (rowM way a b) (heightsL (a ++ b)) []
  have h2 : ((heightsL (a ++ b)).map fun y => (rowM way a b y).length).sum ≤ ((heightsL (a ++ b)).map fun y => 2 * a.countP (alive y) + 2 * b.countP (alive y)).sum := by
    generalize heightsL (a ++ b) = ys
    induction ys with
    | nil => simp
    | cons y ys ih =>
      have g1 := mixedL_len way (rowL a y) (rowL b y)
      have g2 := row_alive a y
      have g3 := row_alive b y
      rw [List.map_cons, List.map_cons, List.sum_cons, List.sum_cons]
      unfold rowM at ih ⊢
      omega
  have e : combL way a b = told (bandsFrom (rowM way a b) [] (heightsL (a ++ b))) := rfl
  rw [e]
  simp only [told, List.flatMap_nil, List.length_nil] at h1 ⊢
  omega
theorem sum_two (ys : List Int) (f g : Int → Nat) : (ys.map fun y => 2 * f y + 2 * g y).sum = 2 * (ys.map f).sum + 2 * (ys.map g).sum := by
  induction ys with
  | nil => rfl
  | cons y ys ih => simp only [List.map_cons, List.sum_cons, ih]; omega
theorem sum_le_one (ys : List Int) (f : Int → Nat) (h : ∀ y, f y ≤ 1) : (ys.map f).sum ≤ ys.length := by
  induction ys with
  | nil => simp
  | cons y ys ih => have := h y; simp only [List.map_cons, List.sum_cons, List.length_cons]; omega
/-- Beside a region, in a frame: not too many. -/
theorem beside_count {f : R4} {l : List R4} (way : Int) (hb : Banded l) (hf : ∀ r, r ∈ l → f.y0 ≤ r.y0 ∧ r.y1 ≤ f.y1 ∧ r.y0 < r.y1) : (combL way [f] l).length ≤ 6 * l.length + 4 := by
  have h1 := comb_count way [f] l
  rw [sum_two] at h1
  have h2 := sum_le_one (heightsL ([f] ++ l)) (fun y => [f].countP (alive y)) fun y => by simp only [List.countP_cons, List.countP_nil]; split <;> omega
  have h3 := heightsL_len ([f] ++ l)
  obtain ⟨s1, s2⟩ := Reg.heightsFrom_ok ([f] ++ l) [] List.Pairwise.nil
  have h4 := sum_alive (heightsL ([f] ++ l)) l fun r hr => count_one (v := r.y0) _ s1 fun a ha hal => by
    have hh := (s2 a).1 ha
    have hfr := hf r hr
    simp [alive] at hal
    rcases hh with hh | ⟨s, hs, hh⟩
    · simp at hh
    · simp at hs
      rcases hs with rfl | hs
      · rcases hh with rfl | rfl <;> omega
      · have := hb r hr s hs
        rcases hh with rfl | rfl <;> omega
  simp only [List.length_append, List.length_singleton] at h3
  omega
end Go.Proofs.YtmcbjaefnhfopaaGreat
/- outside of package shape, whatever the world. -/
namespace Go.Proofs.YtmcbjaefnhfopaaGreat
open Go.RowKit Go.Shelf
open Reg (R4 inR canonL sweepL Kept)
set_option linter.unusedSimpArgs false
set_option linter.unusedVariables false

def frameR (l : List R4) : R4 := wideA 1 (aroundR l)
def outL (l : List R4) : List R4 := sweepL notK [frameR l] l
theorem beside_way {a b : List R4} (ga : Reg.Good a) (gb : Reg.Good b) (x y : Int) : wayB 3 (insB (Reg.rowL a y) x) (insB (Reg.rowL b y) x) = true ↔ Kept notK a b x y := by
  rw [kept_not, hasB_row ga, hasB_row gb, ← hasB_iff (l := a), ← hasB_iff (l := b)]
  simp [wayB]
theorem frame_ok {l : List R4} (h : regF l = 0) (hpos : 0 < l.length) : InB (-1000000) 1000000 (aroundR l) ∧ (∀ r, r ∈ l → Cov (aroundR l) r) ∧ Reg.Good [frameR l] := by
  obtain ⟨hg, h2000⟩ := good_of_rects (regF_zero.1 h).1
  have hin6 := rect_in (regF_rects h)
  obtain ⟨ain, acov⟩ := around_ok (lo := -1000000) (hi := 1000000) hpos fun r hr => by
    have := hin6 r hr
    simp only [In6] at this
    simp only [InB]
    omega
  refine ⟨ain, acov, fun r hr => ?_⟩
  simp at hr
  subst hr
  have c := acov _ (List.getElem_mem hpos)
  have g := hg _ (List.getElem_mem hpos)
  simp only [Cov] at c
  simp only [frameR, wideA]
  omega
theorem out_count {l : List R4} (h : regF l = 0) (hpos : 0 < l.length) : (outL l).length ≤ 6 * l.length + 4 := by
  obtain ⟨hg, -⟩ := good_of_rects (regF_zero.1 h).1
  obtain ⟨-, acov, gf⟩ := frame_ok h hpos
  rw [outL, ← combL_sweep (keep := notK) rfl gf hg (fun x y => beside_way gf hg x y)]
  refine beside_count 3 (region_banded h) fun r hr => ?_
  have c := acov r hr
  have g := hg r hr
  simp only [Cov] at c
  simp only [frameR, wideA]
  omega
theorem out_banded {l : List R4} (h : regF l = 0) (hpos : 0 < l.length) : Banded (outL l) ∧ Reg.Good (outL l) := by
  obtain ⟨hg, -⟩ := good_of_rects (regF_zero.1 h).1
  obtain ⟨-, -, gf⟩ := frame_ok h hpos
  obtain ⟨⟨z, c1⟩, -⟩ := Reg.bandsK_ok (keep := notK) rfl gf hg
  exact ⟨told_banded c1, Reg.sweepL_good (keep := notK) rfl gf hg⟩
theorem out_inR {l : List R4} (h : regF l = 0) (hpos : 0 < l.length) (x y : Int) : inR (outL l) x y ↔ ((aroundR l).x0 - 1 ≤ x ∧ x < (aroundR l).x1 + 1 ∧ (aroundR l).y0 - 1 ≤ y ∧ y < (aroundR l).y1 + 1) ∧ ¬ inR l x y := by
  obtain ⟨hg, -⟩ := good_of_rects (regF_zero.1 h).1
  obtain ⟨-, -, gf⟩ := frame_ok h hpos
  rw [outL, Reg.sweepL_inR (keep := notK) rfl gf hg, kept_not]
  have : inR [frameR l] x y ↔ ((aroundR l).x0 - 1 ≤ x ∧ x < (aroundR l).x1 + 1 ∧ (aroundR l).y0 - 1 ≤ y ∧ y < (aroundR l).y1 + 1) := by
    constructor
    · rintro ⟨r, hr, h1⟩
      simp at hr
      subst hr
      simpa [frameR, wideA, R4.has] using h1
    · intro h1
      exact ⟨frameR l, by simp, by simpa [frameR, wideA, R4.has] using h1⟩
  rw [this]

set_option maxRecDepth 100000 in
set_option maxHeartbeats 2000000 in
theorem outside_any (A : Option Addr) (l : List R4) (c : Nat) (w : World) (h0 : regF l = 0) (hpos : 0 < l.length) (h : Rd w A l) :
    Calls Tryz.prog 40 #[.slice A l.length c] w (GotOwn w (outL l)) := by
  have H0 := Lib.hid h
  obtain ⟨hg, h2000⟩ := good_of_rects (regF_zero.1 h0).1
  obtain ⟨ain, -, gf⟩ := frame_ok h0 hpos
  have hcount := out_count h0 hpos
  have C2 := Lib.hid (fun W h => around_any A l c W hpos (by omega) h)
  have C3 := Lib.hid (fun W => widened_any (aroundR l) 1 W (by simp only [InB] at ain; omega) (by omega) (by omega))
  have C4 := Lib.hid (fun A' W h1 h2 => sweep_any notK 27 eg_not (fun a b W => notK_any a b W) rfl A' A [frameR l] l 1 c 9223372036854775807 W (by omega) (by simp; omega) gf hg h1 h2)
  have hz : ((sweepL notK [frameR l] l).length : Int) ≤ 9223372036854775807 := by
    have : (outL l).length = (sweepL notK [frameR l] l).length := rfl
    omega
  rw [decide_eq_true hz] at C4
  have C3' := C3.out
  rw [show wideA 1 (aroundR l) = frameR l from rfl] at C3'
  have C3 := Lib.hid C3'
  clear C3'
  unfold GotOwn outL
  simp only [List.length_singleton] at C4
  clear h h0 hg ain gf hcount
  generalize sweepL notK [frameR l] l = L at *
  generalize frameR l = fr at *
  generalize aroundR l = ar at *
  go_enter Tryz.func40, Tryz.ntmps40
  go_wp2_with fail
  refine (C2.out w H0.out).mono ?_
  rintro e w2 ⟨rfl, hb⟩
  have B2 := Lib.hid hb
  clear hb
  go_wp2_with fail
  refine (C3.out w2).mono ?_
  rintro e w3 ⟨rfl, hb⟩
  have B3 := Lib.hid (B2.out.trans (hb.mono B2.out.size))
  have z3 := B3.out.size
  clear hb
  go_wp2_with fail
  refine (C4.out (some ⟨w3.heap.size, 0, none⟩) _ ?_ (H0.out.below (B3.out.alloc z3 _))).mono ?_
  · intro _
    refine ⟨_, _, rfl, by simp, fun i r hi => ?_⟩
    match i, hi with
    | 0, hi =>
      simp at hi; subst hi
      refine ⟨?_, ?_, ?_, ?_⟩ <;> simp [go_sem]
    | i + 1, hi => simp at hi
  rintro e w4 ⟨v, rfl, hb, ho, -⟩
  have O4 := Lib.hid (own_mono (base' := w.heap.size) (ho hz) (by simp; omega))
  have B4 := Lib.hid (up (B := w.heap.size) (w := w) (B3.out.alloc z3 _) hb (by simp; omega))
  clear hb ho
  go_wp2_with fail
  go_ret
  exact ⟨v, rfl, O4.out, B4.out⟩
end Go.Proofs.YtmcbjaefnhfopaaGreat
/- Shrink of package shape, whatever the world. -/
namespace Go.Proofs.YtmcbjaefnhfopaaGreat
open Go.RowKit Go.Shelf
open Reg (R4 inR canonL sweepL Kept)
set_option linter.unusedSimpArgs false
set_option linter.unusedVariables false

def shF (l : List R4) (n : Int) : Int := if chG l n = 0 then (if l = [] then 0 else resF (sweepL notK l (grownL n (outL l)))) else chG l n
def shL (l : List R4) (n : Int) : List R4 := if chG l n = 0 then (if l = [] then [] else resL (sweepL notK l (grownL n (outL l)))) else []
theorem chG_zero {l : List R4} {n : Int} (h0 : chG l n = 0) : regF l = 0 ∧ 0 ≤ n ∧ n ≤ 100000 := by
  unfold chG at h0
  by_cases h1 : regF l = 0
  · rw [if_pos h1] at h0
    by_cases h2 : n < 0 ∨ 100000 < n
    · rw [if_pos h2] at h0; cases h0
    · exact ⟨h1, by omega, by omega⟩
  · rw [if_neg h1] at h0; exact absurd h0 h1
theorem out_grown_count {n : Int} (hn : 0 ≤ n) {l : List R4} (h : regF l = 0) (hpos : 0 < l.length) : (canonL ((outL l).map (wideX n))).length ≤ 6 * l.length + 4 ∧ (grownL n (outL l)).length ≤ 6 * l.length + 4 := by
  obtain ⟨hb, hg⟩ := out_banded h hpos
  have hc := out_count h hpos
  have h1 := canon_count (banded_wide (n := n) hb)
  rw [List.length_map] at h1
  have g1 := wideX_good hn hg
  obtain ⟨-, p2, -⟩ := pileL_ok (canon_good g1) (starts_canon g1)
  rw [grownL, List.length_map]
  omega

set_option maxRecDepth 100000 in
set_option maxHeartbeats 2000000 in
theorem shrink_any (A : Option Addr) (l : List R4) (c : Nat) (n : Int) (w : World) (hl : l.length ≤ c) (hc : c ≤ maxLen) (hl2 : l.length ≤ 140737488355328) (h : Rd w A l) :
    Calls Tryz.prog 17 #[.slice A l.length c, .int .i64 n] w (GotRF w (shL l n) (shF l n)) := by
  have H0 := Lib.hid h
  have C1 := Lib.hid (checkGrow_any A l c n w hl hc hl2 h)
  unfold GotRF shL shF
  clear h
  by_cases h0 : chG l n = 0
  · rw [if_pos h0, if_pos h0]
    obtain ⟨h1, hn0, hn1⟩ := chG_zero h0
    rw [h0] at C1
    by_cases hnil : l = []
    · subst hnil
      rw [if_pos rfl, if_pos rfl]
      simp only [List.length_nil] at C1 ⊢
      clear h0 h1
      go_enter Tryz.func17, Tryz.ntmps17
      go_wp2_with fail
      refine C1.out.mono ?_
      rintro e w1 ⟨rfl, hb⟩
      have B1 := Lib.hid hb
      clear hb
      go_wp2_with fail
      go_ret2
      exact ⟨_, rfl, own_nilR _ _ _ _, B1.out⟩
    · rw [if_neg hnil, if_neg hnil]
      have hpos : 0 < l.length := by cases l with | nil => exact absurd rfl hnil | cons a t => simp
      obtain ⟨hg, h2000⟩ := good_of_rects (regF_zero.1 h1).1
      obtain ⟨ob, og⟩ := out_banded h1 hpos
      obtain ⟨ain, -, -⟩ := frame_ok h1 hpos
      have oc := out_count h1 hpos
      obtain ⟨k1, k2⟩ := out_grown_count hn0 h1 hpos
      have hin : ∀ x y, inR (outL l) x y → -1000001 ≤ x ∧ x < 1000001 ∧ -1000001 ≤ y ∧ y < 1000001 := fun x y hx => by
        have := ((out_inR h1 hpos x y).1 hx).1
        simp only [InB] at ain
        omega
      have C2 := Lib.hid (fun W h => outside_any A l c W h1 hpos h)
      have C5 := Lib.hid (fun A' c' W h => grown_any A' (outL l) c' n W (by omega) og hn0 hn1 hin (by omega) h)
      have gg := (grownL_ok hn0 og).1
      have C6 := Lib.hid (fun A' c' W h1 h2 => combine_any notK 27 eg_not (fun a b W => notK_any a b W) rfl A A' l (grownL n (outL l)) c c' W (by omega) hg gg h1 h2)
      unfold GotRF at C6
      unfold GotOwn at C5 C2
      have hne : ((l.length : Int) == 0) = false := by rw [beq_eq_false_iff_ne]; omega
      clear h0 h1 hg hin ain gg hnil ob og oc k1 k2
      generalize resL (sweepL notK l (grownL n (outL l))) = L at *
      generalize resF (sweepL notK l (grownL n (outL l))) = F at *
      generalize grownL n (outL l) = G at *
      generalize outL l = O at *
      go_enter Tryz.func17, Tryz.ntmps17
      go_wp2_with fail
      refine C1.out.mono ?_
      rintro e w1 ⟨rfl, hb⟩
      have B1 := Lib.hid hb
      clear hb
      go_wp2_with fail
      refine (C2.out w1 (H0.out.below B1.out)).mono ?_
      rintro e w2 ⟨v, rfl, ho, hb⟩
      obtain ⟨A2, c2, rfl, -, -, hr2, -⟩ := rd_own ho
      have R2 := Lib.hid hr2
      have B2 := Lib.hid (B1.out.trans (hb.mono B1.out.size))
      clear ho hb hr2
      go_wp2_with fail
      refine (C5.out A2 c2 w2 R2.out).mono ?_
      rintro e w5 ⟨v, rfl, ho, hb⟩
      obtain ⟨A5, c5, rfl, -, -, hr5, -⟩ := rd_own ho
      have R5 := Lib.hid hr5
      have B5 := Lib.hid (B2.out.trans (hb.mono B2.out.size))
      clear ho hb hr5
      go_wp2_with fail
      refine (C6.out A5 c5 w5 (H0.out.below B5.out) R5.out).mono ?_
      rintro e w6 ⟨v6, rfl, ho, hb⟩
      have O6 := Lib.hid (own_mono ho B5.out.size)
      have B6 := Lib.hid (B5.out.trans (hb.mono B5.out.size))
      clear ho hb
      go_wp2_with fail
      go_ret2
      exact ⟨v6, rfl, O6.out, B6.out⟩
  · rw [if_neg h0, if_neg h0]
    have hd : (chG l n == 0) = false := by simpa using h0
    have hd' : (chG l n != 0) = true := by simpa using h0
    clear h0
    generalize chG l n = F at *
    go_enter Tryz.func17, Tryz.ntmps17
    go_wp2_with fail
    refine C1.out.mono ?_
    rintro e w1 ⟨rfl, hb⟩
    have B1 := Lib.hid hb
    clear hb
    go_wp2_with fail
    go_ret2
    exact ⟨_, rfl, own_nilR _ _ _ _, B1.out⟩
end Go.Proofs.YtmcbjaefnhfopaaGreat
/- The law's own has: whether a square is in a region that is right. -/
namespace Go.Proofs.YtmcbjaefnhfopaaGreat
open Go.ChangeShapes Go.WideShapes Go.ChangeAt Go.RowKit
open Reg (R4 inR Kept)
set_option linter.unusedSimpArgs false
set_option linter.unusedVariables false

def hasV (l : List R4) (x y : Int) : Bool := (((hasF l x y).2 == 0) && (hasF l x y).1)
theorem hasV_of {l : List R4} (h : regF l = 0) (x y : Int) : hasV l x y = (okAt x && okAt y && hasB l x y) := by
  unfold hasV hasF
  rw [if_pos h]
  cases okAt x && okAt y <;> simp
end Go.Proofs.YtmcbjaefnhfopaaGreat
/- What Grow and Shrink give: their squares. -/
namespace Go.Proofs.YtmcbjaefnhfopaaGreat
open Go.RowKit Go.Shelf
open Reg (R4 inR canonL sweepL Kept)
set_option linter.unusedSimpArgs false
set_option linter.unusedVariables false

theorem join_least {b a s : R4} (h1 : Cov b a) (h2 : Cov b s) : Cov b (joinR a s) := by
  simp only [Cov, joinR, minI, maxI] at *
  refine ⟨?_, ?_, ?_, ?_⟩ <;> split <;> omega
theorem aroundF_least {b : R4} (t : List R4) : ∀ a : R4, Cov b a → (∀ r, r ∈ t → Cov b r) → Cov b (aroundF a t) := by
  induction t with
  | nil => intro a h _; exact h
  | cons s t ih =>
    intro a h1 h2
    exact ih (joinR a s) (join_least h1 (h2 s (by simp))) fun r hr => h2 r (List.mem_cons_of_mem _ hr)
theorem around_least {b : R4} {l : List R4} (hpos : 0 < l.length) (h : ∀ r, r ∈ l → Cov b r) : Cov b (aroundR l) := by
  cases l with
  | nil => simp at hpos
  | cons a t => exact aroundF_least (a :: t) a (h a (by simp)) h
theorem around_cov {l : List R4} {r : R4} (hr : r ∈ l) : Cov (aroundR l) r := by
  cases l with
  | nil => cases hr
  | cons a t =>
    obtain ⟨lo, hi, h⟩ : ∃ lo hi : Int, ∀ r, r ∈ a :: t → InB lo hi r := by
      clear hr
      generalize a :: t = l
      induction l with
      | nil => exact ⟨0, 0, fun r hr => by cases hr⟩
      | cons s l ih =>
        obtain ⟨lo, hi, h⟩ := ih
        refine ⟨min lo (min (min s.x0 s.y0) (min s.x1 s.y1)), max hi (max (max s.x0 s.y0) (max s.x1 s.y1)), fun r hr => ?_⟩
        rcases List.mem_cons.1 hr with rfl | hr
        · simp only [InB]; omega
        · have := h r hr
          simp only [InB] at this ⊢; omega
    exact (around_ok (by simp) h).2 r hr
theorem around_sq {l : List R4} {x y : Int} (h : inR l x y) : (aroundR l).x0 ≤ x ∧ x < (aroundR l).x1 ∧ (aroundR l).y0 ≤ y ∧ y < (aroundR l).y1 := by
  obtain ⟨r, hr, h1⟩ := h
  have := around_cov hr
  simp only [Cov, R4.has] at *
  omega
theorem reg_canon {g : List R4} (hg : Reg.Good g) (hl : (canonL g).length ≤ 2000) (hin : ∀ x y, inR g x y → -1000000 ≤ x ∧ x < 1000000 ∧ -1000000 ≤ y ∧ y < 1000000) : regF (canonL g) = 0 :=
  regF_zero.2 ⟨rectsF_zero.2 ⟨hl, in_range (Reg.canonL_good hg) fun x y hx => hin x y ((Reg.canonL_inR hg x y).1 hx)⟩, (Reg.canonL_twice hg).symm⟩
theorem resF_zero {l : List R4} : resF l = 0 ↔ l.length ≤ 2000 := by
  unfold resF
  split
  · rename_i h; simp [h]
  · rename_i h; simp; omega
theorem gw_iff {l : List R4} {n : Int} : gwF l n = 0 ↔ regF l = 0 ∧ 0 ≤ n ∧ n ≤ 100000 ∧ (l ≠ [] → rectF (wideA n (aroundR l)) = 0 ∧ (canonL (grownL n l)).length ≤ 2000) := by
  unfold gwF
  constructor
  · intro h
    by_cases h0 : chG l n = 0
    · rw [if_pos h0] at h
      obtain ⟨h1, h2, h3⟩ := chG_zero h0
      refine ⟨h1, h2, h3, fun hn => ?_⟩
      rw [if_neg hn] at h
      by_cases hf : rectF (wideA n (aroundR l)) = 0
      · rw [if_pos hf] at h
        exact ⟨hf, resF_zero.1 h⟩
      · rw [if_neg hf] at h; cases h
    · rw [if_neg h0] at h; exact absurd h h0
  · rintro ⟨h1, h2, h3, h4⟩
    have h0 : chG l n = 0 := by unfold chG; rw [if_pos h1, if_neg (by omega)]
    rw [if_pos h0]
    by_cases hn : l = []
    · rw [if_pos hn]
    · obtain ⟨h5, h6⟩ := h4 hn
      rw [if_neg hn, if_pos h5]
      exact resF_zero.2 h6
theorem near_wide {n : Int} {l : List R4} {x y : Int} (h : near n l x y) : (aroundR l).x0 - n ≤ x ∧ x < (aroundR l).x1 + n ∧ (aroundR l).y0 - n ≤ y ∧ y < (aroundR l).y1 + n := by
  obtain ⟨u, v, h1, h2, h3, h4, h5⟩ := h
  have := around_sq h5
  omega
theorem wide_in {n : Int} {l : List R4} (h : rectF (wideA n (aroundR l)) = 0) : -1000000 ≤ (aroundR l).x0 - n ∧ -1000000 ≤ (aroundR l).y0 - n ∧ (aroundR l).x1 + n ≤ 1000000 ∧ (aroundR l).y1 + n ≤ 1000000 := by
  have := rectF_zero.1 h
  simp only [wideA, In6] at this
  omega
/-- Grow, where no fault is told. -/
theorem gw_ok {l : List R4} {n : Int} (h : gwF l n = 0) : regF l = 0 ∧ 0 ≤ n ∧ n ≤ 100000 ∧ regF (gwL l n) = 0 ∧ (gwL l n).length ≤ 2000 ∧ ∀ x y, inR (gwL l n) x y ↔ near n l x y := by
  obtain ⟨h1, h2, h3, h4⟩ := gw_iff.1 h
  have h0 : chG l n = 0 := by unfold chG; rw [if_pos h1, if_neg (by omega)]
  refine ⟨h1, h2, h3, ?_⟩
  by_cases hn : l = []
  · subst hn
    have e : gwL [] n = [] := by unfold gwL; rw [if_pos h0, if_pos rfl]
    rw [e]
    refine ⟨h1, by simp, fun x y => ⟨fun ⟨r, hr, _⟩ => (by cases hr), fun ⟨u, v, _, _, _, _, r, hr, _⟩ => by cases hr⟩⟩
  · obtain ⟨h5, h6⟩ := h4 hn
    have e : gwL l n = canonL (grownL n l) := by unfold gwL resL; rw [if_pos h0, if_neg hn, if_pos h5, if_pos h6]
    obtain ⟨hg, -⟩ := good_of_rects (regF_zero.1 h1).1
    obtain ⟨g1, g2⟩ := grownL_ok h2 hg
    rw [e]
    refine ⟨reg_canon g1 h6 fun x y hx => ?_, h6, fun x y => (Reg.canonL_inR g1 x y).trans (g2 x y)⟩
    have a := near_wide ((g2 x y).1 hx)
    have b := wide_in h5
    omega
theorem gwL_bad {l : List R4} {n : Int} (h : ¬ gwF l n = 0) : gwL l n = [] := by
  unfold gwL resL
  unfold gwF resF at h
  by_cases h0 : chG l n = 0
  · rw [if_pos h0] at h ⊢
    by_cases hn : l = []
    · rw [if_pos hn]
    · rw [if_neg hn] at h ⊢
      by_cases hf : rectF (wideA n (aroundR l)) = 0
      · rw [if_pos hf] at h ⊢
        by_cases hl : (canonL (grownL n l)).length ≤ 2000
        · rw [if_pos hl] at h; exact absurd rfl h
        · rw [if_neg hl]
      · rw [if_neg hf]
  · rw [if_neg h0]
theorem gwL_len (l : List R4) (n : Int) : (gwL l n).length ≤ 2000 := by
  by_cases h : gwF l n = 0
  · exact (gw_ok h).2.2.2.2.1
  · rw [gwL_bad h]; simp
def allNear (n : Int) (l : List R4) (x y : Int) : Prop := ∀ u v, u - n ≤ x → x ≤ u + n → v - n ≤ y → y ≤ v + n → inR l u v
theorem sh_iff {l : List R4} {n : Int} : shF l n = 0 ↔ regF l = 0 ∧ 0 ≤ n ∧ n ≤ 100000 ∧ (l ≠ [] → (sweepL notK l (grownL n (outL l))).length ≤ 2000) := by
  unfold shF
  constructor
  · intro h
    by_cases h0 : chG l n = 0
    · rw [if_pos h0] at h
      obtain ⟨h1, h2, h3⟩ := chG_zero h0
      refine ⟨h1, h2, h3, fun hn => ?_⟩
      rw [if_neg hn] at h
      exact resF_zero.1 h
    · rw [if_neg h0] at h; exact absurd h h0
  · rintro ⟨h1, h2, h3, h4⟩
    have h0 : chG l n = 0 := by unfold chG; rw [if_pos h1, if_neg (by omega)]
    rw [if_pos h0]
    by_cases hn : l = []
    · rw [if_pos hn]
    · rw [if_neg hn]
      exact resF_zero.2 (h4 hn)
theorem sh_sq {l : List R4} {n : Int} (h1 : regF l = 0) (h2 : 0 ≤ n) (hn : l ≠ []) (x y : Int) : inR (sweepL notK l (grownL n (outL l))) x y ↔ allNear n l x y := by
  have hpos : 0 < l.length := by cases l with | nil => exact absurd rfl hn | cons a t => simp
  obtain ⟨hg, -⟩ := good_of_rects (regF_zero.1 h1).1
  obtain ⟨-, og⟩ := out_banded h1 hpos
  obtain ⟨g1, g2⟩ := grownL_ok h2 og
  rw [Reg.sweepL_inR rfl hg g1, kept_not, g2]
  exact shrunk_iff h2 (fun x y hx => around_sq hx) (fun x y => out_inR h1 hpos x y) x y
/-- Shrink, where no fault is told. -/
theorem sh_ok {l : List R4} {n : Int} (h : shF l n = 0) : regF l = 0 ∧ 0 ≤ n ∧ n ≤ 100000 ∧ regF (shL l n) = 0 ∧ (shL l n).length ≤ 2000 ∧ ∀ x y, inR (shL l n) x y ↔ allNear n l x y := by
  obtain ⟨h1, h2, h3, h4⟩ := sh_iff.1 h
  have h0 : chG l n = 0 := by unfold chG; rw [if_pos h1, if_neg (by omega)]
  refine ⟨h1, h2, h3, ?_⟩
  by_cases hn : l = []
  · subst hn
    have e : shL [] n = [] := by unfold shL; rw [if_pos h0, if_pos rfl]
    rw [e]
    exact ⟨h1, by simp, fun x y => ⟨fun ⟨r, hr, _⟩ => (by cases hr), fun h => h x y (by omega) (by omega) (by omega) (by omega)⟩⟩
  · have h6 := h4 hn
    have e : shL l n = sweepL notK l (grownL n (outL l)) := by unfold shL resL; rw [if_pos h0, if_neg hn, if_pos h6]
    have hpos : 0 < l.length := by cases l with | nil => exact absurd rfl hn | cons a t => simp
    obtain ⟨hg, -⟩ := good_of_rects (regF_zero.1 h1).1
    obtain ⟨-, og⟩ := out_banded h1 hpos
    obtain ⟨g1, -⟩ := grownL_ok h2 og
    have hs := sh_sq h1 h2 hn
    rw [e]
    refine ⟨regF_zero.2 ⟨rectsF_zero.2 ⟨h6, in_range (Reg.sweepL_good rfl hg g1) fun x y hx => ?_⟩, Reg.sweepL_can rfl hg g1⟩, h6, hs⟩
    exact inR_range (rectsF_zero.1 (regF_zero.1 h1).1).2 x y ((hs x y).1 hx x y (by omega) (by omega) (by omega) (by omega))
theorem shL_bad {l : List R4} {n : Int} (h : ¬ shF l n = 0) : shL l n = [] := by
  unfold shL resL
  unfold shF resF at h
  by_cases h0 : chG l n = 0
  · rw [if_pos h0] at h ⊢
    by_cases hn : l = []
    · rw [if_pos hn]
    · rw [if_neg hn] at h ⊢
      by_cases hl : (sweepL notK l (grownL n (outL l))).length ≤ 2000
      · rw [if_pos hl] at h; exact absurd rfl h
      · rw [if_neg hl]
  · rw [if_neg h0]
theorem shL_len (l : List R4) (n : Int) : (shL l n).length ≤ 2000 := by
  by_cases h : shF l n = 0
  · exact (sh_ok h).2.2.2.2.1
  · rw [shL_bad h]; simp

/-! ## What lies in a frame -/
def clipR (f r : R4) : R4 := ⟨max f.x0 r.x0, max f.y0 r.y0, min f.x1 r.x1, min f.y1 r.y1⟩
def clipL (f : R4) (l : List R4) : List R4 := (l.map (clipR f)).filter fun r => decide (r.x0 < r.x1) && decide (r.y0 < r.y1)
theorem mem_clip {f r : R4} {l : List R4} : r ∈ clipL f l ↔ (∃ s, s ∈ l ∧ r = clipR f s) ∧ r.x0 < r.x1 ∧ r.y0 < r.y1 := by
  unfold clipL
  rw [List.mem_filter, List.mem_map]
  simp only [Bool.and_eq_true, decide_eq_true_eq]
  exact and_congr_left fun _ => ⟨fun ⟨s, h1, h2⟩ => ⟨s, h1, h2.symm⟩, fun ⟨s, h1, h2⟩ => ⟨s, h1, h2.symm⟩⟩
theorem clip_good (f : R4) (l : List R4) : Reg.Good (clipL f l) := fun r hr => (mem_clip.1 hr).2
theorem clip_banded {f : R4} {l : List R4} (h : Banded l) : Banded (clipL f l) := by
  intro r hr s hs
  obtain ⟨⟨r', hr', rfl⟩, h1⟩ := mem_clip.1 hr
  obtain ⟨⟨s', hs', rfl⟩, h2⟩ := mem_clip.1 hs
  have := h r' hr' s' hs'
  simp only [clipR] at *
  omega
theorem clip_inR {f : R4} {l : List R4} (x y : Int) : inR (clipL f l) x y ↔ inR [f] x y ∧ inR l x y := by
  constructor
  · rintro ⟨r, hr, h1⟩
    obtain ⟨⟨r', hr', rfl⟩, -⟩ := mem_clip.1 hr
    simp only [clipR, R4.has] at h1
    exact ⟨⟨f, by simp, by simp only [R4.has]; omega⟩, r', hr', by simp only [R4.has]; omega⟩
  · rintro ⟨⟨f', hf, h1⟩, r, hr, h2⟩
    simp at hf
    subst hf
    simp only [R4.has] at h1 h2
    refine ⟨clipR f' r, mem_clip.2 ⟨⟨r, hr, rfl⟩, ?_⟩, ?_⟩
    · simp only [clipR]; omega
    · simp only [clipR, R4.has]; omega
theorem clip_len (f : R4) (l : List R4) : (clipL f l).length ≤ l.length := by
  unfold clipL
  exact Nat.le_trans (List.length_filter_le _ _) (by simp)
/-- A region has in a frame not more rectangles. -/
theorem both_count {f : R4} {l : List R4} (gf : Reg.Good [f]) (h : regF l = 0) : (sweepL andK [f] l).length ≤ l.length := by
  obtain ⟨hg, -⟩ := good_of_rects (regF_zero.1 h).1
  have e : sweepL andK [f] l = canonL (clipL f l) := by
    rw [Reg.sweepL_can (keep := andK) rfl gf hg]
    exact Reg.canon_unique (Reg.sweepL_good rfl gf hg) (clip_good f l) fun x y => (Reg.sweepL_inR rfl gf hg x y).trans (kept_and.trans (clip_inR x y).symm)
  rw [e]
  exact Nat.le_trans (canon_count (clip_banded (region_banded h))) (clip_len f l)
theorem both_zero {f : R4} {l : List R4} (h1 : regF [f] = 0) (h2 : regF l = 0) : stF andK [f] l = 0 := by
  obtain ⟨gf, -⟩ := good_of_rects (regF_zero.1 h1).1
  obtain ⟨-, hl⟩ := good_of_rects (regF_zero.1 h2).1
  have := both_count gf h2
  unfold stF
  rw [if_pos (bothF_zero.2 ⟨h1, h2⟩)]
  exact resF_zero.2 (by omega)
theorem pos_inR {l : List R4} (hg : Reg.Good l) : 0 < l.length ↔ ∃ x y, inR l x y := by
  constructor
  · intro h
    cases l with
    | nil => simp at h
    | cons a t =>
      have := hg a (by simp)
      exact ⟨a.x0, a.y0, a, by simp, by simp only [R4.has]; omega⟩
  · rintro ⟨x, y, r, hr, _⟩
    exact List.length_pos_of_mem hr
/-- One region lies within another one. -/
def insV (a b : List R4) : Bool := (stF notK a b == 0) && decide ((stL notK a b).length = 0)
theorem insV_iff {a b : List R4} (ha : regF a = 0) (hb : regF b = 0) : insV a b = true ↔ ∀ x y, inR a x y → inR b x y := by
  obtain ⟨ga, -⟩ := good_of_rects (regF_zero.1 ha).1
  obtain ⟨gb, -⟩ := good_of_rects (regF_zero.1 hb).1
  have hs := fun x y => (Reg.sweepL_inR (keep := notK) rfl ga gb x y).trans kept_not
  have hgood := Reg.sweepL_good (keep := notK) rfl ga gb
  have h0 := bothF_zero.2 ⟨ha, hb⟩
  unfold insV stF stL
  rw [if_pos h0, if_pos h0, Bool.and_eq_true, decide_eq_true_eq, beq_iff_eq, resF_zero]
  unfold resL
  constructor
  · rintro ⟨h1, h2⟩ x y hx
    rw [if_pos h1] at h2
    false_or_by_contra
    rename_i hne
    have := (pos_inR hgood).2 ⟨x, y, (hs x y).2 ⟨hx, hne⟩⟩
    omega
  · intro h
    have hz : (sweepL notK a b).length = 0 := by
      false_or_by_contra
      obtain ⟨x, y, hx⟩ := (pos_inR hgood).1 (by omega)
      obtain ⟨k1, k2⟩ := (hs x y).1 hx
      exact k2 (h x y k1)
    rw [if_pos (by omega)]
    exact ⟨by omega, hz⟩

/-! ## GrowsByPoints -/
def sqR (n x y : Int) : R4 := ⟨x - n, y - n, x + n + 1, y + n + 1⟩
theorem sq_inR {n x y u v : Int} : inR [sqR n x y] u v ↔ u - n ≤ x ∧ x ≤ u + n ∧ v - n ≤ y ∧ y ≤ v + n := by
  constructor
  · rintro ⟨r, hr, h⟩
    simp at hr
    subst hr
    simp only [sqR, R4.has] at h
    omega
  · intro h
    exact ⟨_, List.mem_singleton.2 rfl, by simp only [sqR, R4.has]; omega⟩
theorem grows_pts {l : List R4} {n x y : Int} (h1 : gwF l n = 0) (h2 : shF l n = 0) (hx : okAt x = true) (hy : okAt y = true) (hf : regF [sqR n x y] = 0) :
    stF andK [sqR n x y] l = 0 ∧ hasV (gwL l n) x y = decide (0 < (stL andK [sqR n x y] l).length) ∧ hasV (shL l n) x y = insV [sqR n x y] l := by
  obtain ⟨g1, g2, g3, g4, g5, g6⟩ := gw_ok h1
  obtain ⟨-, -, -, s4, s5, s6⟩ := sh_ok h2
  have hz := both_zero hf g1
  obtain ⟨-, -, -, b4, -, b6⟩ := st_ok rfl hz (fun x y h => .inl (kept_and.1 h).1)
  refine ⟨hz, ?_, ?_⟩
  · rw [hasV_of g4, hx, hy, Bool.eq_iff_iff, decide_eq_true_eq, pos_inR (good_of_rects (regF_zero.1 b4).1).1]
    simp only [Bool.true_and]
    rw [hasB_iff, g6]
    constructor
    · rintro ⟨u, v, k1, k2, k3, k4, k5⟩
      exact ⟨u, v, (b6 u v).2 (kept_and.2 ⟨sq_inR.2 ⟨k1, k2, k3, k4⟩, k5⟩)⟩
    · rintro ⟨u, v, hk⟩
      obtain ⟨k1, k2⟩ := kept_and.1 ((b6 u v).1 hk)
      obtain ⟨a1, a2, a3, a4⟩ := sq_inR.1 k1
      exact ⟨u, v, a1, a2, a3, a4, k2⟩
  · rw [hasV_of s4, hx, hy, Bool.eq_iff_iff, insV_iff hf g1]
    simp only [Bool.true_and]
    rw [hasB_iff, s6]
    constructor
    · intro h u v hk
      obtain ⟨a1, a2, a3, a4⟩ := sq_inR.1 hk
      exact h u v a1 a2 a3 a4
    · intro h u v a1 a2 a3 a4
      exact h u v (sq_inR.2 ⟨a1, a2, a3, a4⟩)
/-! ## GrowsAdd -/
theorem near_add {n m : Int} (hn : 0 ≤ n) (hm : 0 ≤ m) {l g : List R4} (h : ∀ x y, inR g x y ↔ near n l x y) (x y : Int) : near m g x y ↔ near (n + m) l x y := by
  constructor
  · rintro ⟨u, v, h1, h2, h3, h4, h5⟩
    obtain ⟨a, b, k1, k2, k3, k4, k5⟩ := (h u v).1 h5
    exact ⟨a, b, by omega, by omega, by omega, by omega, k5⟩
  · rintro ⟨a, b, k1, k2, k3, k4, k5⟩
    exact ⟨max (x - m) (min a (x + m)), max (y - m) (min b (y + m)), by omega, by omega, by omega, by omega, (h _ _).2 ⟨a, b, by omega, by omega, by omega, by omega, k5⟩⟩
theorem grow_add {l : List R4} {n m : Int} (h1 : gwF l n = 0) (h2 : gwF (gwL l n) m = 0) (hm : n + m ≤ 100000) : gwF l (n + m) = 0 ∧ gwL l (n + m) = gwL (gwL l n) m := by
  obtain ⟨g1, g2, g3, g4, g5, g6⟩ := gw_ok h1
  obtain ⟨-, m2, m3, m4, m5, m6⟩ := gw_ok h2
  obtain ⟨-, -, -, i4⟩ := gw_iff.1 h2
  obtain ⟨hg, -⟩ := good_of_rects (regF_zero.1 g1).1
  obtain ⟨q1, q2⟩ := grownL_ok (n := n + m) (by omega) hg
  have hz : gwF l (n + m) = 0 := by
    refine gw_iff.2 ⟨g1, by omega, hm, fun hn => ?_⟩
    have hpos : 0 < l.length := by cases l with | nil => exact absurd rfl hn | cons a t => simp
    obtain ⟨x, y, hx⟩ := (pos_inR hg).1 hpos
    have hne : gwL l n ≠ [] := by
      intro e
      have := (g6 x y).2 ⟨x, y, by omega, by omega, by omega, by omega, hx⟩
      rw [e] at this
      obtain ⟨r, hr, _⟩ := this
      cases hr
    obtain ⟨i5, i6⟩ := i4 hne
    have w := wide_in i5
    obtain ⟨hgg, -⟩ := good_of_rects (regF_zero.1 g4).1
    refine ⟨rectF_zero.2 ?_, ?_⟩
    · have c := around_least (b := ⟨-1000000 + n + m, -1000000 + n + m, 1000000 - n - m, 1000000 - n - m⟩) hpos fun r hr => by
        have hr' := hg r hr
        have p0 := around_sq ((g6 (r.x0 - n) (r.y0 - n)).2 ⟨r.x0, r.y0, by omega, by omega, by omega, by omega, r, hr, by simp only [R4.has]; omega⟩)
        have p1 := around_sq ((g6 (r.x1 - 1 + n) (r.y1 - 1 + n)).2 ⟨r.x1 - 1, r.y1 - 1, by omega, by omega, by omega, by omega, r, hr, by simp only [R4.has]; omega⟩)
        simp only [Cov]
        omega
      have s := around_sq hx
      simp only [Cov] at c
      simp only [wideA, In6]
      omega
    · have e : canonL (grownL (n + m) l) = canonL (grownL m (gwL l n)) := by
        obtain ⟨p1, p2⟩ := grownL_ok m2 hgg
        exact Reg.canon_unique q1 p1 fun x y => (q2 x y).trans ((near_add g2 m2 g6 x y).symm.trans (p2 x y).symm)
      rw [e]
      exact i6
  obtain ⟨-, -, -, z4, z5, z6⟩ := gw_ok hz
  refine ⟨hz, ?_⟩
  rw [(regF_zero.1 z4).2, (regF_zero.1 m4).2]
  exact Reg.canon_unique (good_of_rects (regF_zero.1 z4).1).1 (good_of_rects (regF_zero.1 m4).1).1 fun x y => (z6 x y).trans ((near_add g2 m2 g6 x y).symm.trans (m6 x y).symm)
/-- What Opened and Closed say. -/
def opF (l : List R4) (n : Int) : Int := if shF l n = 0 then gwF (shL l n) n else shF l n
def opL (l : List R4) (n : Int) : List R4 := if shF l n = 0 then gwL (shL l n) n else []
def clF (l : List R4) (n : Int) : Int := if gwF l n = 0 then shF (gwL l n) n else gwF l n
def clL (l : List R4) (n : Int) : List R4 := if gwF l n = 0 then shL (gwL l n) n else []
theorem opL_len (l : List R4) (n : Int) : (opL l n).length ≤ 2000 := by unfold opL; split; exact gwL_len _ _; simp
theorem clL_len (l : List R4) (n : Int) : (clL l n).length ≤ 2000 := by unfold clL; split; exact shL_len _ _; simp
theorem opened_in {l : List R4} {n : Int} (h : opF l n = 0) : insV (opL l n) l = true := by
  unfold opF at h
  unfold opL
  by_cases h0 : shF l n = 0
  · rw [if_pos h0] at h ⊢
    obtain ⟨s1, s2, s3, s4, s5, s6⟩ := sh_ok h0
    obtain ⟨-, -, -, g4, g5, g6⟩ := gw_ok h
    refine (insV_iff g4 s1).2 fun x y hx => ?_
    obtain ⟨u, v, k1, k2, k3, k4, k5⟩ := (g6 x y).1 hx
    exact (s6 u v).1 k5 x y (by omega) (by omega) (by omega) (by omega)
  · rw [if_neg h0] at h; exact absurd h h0
theorem in_closed {l : List R4} {n : Int} (h : clF l n = 0) : insV l (clL l n) = true := by
  unfold clF at h
  unfold clL
  by_cases h0 : gwF l n = 0
  · rw [if_pos h0] at h ⊢
    obtain ⟨g1, g2, g3, g4, g5, g6⟩ := gw_ok h0
    obtain ⟨-, -, -, s4, s5, s6⟩ := sh_ok h
    refine (insV_iff g1 s4).2 fun x y hx => (s6 x y).2 fun u v k1 k2 k3 k4 => ?_
    exact (g6 u v).2 ⟨x, y, by omega, by omega, by omega, by omega, hx⟩
  · rw [if_neg h0] at h; exact absurd h h0
end Go.Proofs.YtmcbjaefnhfopaaGreat
/- Opened and Closed of package shape, whatever the world. -/
namespace Go.Proofs.YtmcbjaefnhfopaaGreat
open Go.RowKit Go.Shelf
open Reg (R4 inR canonL sweepL Kept)
set_option linter.unusedSimpArgs false
set_option linter.unusedVariables false

set_option maxRecDepth 100000 in
set_option maxHeartbeats 1000000 in
theorem opened_any (A : Option Addr) (l : List R4) (c : Nat) (n : Int) (w : World) (hl : l.length ≤ c) (hc : c ≤ maxLen) (hl2 : l.length ≤ 140737488355328) (h : Rd w A l) :
    Calls Tryz.prog 19 #[.slice A l.length c, .int .i64 n] w (GotRF w (opL l n) (opF l n)) := by
  have C1 := Lib.hid (shrink_any A l c n w hl hc hl2 h)
  have C2 := Lib.hid (fun A' c' W hl hc h => grow_any A' (shL l n) c' n W hl hc (by have := shL_len l n; omega) h)
  unfold GotRF opL opF at *
  clear h
  by_cases h0 : shF l n = 0
  · rw [if_pos h0, if_pos h0]
    rw [h0] at C1
    clear h0
    generalize gwL (shL l n) n = G at *
    generalize gwF (shL l n) n = F at *
    generalize shL l n = S at *
    go_enter Tryz.func19, Tryz.ntmps19
    go_wp2_with fail
    refine C1.out.mono ?_
    rintro e w1 ⟨v, rfl, ho, hb⟩
    obtain ⟨A1, c1, rfl, hl1, hc1, hr1, -⟩ := rd_own ho
    have R1 := Lib.hid hr1
    have B1 := Lib.hid hb
    clear ho hr1 hb
    go_wp2_with fail
    refine (C2.out A1 c1 w1 hl1 hc1 R1.out).mono ?_
    rintro e w2 ⟨v2, rfl, ho, hb⟩
    have O2 := Lib.hid (own_mono ho B1.out.size)
    have B2 := Lib.hid (B1.out.trans (hb.mono B1.out.size))
    clear ho hb
    go_wp2_with fail
    go_ret2
    exact ⟨v2, rfl, O2.out, B2.out⟩
  · rw [if_neg h0, if_neg h0]
    rw [shL_bad h0] at C1
    have hd : (shF l n == 0) = false := by simpa using h0
    have hd' : (shF l n != 0) = true := by simpa using h0
    clear h0 C2
    generalize shF l n = F at *
    simp only [List.length_nil] at C1
    go_enter Tryz.func19, Tryz.ntmps19
    go_wp2_with fail
    refine C1.out.mono ?_
    rintro e w1 ⟨v, rfl, ho, hb⟩
    have B1 := Lib.hid hb
    clear ho hb
    go_wp2_with fail
    go_ret2
    exact ⟨_, rfl, own_nilR _ _ _ _, B1.out⟩

set_option maxRecDepth 100000 in
set_option maxHeartbeats 1000000 in
theorem closed_any (A : Option Addr) (l : List R4) (c : Nat) (n : Int) (w : World) (hl : l.length ≤ c) (hc : c ≤ maxLen) (hl2 : l.length ≤ 140737488355328) (h : Rd w A l) :
    Calls Tryz.prog 21 #[.slice A l.length c, .int .i64 n] w (GotRF w (clL l n) (clF l n)) := by
  have C1 := Lib.hid (grow_any A l c n w hl hc hl2 h)
  have C2 := Lib.hid (fun A' c' W hl hc h => shrink_any A' (gwL l n) c' n W hl hc (by have := gwL_len l n; omega) h)
  unfold GotRF clL clF at *
  clear h
  by_cases h0 : gwF l n = 0
  · rw [if_pos h0, if_pos h0]
    rw [h0] at C1
    clear h0
    generalize shL (gwL l n) n = G at *
    generalize shF (gwL l n) n = F at *
    generalize gwL l n = S at *
    go_enter Tryz.func21, Tryz.ntmps21
    go_wp2_with fail
    refine C1.out.mono ?_
    rintro e w1 ⟨v, rfl, ho, hb⟩
    obtain ⟨A1, c1, rfl, hl1, hc1, hr1, -⟩ := rd_own ho
    have R1 := Lib.hid hr1
    have B1 := Lib.hid hb
    clear ho hr1 hb
    go_wp2_with fail
    refine (C2.out A1 c1 w1 hl1 hc1 R1.out).mono ?_
    rintro e w2 ⟨v2, rfl, ho, hb⟩
    have O2 := Lib.hid (own_mono ho B1.out.size)
    have B2 := Lib.hid (B1.out.trans (hb.mono B1.out.size))
    clear ho hb
    go_wp2_with fail
    go_ret2
    exact ⟨v2, rfl, O2.out, B2.out⟩
  · rw [if_neg h0, if_neg h0]
    rw [gwL_bad h0] at C1
    have hd : (gwF l n == 0) = false := by simpa using h0
    have hd' : (gwF l n != 0) = true := by simpa using h0
    clear h0 C2
    generalize gwF l n = F at *
    simp only [List.length_nil] at C1
    go_enter Tryz.func21, Tryz.ntmps21
    go_wp2_with fail
    refine C1.out.mono ?_
    rintro e w1 ⟨v, rfl, ho, hb⟩
    have B1 := Lib.hid hb
    clear ho hb
    go_wp2_with fail
    go_ret2
    exact ⟨_, rfl, own_nilR _ _ _ _, B1.out⟩
end Go.Proofs.YtmcbjaefnhfopaaGreat

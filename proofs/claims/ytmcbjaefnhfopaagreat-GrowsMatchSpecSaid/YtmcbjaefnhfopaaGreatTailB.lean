/- Several texts in one: GrowEq, GrowRef, GrowRef2, GrowsSpec. -/
import Derived.Test.YtmcbjaefnhfopaaGreatTailA
import Derived.Test.YtmcbjaefnhfopaaGreatMixB
import Derived.Test.YtmcbjaefnhfopaaGreatRefJ
import Derived.Test.YtmcbjaefnhfopaaGreatAwake
import Derived.Test.YtmcbjaefnhfopaaGreatOpens
/- The reference's way of growing and shrinking gives what the program's gives: the plain mathematics, and how large what lies between can be. -/
namespace Go.Proofs.YtmcbjaefnhfopaaGreat
open Go.RowKit Go.Shelf
open Reg (R4 Span Band inR canonL sweepL Kept told rowL rowFrom bandsFrom heightsL heightsFrom stackL CanF)
set_option linter.unusedSimpArgs false
set_option linter.unusedVariables false

theorem wideA_good {n : Int} (hn : 0 ≤ n) {l : List R4} (h : Reg.Good l) : Reg.Good (l.map (wideA n)) := by
  intro r hr
  obtain ⟨s, hs, rfl⟩ := List.mem_map.1 hr
  have := h s hs
  simp only [wideA]
  omega
theorem wideA_inR {n : Int} (hn : 0 ≤ n) {l : List R4} (h : Reg.Good l) (x y : Int) : inR (l.map (wideA n)) x y ↔ near n l x y := by
  constructor
  · rintro ⟨r, hr, h1⟩
    obtain ⟨s, hs, rfl⟩ := List.mem_map.1 hr
    have hg := h s hs
    simp only [wideA, R4.has] at h1
    exact ⟨max s.x0 (min x (s.x1 - 1)), max s.y0 (min y (s.y1 - 1)), by omega, by omega, by omega, by omega, s, hs, by simp only [R4.has]; omega⟩
  · rintro ⟨u, v, h1, h2, h3, h4, s, hs, h5⟩
    exact ⟨wideA n s, List.mem_map.2 ⟨s, hs, rfl⟩, by simp only [wideA, R4.has] at h5 ⊢; omega⟩
theorem grow_canon {n : Int} (hn : 0 ≤ n) {l : List R4} (h : Reg.Good l) : canonL (l.map (wideA n)) = canonL (grownL n l) :=
  Reg.canon_unique (wideA_good hn h) (grownL_ok hn h).1 fun x y => (wideA_inR hn h x y).trans ((grownL_ok hn h).2 x y).symm
/-- Whether all that is widened is in range. -/
def widOk (l : List R4) : Prop := ∀ r, r ∈ l → rectOk r = true
theorem rectOk_iff {r : R4} : rectOk r = true ↔ In6 r.x0 ∧ In6 r.y0 ∧ In6 r.x1 ∧ In6 r.y1 := by
  unfold rectOk okAt
  simp only [Bool.and_eq_true, decide_eq_true_eq, In6]
  omega
theorem widOk_iff {l : List R4} {n : Int} (h : regF l = 0) (hn : 0 ≤ n) (hpos : 0 < l.length) : widOk (l.map (wideA n)) ↔ rectF (wideA n (aroundR l)) = 0 := by
  obtain ⟨hg, -⟩ := good_of_rects (regF_zero.1 h).1
  have hin := rect_in (regF_rects h)
  constructor
  · intro hw
    have hall : ∀ r, r ∈ l → In6 (r.x0 - n) ∧ In6 (r.y0 - n) ∧ In6 (r.x1 + n) ∧ In6 (r.y1 + n) := fun r hr => rectOk_iff.1 (hw (wideA n r) (List.mem_map.2 ⟨r, hr, rfl⟩))
    have c := around_least (b := ⟨-1000000 + n, -1000000 + n, 1000000 - n, 1000000 - n⟩) hpos fun r hr => by
      have := hall r hr
      simp only [Cov, In6] at *
      omega
    have hm := List.getElem_mem hpos
    have d := around_cov hm
    have g := hg _ hm
    refine rectF_zero.2 ?_
    simp only [Cov] at c d
    simp only [wideA, In6]
    omega
  · intro hf r hr
    obtain ⟨s, hs, rfl⟩ := List.mem_map.1 hr
    have w := wide_in hf
    have c := around_cov hs
    have i := hin s hs
    refine rectOk_iff.2 ?_
    simp only [Cov] at c
    simp only [In6] at i
    simp only [wideA, In6]
    omega
theorem canon_nil : canonL [] = [] := rfl
theorem rgrow_ok {l : List R4} {n : Int} (h : regF l = 0) (h0 : 0 ≤ n) (h1 : n ≤ 100000) (hw : widOk (l.map (wideA n))) : gwF l n = resF (canonL (l.map (wideA n))) ∧ gwL l n = resL (canonL (l.map (wideA n))) := by
  have hc : chG l n = 0 := by unfold chG; rw [if_pos h, if_neg (by omega)]
  obtain ⟨hg, -⟩ := good_of_rects (regF_zero.1 h).1
  unfold gwF gwL
  rw [if_pos hc, if_pos hc]
  by_cases hn : l = []
  · subst hn
    rw [if_pos rfl, if_pos rfl]
    exact ⟨rfl, rfl⟩
  · have hpos : 0 < l.length := by cases l with | nil => exact absurd rfl hn | cons a t => simp
    rw [if_neg hn, if_neg hn, if_pos ((widOk_iff h h0 hpos).1 hw), if_pos ((widOk_iff h h0 hpos).1 hw), grow_canon h0 hg]
    exact ⟨rfl, rfl⟩
theorem rgrow_no {l : List R4} {n : Int} (h : regF l = 0) (h0 : 0 ≤ n) (h1 : n ≤ 100000) (hw : ¬ widOk (l.map (wideA n))) : gwF l n = 1 ∧ gwL l n = [] := by
  have hc : chG l n = 0 := by unfold chG; rw [if_pos h, if_neg (by omega)]
  unfold gwF gwL
  rw [if_pos hc, if_pos hc]
  have hn : l ≠ [] := fun e => hw (by subst e; intro r hr; simp at hr)
  have hpos : 0 < l.length := by cases l with | nil => exact absurd rfl hn | cons a t => simp
  have hf : ¬ rectF (wideA n (aroundR l)) = 0 := fun hf => hw ((widOk_iff h h0 hpos).2 hf)
  rw [if_neg hn, if_neg hn, if_neg hf, if_neg hf]
  exact ⟨rfl, rfl⟩

/-! ## Shrinking -/
def arL (n : Int) (l : List R4) : List R4 := combL 3 [wideA n (aroundR l)] l
theorem wide_frame {l : List R4} {n : Int} (h : regF l = 0) (hn : 0 ≤ n) (hpos : 0 < l.length) : Reg.Good [wideA n (aroundR l)] := by
  obtain ⟨hg, -⟩ := good_of_rects (regF_zero.1 h).1
  intro r hr
  simp at hr
  subst hr
  have c := around_cov (List.getElem_mem hpos)
  have g := hg _ (List.getElem_mem hpos)
  simp only [Cov] at c
  simp only [wideA]
  omega
theorem arL_ok {l : List R4} {n : Int} (h : regF l = 0) (hn : 0 ≤ n) (hpos : 0 < l.length) : Reg.Good (arL n l) ∧ (arL n l).length ≤ 6 * l.length + 4 ∧ ∀ x y, inR (arL n l) x y ↔ ((aroundR l).x0 - n ≤ x ∧ x < (aroundR l).x1 + n ∧ (aroundR l).y0 - n ≤ y ∧ y < (aroundR l).y1 + n) ∧ ¬ inR l x y := by
  obtain ⟨hg, -⟩ := good_of_rects (regF_zero.1 h).1
  have gf := wide_frame h hn hpos
  have e : arL n l = sweepL notK [wideA n (aroundR l)] l := combL_sweep (keep := notK) rfl gf hg (fun x y => beside_way gf hg x y)
  have hc : (arL n l).length ≤ 6 * l.length + 4 := beside_count 3 (region_banded h) fun r hr => by
    have c := around_cov hr
    have g := hg r hr
    simp only [Cov] at c
    simp only [wideA]
    omega
  refine ⟨by rw [e]; exact Reg.sweepL_good (keep := notK) rfl gf hg, hc, fun x y => ?_⟩
  rw [e, Reg.sweepL_inR (keep := notK) rfl gf hg, kept_not]
  have : inR [wideA n (aroundR l)] x y ↔ ((aroundR l).x0 - n ≤ x ∧ x < (aroundR l).x1 + n ∧ (aroundR l).y0 - n ≤ y ∧ y < (aroundR l).y1 + n) := by
    constructor
    · rintro ⟨r, hr, h1⟩
      simp at hr
      subst hr
      simpa [wideA, R4.has] using h1
    · intro h1
      exact ⟨wideA n (aroundR l), by simp, by simpa [wideA, R4.has] using h1⟩
  rw [this]
def rM (n : Int) (l : List R4) : List R4 := canonL ((arL n l).map (wideA n))
theorem rM_ok {l : List R4} {n : Int} (h : regF l = 0) (hn : 0 ≤ n) (hpos : 0 < l.length) : Reg.Good (rM n l) ∧ ∀ x y, inR (rM n l) x y ↔ near n (arL n l) x y := by
  obtain ⟨ga, -, -⟩ := arL_ok h hn hpos
  have gw := wideA_good hn ga
  exact ⟨Reg.canonL_good gw, fun x y => (Reg.canonL_inR gw x y).trans (wideA_inR hn ga x y)⟩
theorem rshrink_eq {l : List R4} {n : Int} (h : regF l = 0) (hn : 0 ≤ n) (hpos : 0 < l.length) : combL 3 l (rM n l) = sweepL notK l (grownL n (outL l)) := by
  obtain ⟨hg, -⟩ := good_of_rects (regF_zero.1 h).1
  obtain ⟨gm, hm⟩ := rM_ok h hn hpos
  obtain ⟨-, -, ha⟩ := arL_ok h hn hpos
  obtain ⟨-, og⟩ := out_banded h hpos
  obtain ⟨g1, -⟩ := grownL_ok hn og
  have hne : l ≠ [] := fun e => by subst e; simp at hpos
  rw [combL_sweep (keep := notK) rfl hg gm (fun x y => beside_way hg gm x y), Reg.sweepL_can (keep := notK) rfl hg gm, Reg.sweepL_can (keep := notK) rfl hg g1]
  refine Reg.canon_unique (Reg.sweepL_good rfl hg gm) (Reg.sweepL_good rfl hg g1) fun x y => ?_
  rw [sh_sq h hn hne, Reg.sweepL_inR (keep := notK) rfl hg gm, kept_not, hm]
  constructor
  · rintro ⟨h1, h2⟩ u v e1 e2 e3 e4
    have hb := around_sq h1
    false_or_by_contra
    rename_i hno
    exact h2 ⟨u, v, e1, e2, e3, e4, (ha u v).2 ⟨by omega, hno⟩⟩
  · intro hall
    refine ⟨hall x y (by omega) (by omega) (by omega) (by omega), ?_⟩
    rintro ⟨u, v, h1, h2, h3, h4, h5⟩
    exact ((ha u v).1 h5).2 (hall u v h1 h2 h3 h4)

/-! ## How large what lies between can be -/
theorem sorted_sub : ∀ (b a : List Int), a.Pairwise (· < ·) → b.Pairwise (· < ·) → (∀ x, x ∈ a → x ∈ b) → a.length ≤ b.length
  | [], a, _, _, h => by
    cases a with
    | nil => simp
    | cons x a => have := h x (by simp); simp at this
  | y :: b, [], _, _, _ => by simp
  | y :: b, x :: a, ha, hb, h => by
    have ha' := List.pairwise_cons.1 ha
    have hb' := List.pairwise_cons.1 hb
    by_cases e : x = y
    · subst e
      have := sorted_sub b a ha'.2 hb'.2 fun z hz => by
        rcases List.mem_cons.1 (h z (List.mem_cons_of_mem _ hz)) with rfl | hz'
        · have := ha'.1 z hz; omega
        · exact hz'
      simp only [List.length_cons]
      omega
    · have hx : x ∈ b := by
        rcases List.mem_cons.1 (h x (by simp)) with rfl | hx
        · exact absurd rfl e
        · exact hx
      have hyx := hb'.1 x hx
      have := sorted_sub b (x :: a) ha hb'.2 fun z hz => by
        rcases List.mem_cons.1 (h z hz) with rfl | hz'
        · rcases List.mem_cons.1 hz with rfl | hz2
          · omega
          · have := ha'.1 z hz2; omega
        · exact hz'
      simp only [List.length_cons] at this ⊢
      omega
theorem heights_sub {a b : List R4} (h : ∀ y, y ∈ heightsL a → y ∈ heightsL b) : (heightsL a).length ≤ (heightsL b).length :=
  sorted_sub _ _ (Reg.heights_sorted a) (Reg.heights_sorted b) h
theorem heights_take (l : List R4) (k : Nat) : (heightsFrom [] (l.take k)).length ≤ (heightsL l).length :=
  heights_sub (a := l.take k) fun y hy => by
    obtain ⟨r, hr, h1⟩ := Reg.mem_heights.1 hy
    exact Reg.mem_heights.2 ⟨r, List.mem_of_mem_take hr, h1⟩
theorem stackL_in {S : Int → Prop} (b : Band) (h1 : S b.lo) (h2 : S b.hi) : ∀ l : List Band, (∀ c, c ∈ l → S c.lo ∧ S c.hi) → ∀ c, c ∈ stackL l b → S c.lo ∧ S c.hi
  | [], _, c, hc => by
    simp only [stackL] at hc
    split at hc
    · simp at hc
    · simp at hc; subst hc; exact ⟨h1, h2⟩
  | [d], hl, c, hc => by
    have hd := hl d (by simp)
    simp only [stackL] at hc
    split at hc
    · simp at hc; subst hc; exact hd
    · split at hc
      · simp at hc; subst hc; exact ⟨hd.1, h2⟩
      · simp at hc
        rcases hc with rfl | rfl
        · exact hd
        · exact ⟨h1, h2⟩
  | d :: e :: l, hl, c, hc => by
    rw [stackL] at hc
    rcases List.mem_cons.1 hc with rfl | hc
    · exact hl c (by simp)
    · exact stackL_in b h1 h2 (e :: l) (fun x hx => hl x (List.mem_cons_of_mem _ hx)) c hc
theorem bandsFrom_in {S : Int → Prop} (row : Int → List Span) (m : Nat) (hm : ∀ y, (row y).length ≤ m) : ∀ (ys : List Int) (acc : List Band), (∀ y, y ∈ ys → S y) → (∀ c, c ∈ acc → (S c.lo ∧ S c.hi)) → (∀ c, c ∈ acc → c.sp.length ≤ m) →
    (∀ c, c ∈ bandsFrom row acc ys → (S c.lo ∧ S c.hi)) ∧ (∀ c, c ∈ bandsFrom row acc ys → c.sp.length ≤ m) ∧ (bandsFrom row acc ys).length ≤ acc.length + ys.length
  | [], acc, _, h, h' => ⟨by simpa [bandsFrom] using h, by simpa [bandsFrom] using h', by simp [bandsFrom]⟩
  | [a], acc, _, h, h' => ⟨by simpa [bandsFrom] using h, by simpa [bandsFrom] using h', by simp [bandsFrom]⟩
  | a :: b :: ys, acc, hs, h, h' => by
    have i := bandsFrom_in row m hm (b :: ys) (stackL acc ⟨a, b, row a⟩) (fun y hy => hs y (List.mem_cons_of_mem _ hy)) (stackL_in ⟨a, b, row a⟩ (hs a (by simp)) (hs b (by simp)) acc h) (stackL_sp ⟨a, b, row a⟩ m (hm a) acc h')
    have hc := stackL_count ⟨a, b, row a⟩ acc
    rw [bandsFrom]
    refine ⟨i.1, i.2.1, ?_⟩
    have := i.2.2
    simp only [List.length_cons] at this ⊢
    omega
theorem told_alive {bs : List Band} (m : Nat) (y : Int) : ∀ {lo : Int} {p : List Span}, CanF lo p bs → (∀ b, b ∈ bs → b.sp.length ≤ m) → (told bs).countP (alive y) ≤ m := by
  induction bs with
  | nil => intro lo p _ _; simp [told]
  | cons b l ih =>
    intro lo p h hm
    obtain ⟨h1, _, h3, _, _, h6⟩ := h
    have hi := ih h6 fun c hc => hm c (List.mem_cons_of_mem _ hc)
    have hlow := told_low h6
    have hb : ∀ r, r ∈ Reg.rectsOf b → r.y0 = b.lo ∧ r.y1 = b.hi := fun r hr => by
      obtain ⟨s, _, rfl⟩ := List.mem_map.1 hr
      exact ⟨rfl, rfl⟩
    rw [told, List.flatMap_cons, List.countP_append]
    by_cases hy : y < b.hi
    · have hz : (List.flatMap Reg.rectsOf l).countP (alive y) = 0 := by
        rw [List.countP_eq_zero]
        intro r hr ha
        have := hlow r hr
        simp [alive] at ha
        omega
      have hl : (Reg.rectsOf b).countP (alive y) ≤ (Reg.rectsOf b).length := List.countP_le_length
      have hs : (Reg.rectsOf b).length = b.sp.length := by simp [Reg.rectsOf]
      have := hm b (by simp)
      omega
    · have hz : (Reg.rectsOf b).countP (alive y) = 0 := by
        rw [List.countP_eq_zero]
        intro r hr ha
        have := hb r hr
        simp [alive] at ha
        omega
      have hi' : (List.flatMap Reg.rectsOf l).countP (alive y) ≤ m := hi
      omega
/-- The canonical form of so many rectangles: how many it has, how many a row has, and at which heights. -/
theorem canon_size {g : List R4} (hg : Reg.Good g) : (canonL g).length ≤ (2 * g.length) * g.length ∧ (∀ y, (canonL g).countP (alive y) ≤ g.length) ∧ ∀ y, y ∈ heightsL (canonL g) → y ∈ heightsL g := by
  obtain ⟨b1, b2, b3⟩ := bandsFrom_in (S := fun y => y ∈ heightsL g) (rowL g) g.length (fun y => rowL_len g y) (heightsL g) [] (fun y hy => hy) (fun c hc => by cases hc) (fun c hc => by cases hc)
  obtain ⟨⟨z, hz⟩, -⟩ := Reg.bandsC_ok hg
  have hl := heightsL_len g
  have e : canonL g = told (bandsFrom (rowL g) [] (heightsL g)) := rfl
  refine ⟨?_, fun y => ?_, fun y hy => ?_⟩
  · rw [e]
    have h1 := told_len b2
    simp only [List.length_nil, Nat.zero_add] at b3
    exact Nat.le_trans h1 (Nat.mul_le_mul_right _ (by omega))
  · exact told_alive g.length y hz b2
  · obtain ⟨r, hr, h1⟩ := Reg.mem_heights.1 hy
    rw [e, told, List.mem_flatMap] at hr
    obtain ⟨c, hc, hr⟩ := hr
    obtain ⟨s, _, rfl⟩ := List.mem_map.1 hr
    have := b1 c hc
    rcases h1 with rfl | rfl
    · exact this.1
    · exact this.2
theorem rM_size {l : List R4} {n : Int} (h : regF l = 0) (hn : 0 ≤ n) (hpos : 0 < l.length) : (rM n l).length ≤ 1000000000 ∧ (∀ y k, (rowFrom y [] ((rM n l).take k)).length ≤ 20000) ∧ ∀ k, (heightsFrom [] ((l ++ rM n l).take k)).length ≤ 100000 := by
  obtain ⟨hg, hl⟩ := good_of_rects (regF_zero.1 h).1
  obtain ⟨ga, la, -⟩ := arL_ok h hn hpos
  have gw := wideA_good hn ga
  obtain ⟨s1, s2, s3⟩ := canon_size gw
  rw [List.length_map] at s1 s2
  have hla : (arL n l).length ≤ 12004 := by omega
  refine ⟨?_, fun y k => ?_, fun k => ?_⟩
  · have : 2 * (arL n l).length * (arL n l).length ≤ 24008 * 12004 := Nat.mul_le_mul (by omega) hla
    have e : (rM n l).length = (canonL ((arL n l).map (wideA n))).length := rfl
    omega
  · have h1 := row_alive ((rM n l).take k) y
    have h2 : ((rM n l).take k).countP (alive y) ≤ (rM n l).countP (alive y) := (List.take_sublist k _).countP_le
    have h3 := s2 y
    have e : (rM n l).countP (alive y) = (canonL ((arL n l).map (wideA n))).countP (alive y) := rfl
    have e2 : rowL ((rM n l).take k) y = rowFrom y [] ((rM n l).take k) := rfl
    rw [e2] at h1
    omega
  · have h1 := heights_take (l ++ rM n l) k
    have h2 := heights_sub (a := l ++ rM n l) (b := l ++ (arL n l).map (wideA n)) fun y hy => by
      obtain ⟨r, hr, h1⟩ := Reg.mem_heights.1 hy
      rcases List.mem_append.1 hr with hr | hr
      · exact Reg.mem_heights.2 ⟨r, List.mem_append_left _ hr, h1⟩
      · obtain ⟨r', hr', h1'⟩ := Reg.mem_heights.1 (s3 y (Reg.mem_heights.2 ⟨r, hr, h1⟩))
        exact Reg.mem_heights.2 ⟨r', List.mem_append_right _ hr', h1'⟩
    have h3 := heightsL_len (l ++ (arL n l).map (wideA n))
    rw [List.length_append, List.length_map] at h3
    omega
end Go.Proofs.YtmcbjaefnhfopaaGreat
/- Grow, Shrink, Opened and Closed of the reference, whatever the world. -/
namespace Go.Proofs.YtmcbjaefnhfopaaGreat
open Go.RowKit Go.Shelf
open Reg (R4 inR canonL sweepL Kept)
set_option linter.unusedSimpArgs false
set_option linter.unusedVariables false

set_option maxRecDepth 100000 in
set_option maxHeartbeats 1000000 in
theorem rwider_any (r : R4) (n : Int) (w : World) (h : -2000000 ≤ r.x0 ∧ r.x0 ≤ 2000000 ∧ -2000000 ≤ r.y0 ∧ r.y0 ≤ 2000000 ∧ -2000000 ≤ r.x1 ∧ r.x1 ≤ 2000000 ∧ -2000000 ≤ r.y1 ∧ r.y1 ≤ 2000000) (h0 : 0 ≤ n) (h1 : n ≤ 100000) :
    Calls Tryz.prog 60 #[rv r, .int .i64 n] w fun e w' => e = .returned (rv (wideA n r)) ∧ Below w.heap.size w w' := by
  obtain ⟨x0, y0, x1, y1⟩ := r
  simp only at h
  obtain ⟨q0, q1, q2, q3, q4, q5, q6, q7⟩ := h
  simp only [rv, wideA]
  go_enter Tryz.func60, Tryz.ntmps60
  go_wp2_with fail
  exact bodyPost_ret (v := rv ⟨x0 - n, y0 - n, x1 + n, y1 + n⟩) (by simp [results, Tryz.results60, go_sem]) rfl ⟨rfl, by (repeat' (first | (with_reducible exact Below.refl _ _) | (with_reducible assumption) | (with_reducible refine Below.alloc ?_ ?_ _) | (with_reducible refine Below.drew ?_) | (with_reducible refine below_drewN ?_ _) | (with_reducible refine Below.setCell ?_ ?_ _) | (with_reducible exact Nat.le_refl _) | omega | (simp only [World.size_alloc, World.size_setCell, World.size_drew]; omega) | (simp; omega) | (simp; done)))⟩

theorem mapA_snoc (n : Int) (l : List R4) (k : Nat) (h : k < l.length) : (l.take (k + 1)).map (wideA n) = (l.take k).map (wideA n) ++ [⟨l[k].x0 - n, l[k].y0 - n, l[k].x1 + n, l[k].y1 + n⟩] := by
  rw [List.take_succ_eq_append_getElem h, List.map_append]
  rfl
def Small (l : List R4) : Prop := ∀ r, r ∈ l → -2000000 ≤ r.x0 ∧ r.x0 ≤ 2000000 ∧ -2000000 ≤ r.y0 ∧ r.y0 ≤ 2000000 ∧ -2000000 ≤ r.x1 ∧ r.x1 ≤ 2000000 ∧ -2000000 ≤ r.y1 ∧ r.y1 ≤ 2000000

set_option maxRecDepth 100000 in
set_option maxHeartbeats 2000000 in
theorem rgrown_any (A : Option Addr) (l : List R4) (c : Nat) (n : Int) (w : World) (hl : l.length ≤ 100000) (hs : Small l) (hn0 : 0 ≤ n) (hn1 : n ≤ 100000) (h : Rd w A l) :
    Calls Tryz.prog 58 #[.slice A l.length c, .int .i64 n] w (GotR w (l.map (wideA n))) := by
  obtain ⟨i0, hi, hz0, hz1, hz2⟩ := info_parts infoR
  have H0 := Lib.hid h
  have CW := Lib.hid (fun r (hr : r ∈ l) W => rwider_any r n W (hs r hr) hn0 hn1)
  have HLW := Lib.hid (show (l.map (wideA n)).length = l.length from List.length_map _)
  clear h hs
  go_enter Tryz.func58, Tryz.ntmps58
  go_wp2_with fail
  go_loopw [5, 6] (fun v5 i wr => ∃ k : Nat, k ≤ l.length ∧ i = .int .i64 k ∧ wr.ownsRow w.heap.size 28 4 v5 k (cR ((l.take k).map (wideA n))) ∧ Below w.heap.size w wr) (fun _ i _ => l.length - (intOf i).toNat)
  case atStart => exact ⟨0, Nat.zero_le _, rfl, own_nilR _ _ _ _, Below.refl _ _⟩
  case round =>
    obtain ⟨k, hk, rfl, hown, hbw⟩ := hrel
    have zw := hbw.size
    have HO1 := Lib.hid hown
    clear hown
    have hkz : (0 : Int) ≤ (k : Int) := by omega
    by_cases hlt : k < l.length
    · obtain ⟨b, off, rfl, hblt, hcs⟩ := (H0.out.below hbw) (by omega)
      have hi1 : l[k]? = some l[k] := List.getElem?_eq_getElem hlt
      obtain ⟨c0, c1, c2, c3⟩ := hcs k _ hi1
      have HS := Lib.hid (mapA_snoc n l k hlt)
      have CR := Lib.hid (fun W => CW.out l[k] (List.getElem_mem hlt) W)
      clear hi1 hcs
      generalize l[k] = r at *
      simp only [rv, wideA] at CR
      have hklt : (k : Int) < (l.length : Int) := by omega
      go_wp2_with fail
      refine (CR.out _).mono ?_
      rintro e w3 ⟨rfl, hb⟩
      have z3 := hb.size
      (try simp only [World.size_alloc, World.size_setCell, World.size_drew] at z3)
      have B3 := up (B := w.heap.size) (w := w) (by (repeat' (first | (with_reducible exact Below.refl _ _) | (with_reducible assumption) | (with_reducible refine Below.alloc ?_ ?_ _) | (with_reducible refine Below.drew ?_) | (with_reducible refine below_drewN ?_ _) | (with_reducible refine Below.setCell ?_ ?_ _) | (with_reducible exact Nat.le_refl _) | omega | (simp only [World.size_alloc, World.size_setCell, World.size_drew]; omega) | (simp; omega) | (simp; done)))) hb (by (first | (with_reducible exact Nat.le_refl _) | (with_reducible assumption) | omega | (simp only [World.size_alloc, World.size_setCell, World.size_drew]; omega) | (simp; omega) | (simp; done)))
      have BR := up (B := wr.heap.size) (w := wr) (by (repeat' (first | (with_reducible exact Below.refl _ _) | (with_reducible assumption) | (with_reducible refine Below.alloc ?_ ?_ _) | (with_reducible refine Below.drew ?_) | (with_reducible refine below_drewN ?_ _) | (with_reducible refine Below.setCell ?_ ?_ _) | (with_reducible exact Nat.le_refl _) | omega | (simp only [World.size_alloc, World.size_setCell, World.size_drew]; omega) | (simp; omega) | (simp; done)))) hb (by (first | (with_reducible exact Nat.le_refl _) | (with_reducible assumption) | omega | (simp only [World.size_alloc, World.size_setCell, World.size_drew]; omega) | (simp; omega) | (simp; done)))
      clear hb
      go_wp2_with (first | (at_builtin; refine wpList_append_own _ rfl (.tmp 13) (.tmp 20) 22 rfl w.heap.size 28 i0 (.agg #[.int .i64 0, .int .i64 0, .int .i64 0, .int .i64 0]) 4 32 Tryz.underlying22 hi hz0 hz1 hz2 rfl (by decide) u5 k (cR ((l.take k).map (wideA n))) rfl ?o1 ⟨w3.heap.size, 0, none⟩ 1 1 [.int .i64 (r.x0 - n), .int .i64 (r.y0 - n), .int .i64 (r.x1 + n), .int .i64 (r.y1 + n)] rfl rfl ?nw ?o2 ?q4 ?q5 ?b2 ?_; (case o1 => exact ownsRow_below' HO1.out (by (repeat' (first | (with_reducible exact Below.refl _ _) | (with_reducible assumption) | (with_reducible refine Below.alloc ?_ ?_ _) | (with_reducible refine Below.drew ?_) | (with_reducible refine below_drewN ?_ _) | (with_reducible refine Below.setCell ?_ ?_ _) | (with_reducible exact Nat.le_refl _) | omega | (simp only [World.size_alloc, World.size_setCell, World.size_drew]; omega) | (simp; omega) | (simp; done))))); (case nw => exact list_new _ _ (by simp) _ _); (case o2 => simp [Value.oneCell']); (case q4 => simp only [maxLen]; omega); (case q5 => omega); (case b2 => (first | (with_reducible exact Nat.le_refl _) | (with_reducible assumption) | omega | (simp only [World.size_alloc, World.size_setCell, World.size_drew]; omega) | (simp; omega) | (simp; done))); intro v2 w2 hown2 hg2 _; have HO2 := Lib.hid hown2; have B2 := below_app (B := w.heap.size) (w0 := w) (by (repeat' (first | (with_reducible exact Below.refl _ _) | (with_reducible assumption) | (with_reducible refine Below.alloc ?_ ?_ _) | (with_reducible refine Below.drew ?_) | (with_reducible refine below_drewN ?_ _) | (with_reducible refine Below.setCell ?_ ?_ _) | (with_reducible exact Nat.le_refl _) | omega | (simp only [World.size_alloc, World.size_setCell, World.size_drew]; omega) | (simp; omega) | (simp; done)))) (ownsRow_below' HO1.out (by (repeat' (first | (with_reducible exact Below.refl _ _) | (with_reducible assumption) | (with_reducible refine Below.alloc ?_ ?_ _) | (with_reducible refine Below.drew ?_) | (with_reducible refine below_drewN ?_ _) | (with_reducible refine Below.setCell ?_ ?_ _) | (with_reducible exact Nat.le_refl _) | omega | (simp only [World.size_alloc, World.size_setCell, World.size_drew]; omega) | (simp; omega) | (simp; done))))) hg2 (Nat.le_refl _) (by (first | (with_reducible exact Nat.le_refl _) | (with_reducible assumption) | omega | (simp only [World.size_alloc, World.size_setCell, World.size_drew]; omega) | (simp; omega) | (simp; done))); clear hown2 hg2))
      go_roundw
      case rel => exact ⟨k + 1, by omega, by go_num, by rw [HS.out, cR_append]; exact HO2.out, B2⟩
      case measure => simp [intOf]; omega
    · obtain rfl : k = l.length := by omega
      rw [List.take_length] at HO1
      go_wp2_with fail
      go_ret
      obtain ⟨A1, c1, e, h1, h2, h3, h4⟩ := rd_own (l := l.map (wideA n)) (by rw [HLW.out]; exact HO1.out)
      subst e
      exact ⟨A1, c1, rfl, h1, h2, h3, ⟨fun a ha => h4 _ (by rw [ha]; rfl), fun e => by subst e; exact own_noneC (by rw [← HLW.out] at HO1; exact HO1.out)⟩, hbw⟩

def GotRd0 (w : World) (l : List R4) (f : Int) (e : Ending) (w' : World) : Prop := ∃ A c, e = .returned (.tuple #[.slice A l.length c, .int .i64 f]) ∧ Rd w' A l ∧ l.length ≤ c ∧ c ≤ maxLen ∧ (A = none → c = 0) ∧ Below w.heap.size w w'

set_option maxRecDepth 100000 in
set_option maxHeartbeats 2000000 in
theorem rgrowOf_any (A : Option Addr) (l : List R4) (c : Nat) (n : Int) (w : World) (h0 : regF l = 0) (hn0 : 0 ≤ n) (hn1 : n ≤ 100000) (h : Rd w A l) :
    Calls Tryz.prog 39 #[.slice A l.length c, .int .i64 n] w (GotRd0 w (gwL l n) (gwF l n)) := by
  have H0 := Lib.hid h
  obtain ⟨hg, h2000⟩ := good_of_rects (regF_zero.1 h0).1
  have hin6 := rect_in (regF_rects h0)
  have C1 := Lib.hid (fun W h => rgrown_any A l c n W (by omega) (fun r hr => by have := hin6 r hr; simp only [In6] at this; omega) hn0 hn1 h)
  have HOK := Lib.hid (rgrow_ok h0 hn0 hn1)
  have HNO := Lib.hid (rgrow_no h0 hn0 hn1)
  have hWl : (l.map (wideA n)).length ≤ 2000 := by simp; omega
  unfold GotR at C1
  unfold GotRd0
  clear h h0 hg hin6 hn0 hn1
  generalize gwL l n = L at *
  generalize gwF l n = F at *
  generalize l.map (wideA n) = W at *
  have C6 := Lib.hid (fun A' c' w' h => rcanonical_any A' W c' w' (by omega) h)
  have C7 := Lib.hid (fun A c w' => limited_any A (canonL W) c w')
  have CA := Lib.hid (fun m w' => at_any m w')
  unfold GotR at C6
  generalize canonL W = CL at *
  go_enter Tryz.func39, Tryz.ntmps39
  go_wp2_with fail
  refine (C1.out _ H0.out).mono ?_
  rintro e w2 ⟨A2, c2, rfl, hc1, hc2, hr2, -, hb⟩
  have R2 := Lib.hid hr2
  have B2 := Lib.hid hb
  have z2 := hb.size
  have hc2' : c2 ≤ 9223372036854775807 := hc2
  clear hr2 hb
  go_wp2_with fail
  go_loopw [7] (fun i wr => ∃ k : Nat, k ≤ W.length ∧ i = .int .i64 k ∧ (∀ r, r ∈ W.take k → rectOk r = true) ∧ Below w2.heap.size w2 wr) (fun i _ => W.length - (intOf i).toNat)
  case atStart => exact ⟨0, Nat.zero_le _, rfl, (fun r hr => by simp at hr), Below.refl _ _⟩
  case round =>
    obtain ⟨k, hk, rfl, hgood, hbw⟩ := hrel
    have zw := hbw.size
    have HGO := Lib.hid hgood
    clear hgood
    have hkz : (0 : Int) ≤ (k : Int) := by omega
    by_cases hlt : k < W.length
    · obtain ⟨b, off, rfl, hblt, hcs⟩ := (R2.out.below hbw) (by omega)
      have hi1 : W[k]? = some W[k] := List.getElem?_eq_getElem hlt
      obtain ⟨c0, c1, c2', c3⟩ := hcs k _ hi1
      have HT := Lib.hid (List.take_succ_eq_append_getElem hlt)
      have HM := Lib.hid (List.getElem_mem hlt)
      clear hi1 hcs
      generalize W[k] = r at *
      have hklt : (k : Int) < (W.length : Int) := by omega
      have hcase : (rectOk r = true ∧ okAt r.x0 = true ∧ okAt r.y0 = true ∧ okAt r.x1 = true ∧ okAt r.y1 = true) ∨ (¬ rectOk r = true ∧ ((okAt r.x0 = false) ∨ (okAt r.x0 = true ∧ okAt r.y0 = false) ∨ (okAt r.x0 = true ∧ okAt r.y0 = true ∧ okAt r.x1 = false) ∨ (okAt r.x0 = true ∧ okAt r.y0 = true ∧ okAt r.x1 = true ∧ okAt r.y1 = false))) := by
        unfold rectOk
        cases okAt r.x0 <;> cases okAt r.y0 <;> cases okAt r.x1 <;> cases okAt r.y1 <;> simp
      rcases hcase with ⟨hF, a0, a1, a2, a3⟩ | ⟨hF, hbad⟩
      · have HF := Lib.hid hF
        clear hF
        go_wp2_with (go_at_call 59; refine (CA.out _ _).mono ?_; rintro e w9 ⟨rfl, rfl⟩)
        go_roundw
        case rel => exact ⟨k + 1, by omega, by go_num, (by
          rw [HT.out]
          intro s hs
          rcases List.mem_append.1 hs with hs | hs
          · exact HGO.out s hs
          · simp at hs
            subst hs
            exact HF.out), by (repeat' (first | (with_reducible exact Below.refl _ _) | (with_reducible assumption) | (with_reducible refine Below.alloc ?_ ?_ _) | (with_reducible refine Below.drew ?_) | (with_reducible refine below_drewN ?_ _) | (with_reducible refine Below.setCell ?_ ?_ _) | (with_reducible exact Nat.le_refl _) | omega | (simp only [World.size_alloc, World.size_setCell, World.size_drew]; omega) | (simp; omega) | (simp; done)))⟩
        case measure => simp [intOf]; omega
      · obtain ⟨rfl, rfl⟩ := HNO.out (fun h => hF (h r HM.out))
        clear hF
        rcases hbad with a0 | ⟨a0, a1⟩ | ⟨a0, a1, a2⟩ | ⟨a0, a1, a2, a3⟩
        all_goals
          go_wp2_with (go_at_call 59; refine (CA.out _ _).mono ?_; rintro e w9 ⟨rfl, rfl⟩)
          go_ret2
          exact ⟨none, 0, rfl, fun h => absurd h (by simp), Nat.le_refl _, Nat.zero_le _, fun _ => rfl, B2.out.trans (Below.mono (by (repeat' (first | (with_reducible exact Below.refl _ _) | (with_reducible assumption) | (with_reducible refine Below.alloc ?_ ?_ _) | (with_reducible refine Below.drew ?_) | (with_reducible refine below_drewN ?_ _) | (with_reducible refine Below.setCell ?_ ?_ _) | (with_reducible exact Nat.le_refl _) | omega | (simp only [World.size_alloc, World.size_setCell, World.size_drew]; omega) | (simp; omega) | (simp; done)))) B2.out.size)⟩
    · obtain rfl : k = W.length := by omega
      rw [List.take_length] at HGO
      obtain ⟨e1, e2⟩ := HOK.out HGO.out
      have E1 := Lib.hid e1
      have E2 := Lib.hid e2
      clear e1 e2
      go_wp2_with fail
      refine (C6.out _ _ _ (R2.out.below hbw)).mono ?_
      rintro e w7 ⟨A3, c3, rfl, q1, q2, hr3, ⟨-, q3⟩, hb⟩
      have R7 := Lib.hid hr3
      have Q3 := Lib.hid q3
      have B7 := Lib.hid (B2.out.trans ((hbw.trans (hb.mono hbw.size)).mono B2.out.size))
      clear hr3 hb q3
      go_wp2_with fail
      refine (C7.out A3 c3 w7).mono ?_
      rintro e w8 ⟨rfl, rfl⟩
      generalize resF CL = FF at *
      by_cases hs : CL.length ≤ 2000
      · rw [if_pos hs]
        have E3 := Lib.hid (show resL CL = CL from if_pos hs)
        clear hs
        go_wp2_with fail
        go_ret2
        rw [E2.out, E1.out, E3.out]
        exact ⟨A3, c3, rfl, R7.out, q1, q2, Q3.out, B7.out⟩
      · rw [if_neg hs]
        have E3 := Lib.hid (show resL CL = [] from if_neg hs)
        clear hs
        go_wp2_with fail
        go_ret2
        rw [E2.out, E1.out, E3.out]
        exact ⟨none, 0, rfl, fun h => absurd h (by simp), Nat.le_refl _, Nat.zero_le _, fun _ => rfl, B7.out⟩
end Go.Proofs.YtmcbjaefnhfopaaGreat
/- Shrink, Grow, Opened and Closed of the reference, whatever the world. -/
namespace Go.Proofs.YtmcbjaefnhfopaaGreat
open Go.RowKit Go.Shelf
open Reg (R4 inR canonL sweepL Kept)
set_option linter.unusedSimpArgs false
set_option linter.unusedVariables false

theorem sh_combL {l : List R4} {n : Int} (h : regF l = 0) (h0 : 0 ≤ n) (h1 : n ≤ 100000) (hn : l ≠ []) : shF l n = resF (combL 3 l (rM n l)) ∧ shL l n = resL (combL 3 l (rM n l)) := by
  have hc : chG l n = 0 := by unfold chG; rw [if_pos h, if_neg (by omega)]
  have hpos : 0 < l.length := by cases l with | nil => exact absurd rfl hn | cons a t => simp
  unfold shF shL
  rw [if_pos hc, if_pos hc, if_neg hn, if_neg hn, rshrink_eq h h0 hpos]
  exact ⟨rfl, rfl⟩
theorem sh_nil {n : Int} (h : regF ([] : List R4) = 0) (h0 : 0 ≤ n) (h1 : n ≤ 100000) : shF [] n = 0 ∧ shL [] n = [] := by
  have hc : chG [] n = 0 := by unfold chG; rw [if_pos h, if_neg (by omega)]
  unfold shF shL
  rw [if_pos hc, if_pos hc, if_pos rfl, if_pos rfl]
  exact ⟨rfl, rfl⟩
theorem arL_small {l : List R4} {n : Int} (h : regF l = 0) (h0 : 0 ≤ n) (h1 : n ≤ 100000) (hpos : 0 < l.length) : Small (arL n l) := by
  intro r hr
  obtain ⟨ga, -, ha⟩ := arL_ok h h0 hpos
  obtain ⟨ain, -, -⟩ := frame_ok h hpos
  have g := ga r hr
  have p := ((ha r.x0 r.y0).1 ⟨r, hr, by simp only [R4.has]; omega⟩).1
  have q := ((ha (r.x1 - 1) (r.y1 - 1)).1 ⟨r, hr, by simp only [R4.has]; omega⟩).1
  simp only [InB] at ain
  omega

set_option maxRecDepth 100000 in
set_option maxHeartbeats 2000000 in
theorem rshrinkOf_any (A : Option Addr) (l : List R4) (c : Nat) (n : Int) (w : World) (hA : A = none → c = 0) (hr0 : regF l = 0) (hn0 : 0 ≤ n) (hn1 : n ≤ 100000) (h : Rd w A l) :
    Calls Tryz.prog 41 #[.slice A l.length c, .int .i64 n] w (GotRd0 w (shL l n) (shF l n)) := by
  have H0 := Lib.hid h
  have HNA := Lib.hid hA
  unfold GotRd0
  clear h hA
  by_cases hnil : l = []
  · subst hnil
    obtain ⟨e1, e2⟩ := sh_nil hr0 hn0 hn1
    rw [e1, e2]
    clear e1 e2 hr0
    simp only [List.length_nil]
    go_enter Tryz.func41, Tryz.ntmps41
    go_wp2_with fail
    go_ret2
    exact ⟨none, 0, rfl, fun h => absurd h (by simp), Nat.le_refl _, Nat.zero_le _, fun _ => rfl, Below.refl _ _⟩
  · obtain ⟨e1, e2⟩ := sh_combL hr0 hn0 hn1 hnil
    rw [e1, e2]
    clear e1 e2
    have hpos : 0 < l.length := by cases l with | nil => exact absurd rfl hnil | cons a t => simp
    obtain ⟨hg, h2000⟩ := good_of_rects (regF_zero.1 hr0).1
    obtain ⟨ain, -, -⟩ := frame_ok hr0 hpos
    obtain ⟨ga, la, -⟩ := arL_ok hr0 hn0 hpos
    obtain ⟨m1, m2, m3⟩ := rM_size hr0 hn0 hpos
    have C1 := Lib.hid (fun W h => boundsOf_any A l c W hpos (by omega) h)
    have C2 := Lib.hid (fun W => rwider_any (aroundR l) n W (by simp only [InB] at ain; omega) hn0 hn1)
    have C3 := Lib.hid (fun b o W h1 h2 => combined_any (some ⟨b, o, none⟩) A [wideA n (aroundR l)] l 1 c 3 W (by simp) h2000 (fun e => by cases e) HNA.out (.inr (.inr rfl)) h1 h2)
    have C4 := Lib.hid (fun A' c' W h => rgrown_any A' (arL n l) c' n W (by omega) (arL_small hr0 hn0 hn1 hpos) hn0 hn1 h)
    have C5 := Lib.hid (fun A' c' W h => rcanonical_any A' ((arL n l).map (wideA n)) c' W (by simp; omega) h)
    have C6 := Lib.hid (fun A' c' W hB h1 h2 => combined_anyB A A' l (rM n l) c c' 3 W h2000 m1 m2 m3 HNA.out hB (.inr (.inr rfl)) h1 h2)
    have C7 := Lib.hid (fun A' c' W => limited_any A' (combL 3 l (rM n l)) c' W)
    rw [show combL 3 [wideA n (aroundR l)] l = arL n l from rfl] at C3
    rw [show canonL ((arL n l).map (wideA n)) = rM n l from rfl] at C5
    unfold GotR at C3 C4 C5 C6
    simp only [List.length_singleton] at C3
    have hne : ((l.length : Int) == 0) = false := by rw [beq_eq_false_iff_ne]; omega
    obtain ⟨fr, hfr⟩ : ∃ fr, fr = wideA n (aroundR l) := ⟨_, rfl⟩
    rw [← hfr] at C2 C3
    obtain ⟨f0, f1, f2, f3⟩ := fr
    simp only [rv] at C2
    clear hr0 hn0 hn1 hg ain ga la m1 m2 m3 hnil hfr
    generalize (arL n l).map (wideA n) = G at *
    generalize arL n l = O at *
    generalize combL 3 l (rM n l) = CL at *
    generalize rM n l = M at *
    generalize aroundR l = ar at *
    generalize resF CL = FF at *
    generalize hLL : resL CL = LL at *
    have HLL := Lib.hid hLL
    clear hLL
    go_enter Tryz.func41, Tryz.ntmps41
    go_wp2_with fail
    refine (C1.out w H0.out).mono ?_
    rintro e w1 ⟨rfl, hb⟩
    have B1 := Lib.hid hb
    clear hb
    go_wp2_with fail
    refine (C2.out w1).mono ?_
    rintro e w2 ⟨rfl, hb⟩
    have B2 := Lib.hid (B1.out.trans (hb.mono B1.out.size))
    have z2 := B2.out.size
    clear hb
    go_wp2_with fail
    refine (C3.out w2.heap.size 0 _ ?_ (H0.out.below (B2.out.alloc z2 _))).mono ?_
    · intro _
      refine ⟨_, _, rfl, by simp, fun i r hi => ?_⟩
      match i, hi with
      | 0, hi =>
        simp at hi; subst hi
        refine ⟨?_, ?_, ?_, ?_⟩ <;> simp [go_sem]
      | i + 1, hi => simp at hi
    rintro e w3 ⟨A3, c3, rfl, q31, q32, hr3, -, hb⟩
    have R3 := Lib.hid hr3
    have B3 := Lib.hid (up (B := w.heap.size) (w := w) (B2.out.alloc z2 _) hb (by simp; omega))
    clear hr3 hb
    go_wp2_with fail
    refine (C4.out A3 c3 w3 R3.out).mono ?_
    rintro e w4 ⟨A4, c4, rfl, q41, q42, hr4, -, hb⟩
    have R4 := Lib.hid hr4
    have B4 := Lib.hid (B3.out.trans (hb.mono B3.out.size))
    clear hr4 hb
    go_wp2_with fail
    refine (C5.out A4 c4 w4 R4.out).mono ?_
    rintro e w5 ⟨A5, c5, rfl, q51, q52, hr5, ⟨-, n5⟩, hb⟩
    have R5 := Lib.hid hr5
    have N5 := Lib.hid n5
    have B5 := Lib.hid (B4.out.trans (hb.mono B4.out.size))
    clear hr5 hb n5
    go_wp2_with fail
    refine (C6.out A5 c5 w5 N5.out (H0.out.below B5.out) R5.out).mono ?_
    rintro e w6 ⟨A6, c6, rfl, q61, q62, hr6, ⟨-, n6⟩, hb⟩
    have R6 := Lib.hid hr6
    have N6 := Lib.hid n6
    have B6 := Lib.hid (B5.out.trans (hb.mono B5.out.size))
    clear hr6 hb n6
    go_wp2_with fail
    refine (C7.out A6 c6 w6).mono ?_
    rintro e w8 ⟨rfl, rfl⟩
    by_cases hs : CL.length ≤ 2000
    · rw [if_pos hs]
      have E3 := Lib.hid (show LL = CL from HLL.out ▸ if_pos hs)
      clear hs
      go_wp2_with fail
      go_ret2
      rw [E3.out]
      exact ⟨A6, c6, rfl, R6.out, q61, q62, N6.out, B6.out⟩
    · rw [if_neg hs]
      have E3 := Lib.hid (show LL = [] from HLL.out ▸ if_neg hs)
      clear hs
      go_wp2_with fail
      go_ret2
      rw [E3.out]
      exact ⟨none, 0, rfl, fun h => absurd h (by simp), Nat.le_refl _, Nat.zero_le _, fun _ => rfl, B6.out⟩

theorem rwithin_any (n lo hi : Int) (w : World) : Calls Tryz.prog 57 #[.int .i64 n, .int .i64 lo, .int .i64 hi] w fun e w' => e = .returned (.bool (decide (lo ≤ n) && decide (n ≤ hi))) ∧ w = w' := by
  by_cases h1 : lo ≤ n
  · by_cases h2 : n ≤ hi
    · go_enter Tryz.func57, Tryz.ntmps57
      go_wp2_with fail
      go_ret
      exact ⟨by simp; omega, rfl⟩
    · go_enter Tryz.func57, Tryz.ntmps57
      go_wp2_with fail
      go_ret
      exact ⟨by simp; omega, rfl⟩
  · go_enter Tryz.func57, Tryz.ntmps57
    go_wp2_with fail
    go_ret
    exact ⟨by simp; omega, rfl⟩

set_option maxRecDepth 100000 in
set_option maxHeartbeats 1000000 in
theorem rcheckGrow_any (A : Option Addr) (l : List R4) (c : Nat) (n : Int) (w : World) (hl : l.length ≤ c) (hc : c ≤ 140737488355328) (h : Rd w A l) :
    Calls Tryz.prog 38 #[.slice A l.length c, .int .i64 n] w fun e w' => e = .returned (.int .i64 (chG l n)) ∧ Below w.heap.size w w' := by
  have C1 := Lib.hid (rcheckRegion_any A l c w hl hc h)
  unfold chG
  clear h
  by_cases h0 : regF l = 0
  · rw [if_pos h0]
    rw [h0] at C1
    clear h0
    by_cases h1 : n < 0 ∨ 100000 < n
    · rw [if_pos h1]
      have C2 := Lib.hid (fun W => rwithin_any n 0 100000 W)
      rw [show (decide (0 ≤ n) && decide (n ≤ 100000)) = false from by simp; omega] at C2
      clear h1
      go_enter Tryz.func38, Tryz.ntmps38
      go_wp2_with fail
      refine C1.out.mono ?_
      rintro e w1 ⟨rfl, hb⟩
      have B1 := Lib.hid hb
      clear hb
      go_wp2_with fail
      refine (C2.out _).mono ?_
      rintro e w2 ⟨rfl, rfl⟩
      go_wp2_with fail
      go_ret
      exact ⟨rfl, B1.out⟩
    · rw [if_neg h1]
      have C2 := Lib.hid (fun W => rwithin_any n 0 100000 W)
      rw [show (decide (0 ≤ n) && decide (n ≤ 100000)) = true from by simp; omega] at C2
      clear h1
      go_enter Tryz.func38, Tryz.ntmps38
      go_wp2_with fail
      refine C1.out.mono ?_
      rintro e w1 ⟨rfl, hb⟩
      have B1 := Lib.hid hb
      clear hb
      go_wp2_with fail
      refine (C2.out _).mono ?_
      rintro e w2 ⟨rfl, rfl⟩
      go_wp2_with fail
      go_ret
      exact ⟨rfl, B1.out⟩
  · rw [if_neg h0]
    have hd : (regF l == 0) = false := by simpa using h0
    have hd' : (regF l != 0) = true := by simpa using h0
    clear h0
    generalize regF l = F at *
    go_enter Tryz.func38, Tryz.ntmps38
    go_wp2_with fail
    refine C1.out.mono ?_
    rintro e w1 ⟨rfl, hb⟩
    have B1 := Lib.hid hb
    clear hb
    go_wp2_with fail
    go_ret
    exact ⟨rfl, B1.out⟩
theorem gw_bad {l : List R4} {n : Int} (h : ¬ chG l n = 0) : gwF l n = chG l n ∧ gwL l n = [] ∧ shF l n = chG l n ∧ shL l n = [] := by
  unfold gwF gwL shF shL
  rw [if_neg h, if_neg h, if_neg h, if_neg h]
  exact ⟨rfl, rfl, rfl, rfl⟩

set_option maxRecDepth 100000 in
set_option maxHeartbeats 1000000 in
theorem rgrow_any (A : Option Addr) (l : List R4) (c : Nat) (n : Int) (w : World) (hA : A = none → c = 0) (hl : l.length ≤ c) (hc : c ≤ 140737488355328) (h : Rd w A l) :
    Calls Tryz.prog 16 #[.slice A l.length c, .int .i64 n] w (GotRd0 w (gwL l n) (gwF l n)) := by
  have H0 := Lib.hid h
  have C1 := Lib.hid (rcheckGrow_any A l c n w hl hc h)
  clear h
  by_cases h0 : chG l n = 0
  · obtain ⟨hr, hn0, hn1⟩ := chG_zero h0
    have C2 := Lib.hid (fun W h => rgrowOf_any A l c n W hr hn0 hn1 h)
    unfold GotRd0 at *
    rw [h0] at C1
    clear h0 hr hn0 hn1
    generalize gwL l n = L at *
    generalize gwF l n = F at *
    go_enter Tryz.func16, Tryz.ntmps16
    go_wp2_with fail
    refine C1.out.mono ?_
    rintro e w1 ⟨rfl, hb⟩
    have B1 := Lib.hid hb
    clear hb
    go_wp2_with fail
    refine (C2.out w1 (H0.out.below B1.out)).mono ?_
    rintro e w2 ⟨A2, c2, rfl, hr2, q1, q2, q3, hb⟩
    have R2 := Lib.hid hr2
    have Q3 := Lib.hid q3
    have B2 := Lib.hid (B1.out.trans (hb.mono B1.out.size))
    clear hr2 hb q3
    go_wp2_with fail
    go_ret2
    exact ⟨A2, c2, rfl, R2.out, q1, q2, Q3.out, B2.out⟩
  · obtain ⟨e2, e1, -, -⟩ := gw_bad h0
    unfold GotRd0
    have hd : (chG l n == 0) = false := by simpa using h0
    have hd' : (chG l n != 0) = true := by simpa using h0
    rw [e1, e2]
    clear h0 e1 e2
    generalize chG l n = F at *
    go_enter Tryz.func16, Tryz.ntmps16
    go_wp2_with fail
    refine C1.out.mono ?_
    rintro e w1 ⟨rfl, hb⟩
    have B1 := Lib.hid hb
    clear hb
    go_wp2_with fail
    go_ret2
    exact ⟨none, 0, rfl, fun h => absurd h (by simp), Nat.le_refl _, Nat.zero_le _, fun _ => rfl, B1.out⟩

set_option maxRecDepth 100000 in
set_option maxHeartbeats 1000000 in
theorem rshrink_any (A : Option Addr) (l : List R4) (c : Nat) (n : Int) (w : World) (hA : A = none → c = 0) (hl : l.length ≤ c) (hc : c ≤ 140737488355328) (h : Rd w A l) :
    Calls Tryz.prog 18 #[.slice A l.length c, .int .i64 n] w (GotRd0 w (shL l n) (shF l n)) := by
  have H0 := Lib.hid h
  have C1 := Lib.hid (rcheckGrow_any A l c n w hl hc h)
  clear h
  by_cases h0 : chG l n = 0
  · obtain ⟨hr, hn0, hn1⟩ := chG_zero h0
    have C2 := Lib.hid (fun W h => rshrinkOf_any A l c n W hA hr hn0 hn1 h)
    unfold GotRd0 at *
    rw [h0] at C1
    clear h0 hr hn0 hn1
    generalize shL l n = L at *
    generalize shF l n = F at *
    go_enter Tryz.func18, Tryz.ntmps18
    go_wp2_with fail
    refine C1.out.mono ?_
    rintro e w1 ⟨rfl, hb⟩
    have B1 := Lib.hid hb
    clear hb
    go_wp2_with fail
    refine (C2.out w1 (H0.out.below B1.out)).mono ?_
    rintro e w2 ⟨A2, c2, rfl, hr2, q1, q2, q3, hb⟩
    have R2 := Lib.hid hr2
    have Q3 := Lib.hid q3
    have B2 := Lib.hid (B1.out.trans (hb.mono B1.out.size))
    clear hr2 hb q3
    go_wp2_with fail
    go_ret2
    exact ⟨A2, c2, rfl, R2.out, q1, q2, Q3.out, B2.out⟩
  · obtain ⟨-, -, e2, e1⟩ := gw_bad h0
    unfold GotRd0
    have hd : (chG l n == 0) = false := by simpa using h0
    have hd' : (chG l n != 0) = true := by simpa using h0
    rw [e1, e2]
    clear h0 e1 e2
    generalize chG l n = F at *
    go_enter Tryz.func18, Tryz.ntmps18
    go_wp2_with fail
    refine C1.out.mono ?_
    rintro e w1 ⟨rfl, hb⟩
    have B1 := Lib.hid hb
    clear hb
    go_wp2_with fail
    go_ret2
    exact ⟨none, 0, rfl, fun h => absurd h (by simp), Nat.le_refl _, Nat.zero_le _, fun _ => rfl, B1.out⟩

set_option maxRecDepth 100000 in
set_option maxHeartbeats 1000000 in
theorem ropened_any (A : Option Addr) (l : List R4) (c : Nat) (n : Int) (w : World) (hA : A = none → c = 0) (hl : l.length ≤ c) (hc : c ≤ 140737488355328) (h : Rd w A l) :
    Calls Tryz.prog 20 #[.slice A l.length c, .int .i64 n] w (GotRd0 w (opL l n) (opF l n)) := by
  have H0 := Lib.hid h
  have C1 := Lib.hid (rcheckGrow_any A l c n w hl hc h)
  clear h
  by_cases h0 : chG l n = 0
  · obtain ⟨hr, hn0, hn1⟩ := chG_zero h0
    have C2 := Lib.hid (fun W h => rshrinkOf_any A l c n W hA hr hn0 hn1 h)
    unfold opL opF
    by_cases hf : shF l n = 0
    · have hx := (sh_ok hf).2.2.2.1
      have C3 := Lib.hid (fun A' c' W (hA' : A' = none → c' = 0) h => rgrowOf_any A' (shL l n) c' n W hx hn0 hn1 h)
      rw [if_pos hf, if_pos hf]
      unfold GotRd0 at *
      rw [hf] at C2
      rw [h0] at C1
      clear h0 hr hn0 hn1 hf hx
      generalize gwL (shL l n) n = L at *
      generalize gwF (shL l n) n = F at *
      generalize shL l n = X at *
      go_enter Tryz.func20, Tryz.ntmps20
      go_wp2_with fail
      refine C1.out.mono ?_
      rintro e w1 ⟨rfl, hb⟩
      have B1 := Lib.hid hb
      clear hb
      go_wp2_with fail
      refine (C2.out w1 (H0.out.below B1.out)).mono ?_
      rintro e w2 ⟨A2, c2, rfl, hr2, q1, q2, q3, hb⟩
      have R2 := Lib.hid hr2
      have Q3 := Lib.hid q3
      have B2 := Lib.hid (B1.out.trans (hb.mono B1.out.size))
      clear hr2 hb q3
      go_wp2_with fail
      refine (C3.out A2 c2 w2 Q3.out R2.out).mono ?_
      rintro e w3 ⟨A3, c3, rfl, hr3, q4, q5, q6, hb⟩
      have R3 := Lib.hid hr3
      have Q6 := Lib.hid q6
      have B3 := Lib.hid (B2.out.trans (hb.mono B2.out.size))
      clear hr3 hb q6
      go_wp2_with fail
      go_ret2
      exact ⟨A3, c3, rfl, R3.out, q4, q5, Q6.out, B3.out⟩
    · rw [if_neg hf, if_neg hf]
      unfold GotRd0 at *
      rw [h0] at C1
      rw [shL_bad hf] at C2
      have hd : (shF l n == 0) = false := by simpa using hf
      have hd' : (shF l n != 0) = true := by simpa using hf
      clear h0 hr hn0 hn1 hf
      generalize shF l n = F at *
      simp only [List.length_nil] at C2
      go_enter Tryz.func20, Tryz.ntmps20
      go_wp2_with fail
      refine C1.out.mono ?_
      rintro e w1 ⟨rfl, hb⟩
      have B1 := Lib.hid hb
      clear hb
      go_wp2_with fail
      refine (C2.out w1 (H0.out.below B1.out)).mono ?_
      rintro e w2 ⟨A2, c2, rfl, -, -, -, -, hb⟩
      have B2 := Lib.hid (B1.out.trans (hb.mono B1.out.size))
      clear hb
      go_wp2_with fail
      go_ret2
      exact ⟨none, 0, rfl, fun h => absurd h (by simp), Nat.le_refl _, Nat.zero_le _, fun _ => rfl, B2.out⟩
  · obtain ⟨b1, b2, b3, b4⟩ := gw_bad h0
    have e1 : opL l n = [] := by unfold opL; rw [if_neg (by rw [b3]; exact h0)]
    have e2 : opF l n = chG l n := by unfold opF; rw [if_neg (by rw [b3]; exact h0), b3]
    unfold GotRd0
    have hd : (chG l n == 0) = false := by simpa using h0
    have hd' : (chG l n != 0) = true := by simpa using h0
    rw [e1, e2]
    clear h0 e1 e2 b1 b2 b3 b4
    generalize chG l n = F at *
    go_enter Tryz.func20, Tryz.ntmps20
    go_wp2_with fail
    refine C1.out.mono ?_
    rintro e w1 ⟨rfl, hb⟩
    have B1 := Lib.hid hb
    clear hb
    go_wp2_with fail
    go_ret2
    exact ⟨none, 0, rfl, fun h => absurd h (by simp), Nat.le_refl _, Nat.zero_le _, fun _ => rfl, B1.out⟩

set_option maxRecDepth 100000 in
set_option maxHeartbeats 1000000 in
theorem rclosed_any (A : Option Addr) (l : List R4) (c : Nat) (n : Int) (w : World) (hA : A = none → c = 0) (hl : l.length ≤ c) (hc : c ≤ 140737488355328) (h : Rd w A l) :
    Calls Tryz.prog 22 #[.slice A l.length c, .int .i64 n] w (GotRd0 w (clL l n) (clF l n)) := by
  have H0 := Lib.hid h
  have C1 := Lib.hid (rcheckGrow_any A l c n w hl hc h)
  clear h
  by_cases h0 : chG l n = 0
  · obtain ⟨hr, hn0, hn1⟩ := chG_zero h0
    have C2 := Lib.hid (fun W h => rgrowOf_any A l c n W hr hn0 hn1 h)
    unfold clL clF
    by_cases hf : gwF l n = 0
    · have hx := (gw_ok hf).2.2.2.1
      have C3 := Lib.hid (fun A' c' W (hA' : A' = none → c' = 0) h => rshrinkOf_any A' (gwL l n) c' n W hA' hx hn0 hn1 h)
      rw [if_pos hf, if_pos hf]
      unfold GotRd0 at *
      rw [hf] at C2
      rw [h0] at C1
      clear h0 hr hn0 hn1 hf hx
      generalize shL (gwL l n) n = L at *
      generalize shF (gwL l n) n = F at *
      generalize gwL l n = X at *
      go_enter Tryz.func22, Tryz.ntmps22
      go_wp2_with fail
      refine C1.out.mono ?_
      rintro e w1 ⟨rfl, hb⟩
      have B1 := Lib.hid hb
      clear hb
      go_wp2_with fail
      refine (C2.out w1 (H0.out.below B1.out)).mono ?_
      rintro e w2 ⟨A2, c2, rfl, hr2, q1, q2, q3, hb⟩
      have R2 := Lib.hid hr2
      have Q3 := Lib.hid q3
      have B2 := Lib.hid (B1.out.trans (hb.mono B1.out.size))
      clear hr2 hb q3
      go_wp2_with fail
      refine (C3.out A2 c2 w2 Q3.out R2.out).mono ?_
      rintro e w3 ⟨A3, c3, rfl, hr3, q4, q5, q6, hb⟩
      have R3 := Lib.hid hr3
      have Q6 := Lib.hid q6
      have B3 := Lib.hid (B2.out.trans (hb.mono B2.out.size))
      clear hr3 hb q6
      go_wp2_with fail
      go_ret2
      exact ⟨A3, c3, rfl, R3.out, q4, q5, Q6.out, B3.out⟩
    · rw [if_neg hf, if_neg hf]
      unfold GotRd0 at *
      rw [h0] at C1
      rw [gwL_bad hf] at C2
      have hd : (gwF l n == 0) = false := by simpa using hf
      have hd' : (gwF l n != 0) = true := by simpa using hf
      clear h0 hr hn0 hn1 hf
      generalize gwF l n = F at *
      simp only [List.length_nil] at C2
      go_enter Tryz.func22, Tryz.ntmps22
      go_wp2_with fail
      refine C1.out.mono ?_
      rintro e w1 ⟨rfl, hb⟩
      have B1 := Lib.hid hb
      clear hb
      go_wp2_with fail
      refine (C2.out w1 (H0.out.below B1.out)).mono ?_
      rintro e w2 ⟨A2, c2, rfl, -, -, -, -, hb⟩
      have B2 := Lib.hid (B1.out.trans (hb.mono B1.out.size))
      clear hb
      go_wp2_with fail
      go_ret2
      exact ⟨none, 0, rfl, fun h => absurd h (by simp), Nat.le_refl _, Nat.zero_le _, fun _ => rfl, B2.out⟩
  · obtain ⟨b1, b2, b3, b4⟩ := gw_bad h0
    have e1 : clL l n = [] := by unfold clL; rw [if_neg (by rw [b1]; exact h0)]
    have e2 : clF l n = chG l n := by unfold clF; rw [if_neg (by rw [b1]; exact h0), b1]
    unfold GotRd0
    have hd : (chG l n == 0) = false := by simpa using h0
    have hd' : (chG l n != 0) = true := by simpa using h0
    rw [e1, e2]
    clear h0 e1 e2 b1 b2 b3 b4
    generalize chG l n = F at *
    go_enter Tryz.func22, Tryz.ntmps22
    go_wp2_with fail
    refine C1.out.mono ?_
    rintro e w1 ⟨rfl, hb⟩
    have B1 := Lib.hid hb
    clear hb
    go_wp2_with fail
    go_ret2
    exact ⟨none, 0, rfl, fun h => absurd h (by simp), Nat.le_refl _, Nat.zero_le _, fun _ => rfl, B1.out⟩
end Go.Proofs.YtmcbjaefnhfopaaGreat
/- The law GrowsMatchSpec: for every slice of rectangles and every number, Grow, Shrink, Opened and Closed of the program give the region and the fault that the reference gives. -/
namespace Go.Proofs.YtmcbjaefnhfopaaGreat
open Go.ChangeShapes Go.WideShapes Go.ChangeAt Go.RowKit
open Reg (R4 inR Kept)
set_option linter.unusedSimpArgs false
set_option linter.unusedVariables false

theorem open_none {H : Type} {enc : TypeId × Value → H} {w : World} {base : Nat} {held : Bool} {n c : Nat} {d : DataW H} {p : List MemPlace} (h : DataW.Trod enc Tryz.prog w base (fun _ => true) held 22 (.slice none n c) d p) : c = 0 := by
  obtain ⟨fuel, hf⟩ := h
  rcases DataW.trod_slice Tryz.underlying22 hf with ⟨hcs, hx⟩ | ⟨a, len', cap', elems, rest, n, _, hcs, hx, hb, hl, hm, hlen, hel, hsp, hns⟩
  · simp [Value.cells] at hcs
    exact hcs.2
  · simp [Value.cells] at hcs

set_option maxRecDepth 100000 in
set_option maxHeartbeats 4000000 in
theorem growsMatchSpec_walk (A : Option Addr) (l : List R4) (c : Nat) (n : Int) (w : World) (hl : l.length ≤ c) (rc : c ≤ 140737488355328) (h : Rd w A l) (na : A = none → c = 0) :
    Calls Tryz.prog 4 #[.slice A l.length c, .int .i64 n] w fun e w' => e = .returned (.bool true) ∧ Below w.heap.size w w' := by
  have rc' : c ≤ maxLen := by simp only [maxLen]; omega
  have H0 := Lib.hid h
  have C1 := Lib.hid (fun W h => grow_any A l c n W hl rc' (by omega) h)
  have D1 := Lib.hid (fun W h => rgrow_any A l c n W na hl rc h)
  have L1 := gwL_len l n
  have E1 := Lib.hid (fun A1 A2 c1 c2 W h1 h2 => equal_any A1 A2 (gwL l n) (gwL l n) c1 c2 W (by omega) (by omega) h1 h2)
  rw [decide_eq_true rfl] at E1
  unfold GotRF at C1
  unfold GotRd0 at D1
  have C2 := Lib.hid (fun W h => shrink_any A l c n W hl rc' (by omega) h)
  have D2 := Lib.hid (fun W h => rshrink_any A l c n W na hl rc h)
  have L2 := shL_len l n
  have E2 := Lib.hid (fun A1 A2 c1 c2 W h1 h2 => equal_any A1 A2 (shL l n) (shL l n) c1 c2 W (by omega) (by omega) h1 h2)
  rw [decide_eq_true rfl] at E2
  unfold GotRF at C2
  unfold GotRd0 at D2
  have C3 := Lib.hid (fun W h => opened_any A l c n W hl rc' (by omega) h)
  have D3 := Lib.hid (fun W h => ropened_any A l c n W na hl rc h)
  have L3 := opL_len l n
  have E3 := Lib.hid (fun A1 A2 c1 c2 W h1 h2 => equal_any A1 A2 (opL l n) (opL l n) c1 c2 W (by omega) (by omega) h1 h2)
  rw [decide_eq_true rfl] at E3
  unfold GotRF at C3
  unfold GotRd0 at D3
  have C4 := Lib.hid (fun W h => closed_any A l c n W hl rc' (by omega) h)
  have D4 := Lib.hid (fun W h => rclosed_any A l c n W na hl rc h)
  have L4 := clL_len l n
  have E4 := Lib.hid (fun A1 A2 c1 c2 W h1 h2 => equal_any A1 A2 (clL l n) (clL l n) c1 c2 W (by omega) (by omega) h1 h2)
  rw [decide_eq_true rfl] at E4
  unfold GotRF at C4
  unfold GotRd0 at D4
  have CW := Lib.hid (fun W => awake_any W)
  clear h na
  generalize gwL l n = M1 at *
  generalize gwF l n = F1 at *
  generalize shL l n = M2 at *
  generalize shF l n = F2 at *
  generalize opL l n = M3 at *
  generalize opF l n = F3 at *
  generalize clL l n = M4 at *
  generalize clF l n = F4 at *
  go_enter Tryz.func4, Tryz.ntmps4
  go_wp2_with fail
  refine (C1.out w H0.out).mono ?_
  rintro e w1 ⟨v, rfl, ho, hb⟩
  have H1 := Lib.hid (H0.out.below hb)
  have B1 := Lib.hid hb
  obtain ⟨P1, p1, rfl, -, -, hr, -⟩ := rd_own ho
  have X1 := Lib.hid hr
  clear ho hr hb
  go_wp2_with fail
  refine (D1.out w1 H1.out).mono ?_
  rintro e w2 ⟨Q1, q1, rfl, hr, -, -, -, hb⟩
  have H2 := Lib.hid (H1.out.below hb)
  have X2 := Lib.hid (X1.out.below hb)
  have B2 := Lib.hid (B1.out.trans (hb.mono B1.out.size))
  have Y2 := Lib.hid hr
  clear hr hb
  go_wp2_with fail
  refine (E1.out P1 Q1 p1 q1 w2 X2.out Y2.out).mono ?_
  rintro e w3 ⟨rfl, hb⟩
  have H3 := Lib.hid (H2.out.below hb)
  have B3 := Lib.hid (B2.out.trans (hb.mono B2.out.size))
  clear hb
  go_wp2_with fail
  refine (C2.out w3 H3.out).mono ?_
  rintro e w4 ⟨v, rfl, ho, hb⟩
  have H4 := Lib.hid (H3.out.below hb)
  have B4 := Lib.hid (B3.out.trans (hb.mono B3.out.size))
  obtain ⟨P2, p2, rfl, -, -, hr, -⟩ := rd_own ho
  have X4 := Lib.hid hr
  clear ho hr hb
  go_wp2_with fail
  refine (D2.out w4 H4.out).mono ?_
  rintro e w5 ⟨Q2, q2, rfl, hr, -, -, -, hb⟩
  have H5 := Lib.hid (H4.out.below hb)
  have X5 := Lib.hid (X4.out.below hb)
  have B5 := Lib.hid (B4.out.trans (hb.mono B4.out.size))
  have Y5 := Lib.hid hr
  clear hr hb
  go_wp2_with fail
  refine (E2.out P2 Q2 p2 q2 w5 X5.out Y5.out).mono ?_
  rintro e w6 ⟨rfl, hb⟩
  have H6 := Lib.hid (H5.out.below hb)
  have B6 := Lib.hid (B5.out.trans (hb.mono B5.out.size))
  clear hb
  go_wp2_with fail
  refine (C3.out w6 H6.out).mono ?_
  rintro e w7 ⟨v, rfl, ho, hb⟩
  have H7 := Lib.hid (H6.out.below hb)
  have B7 := Lib.hid (B6.out.trans (hb.mono B6.out.size))
  obtain ⟨P3, p3, rfl, -, -, hr, -⟩ := rd_own ho
  have X7 := Lib.hid hr
  clear ho hr hb
  go_wp2_with fail
  refine (D3.out w7 H7.out).mono ?_
  rintro e w8 ⟨Q3, q3, rfl, hr, -, -, -, hb⟩
  have H8 := Lib.hid (H7.out.below hb)
  have X8 := Lib.hid (X7.out.below hb)
  have B8 := Lib.hid (B7.out.trans (hb.mono B7.out.size))
  have Y8 := Lib.hid hr
  clear hr hb
  go_wp2_with fail
  refine (E3.out P3 Q3 p3 q3 w8 X8.out Y8.out).mono ?_
  rintro e w9 ⟨rfl, hb⟩
  have H9 := Lib.hid (H8.out.below hb)
  have B9 := Lib.hid (B8.out.trans (hb.mono B8.out.size))
  clear hb
  go_wp2_with fail
  refine (C4.out w9 H9.out).mono ?_
  rintro e w10 ⟨v, rfl, ho, hb⟩
  have H10 := Lib.hid (H9.out.below hb)
  have B10 := Lib.hid (B9.out.trans (hb.mono B9.out.size))
  obtain ⟨P4, p4, rfl, -, -, hr, -⟩ := rd_own ho
  have X10 := Lib.hid hr
  clear ho hr hb
  go_wp2_with fail
  refine (D4.out w10 H10.out).mono ?_
  rintro e w11 ⟨Q4, q4, rfl, hr, -, -, -, hb⟩
  have H11 := Lib.hid (H10.out.below hb)
  have X11 := Lib.hid (X10.out.below hb)
  have B11 := Lib.hid (B10.out.trans (hb.mono B10.out.size))
  have Y11 := Lib.hid hr
  clear hr hb
  go_wp2_with fail
  refine (E4.out P4 Q4 p4 q4 w11 X11.out Y11.out).mono ?_
  rintro e w12 ⟨rfl, hb⟩
  have H12 := Lib.hid (H11.out.below hb)
  have B12 := Lib.hid (B11.out.trans (hb.mono B11.out.size))
  clear hb
  go_wp2_with fail
  refine (CW.out _).mono ?_
  rintro e w13 ⟨rfl, hb⟩
  have B13 := Lib.hid (B12.out.trans (hb.mono B12.out.size))
  clear hb
  go_wp2_with fail
  go_ret
  exact ⟨rfl, B13.out⟩

set_option maxRecDepth 100000 in
theorem growsMatchSpec_lifted (os : Os) (started : os.Started) (H : Type) (enc : TypeId × Value → H) :
    ReturnsInHanded {} Tryz.checked os 4 .any (Rows.growsMatchSpecSpec.pre6 enc Tryz.prog Tryz.f4 Rows.growsMatchSpecRow.domain false) (Rows.growsMatchSpecSpec.post enc Tryz.prog Tryz.f4 false true false false) := by
  refine returnsInHanded_of_change_sized (C := Tryz.checked) own started (by kernel_rfl) Tryz.func4
    (ChangeSpec.witness6 (enc := enc) (C := Tryz.checked) false ⟨#[], #[.slice none 0 0, .int .i64 0], []⟩ 8 (by kernel_rfl) (by kernel_rfl) (by kernel_rfl) (by kernel_rfl)) ?_
  intro W base args ds gs before hval0 hW hcnd hsz0 _
  have hval : ∀ (j : Nat) t v, Tryz.f4.params[j]? = some t → args[j]? = some v → Value.okWide Tryz.prog W .any base t v := hval0
  have hsz : (DataW.weightsEach Tryz.prog (Tryz.f4.params.toList ++ Rows.growsMatchSpecSpec.plain.varTypes Tryz.prog) (ds ++ gs)).all (· ≤ reachBytes) = true := hsz0
  have hW' := hW
  obtain ⟨p, q, hA0, hV, rfl, hfz, hnd⟩ := hW
  have hA : DataW.TrodAll enc Tryz.prog W 0 (fun _ => true) true Tryz.f4.params.toList args.toList ds p := hA0
  rw [Tryz.params4] at hA hval hsz
  obtain ⟨v0, vs0, d0, ds0, p0, q0, hargs, rfl, rfl, h0, r0⟩ := trodAll_cons hA
  obtain ⟨v1, vs1, d1, ds1, p1, q1, rfl, rfl, rfl, h1, r1⟩ := trodAll_cons r0
  obtain ⟨rfl, rfl, rfl⟩ := trodAll_nil r1
  obtain rfl : args = #[v0, v1] := by cases args; simp_all
  obtain ⟨rfl, rfl⟩ := trodVars_none hV
  have k0 := h0
  have lt0 : ∀ x ∈ p0, x.block < W.heap.size := by obtain ⟨m, hm⟩ := k0; exact DataW.trod_lt m _ _ _ hm
  obtain ⟨A0, l0, c0, rfl, hl0, hr0, hc0⟩ := open_rects (hval 0 22 v0 rfl rfl) h0
  have hb0 := rects_room hsz (j := 0) rfl rfl hc0
  have k1 := h1
  have lt1 : ∀ x ∈ p1, x.block < W.heap.size := by obtain ⟨m, hm⟩ := k1; exact DataW.trod_lt m _ _ _ hm
  obtain ⟨x1, rfl, hw1⟩ := open_int h1 (hval 1 3 v1 rfl rfl)
  clear hA0 hval0 hsz0
  refine (growsMatchSpec_walk A0 l0 c0 x1 W hl0 hb0 hr0 (fun e => by subst e; exact open_none h0)).mono fun e W' ⟨he, bel⟩ => ?_
  subst he
  exact ⟨_, rfl, _, _, _, [], _, [], hW', trodAll_mk1 (shut_bool Tryz.underlying4 _), (trodAll_cons_mk (Below.trod laidOut (by kernel_rfl) (of_decide_eq_true (by kernel_rfl)) k0 bel lt0) (trodAll_cons_mk (Below.trod laidOut (by kernel_rfl) (of_decide_eq_true (by kernel_rfl)) k1 bel lt1) trodAll_mk0)), rfl, bel.frame _, fun h => by cases h⟩

set_option maxRecDepth 100000 in
theorem growsMatchSpec_holds : Rows.GrowsMatchSpecSaid :=
  OpenClaim.holds_of_wide 4 Tryz.f4 rfl rfl rfl rfl rfl rfl rfl ⟨rfl, rfl, rfl, rfl, rfl⟩ rfl rfl rfl rfl rfl (by kernel_rfl) Tryz.func4 (by kernel_rfl)
    (of_decide_eq_true (by kernel_rfl)) (by unfold Func.isWrapper; rw [if_neg (by decide +kernel)]; exact ⟨rfl, rfl⟩)
    (fun os started H enc _ => growsMatchSpec_lifted os started H enc)
end Go.Proofs.YtmcbjaefnhfopaaGreat

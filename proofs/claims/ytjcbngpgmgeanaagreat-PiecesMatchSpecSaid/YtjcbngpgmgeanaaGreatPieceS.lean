/- Several texts in one: GrowEq, GrowRef, HolRef, EqF, PcsSpec. -/
import Derived.Test.YtjcbngpgmgeanaaGreatTailA
import Derived.Test.YtjcbngpgmgeanaaGreatMixAB
import Derived.Test.YtjcbngpgmgeanaaGreatRefJJ
import Derived.Test.YtjcbngpgmgeanaaGreatPieceG
import Derived.Test.YtjcbngpgmgeanaaGreatPieceH
import Derived.Test.YtjcbngpgmgeanaaGreatPieceC
import Derived.Test.YtjcbngpgmgeanaaGreatSweepL
import Derived.Test.YtjcbngpgmgeanaaGreatAwake
import Derived.Test.YtjcbngpgmgeanaaGreatOpens
/- The reference's way of growing and shrinking gives what the program's gives: the plain mathematics, and how large what lies between can be. -/
namespace Go.Proofs.YtjcbngpgmgeanaaGreat
open Go.RowKit Go.Shelf
open Reg (R4 Span Band inR canonL sweepL Kept told rowL rowFrom bandsFrom heightsL heightsFrom stackL CanF)
set_option linter.unusedSimpArgs false
set_option linter.unusedVariables false

theorem wideA_good {n : Int} (hn : 0 ≤ n) {l : List R4} (h : Reg.Good l) : Reg.Good (l.map (wideA n)) := by
  intro r hr
  obtain ⟨s, hs, rfl⟩ := List.mem_map.1 hr
  have := h s hs
  simp only [wideA]
  omega
theorem wideA_inR {n : Int} (hn : 0 ≤ n) {l : List R4} (h : Reg.Good l) (x y : Int) : inR (l.map (wideA n)) x y ↔ near n l x y := by
  constructor
  · rintro ⟨r, hr, h1⟩
    obtain ⟨s, hs, rfl⟩ := List.mem_map.1 hr
    have hg := h s hs
    simp only [wideA, R4.has] at h1
    exact ⟨max s.x0 (min x (s.x1 - 1)), max s.y0 (min y (s.y1 - 1)), by omega, by omega, by omega, by omega, s, hs, by simp only [R4.has]; omega⟩
  · rintro ⟨u, v, h1, h2, h3, h4, s, hs, h5⟩
    exact ⟨wideA n s, List.mem_map.2 ⟨s, hs, rfl⟩, by simp only [wideA, R4.has] at h5 ⊢; omega⟩
theorem grow_canon {n : Int} (hn : 0 ≤ n) {l : List R4} (h : Reg.Good l) : canonL (l.map (wideA n)) = canonL (grownL n l) :=
  Reg.canon_unique (wideA_good hn h) (grownL_ok hn h).1 fun x y => (wideA_inR hn h x y).trans ((grownL_ok hn h).2 x y).symm
/-- Whether all that is widened is in range. -/
def widOk (l : List R4) : Prop := ∀ r, r ∈ l → rectOk r = true
theorem rectOk_iff {r : R4} : rectOk r = true ↔ In6 r.x0 ∧ In6 r.y0 ∧ In6 r.x1 ∧ In6 r.y1 := by
  unfold rectOk okAt
  simp only [Bool.and_eq_true, decide_eq_true_eq, In6]
  omega
theorem widOk_iff {l : List R4} {n : Int} (h : regF l = 0) (hn : 0 ≤ n) (hpos : 0 < l.length) : widOk (l.map (wideA n)) ↔ rectF (wideA n (aroundR l)) = 0 := by
  obtain ⟨hg, -⟩ := good_of_rects (regF_zero.1 h).1
  have hin := rect_in (regF_rects h)
  constructor
  · intro hw
    have hall : ∀ r, r ∈ l → In6 (r.x0 - n) ∧ In6 (r.y0 - n) ∧ In6 (r.x1 + n) ∧ In6 (r.y1 + n) := fun r hr => rectOk_iff.1 (hw (wideA n r) (List.mem_map.2 ⟨r, hr, rfl⟩))
    have c := around_least (b := ⟨-1000000 + n, -1000000 + n, 1000000 - n, 1000000 - n⟩) hpos fun r hr => by
      have := hall r hr
      simp only [Cov, In6] at *
      omega
    have hm := List.getElem_mem hpos
    have d := around_cov hm
    have g := hg _ hm
    refine rectF_zero.2 ?_
    simp only [Cov] at c d
    simp only [wideA, In6]
    omega
  · intro hf r hr
    obtain ⟨s, hs, rfl⟩ := List.mem_map.1 hr
    have w := wide_in hf
    have c := around_cov hs
    have i := hin s hs
    refine rectOk_iff.2 ?_
    simp only [Cov] at c
    simp only [In6] at i
    simp only [wideA, In6]
    omega
theorem canon_nil : canonL [] = [] := rfl
theorem rgrow_ok {l : List R4} {n : Int} (h : regF l = 0) (h0 : 0 ≤ n) (h1 : n ≤ 100000) (hw : widOk (l.map (wideA n))) : gwF l n = resF (canonL (l.map (wideA n))) ∧ gwL l n = resL (canonL (l.map (wideA n))) := by
  have hc : chG l n = 0 := by unfold chG; rw [if_pos h, if_neg (by omega)]
  obtain ⟨hg, -⟩ := good_of_rects (regF_zero.1 h).1
  unfold gwF gwL
  rw [if_pos hc, if_pos hc]
  by_cases hn : l = []
  · subst hn
    rw [if_pos rfl, if_pos rfl]
    exact ⟨rfl, rfl⟩
  · have hpos : 0 < l.length := by cases l with | nil => exact absurd rfl hn | cons a t => simp
    rw [if_neg hn, if_neg hn, if_pos ((widOk_iff h h0 hpos).1 hw), if_pos ((widOk_iff h h0 hpos).1 hw), grow_canon h0 hg]
    exact ⟨rfl, rfl⟩
theorem rgrow_no {l : List R4} {n : Int} (h : regF l = 0) (h0 : 0 ≤ n) (h1 : n ≤ 100000) (hw : ¬ widOk (l.map (wideA n))) : gwF l n = 1 ∧ gwL l n = [] := by
  have hc : chG l n = 0 := by unfold chG; rw [if_pos h, if_neg (by omega)]
  unfold gwF gwL
  rw [if_pos hc, if_pos hc]
  have hn : l ≠ [] := fun e => hw (by subst e; intro r hr; simp at hr)
  have hpos : 0 < l.length := by cases l with | nil => exact absurd rfl hn | cons a t => simp
  have hf : ¬ rectF (wideA n (aroundR l)) = 0 := fun hf => hw ((widOk_iff h h0 hpos).2 hf)
  rw [if_neg hn, if_neg hn, if_neg hf, if_neg hf]
  exact ⟨rfl, rfl⟩

/-! ## Shrinking -/
def arL (n : Int) (l : List R4) : List R4 := combL 3 [wideA n (aroundR l)] l
theorem wide_frame {l : List R4} {n : Int} (h : regF l = 0) (hn : 0 ≤ n) (hpos : 0 < l.length) : Reg.Good [wideA n (aroundR l)] := by
  obtain ⟨hg, -⟩ := good_of_rects (regF_zero.1 h).1
  intro r hr
  simp at hr
  subst hr
  have c := around_cov (List.getElem_mem hpos)
  have g := hg _ (List.getElem_mem hpos)
  simp only [Cov] at c
  simp only [wideA]
  omega
theorem arL_ok {l : List R4} {n : Int} (h : regF l = 0) (hn : 0 ≤ n) (hpos : 0 < l.length) : Reg.Good (arL n l) ∧ (arL n l).length ≤ 6 * l.length + 4 ∧ ∀ x y, inR (arL n l) x y ↔ ((aroundR l).x0 - n ≤ x ∧ x < (aroundR l).x1 + n ∧ (aroundR l).y0 - n ≤ y ∧ y < (aroundR l).y1 + n) ∧ ¬ inR l x y := by
  obtain ⟨hg, -⟩ := good_of_rects (regF_zero.1 h).1
  have gf := wide_frame h hn hpos
  have e : arL n l = sweepL notK [wideA n (aroundR l)] l := combL_sweep (keep := notK) rfl gf hg (fun x y => beside_way gf hg x y)
  have hc : (arL n l).length ≤ 6 * l.length + 4 := beside_count 3 (region_banded h) fun r hr => by
    have c := around_cov hr
    have g := hg r hr
    simp only [Cov] at c
    simp only [wideA]
    omega
  refine ⟨by rw [e]; exact Reg.sweepL_good (keep := notK) rfl gf hg, hc, fun x y => ?_⟩
  rw [e, Reg.sweepL_inR (keep := notK) rfl gf hg, kept_not]
  have : inR [wideA n (aroundR l)] x y ↔ ((aroundR l).x0 - n ≤ x ∧ x < (aroundR l).x1 + n ∧ (aroundR l).y0 - n ≤ y ∧ y < (aroundR l).y1 + n) := by
    constructor
    · rintro ⟨r, hr, h1⟩
      simp at hr
      subst hr
      simpa [wideA, R4.has] using h1
    · intro h1
      exact ⟨wideA n (aroundR l), by simp, by simpa [wideA, R4.has] using h1⟩
  rw [this]
def rM (n : Int) (l : List R4) : List R4 := canonL ((arL n l).map (wideA n))
theorem rM_ok {l : List R4} {n : Int} (h : regF l = 0) (hn : 0 ≤ n) (hpos : 0 < l.length) : Reg.Good (rM n l) ∧ ∀ x y, inR (rM n l) x y ↔ near n (arL n l) x y := by
  obtain ⟨ga, -, -⟩ := arL_ok h hn hpos
  have gw := wideA_good hn ga
  exact ⟨Reg.canonL_good gw, fun x y => (Reg.canonL_inR gw x y).trans (wideA_inR hn ga x y)⟩
theorem rshrink_eq {l : List R4} {n : Int} (h : regF l = 0) (hn : 0 ≤ n) (hpos : 0 < l.length) : combL 3 l (rM n l) = sweepL notK l (grownL n (outL l)) := by
  obtain ⟨hg, -⟩ := good_of_rects (regF_zero.1 h).1
  obtain ⟨gm, hm⟩ := rM_ok h hn hpos
  obtain ⟨-, -, ha⟩ := arL_ok h hn hpos
  obtain ⟨-, og⟩ := out_banded h hpos
  obtain ⟨g1, -⟩ := grownL_ok hn og
  have hne : l ≠ [] := fun e => by subst e; simp at hpos
  rw [combL_sweep (keep := notK) rfl hg gm (fun x y => beside_way hg gm x y), Reg.sweepL_can (keep := notK) rfl hg gm, Reg.sweepL_can (keep := notK) rfl hg g1]
  refine Reg.canon_unique (Reg.sweepL_good rfl hg gm) (Reg.sweepL_good rfl hg g1) fun x y => ?_
  rw [sh_sq h hn hne, Reg.sweepL_inR (keep := notK) rfl hg gm, kept_not, hm]
  constructor
  · rintro ⟨h1, h2⟩ u v e1 e2 e3 e4
    have hb := around_sq h1
    false_or_by_contra
    rename_i hno
    exact h2 ⟨u, v, e1, e2, e3, e4, (ha u v).2 ⟨by omega, hno⟩⟩
  · intro hall
    refine ⟨hall x y (by omega) (by omega) (by omega) (by omega), ?_⟩
    rintro ⟨u, v, h1, h2, h3, h4, h5⟩
    exact ((ha u v).1 h5).2 (hall u v h1 h2 h3 h4)

/-! ## How large what lies between can be -/
theorem sorted_sub : ∀ (b a : List Int), a.Pairwise (· < ·) → b.Pairwise (· < ·) → (∀ x, x ∈ a → x ∈ b) → a.length ≤ b.length
  | [], a, _, _, h => by
    cases a with
    | nil => simp
    | cons x a => have := h x (by simp); simp at this
  | y :: b, [], _, _, _ => by simp
  | y :: b, x :: a, ha, hb, h => by
    have ha' := List.pairwise_cons.1 ha
    have hb' := List.pairwise_cons.1 hb
    by_cases e : x = y
    · subst e
      have := sorted_sub b a ha'.2 hb'.2 fun z hz => by
        rcases List.mem_cons.1 (h z (List.mem_cons_of_mem _ hz)) with rfl | hz'
        · have := ha'.1 z hz; omega
        · exact hz'
      simp only [List.length_cons]
      omega
    · have hx : x ∈ b := by
        rcases List.mem_cons.1 (h x (by simp)) with rfl | hx
        · exact absurd rfl e
        · exact hx
      have hyx := hb'.1 x hx
      have := sorted_sub b (x :: a) ha hb'.2 fun z hz => by
        rcases List.mem_cons.1 (h z hz) with rfl | hz'
        · rcases List.mem_cons.1 hz with rfl | hz2
          · omega
          · have := ha'.1 z hz2; omega
        · exact hz'
      simp only [List.length_cons] at this ⊢
      omega
theorem heights_sub {a b : List R4} (h : ∀ y, y ∈ heightsL a → y ∈ heightsL b) : (heightsL a).length ≤ (heightsL b).length :=
  sorted_sub _ _ (Reg.heights_sorted a) (Reg.heights_sorted b) h
theorem heights_take (l : List R4) (k : Nat) : (heightsFrom [] (l.take k)).length ≤ (heightsL l).length :=
  heights_sub (a := l.take k) fun y hy => by
    obtain ⟨r, hr, h1⟩ := Reg.mem_heights.1 hy
    exact Reg.mem_heights.2 ⟨r, List.mem_of_mem_take hr, h1⟩
theorem stackL_in {S : Int → Prop} (b : Band) (h1 : S b.lo) (h2 : S b.hi) : ∀ l : List Band, (∀ c, c ∈ l → S c.lo ∧ S c.hi) → ∀ c, c ∈ stackL l b → S c.lo ∧ S c.hi
  | [], _, c, hc => by
    simp only [stackL] at hc
    split at hc
    · simp at hc
    · simp at hc; subst hc; exact ⟨h1, h2⟩
  | [d], hl, c, hc => by
    have hd := hl d (by simp)
    simp only [stackL] at hc
    split at hc
    · simp at hc; subst hc; exact hd
    · split at hc
      · simp at hc; subst hc; exact ⟨hd.1, h2⟩
      · simp at hc
        rcases hc with rfl | rfl
        · exact hd
        · exact ⟨h1, h2⟩
  | d :: e :: l, hl, c, hc => by
    rw [stackL] at hc
    rcases List.mem_cons.1 hc with rfl | hc
    · exact hl c (by simp)
    · exact stackL_in b h1 h2 (e :: l) (fun x hx => hl x (List.mem_cons_of_mem _ hx)) c hc
theorem bandsFrom_in {S : Int → Prop} (row : Int → List Span) (m : Nat) (hm : ∀ y, (row y).length ≤ m) : ∀ (ys : List Int) (acc : List Band), (∀ y, y ∈ ys → S y) → (∀ c, c ∈ acc → (S c.lo ∧ S c.hi)) → (∀ c, c ∈ acc → c.sp.length ≤ m) →
    (∀ c, c ∈ bandsFrom row acc ys → (S c.lo ∧ S c.hi)) ∧ (∀ c, c ∈ bandsFrom row acc ys → c.sp.length ≤ m) ∧ (bandsFrom row acc ys).length ≤ acc.length + ys.length
  | [], acc, _, h, h' => ⟨by simpa [bandsFrom] using h, by simpa [bandsFrom] using h', by simp [bandsFrom]⟩
  | [a], acc, _, h, h' => ⟨by simpa [bandsFrom] using h, by simpa [bandsFrom] using h', by simp [bandsFrom]⟩
  | a :: b :: ys, acc, hs, h, h' => by
    have i := bandsFrom_in row m hm (b :: ys) (stackL acc ⟨a, b, row a⟩) (fun y hy => hs y (List.mem_cons_of_mem _ hy)) (stackL_in ⟨a, b, row a⟩ (hs a (by simp)) (hs b (by simp)) acc h) (stackL_sp ⟨a, b, row a⟩ m (hm a) acc h')
    have hc := stackL_count ⟨a, b, row a⟩ acc
    rw [bandsFrom]
    refine ⟨i.1, i.2.1, ?_⟩
    have := i.2.2
    simp only [List.length_cons] at this ⊢
    omega
theorem told_alive {bs : List Band} (m : Nat) (y : Int) : ∀ {lo : Int} {p : List Span}, CanF lo p bs → (∀ b, b ∈ bs → b.sp.length ≤ m) → (told bs).countP (alive y) ≤ m := by
  induction bs with
  | nil => intro lo p _ _; simp [told]
  | cons b l ih =>
    intro lo p h hm
    obtain ⟨h1, _, h3, _, _, h6⟩ := h
    have hi := ih h6 fun c hc => hm c (List.mem_cons_of_mem _ hc)
    have hlow := told_low h6
    have hb : ∀ r, r ∈ Reg.rectsOf b → r.y0 = b.lo ∧ r.y1 = b.hi := fun r hr => by
      obtain ⟨s, _, rfl⟩ := List.mem_map.1 hr
      exact ⟨rfl, rfl⟩
    rw [told, List.flatMap_cons, List.countP_append]
    by_cases hy : y < b.hi
    · have hz : (List.flatMap Reg.rectsOf l).countP (alive y) = 0 := by
        rw [List.countP_eq_zero]
        intro r hr ha
        have := hlow r hr
        simp [alive] at ha
        omega
      have hl : (Reg.rectsOf b).countP (alive y) ≤ (Reg.rectsOf b).length := List.countP_le_length
      have hs : (Reg.rectsOf b).length = b.sp.length := by simp [Reg.rectsOf]
      have := hm b (by simp)
      omega
    · have hz : (Reg.rectsOf b).countP (alive y) = 0 := by
        rw [List.countP_eq_zero]
        intro r hr ha
        have := hb r hr
        simp [alive] at ha
        omega
      have hi' : (List.flatMap Reg.rectsOf l).countP (alive y) ≤ m := hi
      omega
/-- The canonical form of so many rectangles: how many it has, how many a row has, and at which heights. -/
theorem canon_size {g : List R4} (hg : Reg.Good g) : (canonL g).length ≤ (2 * g.length) * g.length ∧ (∀ y, (canonL g).countP (alive y) ≤ g.length) ∧ ∀ y, y ∈ heightsL (canonL g) → y ∈ heightsL g := by
  obtain ⟨b1, b2, b3⟩ := bandsFrom_in (S := fun y => y ∈ heightsL g) (rowL g) g.length (fun y => rowL_len g y) (heightsL g) [] (fun y hy => hy) (fun c hc => by cases hc) (fun c hc => by cases hc)
  obtain ⟨⟨z, hz⟩, -⟩ := Reg.bandsC_ok hg
  have hl := heightsL_len g
  have e : canonL g = told (bandsFrom (rowL g) [] (heightsL g)) := rfl
  refine ⟨?_, fun y => ?_, fun y hy => ?_⟩
  · rw [e]
    have h1 := told_len b2
    simp only [List.length_nil, Nat.zero_add] at b3
    exact Nat.le_trans h1 (Nat.mul_le_mul_right _ (by omega))
  · exact told_alive g.length y hz b2
  · obtain ⟨r, hr, h1⟩ := Reg.mem_heights.1 hy
    rw [e, told, List.mem_flatMap] at hr
    obtain ⟨c, hc, hr⟩ := hr
    obtain ⟨s, _, rfl⟩ := List.mem_map.1 hr
    have := b1 c hc
    rcases h1 with rfl | rfl
    · exact this.1
    · exact this.2
theorem rM_size {l : List R4} {n : Int} (h : regF l = 0) (hn : 0 ≤ n) (hpos : 0 < l.length) : (rM n l).length ≤ 1000000000 ∧ (∀ y k, (rowFrom y [] ((rM n l).take k)).length ≤ 20000) ∧ ∀ k, (heightsFrom [] ((l ++ rM n l).take k)).length ≤ 100000 := by
  obtain ⟨hg, hl⟩ := good_of_rects (regF_zero.1 h).1
  obtain ⟨ga, la, -⟩ := arL_ok h hn hpos
  have gw := wideA_good hn ga
  obtain ⟨s1, s2, s3⟩ := canon_size gw
  rw [List.length_map] at s1 s2
  have hla : (arL n l).length ≤ 12004 := by omega
  refine ⟨?_, fun y k => ?_, fun k => ?_⟩
  · have : 2 * (arL n l).length * (arL n l).length ≤ 24008 * 12004 := Nat.mul_le_mul (by omega) hla
    have e : (rM n l).length = (canonL ((arL n l).map (wideA n))).length := rfl
    omega
  · have h1 := row_alive ((rM n l).take k) y
    have h2 : ((rM n l).take k).countP (alive y) ≤ (rM n l).countP (alive y) := (List.take_sublist k _).countP_le
    have h3 := s2 y
    have e : (rM n l).countP (alive y) = (canonL ((arL n l).map (wideA n))).countP (alive y) := rfl
    have e2 : rowL ((rM n l).take k) y = rowFrom y [] ((rM n l).take k) := rfl
    rw [e2] at h1
    omega
  · have h1 := heights_take (l ++ rM n l) k
    have h2 := heights_sub (a := l ++ rM n l) (b := l ++ (arL n l).map (wideA n)) fun y hy => by
      obtain ⟨r, hr, h1⟩ := Reg.mem_heights.1 hy
      rcases List.mem_append.1 hr with hr | hr
      · exact Reg.mem_heights.2 ⟨r, List.mem_append_left _ hr, h1⟩
      · obtain ⟨r', hr', h1'⟩ := Reg.mem_heights.1 (s3 y (Reg.mem_heights.2 ⟨r, hr, h1⟩))
        exact Reg.mem_heights.2 ⟨r', List.mem_append_right _ hr', h1'⟩
    have h3 := heightsL_len (l ++ (arL n l).map (wideA n))
    rw [List.length_append, List.length_map] at h3
    omega
end Go.Proofs.YtjcbngpgmgeanaaGreat
/- Grow, Shrink, Opened and Closed of the reference, whatever the world. -/
namespace Go.Proofs.YtjcbngpgmgeanaaGreat
open Go.RowKit Go.Shelf
open Reg (R4 inR canonL sweepL Kept)
set_option linter.unusedSimpArgs false
set_option linter.unusedVariables false

set_option maxRecDepth 100000 in
set_option maxHeartbeats 1000000 in
theorem rwider_any (r : R4) (n : Int) (w : World) (h : -2000000 ≤ r.x0 ∧ r.x0 ≤ 2000000 ∧ -2000000 ≤ r.y0 ∧ r.y0 ≤ 2000000 ∧ -2000000 ≤ r.x1 ∧ r.x1 ≤ 2000000 ∧ -2000000 ≤ r.y1 ∧ r.y1 ≤ 2000000) (h0 : 0 ≤ n) (h1 : n ≤ 100000) :
    Calls Tryz.prog 56 #[rv r, .int .i64 n] w fun e w' => e = .returned (rv (wideA n r)) ∧ Below w.heap.size w w' := by
  obtain ⟨x0, y0, x1, y1⟩ := r
  simp only at h
  obtain ⟨q0, q1, q2, q3, q4, q5, q6, q7⟩ := h
  simp only [rv, wideA]
  go_enter Tryz.func56, Tryz.ntmps56
  go_wp2_with fail
  exact bodyPost_ret (v := rv ⟨x0 - n, y0 - n, x1 + n, y1 + n⟩) (by simp [results, Tryz.results56, go_sem]) rfl ⟨rfl, by (repeat' (first | (with_reducible exact Below.refl _ _) | (with_reducible assumption) | (with_reducible refine Below.alloc ?_ ?_ _) | (with_reducible refine Below.drew ?_) | (with_reducible refine below_drewN ?_ _) | (with_reducible refine Below.setCell ?_ ?_ _) | (with_reducible exact Nat.le_refl _) | omega | (simp only [World.size_alloc, World.size_setCell, World.size_drew]; omega) | (simp; omega) | (simp; done)))⟩

theorem mapA_snoc (n : Int) (l : List R4) (k : Nat) (h : k < l.length) : (l.take (k + 1)).map (wideA n) = (l.take k).map (wideA n) ++ [⟨l[k].x0 - n, l[k].y0 - n, l[k].x1 + n, l[k].y1 + n⟩] := by
  rw [List.take_succ_eq_append_getElem h, List.map_append]
  rfl
def Small (l : List R4) : Prop := ∀ r, r ∈ l → -2000000 ≤ r.x0 ∧ r.x0 ≤ 2000000 ∧ -2000000 ≤ r.y0 ∧ r.y0 ≤ 2000000 ∧ -2000000 ≤ r.x1 ∧ r.x1 ≤ 2000000 ∧ -2000000 ≤ r.y1 ∧ r.y1 ≤ 2000000

def GotRd0 (w : World) (l : List R4) (f : Int) (e : Ending) (w' : World) : Prop := ∃ A c, e = .returned (.tuple #[.slice A l.length c, .int .i64 f]) ∧ Rd w' A l ∧ l.length ≤ c ∧ c ≤ maxLen ∧ (A = none → c = 0) ∧ Below w.heap.size w w'

end Go.Proofs.YtjcbngpgmgeanaaGreat
/- Pieces and Holes of the reference, whatever the world. -/
namespace Go.Proofs.YtjcbngpgmgeanaaGreat
open Go.RowKit Go.ChangeShapes
open Reg (R4 canonL)
set_option linter.unusedSimpArgs false
set_option linter.unusedVariables false
set_option maxRecDepth 100000

theorem reg_rb {l : List R4} (h : regF l = 0) : ∀ r, r ∈ l → Rb r := fun r hr => by
  have := rect_in (regF_rects h) r hr
  simp only [In6] at this
  unfold Rb
  omega
theorem out_rb {l : List R4} (h : regF l = 0) (hpos : 0 < l.length) : ∀ r, r ∈ outL l → Rb r := fun r hr => by
  have g := (cn_out h hpos).1
  have k1 := (out_inR h hpos _ _).1 (good_sq g hr)
  have k2 := (out_inR h hpos (r.x1 - 1) (r.y1 - 1)).1 ⟨r, hr, by have := g r hr; simp only [R4.has]; omega⟩
  obtain ⟨ain, -, -⟩ := frame_ok h hpos
  simp only [InB] at ain
  unfold Rb
  omega

set_option maxHeartbeats 4000000 in
theorem rpieces_any (A : Option Addr) (l : List R4) (c : Nat) (w : World) (hl : l.length ≤ c) (hc : c ≤ 140737488355328) (h : Rd w A l) :
    Calls Tryz.prog 7 #[.slice A l.length c] w (GotPs w (pcL l) (regF l)) := by
  have H0 := Lib.hid h
  have C1 := Lib.hid (rcheckRegion_any A l c w hl hc h)
  unfold GotPs pcL
  clear h
  by_cases h0 : regF l = 0
  · obtain ⟨hg, h2000⟩ := good_of_rects (regF_rects h0)
    have C2 := Lib.hid (fun W h => piecesOf_any A l c W (cn_reg h0) (reg_rb h0) (by omega) h)
    unfold GotPz at C2
    rw [if_pos h0]
    rw [h0] at C1 ⊢
    clear h0 hg
    generalize pcsL l = L at *
    go_enter Tryz.func7, Tryz.ntmps7
    go_wp2_with fail
    refine C1.out.mono ?_
    rintro e w1 ⟨rfl, hb⟩
    have B1 := Lib.hid hb
    have H1 := Lib.hid (H0.out.below hb)
    clear hb
    go_wp2_with fail
    refine (C2.out w1 H1.out).mono ?_
    rintro e w2 ⟨A', c', hd, rfl, k1, k2, k3, -, hb⟩
    have B2 := Lib.hid (B1.out.trans (hb.mono B1.out.size))
    have R := Lib.hid k3
    clear hb k3
    go_wp2_with fail
    go_ret2
    exact ⟨A', c', hd, rfl, k1, k2, R.out, B2.out⟩
  · rw [if_neg h0]
    have hd1 : (regF l != 0) = true := by simpa using h0
    clear h0
    generalize regF l = F at *
    go_enter Tryz.func7, Tryz.ntmps7
    go_wp2_with fail
    refine C1.out.mono ?_
    rintro e w1 ⟨rfl, hb⟩
    have B1 := Lib.hid hb
    clear hb
    go_wp2_with fail
    go_ret2
    exact ⟨none, 0, _, rfl, by simp, by simp [maxLen], rdO_nil _ _, B1.out⟩

theorem sel_none {w : World} {base n c m : Nat} {T : TypeId} {A : Option Addr} {xs : List Value} {size : Nat} (ho : w.ownsRow base T size (.slice A m c) n xs) : A = none → c = 0 := by
  intro e
  subst e
  rcases own_open ho with ⟨e1, _⟩ | ⟨g, cap, cur, e1, _⟩
  · cases e1; rfl
  · cases e1

set_option maxHeartbeats 8000000 in
theorem rholesOf_any (A : Option Addr) (l : List R4) (c : Nat) (w : World) (h0 : regF l = 0) (hA : A = none → c = 0) (h : Rd w A l) :
    Calls Tryz.prog 26 #[.slice A l.length c] w (GotPz w (hlsE l)) := by
  have H0 := Lib.hid h
  unfold GotPz hlsE
  clear h
  by_cases hnil : l = []
  · subst hnil
    rw [if_pos rfl]
    clear h0
    simp only [List.length_nil]
    go_enter Tryz.func26, Tryz.ntmps26
    go_wp2_with fail
    go_ret
    exact ⟨none, 0, _, rfl, Nat.le_refl _, by simp [maxLen], rdO_nil _ _, fun _ => rfl, Below.refl _ _⟩
  · rw [if_neg hnil]
    obtain ⟨i0, hi0, hz0, hz1, hz2⟩ := info_parts infoSl
    have hpos : 0 < l.length := by cases l with | nil => exact absurd rfl hnil | cons a t => simp
    obtain ⟨hg, h2000⟩ := good_of_rects (regF_rects h0)
    obtain ⟨ain, -, gf⟩ := frame_ok h0 hpos
    have cO := cn_out h0 hpos
    have hcount := out_count h0 hpos
    have C2 := Lib.hid (fun W h => boundsOf_any A l c W hpos (by omega) h)
    have C3 := Lib.hid (fun W => rwider_any (aroundR l) 1 W (by simp only [InB] at ain; omega) (by omega) (by omega))
    have C4 := Lib.hid (fun b o W h1 h2 => combined_any (some ⟨b, o, none⟩) A [frameR l] l 1 c 3 W (by simp) h2000 (fun e => by cases e) hA (.inr (.inr rfl)) h1 h2)
    have hcomb : combL 3 [frameR l] l = outL l := combL_sweep (keep := notK) rfl gf hg (fun x y => beside_way gf hg x y)
    rw [hcomb] at C4
    have C5 := Lib.hid (fun A' c' W h => piecesOf_any A' (outL l) c' W cO (out_rb h0 hpos) (by omega) h)
    have hfew := pcs_few (outL l)
    have hP := Lib.hid (fun P (hP : P ∈ pcsL (outL l)) => And.intro (pc_pos cO hP) (And.intro (pc_len (out_banded h0 hpos).1 hP) (frame_iff h0 hpos hP)))
    rw [show hlsL l = (pcsL (outL l)).filter (hlB l) from rfl]
    rw [show wideA 1 (aroundR l) = frameR l from rfl] at C3
    unfold GotR at C4
    unfold GotPz at C5
    simp only [List.length_singleton] at C4
    have hll : (outL l).length ≤ 20000 := by omega
    have hne : ((l.length : Int) == 0) = false := by rw [beq_eq_false_iff_ne]; omega
    clear h0 hnil hg ain gf cO hcount hcomb hA
    generalize hlB l = p at *
    generalize pcsL (outL l) = L at *
    generalize outL l = O at *
    generalize frameR l = fr at *
    generalize aroundR l = ar at *
    simp only [rv] at C2 C3
    go_enter Tryz.func26, Tryz.ntmps26
    go_wp2_with fail
    refine (C2.out w H0.out).mono ?_
    rintro e w1 ⟨rfl, hb⟩
    have B1 := Lib.hid hb
    clear hb
    go_wp2_with fail
    refine (C3.out w1).mono ?_
    rintro e w2 ⟨rfl, hb⟩
    have B2 := Lib.hid (B1.out.trans (hb.mono B1.out.size))
    have z2 := B2.out.size
    clear hb
    go_wp2_with fail
    refine (C4.out (w2.heap.size + 1) 0 _ ?_ (H0.out.below ((B2.out.alloc z2 _).alloc (by simp; omega) _))).mono ?_
    · intro _
      refine ⟨_, _, rfl, by simp, fun i r hi => ?_⟩
      match i, hi with
      | 0, hi =>
        simp at hi; subst hi
        refine ⟨?_, ?_, ?_, ?_⟩ <;> simp [go_sem]
      | i + 1, hi => simp at hi
    rintro e w3 ⟨A3, c3, rfl, -, -, hr3, -, hb⟩
    have R3 := Lib.hid hr3
    have B3 := Lib.hid (up (B := w.heap.size) (w := w) ((B2.out.alloc z2 _).alloc (by simp; omega) _) hb (by simp; omega))
    have z3 := hb.size
    have q0 : w3.cell? ⟨w2.heap.size, 0, none⟩ = some (.int .i64 fr.x0) := ((bcell hb).1 _ _ (by simp; omega)).trans (by simp [go_sem])
    have q1 : w3.cell? ⟨w2.heap.size, 1, none⟩ = some (.int .i64 fr.y0) := ((bcell hb).1 _ _ (by simp; omega)).trans (by simp [go_sem])
    have q2 : w3.cell? ⟨w2.heap.size, 2, none⟩ = some (.int .i64 fr.x1) := ((bcell hb).1 _ _ (by simp; omega)).trans (by simp [go_sem])
    have q3 : w3.cell? ⟨w2.heap.size, 3, none⟩ = some (.int .i64 fr.y1) := ((bcell hb).1 _ _ (by simp; omega)).trans (by simp [go_sem])
    simp at z3
    clear hb hr3
    go_wp2_with fail
    refine (C5.out A3 c3 w3 R3.out).mono ?_
    rintro e w5 ⟨A5, c5, hd, rfl, k1, k2, hR, -, hb⟩
    have R5 := Lib.hid hR
    have B5 := Lib.hid (B3.out.trans (hb.mono B3.out.size))
    have z5 := hb.size
    have z5' := B5.out.size
    have p0 := ((bcell hb).1 w2.heap.size 0 (by omega)).trans q0
    have p1 := ((bcell hb).1 w2.heap.size 1 (by omega)).trans q1
    have p2 := ((bcell hb).1 w2.heap.size 2 (by omega)).trans q2
    have p3 := ((bcell hb).1 w2.heap.size 3 (by omega)).trans q3
    have hlt2 : w2.heap.size < w5.heap.size := by omega
    clear hb hR q0 q1 q2 q3
    go_wp2_with fail
    go_loopw [5, 6] (fun ov i wr => ∃ (k : Nat), k ≤ L.length ∧ i = .int .i64 k ∧ wr.ownsRow w5.heap.size 22 1 ov (selI p L k).length ((selI p L k).map (hdrV L hd)) ∧ Below w5.heap.size w5 wr) (fun _ i _ => L.length - (intOf i).toNat)
    case atStart => exact ⟨0, Nat.zero_le _, rfl, own_nilR _ _ _ _, Below.refl _ _⟩
    case round =>
      obtain ⟨k, hk, rfl, ho, hbw⟩ := hrel
      have zw := hbw.size
      have hkz : (0 : Int) ≤ (k : Int) := by omega
      by_cases hlt : k < L.length
      · have hklt : (k : Int) < (L.length : Int) := by omega
        obtain ⟨Ao, co, hov, -, q2, -⟩ := own_cells ho
        subst hov
        have q2' : co ≤ 9223372036854775807 := q2
        have hsl := selI_len p L k
        have HO := Lib.hid ho
        clear ho q2
        have hM := R5.out.below hbw
        obtain ⟨b, off, e, hb, hcc⟩ := hM.1 (by omega)
        subst e
        have hi := List.getElem?_eq_getElem hlt
        have c0 := hcc k _ hi
        obtain ⟨hrd, lx, lc⟩ := hM.2 k _ hi
        have HRD := Lib.hid hrd
        obtain ⟨s1, s2, s3⟩ := hP.out _ (List.getElem_mem hlt)
        have HBk := Lib.hid s3
        have SY := Lib.hid (fun h => selI_yes (p := p) hi h)
        have SN := Lib.hid (fun h => selI_no (p := p) hi h)
        have HD : hdrV L hd k = .slice (hd k).1 L[k].length (hd k).2 := by unfold hdrV; rw [List.getD_eq_getElem?_getD, hi]; rfl
        have HDk := Lib.hid HD
        clear hcc hi hM hrd HD s3
        generalize L[k] = P at *
        have CA := Lib.hid (fun W h => boundsOf_any (hd k).1 P (hd k).2 W s1 (by omega) h)
        simp only [rv] at CA
        generalize hap : aroundR P = ap at *
        have r0 := ((bcell hbw).1 w2.heap.size 0 hlt2).trans p0
        have r1 := ((bcell hbw).1 w2.heap.size 1 hlt2).trans p1
        have r2 := ((bcell hbw).1 w2.heap.size 2 hlt2).trans p2
        have r3 := ((bcell hbw).1 w2.heap.size 3 hlt2).trans p3
        clear p0 p1 p2 p3 hap
        obtain ⟨w8, rfl⟩ : ∃ w8, w8 = wr := ⟨wr, rfl⟩
        have RM := Lib.hid (fun W (hq : Below w8.heap.size w8 W) => HRD.out.below hq)
        have hlt8 : w2.heap.size < w8.heap.size := by omega
        go_wp2_with fail
        go_cut [30] (fun s30 wx => s30 = .bool (p P) ∧ Below w8.heap.size w8 wx)
        case first =>
          by_cases hrs : ap = fr
          · have hp : p P = false := by rw [HBk.out]; simp [hrs]
            have HPp := Lib.hid hp
            subst hrs
            clear hp
            go_region_held3 (fun w' => w'.cell? ⟨w2.heap.size, 0, none⟩ = some (.int .i64 ap.x0) ∧ w'.cell? ⟨w2.heap.size, 1, none⟩ = some (.int .i64 ap.y0) ∧ w'.cell? ⟨w2.heap.size, 2, none⟩ = some (.int .i64 ap.x1) ∧ w'.cell? ⟨w2.heap.size, 3, none⟩ = some (.int .i64 ap.y1) ∧ w'.cell? ⟨b, off + k, none⟩ = some (.slice (hd k).1 P.length (hd k).2)) (first | go_keep | exact ⟨((bcell BX).1 _ _ hlt8).trans r0, ((bcell BX).1 _ _ hlt8).trans r1, ((bcell BX).1 _ _ hlt8).trans r2, ((bcell BX).1 _ _ hlt8).trans r3, ((bcell BX).1 _ _ hb).trans c0⟩)
              (first | (go_at_call 57; refine (CA.out _ (RM.out _ ?_)).mono ?_; (focus ((repeat' (first | (with_reducible exact Below.refl _ _) | (with_reducible assumption) | (with_reducible refine Below.alloc ?_ ?_ _) | (with_reducible refine Below.drew ?_) | (with_reducible refine below_drewN ?_ _) | (with_reducible refine Below.setCell ?_ ?_ _) | (with_reducible exact Nat.le_refl _) | omega | (simp only [World.size_alloc, World.size_setCell, World.size_drew]; omega) | (simp; omega) | (simp; done))); done)); rintro e w6 ⟨rfl, hbx⟩; have BX := up (B := w8.heap.size) (w := w8) (by (repeat' (first | (with_reducible exact Below.refl _ _) | (with_reducible assumption) | (with_reducible refine Below.alloc ?_ ?_ _) | (with_reducible refine Below.drew ?_) | (with_reducible refine below_drewN ?_ _) | (with_reducible refine Below.setCell ?_ ?_ _) | (with_reducible exact Nat.le_refl _) | omega | (simp only [World.size_alloc, World.size_setCell, World.size_drew]; omega) | (simp; omega) | (simp; done)))) hbx (by (first | (with_reducible exact Nat.le_refl _) | (with_reducible assumption) | omega | (simp only [World.size_alloc, World.size_setCell, World.size_drew]; omega) | (simp; omega) | (simp; done)))))
            go_wp2_with fail
            go_meet
            exact ⟨by rw [HPp.out], by (repeat' (first | (with_reducible exact Below.refl _ _) | (with_reducible assumption) | (with_reducible refine Below.alloc ?_ ?_ _) | (with_reducible refine Below.drew ?_) | (with_reducible refine below_drewN ?_ _) | (with_reducible refine Below.setCell ?_ ?_ _) | (with_reducible exact Nat.le_refl _) | omega | (simp only [World.size_alloc, World.size_setCell, World.size_drew]; omega) | (simp; omega) | (simp; done)))⟩
          · have hp : p P = true := by rw [HBk.out]; simp [hrs]
            have HPp := Lib.hid hp
            clear hp
            have hrs' := Lib.hid hrs
            clear hrs
            cases t0 : (ap.x0 == fr.x0) <;> cases t1 : (ap.y0 == fr.y0) <;> cases t2 : (ap.x1 == fr.x1) <;> cases t3 : (ap.y1 == fr.y1)
            case true.true.true.true => exact absurd (r4_ext.2 ⟨by simpa using t0, by simpa using t1, by simpa using t2, by simpa using t3⟩) hrs'.out
            all_goals
              go_region_held3 (fun w' => w'.cell? ⟨w2.heap.size, 0, none⟩ = some (.int .i64 fr.x0) ∧ w'.cell? ⟨w2.heap.size, 1, none⟩ = some (.int .i64 fr.y0) ∧ w'.cell? ⟨w2.heap.size, 2, none⟩ = some (.int .i64 fr.x1) ∧ w'.cell? ⟨w2.heap.size, 3, none⟩ = some (.int .i64 fr.y1) ∧ w'.cell? ⟨b, off + k, none⟩ = some (.slice (hd k).1 P.length (hd k).2)) (first | go_keep | exact ⟨((bcell BX).1 _ _ hlt8).trans r0, ((bcell BX).1 _ _ hlt8).trans r1, ((bcell BX).1 _ _ hlt8).trans r2, ((bcell BX).1 _ _ hlt8).trans r3, ((bcell BX).1 _ _ hb).trans c0⟩)
                (first | (go_at_call 57; refine (CA.out _ (RM.out _ ?_)).mono ?_; (focus ((repeat' (first | (with_reducible exact Below.refl _ _) | (with_reducible assumption) | (with_reducible refine Below.alloc ?_ ?_ _) | (with_reducible refine Below.drew ?_) | (with_reducible refine below_drewN ?_ _) | (with_reducible refine Below.setCell ?_ ?_ _) | (with_reducible exact Nat.le_refl _) | omega | (simp only [World.size_alloc, World.size_setCell, World.size_drew]; omega) | (simp; omega) | (simp; done))); done)); rintro e w6 ⟨rfl, hbx⟩; have BX := up (B := w8.heap.size) (w := w8) (by (repeat' (first | (with_reducible exact Below.refl _ _) | (with_reducible assumption) | (with_reducible refine Below.alloc ?_ ?_ _) | (with_reducible refine Below.drew ?_) | (with_reducible refine below_drewN ?_ _) | (with_reducible refine Below.setCell ?_ ?_ _) | (with_reducible exact Nat.le_refl _) | omega | (simp only [World.size_alloc, World.size_setCell, World.size_drew]; omega) | (simp; omega) | (simp; done)))) hbx (by (first | (with_reducible exact Nat.le_refl _) | (with_reducible assumption) | omega | (simp only [World.size_alloc, World.size_setCell, World.size_drew]; omega) | (simp; omega) | (simp; done)))))
              go_wp2_with fail
              go_meet
              exact ⟨by rw [HPp.out], by (repeat' (first | (with_reducible exact Below.refl _ _) | (with_reducible assumption) | (with_reducible refine Below.alloc ?_ ?_ _) | (with_reducible refine Below.drew ?_) | (with_reducible refine below_drewN ?_ _) | (with_reducible refine Below.setCell ?_ ?_ _) | (with_reducible exact Nat.le_refl _) | omega | (simp only [World.size_alloc, World.size_setCell, World.size_drew]; omega) | (simp; omega) | (simp; done)))⟩
        case rest =>
          obtain ⟨rfl, hcut⟩ := hcut
          have BW := Lib.hid (hbw.trans (hcut.mono hbw.size))
          have zc := hcut.size
          have RC := Lib.hid (HRD.out.below hcut)
          have O3 := Lib.hid (ownsRow_below' HO.out hcut)
          have cc := ((bcell hcut).1 _ _ hb).trans c0
          have hbc := Nat.lt_of_lt_of_le hb zc
          clear hcut r0 r1 r2 r3 c0
          generalize hS : selI p L k = S at *
          clear hS
          cases hp : p P
          · have SN' := Lib.hid (SN.out hp)
            clear hp
            go_wp2_with fail
            go_roundw
            case rel => exact ⟨k + 1, by omega, by go_num, by rw [SN'.out]; exact O3.out, BW.out⟩
            case measure => simp [intOf]; omega
          · have SY' := Lib.hid (SY.out hp)
            clear hp
            go_wp2_with (first
              | (at_builtin; refine wpList_append_lies _ rfl (.tmp 31) (.tmp 36) 23 rfl w5.heap.size 22 i0 (.slice none 0 0) 1 24 Tryz.underlying23 hi0 hz0 hz1 hz2 rfl (by omega) (.slice Ao S.length co) S.length (S.map (hdrV L hd)) rfl (O3.out.alloc _) ⟨wc.heap.size, 0, none⟩ 1 1 [.slice (hd k).1 P.length (hd k).2] rfl rfl (cell_one_new _ _ _) (by simp [Value.oneCell']) (by omega) (by unfold maxLen; omega) (by omega) (by simp; omega) (wc.heap.size + 1) (by simp) ?_; intro gg cap w6 hown6 hgrow6 hat6 hlt6; have HO6 := Lib.hid hown6; have HG6 := Lib.hid hgrow6; clear hown6 hgrow6))
            go_roundw
            case rel =>
              refine ⟨k + 1, by omega, by go_num, ?_, ?_⟩
              · rw [SY'.out, List.length_append, List.map_append]
                simpa [HDk.out] using HO6.out
              · exact (BW.out.alloc (by omega) _).grown HG6.out (by simp; omega) (fun j hj => (O3.out.lt j hj).1)
            case measure => simp [intOf]; omega
      · obtain rfl : k = L.length := by omega
        have hR := R5.out.below hbw
        have hnn := Lib.hid ho
        obtain ⟨A6, c6, hd6, rfl, m1, m2, hR6⟩ := sel_rd ho hR.2
        have R6 := Lib.hid hR6
        have BW := Lib.hid (B5.out.trans (hbw.mono z5'))
        have HNN := Lib.hid (sel_none hnn.out)
        clear hR hR6 ho hnn
        go_wp2_with fail
        go_ret
        exact ⟨A6, c6, hd6, rfl, m1, m2, R6.out, HNN.out, BW.out⟩

set_option maxHeartbeats 4000000 in
theorem rholes_any (A : Option Addr) (l : List R4) (c : Nat) (w : World) (hA : A = none → c = 0) (hl : l.length ≤ c) (hc : c ≤ 140737488355328) (h : Rd w A l) :
    Calls Tryz.prog 9 #[.slice A l.length c] w (GotPs w (hoL l) (regF l)) := by
  have H0 := Lib.hid h
  have C1 := Lib.hid (rcheckRegion_any A l c w hl hc h)
  unfold GotPs hoL
  clear h
  by_cases h0 : regF l = 0
  · have C2 := Lib.hid (fun W h => rholesOf_any A l c W h0 hA h)
    unfold GotPz at C2
    rw [if_pos h0]
    rw [h0] at C1 ⊢
    clear h0
    generalize hlsE l = L at *
    go_enter Tryz.func9, Tryz.ntmps9
    go_wp2_with fail
    refine C1.out.mono ?_
    rintro e w1 ⟨rfl, hb⟩
    have B1 := Lib.hid hb
    have H1 := Lib.hid (H0.out.below hb)
    clear hb
    go_wp2_with fail
    refine (C2.out w1 H1.out).mono ?_
    rintro e w2 ⟨A', c', hd, rfl, k1, k2, k3, -, hb⟩
    have B2 := Lib.hid (B1.out.trans (hb.mono B1.out.size))
    have R := Lib.hid k3
    clear hb k3
    go_wp2_with fail
    go_ret2
    exact ⟨A', c', hd, rfl, k1, k2, R.out, B2.out⟩
  · rw [if_neg h0]
    have hd1 : (regF l != 0) = true := by simpa using h0
    clear h0
    generalize regF l = F at *
    go_enter Tryz.func9, Tryz.ntmps9
    go_wp2_with fail
    refine C1.out.mono ?_
    rintro e w1 ⟨rfl, hb⟩
    have B1 := Lib.hid hb
    clear hb
    go_wp2_with fail
    go_ret2
    exact ⟨none, 0, _, rfl, by simp, by simp [maxLen], rdO_nil _ _, B1.out⟩
end Go.Proofs.YtjcbngpgmgeanaaGreat
/- slices.EqualFunc of slices of rectangles, by slices.Equal, whatever the world. -/
namespace Go.Proofs.YtjcbngpgmgeanaaGreat
open Go.RowKit Go.ChangeShapes
open Reg (R4)
set_option linter.unusedSimpArgs false
set_option linter.unusedVariables false

set_option maxRecDepth 100000 in
theorem eg_equal : ∀ args w, (callFunc 11 args).run Tryz.prog w = .ok (.enter 11 args) w := enters_of Tryz.func11 (by kernel_rfl) rfl
set_option maxRecDepth 100000 in
set_option maxHeartbeats 2000000 in
theorem equalF_any (A1 A2 : Option Addr) (L : List (List R4)) (c1 c2 : Nat) (hd1 hd2 : Nat → Option Addr × Nat) (w : World) (hl : ∀ P, P ∈ L → P.length ≤ 140737488355328) (hL : L.length ≤ 140737488355328) (h1 : RdO w A1 L hd1) (h2 : RdO w A2 L hd2) :
    Calls Tryz.prog 10 #[.slice A1 L.length c1, .slice A2 L.length c2, .func (.func 11) #[] #[]] w fun e w' => e = .returned (.bool true) ∧ Below w.heap.size w w' := by
  have H1 := Lib.hid h1
  have H2 := Lib.hid h2
  have HL := Lib.hid hl
  clear h1 h2 hl
  have eg := eg_equal
  go_enter Tryz.func10, Tryz.ntmps10
  go_wp2_with fail
  go_loopw [17] (fun i wr => ∃ k : Nat, k ≤ L.length ∧ i = .int .i64 k ∧ Below w.heap.size w wr) (fun i _ => L.length - (intOf i).toNat)
  case atStart => exact ⟨0, Nat.zero_le _, rfl, Below.refl _ _⟩
  case round =>
    obtain ⟨k, hk, rfl, hbw⟩ := hrel
    have zw := hbw.size
    have hkz : (0 : Int) ≤ (k : Int) := by omega
    by_cases hlt : k < L.length
    · have M1 := H1.out.below hbw
      have M2 := H2.out.below hbw
      obtain ⟨b1, o1, e, hb1, hc1⟩ := M1.1 (by omega)
      subst e
      obtain ⟨b2, o2, e, hb2, hc2⟩ := M2.1 (by omega)
      subst e
      have hi := List.getElem?_eq_getElem hlt
      have a0 := hc1 k _ hi
      have d0 := hc2 k _ hi
      obtain ⟨r1, -, -⟩ := M1.2 k _ hi
      obtain ⟨r2, -, -⟩ := M2.2 k _ hi
      have R1 := Lib.hid r1
      have R2 := Lib.hid r2
      have hx := HL.out _ (List.getElem_mem hlt)
      clear hc1 hc2 hi M1 M2 r1 r2
      generalize L[k] = P at *
      have CE := Lib.hid (fun W h1 h2 => equal_any (hd1 k).1 (hd2 k).1 P P (hd1 k).2 (hd2 k).2 W hx hx h1 h2)
      rw [decide_eq_true rfl] at CE
      have hklt : (k : Int) < (L.length : Int) := by omega
      obtain ⟨w8, rfl⟩ : ∃ w8, w8 = wr := ⟨wr, rfl⟩
      go_wp2_with fail
      refine (CE.out _ R1.out R2.out).mono ?_
      rintro e w3 ⟨rfl, hb3⟩
      have B3 := Lib.hid (hbw.trans (hb3.mono hbw.size))
      clear hb3
      go_wp2_with fail
      go_roundw
      case rel => exact ⟨k + 1, by omega, by go_num, B3.out⟩
      case measure => simp [intOf]; omega
    · obtain rfl : k = L.length := by omega
      go_wp2_with fail
      go_ret
      exact ⟨rfl, hbw⟩
end Go.Proofs.YtjcbngpgmgeanaaGreat
/- The law PiecesMatchSpec: for every slice of rectangles, Pieces and Holes of the program answer as those of the reference do. -/
namespace Go.Proofs.YtjcbngpgmgeanaaGreat
open Go.ChangeShapes Go.WideShapes Go.ChangeAt Go.RowKit
open Reg (R4 inR)
set_option linter.unusedSimpArgs false
set_option linter.unusedVariables false

theorem open_none {H : Type} {enc : TypeId × Value → H} {w : World} {base : Nat} {held : Bool} {n c : Nat} {d : DataW H} {p : List MemPlace} (h : DataW.Trod enc Tryz.prog w base (fun _ => true) held 22 (.slice none n c) d p) : c = 0 := by
  obtain ⟨fuel, hf⟩ := h
  rcases DataW.trod_slice Tryz.underlying22 hf with ⟨hcs, hx⟩ | ⟨a, len', cap', elems, rest, n, _, hcs, hx, hb, hl, hm, hlen, hel, hsp, hns⟩
  · simp [Value.cells] at hcs
    exact hcs.2
  · simp [Value.cells] at hcs

theorem pcL_small {l : List R4} : (pcL l).length ≤ 2000 ∧ ∀ P, P ∈ pcL l → P.length ≤ 2000 := by
  unfold pcL
  split
  · rename_i h0
    have h2 := (rectsF_zero.1 (regF_zero.1 h0).1).1
    refine ⟨Nat.le_trans (pcs_few l) h2, fun P hP => Nat.le_trans (pc_len (region_banded h0) hP) h2⟩
  · exact ⟨by simp, fun P hP => by cases hP⟩
theorem hoL_small {l : List R4} : (hoL l).length ≤ 12004 ∧ ∀ P, P ∈ hoL l → P.length ≤ 12004 := by
  unfold hoL hlsE
  split
  · rename_i h0
    split
    · exact ⟨by simp, fun P hP => by cases hP⟩
    · rename_i hn
      have hpos : 0 < l.length := by cases l with | nil => exact absurd rfl hn | cons a t => simp
      have h2 := (rectsF_zero.1 (regF_zero.1 h0).1).1
      have hc := out_count h0 hpos
      have hf := pcs_few (outL l)
      have hm : (hlsL l).length ≤ (pcsL (outL l)).length := List.length_filter_le _ _
      exact ⟨by omega, fun P hP => by have := pc_len (out_banded h0 hpos).1 (List.mem_filter.1 hP).1; omega⟩
  · exact ⟨by simp, fun P hP => by cases hP⟩

set_option maxRecDepth 100000 in
set_option maxHeartbeats 4000000 in
theorem piecesMatchSpec_walk (A : Option Addr) (l : List R4) (c : Nat) (w : World) (hl : l.length ≤ c) (rc : c ≤ 140737488355328) (h : Rd w A l) (hA : A = none → c = 0) :
    Calls Tryz.prog 3 #[.slice A l.length c] w fun e w' => e = .returned (.bool true) ∧ Below w.heap.size w w' := by
  have rc' : c ≤ maxLen := by simp only [maxLen]; omega
  have H0 := Lib.hid h
  have C1 := Lib.hid (fun W h => pieces_any A l c W hl rc' (by omega) h)
  have C2 := Lib.hid (fun W h => rpieces_any A l c W hl rc h)
  have C3 := Lib.hid (fun W h => holes_any A l c W hl rc' (by omega) h)
  have C4 := Lib.hid (fun W h => rholes_any A l c W hA hl rc h)
  have CW := Lib.hid (fun W => awake_any W)
  obtain ⟨p1, p2⟩ := pcL_small (l := l)
  obtain ⟨q1, q2⟩ := hoL_small (l := l)
  have CE := Lib.hid (fun A1 A2 c1 c2 hd1 hd2 W h1 h2 => equalF_any A1 A2 (pcL l) c1 c2 hd1 hd2 W (fun P hP => by have := p2 P hP; omega) (by omega) h1 h2)
  have CF := Lib.hid (fun A1 A2 c1 c2 hd1 hd2 W h1 h2 => equalF_any A1 A2 (hoL l) c1 c2 hd1 hd2 W (fun P hP => by have := q2 P hP; omega) (by omega) h1 h2)
  unfold GotPs at C1 C2 C3 C4
  clear h hA p2 q2
  generalize pcL l = L at *
  generalize hoL l = M at *
  generalize regF l = F at *
  go_enter Tryz.func3, Tryz.ntmps3
  go_wp2_with fail
  refine (C1.out w H0.out).mono ?_
  rintro e w1 ⟨A1, c1, hd1, rfl, -, -, hr, hb⟩
  have P1 := Lib.hid (H0.out.below hb)
  have R1 := Lib.hid hr
  have B1 := Lib.hid hb
  clear hr hb
  go_wp2_with fail
  refine (C2.out w1 P1.out).mono ?_
  rintro e w2 ⟨A2, c2, hd2, rfl, -, -, hr, hb⟩
  have P2 := Lib.hid (P1.out.below hb)
  have R2 := Lib.hid (R1.out.below hb)
  have S2 := Lib.hid hr
  have B2 := Lib.hid (B1.out.trans (hb.mono B1.out.size))
  clear hr hb P1 R1
  go_wp2_with fail
  refine (C3.out w2 P2.out).mono ?_
  rintro e w3 ⟨A3, c3, hd3, rfl, -, -, hr, hb⟩
  have P3 := Lib.hid (P2.out.below hb)
  have R3 := Lib.hid (R2.out.below hb)
  have S3 := Lib.hid (S2.out.below hb)
  have T3 := Lib.hid hr
  have B3 := Lib.hid (B2.out.trans (hb.mono B2.out.size))
  clear hr hb P2 R2 S2
  go_wp2_with fail
  refine (C4.out w3 P3.out).mono ?_
  rintro e w4 ⟨A4, c4, hd4, rfl, -, -, hr, hb⟩
  have R4 := Lib.hid (R3.out.below hb)
  have S4 := Lib.hid (S3.out.below hb)
  have T4 := Lib.hid (T3.out.below hb)
  have U4 := Lib.hid hr
  have B4 := Lib.hid (B3.out.trans (hb.mono B3.out.size))
  clear hr hb R3 S3 T3
  go_wp2_with fail
  refine (CE.out A1 A2 c1 c2 hd1 hd2 w4 R4.out S4.out).mono ?_
  rintro e w5 ⟨rfl, hb⟩
  have T5 := Lib.hid (T4.out.below hb)
  have U5 := Lib.hid (U4.out.below hb)
  have B5 := Lib.hid (B4.out.trans (hb.mono B4.out.size))
  clear hb
  go_wp2_with fail
  refine (CF.out A3 A4 c3 c4 hd3 hd4 w5 T5.out U5.out).mono ?_
  rintro e w6 ⟨rfl, hb⟩
  have B6 := Lib.hid (B5.out.trans (hb.mono B5.out.size))
  clear hb
  go_wp2_with fail
  refine (CW.out _).mono ?_
  rintro e w7 ⟨rfl, hb⟩
  have B7 := Lib.hid (B6.out.trans (hb.mono B6.out.size))
  clear hb
  go_wp2_with fail
  go_ret
  exact ⟨rfl, B7.out⟩

set_option maxRecDepth 100000 in
theorem piecesMatchSpec_lifted (os : Os) (started : os.Started) (H : Type) (enc : TypeId × Value → H) :
    ReturnsInHanded {} Tryz.checked os 3 .any (Rows.piecesMatchSpecSpec.pre6 enc Tryz.prog Tryz.f3 Rows.piecesMatchSpecRow.domain false) (Rows.piecesMatchSpecSpec.post enc Tryz.prog Tryz.f3 false true false false) := by
  refine returnsInHanded_of_change_sized (C := Tryz.checked) own started (by kernel_rfl) Tryz.func3
    (ChangeSpec.witness6 (enc := enc) (C := Tryz.checked) false ⟨#[], #[.slice none 0 0], []⟩ 8 (by kernel_rfl) (by kernel_rfl) (by kernel_rfl) (by kernel_rfl)) ?_
  intro W base args ds gs before hval0 hW hcnd hsz0 _
  have hval : ∀ (j : Nat) t v, Tryz.f3.params[j]? = some t → args[j]? = some v → Value.okWide Tryz.prog W .any base t v := hval0
  have hsz : (DataW.weightsEach Tryz.prog (Tryz.f3.params.toList ++ Rows.piecesMatchSpecSpec.plain.varTypes Tryz.prog) (ds ++ gs)).all (· ≤ reachBytes) = true := hsz0
  have hW' := hW
  obtain ⟨p, q, hA0, hV, rfl, hfz, hnd⟩ := hW
  have hA : DataW.TrodAll enc Tryz.prog W 0 (fun _ => true) true Tryz.f3.params.toList args.toList ds p := hA0
  rw [Tryz.params3] at hA hval hsz
  obtain ⟨v0, vs0, d0, ds0, p0, q0, hargs, rfl, rfl, h0, r0⟩ := trodAll_cons hA
  obtain ⟨rfl, rfl, rfl⟩ := trodAll_nil r0
  obtain rfl : args = #[v0] := by cases args; simp_all
  obtain ⟨rfl, rfl⟩ := trodVars_none hV
  have k0 := h0
  have lt0 : ∀ x ∈ p0, x.block < W.heap.size := by obtain ⟨m, hm⟩ := k0; exact DataW.trod_lt m _ _ _ hm
  obtain ⟨A0, l0, c0, rfl, hl0, hr0, hc0⟩ := open_rects (hval 0 22 v0 rfl rfl) h0
  have hb0 := rects_room hsz (j := 0) rfl rfl hc0
  clear hA0 hval0 hsz0
  refine (piecesMatchSpec_walk A0 l0 c0 W hl0 hb0 hr0 (fun e => by subst e; exact open_none h0)).mono fun e W' ⟨he, bel⟩ => ?_
  subst he
  exact ⟨_, rfl, _, _, _, [], _, [], hW', trodAll_mk1 (shut_bool Tryz.underlying4 _), (trodAll_cons_mk (Below.trod laidOut (by kernel_rfl) (of_decide_eq_true (by kernel_rfl)) k0 bel lt0) trodAll_mk0), rfl, bel.frame _, fun h => by cases h⟩

set_option maxRecDepth 100000 in
theorem piecesMatchSpec_holds : Rows.PiecesMatchSpecSaid :=
  OpenClaim.holds_of_wide 3 Tryz.f3 rfl rfl rfl rfl rfl rfl rfl ⟨rfl, rfl, rfl, rfl, rfl⟩ rfl rfl rfl rfl rfl (by kernel_rfl) Tryz.func3 (by kernel_rfl)
    (of_decide_eq_true (by kernel_rfl)) (by unfold Func.isWrapper; rw [if_neg (by decide +kernel)]; exact ⟨rfl, rfl⟩)
    (fun os started H enc _ => piecesMatchSpec_lifted os started H enc)
end Go.Proofs.YtjcbngpgmgeanaaGreat

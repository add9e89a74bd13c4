/- Areas of regions: a region's area is the number of its squares; what a union, both, one alone have together. -/
import Derived.Test.YtmcbjaefnhfopaaSets
namespace Go.Proofs.Ytmcbjaefnhfopaa
open Go.RowKit
open Reg (R4 Span Band inR inS inB told canonL rectsOf CanF SepF cntR Kept sweepL)
set_option linter.unusedSimpArgs false
set_option linter.unusedVariables false

def sumZ : Nat → (Nat → Int) → Int
  | 0, _ => 0
  | n + 1, g => sumZ n g + g n
theorem sumZ_add (n : Nat) (f g : Nat → Int) : sumZ n (fun t => f t + g t) = sumZ n f + sumZ n g := by
  induction n with
  | zero => rfl
  | succ n ih => simp only [sumZ, ih]; omega
theorem sumZ_congr {n : Nat} {f g : Nat → Int} (h : ∀ t, f t = g t) : sumZ n f = sumZ n g := by rw [show f = g from funext h]
theorem sumZ_zero (n : Nat) : sumZ n (fun _ => 0) = 0 := by
  induction n with
  | zero => rfl
  | succ n ih => simp only [sumZ, ih]; rfl
theorem sumZ_ind (m p q : Int) (hp : m ≤ p) (hq : p ≤ q) (w : Int) (n : Nat) : sumZ n (fun t => if p ≤ m + t ∧ m + t < q then w else 0) = w * (min q (m + n) - min p (m + n)) := by
  induction n with
  | zero => simp only [sumZ]; rw [show min q (m + (0 : Nat)) = m from by omega, show min p (m + (0 : Nat)) = m from by omega]; simp
  | succ n ih =>
    simp only [sumZ, ih]
    by_cases h : p ≤ m + n ∧ m + n < q
    · rw [if_pos h, show min q (m + ((n + 1 : Nat) : Int)) - min p (m + ((n + 1 : Nat) : Int)) = (min q (m + n) - min p (m + n)) + 1 from by omega, Int.mul_add]
      omega
    · rw [if_neg h, show min q (m + ((n + 1 : Nat) : Int)) - min p (m + ((n + 1 : Nat) : Int)) = min q (m + n) - min p (m + n) from by omega]
      omega
/-- The sum over all squares in range. -/
def boxS (f : Int → Int → Int) : Int := sumZ 2000000 fun s => sumZ 2000000 fun t => f (-1000000 + t) (-1000000 + s)
theorem boxS_add (f g : Int → Int → Int) : boxS (fun x y => f x y + g x y) = boxS f + boxS g := by
  unfold boxS
  rw [← sumZ_add]
  exact sumZ_congr fun s => sumZ_add _ _ _
theorem boxS_congr {f g : Int → Int → Int} (h : ∀ x y, f x y = g x y) : boxS f = boxS g := by
  unfold boxS
  exact sumZ_congr fun s => sumZ_congr fun t => h _ _
theorem boxS_rect {r : R4} (h : In6 r.x0 ∧ In6 r.y0 ∧ In6 r.x1 ∧ In6 r.y1 ∧ r.x0 < r.x1 ∧ r.y0 < r.y1) : boxS (fun x y => if r.x0 ≤ x ∧ x < r.x1 ∧ r.y0 ≤ y ∧ y < r.y1 then 1 else 0) = (r.x1 - r.x0) * (r.y1 - r.y0) := by
  obtain ⟨h1, h2, h3, h4, h5, h6⟩ := h
  simp only [In6] at *
  unfold boxS
  have inner : ∀ s : Nat, sumZ 2000000 (fun t => if r.x0 ≤ -1000000 + (t : Int) ∧ -1000000 + (t : Int) < r.x1 ∧ r.y0 ≤ -1000000 + (s : Int) ∧ -1000000 + (s : Int) < r.y1 then (1 : Int) else 0) = if r.y0 ≤ -1000000 + (s : Int) ∧ -1000000 + (s : Int) < r.y1 then r.x1 - r.x0 else 0 := by
    intro s
    by_cases hs : r.y0 ≤ -1000000 + (s : Int) ∧ -1000000 + (s : Int) < r.y1
    · rw [if_pos hs]
      have e : (fun t : Nat => if r.x0 ≤ -1000000 + (t : Int) ∧ -1000000 + (t : Int) < r.x1 ∧ r.y0 ≤ -1000000 + (s : Int) ∧ -1000000 + (s : Int) < r.y1 then (1 : Int) else 0) = fun t : Nat => if r.x0 ≤ -1000000 + (t : Int) ∧ -1000000 + (t : Int) < r.x1 then (1 : Int) else 0 := by
        funext t
        by_cases ht : r.x0 ≤ -1000000 + (t : Int) ∧ -1000000 + (t : Int) < r.x1
        · rw [if_pos ht, if_pos ⟨ht.1, ht.2, hs.1, hs.2⟩]
        · rw [if_neg ht, if_neg (fun h => ht ⟨h.1, h.2.1⟩)]
      rw [e, sumZ_ind (-1000000) r.x0 r.x1 (by omega) (by omega) 1 2000000]
      omega
    · rw [if_neg hs]
      have e : (fun t : Nat => if r.x0 ≤ -1000000 + (t : Int) ∧ -1000000 + (t : Int) < r.x1 ∧ r.y0 ≤ -1000000 + (s : Int) ∧ -1000000 + (s : Int) < r.y1 then (1 : Int) else 0) = fun _ => 0 := by
        funext t
        rw [if_neg (fun h => hs ⟨h.2.2.1, h.2.2.2⟩)]
      rw [e, sumZ_zero]
  rw [sumZ_congr inner, sumZ_ind (-1000000) r.y0 r.y1 (by omega) (by omega) (r.x1 - r.x0) 2000000]
  rw [show min r.y1 (-1000000 + ((2000000 : Nat) : Int)) - min r.y0 (-1000000 + ((2000000 : Nat) : Int)) = r.y1 - r.y0 from by omega]
theorem boxS_zero : boxS (fun _ _ => 0) = 0 := by
  unfold boxS
  rw [sumZ_congr (fun s => sumZ_zero 2000000), sumZ_zero]
/-- An area is how often all squares are covered, together. -/
theorem area_sum {l : List R4} (h : ∀ r, r ∈ l → In6 r.x0 ∧ In6 r.y0 ∧ In6 r.x1 ∧ In6 r.y1 ∧ r.x0 < r.x1 ∧ r.y0 < r.y1) : areaL l = boxS (cntR l) := by
  induction l with
  | nil =>
    rw [show cntR [] = fun _ _ => 0 from funext fun x => funext fun y => Reg.cntR_nil x y, boxS_zero]
    rfl
  | cons r l ih =>
    rw [show cntR (r :: l) = fun x y => (if r.x0 ≤ x ∧ x < r.x1 ∧ r.y0 ≤ y ∧ y < r.y1 then (1 : Int) else 0) + cntR l x y from funext fun x => funext fun y => Reg.cntR_cons r l x y]
    rw [boxS_add, boxS_rect (h r (by simp)), ← ih (fun r' hr' => h r' (by simp [hr']))]
    simp [areaL]
theorem cntR_append (a b : List R4) (x y : Int) : cntR (a ++ b) x y = cntR a x y + cntR b x y := by simp [cntR]
theorem cnt_rects (b : Band) (x y : Int) : ∀ (sp : List Span) (z : Int), SepF z sp → cntR (sp.map fun s => (⟨s.1, b.lo, s.2, b.hi⟩ : R4)) x y ≤ 1 ∧ (x ≤ z → cntR (sp.map fun s => (⟨s.1, b.lo, s.2, b.hi⟩ : R4)) x y = 0)
  | [], z, _ => ⟨by simp [cntR], fun _ => by simp [cntR]⟩
  | s :: sp, z, h => by
    obtain ⟨h1, h2, h3⟩ := h
    obtain ⟨i1, i2⟩ := cnt_rects b x y sp s.2 h3
    rw [List.map_cons, Reg.cntR_cons]
    constructor
    · by_cases hc : s.1 ≤ x ∧ x < s.2 ∧ b.lo ≤ y ∧ y < b.hi
      · rw [if_pos hc, i2 (by omega)]; omega
      · rw [if_neg hc]; omega
    · intro hx
      rw [if_neg (by show ¬ (s.1 ≤ x ∧ x < s.2 ∧ b.lo ≤ y ∧ y < b.hi); omega), i2 (by omega)]
      rfl
theorem cnt_told {bs : List Band} (x y : Int) : ∀ {lo : Int} {p : List Span}, CanF lo p bs → cntR (told bs) x y ≤ 1 := by
  induction bs with
  | nil => intro lo p _; simp [told, cntR]
  | cons b bs ih =>
    rintro lo p ⟨h1, h2, h3, h4, ⟨z, h5⟩, h6⟩
    have e : told (b :: bs) = rectsOf b ++ told bs := by simp [told]
    rw [e, cntR_append]
    by_cases hy : b.lo ≤ y ∧ y < b.hi
    · have h0 : cntR (told bs) x y = 0 := cntR_zero_iff.2 fun hin => by
        have := Reg.CanF.ge h6 (Reg.inR_told.1 hin)
        omega
      have := (cnt_rects b x y b.sp z h5).1
      rw [h0]
      exact (by unfold rectsOf; omega)
    · have h0 : cntR (rectsOf b) x y = 0 := cntR_zero_iff.2 fun ⟨r, hr, hx⟩ => by
        simp only [rectsOf, List.mem_map] at hr
        obtain ⟨s, _, rfl⟩ := hr
        simp only [R4.has] at hx
        omega
      rw [h0]
      have := ih h6
      omega
open Classical in
theorem cnt_region {l : List R4} (h : regF l = 0) (x y : Int) : cntR l x y = if inR l x y then 1 else 0 := by
  obtain ⟨h0, h1⟩ := regF_zero.1 h
  obtain ⟨⟨z, hc⟩, _⟩ := Reg.bandsC_ok (good_of_rects h0).1
  have hle : cntR l x y ≤ 1 := by
    rw [h1]
    exact cnt_told x y hc
  have h3 := Reg.cntR_nonneg l x y
  by_cases hin : inR l x y
  · rw [if_pos hin]
    have := Reg.cntR_pos.2 hin
    omega
  · rw [if_neg hin]
    exact cntR_zero_iff.2 hin
theorem area_region {l : List R4} (h : regF l = 0) : areaL l = boxS (cntR l) := area_sum (rectsF_zero.1 (regF_zero.1 h).1).2
/-- The areas of a union and of what is in both are those of the two. -/
theorem area_or_and {a b u i : List R4} (ha : regF a = 0) (hb : regF b = 0) (hu : regF u = 0) (hi : regF i = 0) (eu : ∀ x y, inR u x y ↔ inR a x y ∨ inR b x y) (ei : ∀ x y, inR i x y ↔ inR a x y ∧ inR b x y) : areaL u + areaL i = areaL a + areaL b := by
  rw [area_region ha, area_region hb, area_region hu, area_region hi, ← boxS_add, ← boxS_add]
  refine boxS_congr fun x y => ?_
  rw [cnt_region ha, cnt_region hb, cnt_region hu, cnt_region hi]
  have e1 := eu x y
  have e2 := ei x y
  by_cases h1 : inR a x y <;> by_cases h2 : inR b x y <;> by_cases h3 : inR u x y <;> by_cases h4 : inR i x y <;> simp_all
/-- What is in one alone, and what is in both, make the one. -/
theorem area_not_and {a b m i : List R4} (ha : regF a = 0) (hm : regF m = 0) (hi : regF i = 0) (em : ∀ x y, inR m x y ↔ inR a x y ∧ ¬ inR b x y) (ei : ∀ x y, inR i x y ↔ inR a x y ∧ inR b x y) : areaL m + areaL i = areaL a := by
  rw [area_region ha, area_region hm, area_region hi, ← boxS_add]
  refine boxS_congr fun x y => ?_
  rw [cnt_region ha, cnt_region hm, cnt_region hi]
  have e1 := em x y
  have e2 := ei x y
  by_cases h1 : inR a x y <;> by_cases h2 : inR b x y <;> by_cases h3 : inR m x y <;> by_cases h4 : inR i x y <;> simp_all
/-- A right region is known by its squares. -/
theorem region_ext {a b : List R4} (ha : regF a = 0) (hb : regF b = 0) (h : ∀ x y, inR a x y ↔ inR b x y) : a = b := by
  obtain ⟨a0, a1⟩ := regF_zero.1 ha
  obtain ⟨b0, b1⟩ := regF_zero.1 hb
  rw [a1, b1]
  exact Reg.canon_unique (good_of_rects a0).1 (good_of_rects b0).1 h
theorem sweep_region {keep : Int → Int → Bool} (hk : keep 0 0 = false) {a b r : List R4} (ha : regF a = 0) (hb : regF b = 0) (hr : regF r = 0) (h : ∀ x y, Kept keep a b x y ↔ inR r x y) : sweepL keep a b = r := by
  obtain ⟨ga, -⟩ := good_of_rects (regF_zero.1 ha).1
  obtain ⟨gb, -⟩ := good_of_rects (regF_zero.1 hb).1
  obtain ⟨r0, r1⟩ := regF_zero.1 hr
  rw [Reg.sweepL_can hk ga gb, r1]
  exact Reg.canon_unique (Reg.sweepL_good hk ga gb) (good_of_rects r0).1 fun x y => (Reg.sweepL_inR hk ga gb x y).trans (h x y)
theorem st_region {keep : Int → Int → Bool} (hk : keep 0 0 = false) {a b r : List R4} (ha : regF a = 0) (hb : regF b = 0) (hr : regF r = 0) (h : ∀ x y, Kept keep a b x y ↔ inR r x y) : stL keep a b = r ∧ stF keep a b = 0 := by
  have e := sweep_region hk ha hb hr h
  have h0 : bothF a b = 0 := bothF_zero.2 ⟨ha, hb⟩
  have hl := (good_of_rects (regF_zero.1 hr).1).2
  unfold stL stF resL resF
  rw [if_pos h0, if_pos h0, e, if_pos hl, if_pos hl]
  exact ⟨rfl, rfl⟩
theorem reg_nil : regF [] = 0 := by decide
end Go.Proofs.Ytmcbjaefnhfopaa

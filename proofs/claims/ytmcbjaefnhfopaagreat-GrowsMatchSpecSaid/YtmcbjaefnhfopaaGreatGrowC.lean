/- Grow of package shape, whatever the world. -/
import Derived.Test.YtmcbjaefnhfopaaGreatGrowB
namespace Go.Proofs.YtmcbjaefnhfopaaGreat
open Go.RowKit Go.Shelf
open Reg (R4 inR canonL inFirstK sweepL)
set_option linter.unusedSimpArgs false
set_option linter.unusedVariables false

def Cov (m r : R4) : Prop := m.x0 ≤ r.x0 ∧ m.y0 ≤ r.y0 ∧ r.x1 ≤ m.x1 ∧ r.y1 ≤ m.y1
def InB (lo hi : Int) (m : R4) : Prop := lo ≤ m.x0 ∧ m.x0 ≤ hi ∧ lo ≤ m.y0 ∧ m.y0 ≤ hi ∧ lo ≤ m.x1 ∧ m.x1 ≤ hi ∧ lo ≤ m.y1 ∧ m.y1 ≤ hi
theorem join_cov (a b : R4) : Cov (joinR a b) a ∧ Cov (joinR a b) b := by
  simp only [Cov, joinR, minI, maxI]
  refine ⟨⟨?_, ?_, ?_, ?_⟩, ?_, ?_, ?_, ?_⟩ <;> split <;> omega
theorem join_in {lo hi : Int} {a b : R4} (ha : InB lo hi a) (hb : InB lo hi b) : InB lo hi (joinR a b) := by
  simp only [InB, joinR, minI, maxI] at ha hb ⊢
  refine ⟨?_, ?_, ?_, ?_, ?_, ?_, ?_, ?_⟩ <;> split <;> omega
theorem aroundF_ok {lo hi : Int} (t : List R4) : ∀ a : R4, InB lo hi a → (∀ r, r ∈ t → InB lo hi r) → InB lo hi (aroundF a t) ∧ Cov (aroundF a t) a ∧ ∀ r, r ∈ t → Cov (aroundF a t) r := by
  induction t with
  | nil => intro a h _; exact ⟨h, ⟨Int.le_refl _, Int.le_refl _, Int.le_refl _, Int.le_refl _⟩, fun r hr => by cases hr⟩
  | cons s t ih =>
    intro a h1 h2
    obtain ⟨i1, i2, i3⟩ := ih (joinR a s) (join_in h1 (h2 s (by simp))) fun r hr => h2 r (List.mem_cons_of_mem _ hr)
    obtain ⟨j1, j2⟩ := join_cov a s
    have tr : ∀ r, Cov (joinR a s) r → Cov (aroundF (joinR a s) t) r := fun r hr => by simp only [Cov] at *; omega
    refine ⟨i1, tr _ j1, fun r hr => ?_⟩
    rcases List.mem_cons.1 hr with rfl | hr
    · exact tr _ j2
    · exact i3 r hr
theorem around_ok {lo hi : Int} {l : List R4} (hpos : 0 < l.length) (h : ∀ r, r ∈ l → InB lo hi r) : InB lo hi (aroundR l) ∧ ∀ r, r ∈ l → Cov (aroundR l) r := by
  cases l with
  | nil => simp at hpos
  | cons a t =>
    obtain ⟨h1, _, h3⟩ := aroundF_ok (a :: t) a (h a (by simp)) h
    exact ⟨h1, h3⟩
/-- What Grow says. -/
def gwF (l : List R4) (n : Int) : Int := if chG l n = 0 then (if l = [] then 0 else if rectF (wideA n (aroundR l)) = 0 then resF (canonL (grownL n l)) else 1) else chG l n
def gwL (l : List R4) (n : Int) : List R4 := if chG l n = 0 then (if l = [] then [] else if rectF (wideA n (aroundR l)) = 0 then resL (canonL (grownL n l)) else []) else []

set_option maxRecDepth 100000 in
set_option maxHeartbeats 2000000 in
theorem grow_any (A : Option Addr) (l : List R4) (c : Nat) (n : Int) (w : World) (hl : l.length ≤ c) (hc : c ≤ maxLen) (hl2 : l.length ≤ 140737488355328) (h : Rd w A l) :
    Calls Tryz.prog 15 #[.slice A l.length c, .int .i64 n] w (GotRF w (gwL l n) (gwF l n)) := by
  have H0 := Lib.hid h
  have C1 := Lib.hid (checkGrow_any A l c n w hl hc hl2 h)
  unfold GotRF gwL gwF
  clear h
  by_cases h0 : chG l n = 0
  · rw [if_pos h0, if_pos h0]
    have hr : regF l = 0 ∧ 0 ≤ n ∧ n ≤ 100000 := by
      unfold chG at h0
      by_cases h1 : regF l = 0
      · rw [if_pos h1] at h0
        by_cases h2 : n < 0 ∨ 100000 < n
        · rw [if_pos h2] at h0; cases h0
        · exact ⟨h1, by omega, by omega⟩
      · rw [if_neg h1] at h0; exact absurd h0 h1
    obtain ⟨h1, hn0, hn1⟩ := hr
    rw [h0] at C1
    by_cases hnil : l = []
    · subst hnil
      rw [if_pos rfl, if_pos rfl]
      simp only [List.length_nil] at C1 ⊢
      clear h0 h1
      go_enter Tryz.func15, Tryz.ntmps15
      go_wp2_with fail
      refine C1.out.mono ?_
      rintro e w1 ⟨rfl, hb⟩
      have B1 := Lib.hid hb
      clear hb
      go_wp2_with fail
      go_ret2
      exact ⟨_, rfl, own_nilR _ _ _ _, B1.out⟩
    · rw [if_neg hnil, if_neg hnil]
      have hpos : 0 < l.length := by cases l with | nil => exact absurd rfl hnil | cons a t => simp
      obtain ⟨hg, h2000⟩ := good_of_rects (regF_zero.1 h1).1
      have hin6 := rect_in (regF_rects h1)
      obtain ⟨ain, -⟩ := around_ok (lo := -1000000) (hi := 1000000) hpos fun r hr => by
        have := hin6 r hr
        simp only [In6] at this
        simp only [InB]
        omega
      have C2 := Lib.hid (fun W h => around_any A l c W hpos hl2 h)
      have C3 := Lib.hid (fun W => widened_any (aroundR l) n W (by simp only [InB] at ain; omega) hn0 hn1)
      have C4 := Lib.hid (fun W => checkRect_any (wideA n (aroundR l)) W)
      have hin : ∀ x y, inR l x y → -1000001 ≤ x ∧ x < 1000001 ∧ -1000001 ≤ y ∧ y < 1000001 := fun x y hx => by
        obtain ⟨r, hr, h2⟩ := hx
        have := hin6 r hr
        simp only [In6] at this
        simp only [R4.has] at h2
        omega
      have C5 := Lib.hid (fun W h => grown_any A l c n W (by omega) hg hn0 hn1 hin (by have := wide_count (n := n) h1; omega) h)
      have gg := (grownL_ok hn0 hg).1
      have gc := grown_count hn0 h1
      have C6 := Lib.hid (fun A' c' W h => combine_any inFirstK 37 eg_inFirst (fun a b W => inFirst_any a b W) rfl A' none (grownL n l) [] c' 0 W (by simp; omega) gg (fun r hr => by simp at hr) h (fun hp => absurd hp (by simp)))
      rw [Reg.sweep_first gg] at C6
      simp only [List.length_nil] at C6
      unfold GotRF at C6
      unfold GotOwn at C5
      have hne : ((l.length : Int) == 0) = false := by rw [beq_eq_false_iff_ne]; omega
      clear h0 h1 hg hin6 ain hin gg gc hnil
      generalize resL (canonL (grownL n l)) = L at *
      generalize resF (canonL (grownL n l)) = F at *
      generalize grownL n l = G at *
      generalize aroundR l = ar at *
      obtain ⟨wa, hwa⟩ : ∃ wa, wa = wideA n ar := ⟨_, rfl⟩
      rw [← hwa] at C3 C4 ⊢
      clear hwa
      have K := Lib.hid (show True from trivial)
      by_cases hf : rectF wa = 0
      · rw [if_pos hf, if_pos hf]
        rw [hf] at C4
        clear hf
        go_enter Tryz.func15, Tryz.ntmps15
        go_wp2_with fail
        refine C1.out.mono ?_
        rintro e w1 ⟨rfl, hb⟩
        have B1 := Lib.hid hb
        clear hb
        go_wp2_with fail
        refine (C2.out w1 (H0.out.below B1.out)).mono ?_
        rintro e w2 ⟨rfl, hb⟩
        have B2 := Lib.hid (B1.out.trans (hb.mono B1.out.size))
        clear hb
        go_wp2_with fail
        refine (C3.out w2).mono ?_
        rintro e w3 ⟨rfl, hb⟩
        have B3 := Lib.hid (B2.out.trans (hb.mono B2.out.size))
        have z3 := B3.out.size
        clear hb
        go_wp2_with fail
        refine (C4.out _).mono ?_
        rintro e w4 ⟨rfl, hb⟩
        have B4 := Lib.hid (up (B := w.heap.size) (w := w) (B3.out.alloc z3 _) hb (by simp; omega))
        clear hb
        go_wp2_with fail
        refine (C5.out w4 (H0.out.below B4.out)).mono ?_
        rintro e w5 ⟨v, rfl, ho, hb⟩
        obtain ⟨A5, c5, rfl, -, -, hr5, -⟩ := rd_own ho
        have R5 := Lib.hid hr5
        have B5 := Lib.hid (B4.out.trans (hb.mono B4.out.size))
        clear ho hb hr5
        go_wp2_with fail
        refine (C6.out A5 c5 w5 R5.out).mono ?_
        rintro e w6 ⟨v6, rfl, ho, hb⟩
        have O6 := Lib.hid (own_mono ho B5.out.size)
        have B6 := Lib.hid (B5.out.trans (hb.mono B5.out.size))
        clear ho hb
        go_wp2_with fail
        go_ret2
        exact ⟨v6, rfl, O6.out, B6.out⟩
      · rw [if_neg hf, if_neg hf]
        have hd : (rectF wa == 0) = false := by simpa using hf
        have hd' : (rectF wa != 0) = true := by simpa using hf
        clear hf
        generalize rectF wa = E at *
        go_enter Tryz.func15, Tryz.ntmps15
        go_wp2_with fail
        refine C1.out.mono ?_
        rintro e w1 ⟨rfl, hb⟩
        have B1 := Lib.hid hb
        clear hb
        go_wp2_with fail
        refine (C2.out w1 (H0.out.below B1.out)).mono ?_
        rintro e w2 ⟨rfl, hb⟩
        have B2 := Lib.hid (B1.out.trans (hb.mono B1.out.size))
        clear hb
        go_wp2_with fail
        refine (C3.out w2).mono ?_
        rintro e w3 ⟨rfl, hb⟩
        have B3 := Lib.hid (B2.out.trans (hb.mono B2.out.size))
        have z3 := B3.out.size
        clear hb
        go_wp2_with fail
        refine (C4.out _).mono ?_
        rintro e w4 ⟨rfl, hb⟩
        have B4 := Lib.hid (up (B := w.heap.size) (w := w) (B3.out.alloc z3 _) hb (by simp; omega))
        clear hb
        go_wp2_with fail
        go_ret2
        exact ⟨_, rfl, own_nilR _ _ _ _, B4.out⟩
  · rw [if_neg h0, if_neg h0]
    have hd : (chG l n == 0) = false := by simpa using h0
    have hd' : (chG l n != 0) = true := by simpa using h0
    clear h0
    generalize chG l n = F at *
    go_enter Tryz.func15, Tryz.ntmps15
    go_wp2_with fail
    refine C1.out.mono ?_
    rintro e w1 ⟨rfl, hb⟩
    have B1 := Lib.hid hb
    clear hb
    go_wp2_with fail
    go_ret2
    exact ⟨_, rfl, own_nilR _ _ _ _, B1.out⟩
end Go.Proofs.YtmcbjaefnhfopaaGreat

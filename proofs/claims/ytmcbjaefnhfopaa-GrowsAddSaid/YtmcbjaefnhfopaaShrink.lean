/- Shrink of package shape, whatever the world. -/
import Derived.Test.YtmcbjaefnhfopaaOut
namespace Go.Proofs.Ytmcbjaefnhfopaa
open Go.RowKit Go.Shelf
open Reg (R4 inR canonL sweepL Kept)
set_option linter.unusedSimpArgs false
set_option linter.unusedVariables false

def shF (l : List R4) (n : Int) : Int := if chG l n = 0 then (if l = [] then 0 else resF (sweepL notK l (grownL n (outL l)))) else chG l n
def shL (l : List R4) (n : Int) : List R4 := if chG l n = 0 then (if l = [] then [] else resL (sweepL notK l (grownL n (outL l)))) else []
theorem chG_zero {l : List R4} {n : Int} (h0 : chG l n = 0) : regF l = 0 ∧ 0 ≤ n ∧ n ≤ 100000 := by
  unfold chG at h0
  by_cases h1 : regF l = 0
  · rw [if_pos h1] at h0
    by_cases h2 : n < 0 ∨ 100000 < n
    · rw [if_pos h2] at h0; cases h0
    · exact ⟨h1, by omega, by omega⟩
  · rw [if_neg h1] at h0; exact absurd h0 h1
theorem out_grown_count {n : Int} (hn : 0 ≤ n) {l : List R4} (h : regF l = 0) (hpos : 0 < l.length) : (canonL ((outL l).map (wideX n))).length ≤ 6 * l.length + 4 ∧ (grownL n (outL l)).length ≤ 6 * l.length + 4 := by
  obtain ⟨hb, hg⟩ := out_banded h hpos
  have hc := out_count h hpos
  have h1 := canon_count (banded_wide (n := n) hb)
  rw [List.length_map] at h1
  have g1 := wideX_good hn hg
  obtain ⟨-, p2, -⟩ := pileL_ok (canon_good g1) (starts_canon g1)
  rw [grownL, List.length_map]
  omega

set_option maxRecDepth 100000 in
set_option maxHeartbeats 2000000 in
theorem shrink_any (A : Option Addr) (l : List R4) (c : Nat) (n : Int) (w : World) (hl : l.length ≤ c) (hc : c ≤ maxLen) (hl2 : l.length ≤ 140737488355328) (h : Rd w A l) :
    Calls Try.prog 29 #[.slice A l.length c, .int .i64 n] w (GotRF w (shL l n) (shF l n)) := by
  have H0 := Lib.hid h
  have C1 := Lib.hid (checkGrow_any A l c n w hl hc hl2 h)
  unfold GotRF shL shF
  clear h
  by_cases h0 : chG l n = 0
  · rw [if_pos h0, if_pos h0]
    obtain ⟨h1, hn0, hn1⟩ := chG_zero h0
    rw [h0] at C1
    by_cases hnil : l = []
    · subst hnil
      rw [if_pos rfl, if_pos rfl]
      simp only [List.length_nil] at C1 ⊢
      clear h0 h1
      go_enter Try.func29, Try.ntmps29
      go_wp2_with fail
      refine C1.out.mono ?_
      rintro e w1 ⟨rfl, hb⟩
      have B1 := Lib.hid hb
      clear hb
      go_wp2_with fail
      go_ret2
      exact ⟨_, rfl, own_nilR _ _ _ _, B1.out⟩
    · rw [if_neg hnil, if_neg hnil]
      have hpos : 0 < l.length := by cases l with | nil => exact absurd rfl hnil | cons a t => simp
      obtain ⟨hg, h2000⟩ := good_of_rects (regF_zero.1 h1).1
      obtain ⟨ob, og⟩ := out_banded h1 hpos
      obtain ⟨ain, -, -⟩ := frame_ok h1 hpos
      have oc := out_count h1 hpos
      obtain ⟨k1, k2⟩ := out_grown_count hn0 h1 hpos
      have hin : ∀ x y, inR (outL l) x y → -1000001 ≤ x ∧ x < 1000001 ∧ -1000001 ≤ y ∧ y < 1000001 := fun x y hx => by
        have := ((out_inR h1 hpos x y).1 hx).1
        simp only [InB] at ain
        omega
      have C2 := Lib.hid (fun W h => outside_any A l c W h1 hpos h)
      have C5 := Lib.hid (fun A' c' W h => grown_any A' (outL l) c' n W (by omega) og hn0 hn1 hin (by omega) h)
      have gg := (grownL_ok hn0 og).1
      have C6 := Lib.hid (fun A' c' W h1 h2 => combine_any notK 47 eg_not (fun a b W => notK_any a b W) rfl A A' l (grownL n (outL l)) c c' W (by omega) hg gg h1 h2)
      unfold GotRF at C6
      unfold GotOwn at C5 C2
      have hne : ((l.length : Int) == 0) = false := by rw [beq_eq_false_iff_ne]; omega
      clear h0 h1 hg hin ain gg hnil ob og oc k1 k2
      generalize resL (sweepL notK l (grownL n (outL l))) = L at *
      generalize resF (sweepL notK l (grownL n (outL l))) = F at *
      generalize grownL n (outL l) = G at *
      generalize outL l = O at *
      go_enter Try.func29, Try.ntmps29
      go_wp2_with fail
      refine C1.out.mono ?_
      rintro e w1 ⟨rfl, hb⟩
      have B1 := Lib.hid hb
      clear hb
      go_wp2_with fail
      refine (C2.out w1 (H0.out.below B1.out)).mono ?_
      rintro e w2 ⟨v, rfl, ho, hb⟩
      obtain ⟨A2, c2, rfl, -, -, hr2, -⟩ := rd_own ho
      have R2 := Lib.hid hr2
      have B2 := Lib.hid (B1.out.trans (hb.mono B1.out.size))
      clear ho hb hr2
      go_wp2_with fail
      refine (C5.out A2 c2 w2 R2.out).mono ?_
      rintro e w5 ⟨v, rfl, ho, hb⟩
      obtain ⟨A5, c5, rfl, -, -, hr5, -⟩ := rd_own ho
      have R5 := Lib.hid hr5
      have B5 := Lib.hid (B2.out.trans (hb.mono B2.out.size))
      clear ho hb hr5
      go_wp2_with fail
      refine (C6.out A5 c5 w5 (H0.out.below B5.out) R5.out).mono ?_
      rintro e w6 ⟨v6, rfl, ho, hb⟩
      have O6 := Lib.hid (own_mono ho B5.out.size)
      have B6 := Lib.hid (B5.out.trans (hb.mono B5.out.size))
      clear ho hb
      go_wp2_with fail
      go_ret2
      exact ⟨v6, rfl, O6.out, B6.out⟩
  · rw [if_neg h0, if_neg h0]
    have hd : (chG l n == 0) = false := by simpa using h0
    have hd' : (chG l n != 0) = true := by simpa using h0
    clear h0
    generalize chG l n = F at *
    go_enter Try.func29, Try.ntmps29
    go_wp2_with fail
    refine C1.out.mono ?_
    rintro e w1 ⟨rfl, hb⟩
    have B1 := Lib.hid hb
    clear hb
    go_wp2_with fail
    go_ret2
    exact ⟨_, rfl, own_nilR _ _ _ _, B1.out⟩
end Go.Proofs.Ytmcbjaefnhfopaa

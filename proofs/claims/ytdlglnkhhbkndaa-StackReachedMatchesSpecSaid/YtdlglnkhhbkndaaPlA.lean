/- What package stack asks of a pile: whether kinds meet, how thick it is, whether it has its form, whatever the world. -/
import Derived.Test.YtdlglnkhhbkndaaPl
namespace Go.Proofs.Ytdlglnkhhbkndaa
open Go.RowKit
set_option linter.unusedSimpArgs false
set_option linter.unusedVariables false
set_option maxRecDepth 100000

theorem canMeet_any (a b : Int) (w : World) : Calls Try.prog 98 #[.int .i64 a, .int .i64 b] w fun e w' => e = .returned (.bool (meetB a b)) ∧ w' = w := by
  by_cases h1 : a = 1
  · subst h1
    by_cases h2 : b = 1
    · subst h2
      go_enter Try.func98, Try.ntmps98
      go_wp2_with fail
      go_ret
      exact ⟨by simp [meetB], rfl⟩
    · have hm : meetB 1 b = true := by simp [meetB]; omega
      have HM := Lib.hid hm
      have x1 : ((1 : Int) != b) = true := by simp; omega
      clear hm h2
      go_enter Try.func98, Try.ntmps98
      go_wp2_with fail
      go_ret
      exact ⟨by rw [HM.out]; rfl, rfl⟩
  · have d1 : (a == 1) = false := by simpa using h1
    by_cases h2 : b = 1
    · subst h2
      have hm : meetB a 1 = true := by simp [meetB]; omega
      have HM := Lib.hid hm
      have x1 : (a != 1) = true := by simpa using h1
      clear hm h1
      go_enter Try.func98, Try.ntmps98
      go_wp2_with fail
      go_ret
      exact ⟨by rw [HM.out]; rfl, rfl⟩
    · have d2 : (b == 1) = false := by simpa using h2
      have hm : meetB a b = (decide (a = 3) && decide (b = 3)) := by simp [meetB, h1, h2]
      have HM := Lib.hid hm
      clear hm h1 h2
      by_cases h3 : a = 3
      · have d3 : (a == 3) = true := by simpa using h3
        have HA := Lib.hid h3
        clear h3
        by_cases h4 : b = 3
        · have d4 : (b == 3) = true := by simpa using h4
          have HB := Lib.hid h4
          clear h4
          go_enter Try.func98, Try.ntmps98
          go_wp2_with fail
          go_ret
          exact ⟨by rw [HM.out]; simp [HA.out, HB.out], rfl⟩
        · have d4 : (b == 3) = false := by simpa using h4
          have HB := Lib.hid h4
          clear h4
          go_enter Try.func98, Try.ntmps98
          go_wp2_with fail
          go_ret
          exact ⟨by rw [HM.out]; simp [HA.out, HB.out], rfl⟩
      · have d3 : (a == 3) = false := by simpa using h3
        have HA := Lib.hid h3
        clear h3
        go_enter Try.func98, Try.ntmps98
        go_wp2_with fail
        go_ret
        exact ⟨by rw [HM.out]; simp [HA.out], rfl⟩

section
variable {base p q kn : Nat} {mv tv cv nv : Value} {f : Lit → Option Value} {ms : List Mat} {ts : List Int} {cs : List Nat} {ns : List ByteArray} {w : World}
/-- The thickness of all: the last one of the tops. -/
theorem thickness_any (h : PileG base p q kn mv tv cv nv f ms ts cs ns w) {n : Nat} {t : Int} (hn : ts.length = n + 1) (ht : ts[n]? = some t) (hs : n ≤ 1000) :
    Calls Try.prog 55 #[.pointer (some ⟨p, 0, none⟩)] w fun e w' => e = .returned (.int .i64 t) ∧ ∃ k, w' = w.drewN k := by
  obtain ⟨At, cp, hv, h1, h2, h3⟩ := own_cells h.t
  obtain ⟨g, rfl, hg, hgl, hc⟩ := h3 (by omega)
  have c1 : w.cell? ⟨p, 1, none⟩ = some tv := by rw [blk_cell h.b]; rfl
  have d1 := hc n _ (by rw [List.getElem?_map, ht]; rfl)
  rw [hn] at hv h1
  subst hv
  have h2' : cp ≤ 9223372036854775807 := h2
  have x1 : (n : Int) + 1 - 1 = n := by omega
  have x2 : (0 : Int) ≤ (n : Int) := by omega
  have x5 : IntKind.i64.wrap ((n : Int) + 1 - 1) = (n : Int) + 1 - 1 := IntWalk.i64_in _ (by omega)
  have x6 : IntKind.i64.wrap (n : Int) = (n : Int) := IntWalk.i64_in _ (by omega)
  clear h hc h2 hn ht h3
  go_enter Try.func55, Try.ntmps55
  go_wp2_with fail
  go_quiet (fail)
  go_wp2_with fail
  go_ret
  exact ⟨rfl, _, rfl⟩
/-- Whether a pile of n layers with coppers at these places has its form. -/
def formG (cs : List Nat) (n : Nat) : Bool := decide (2 ≤ cs.length) && (cs.head?.any (fun k => decide (k = 0)) && cs.getLast?.any (fun k => decide ((k : Int) = (n : Int) - 1)))
theorem hasForm_any (h : PileG base p q kn mv tv cv nv f ms ts cs ns w) (hc : cs.length ≤ 1000) (hm : ms.length ≤ 1000) :
    Calls Try.prog 89 #[.pointer (some ⟨p, 0, none⟩)] w fun e w' => e = .returned (.bool (formG cs ms.length)) ∧ ∃ k, w' = w.drewN k := by
  obtain ⟨Ac, cc, hv, h1, h2, h3⟩ := own_cells h.c
  obtain ⟨Am, cm, hvm, g1, g2, g3⟩ := own_cells h.m
  have c2 : w.cell? ⟨p, 2, none⟩ = some cv := by rw [blk_cell h.b]; rfl
  have c0 : w.cell? ⟨p, 0, none⟩ = some mv := by rw [blk_cell h.b]; rfl
  subst hv hvm
  have h2' : cc ≤ 9223372036854775807 := h2
  have g2' : cm ≤ 9223372036854775807 := g2
  by_cases hl : cs.length < 2
  · have HF := Lib.hid (show formG cs ms.length = false by unfold formG; rw [decide_eq_false (by omega)]; rfl)
    have d1 : decide ((1 : Int) ≤ (cs.length : Int) - 1) = false := by simp; omega
    clear h h2 g2 g3 h3
    go_enter Try.func89, Try.ntmps89
    go_wp2_with fail
    go_quiet (fail)
    go_wp2_with fail
    go_ret
    exact ⟨by rw [HF.out]; rfl, _, rfl⟩
  · obtain ⟨g, rfl, hg, hgl, hcs⟩ := h3 (by omega)
    have hi0 : 0 < cs.length := by omega
    have hi1 : cs.length - 1 < cs.length := by omega
    have e0 := hcs 0 (.int .i64 (cs[0] : Nat)) (by rw [List.getElem?_map, List.getElem?_eq_getElem hi0]; rfl)
    have e1 := hcs (cs.length - 1) (.int .i64 (cs[cs.length - 1] : Nat)) (by rw [List.getElem?_map, List.getElem?_eq_getElem hi1]; rfl)
    have HF := Lib.hid (show formG cs ms.length = (decide (cs[0] = 0) && decide ((cs[cs.length - 1] : Int) = (ms.length : Int) - 1)) by
      unfold formG
      rw [decide_eq_true (by omega), List.head?_eq_getElem?, List.getLast?_eq_getElem?, List.getElem?_eq_getElem hi0, List.getElem?_eq_getElem hi1]
      rfl)
    generalize cs[0] = k0 at *
    generalize cs[cs.length - 1] = k1 at *
    generalize hn : cs.length = n at *
    generalize hm' : ms.length = m at *
    have x4 : IntKind.i64.wrap ((m : Int) - 1) = (m : Int) - 1 := IntWalk.i64_in _ (by omega)
    have x5 : decide ((1 : Int) ≤ (n : Int) - 1) = true := by simp; omega
    have x7 : ((n : Int) - 1).toNat = n - 1 := by omega
    have x8 : (0 : Int) ≤ (n : Int) - 1 := by omega
    have x9 : (n : Int) - 1 < (n : Int) := by omega
    clear h h2 g2 g3 h3 hcs hi0 hi1 hn hm' hl
    by_cases hz : k0 = 0
    · subst hz
      have d2 : ((k1 : Int) == (m : Int) - 1) = decide ((k1 : Int) = (m : Int) - 1) := by rw [Bool.eq_iff_iff]; simp
      have HD := Lib.hid d2
      clear d2
      go_enter Try.func89, Try.ntmps89
      go_wp2_with fail
      go_quiet (fail)
      go_wp2_with fail
      go_ret
      exact ⟨by rw [HF.out, ← HD.out]; rfl, _, rfl⟩
    · have d2 : ((k0 : Int) == 0) = false := by simp; omega
      have HZ := Lib.hid hz
      clear hz
      go_enter Try.func89, Try.ntmps89
      go_wp2_with fail
      go_quiet (fail)
      go_wp2_with fail
      go_ret
      exact ⟨by rw [HF.out, decide_eq_false HZ.out]; rfl, _, rfl⟩
end
end Go.Proofs.Ytdlglnkhhbkndaa

/- Words: what the reference of chapter 4 says of them, whatever the world. -/
import Derived.Test.YtdlglnkhhbkndaaTWord
import Derived.Test.YtdlglnkhhbkndaaLaid
namespace Go.Proofs.Ytdlglnkhhbkndaa
open Go.RowKit
set_option linter.unusedSimpArgs false
set_option linter.unusedVariables false
set_option maxRecDepth 100000

theorem idx_neg (b : UInt8) : decide (Lib.indexByte [95, 43, 45, 35] b < 0) = !(decide (b.toNat = 95) || decide (b.toNat = 43) || decide (b.toNat = 45) || decide (b.toNat = 35)) := by
  by_cases h1 : b = 95
  · subst h1; decide
  · by_cases h2 : b = 43
    · subst h2; decide
    · by_cases h3 : b = 45
      · subst h3; decide
      · by_cases h4 : b = 35
        · subst h4; decide
        · have e : ∀ c : UInt8, ¬ b = c → ¬ b.toNat = c.toNat := fun c hc k => hc (UInt8.toNat_inj.1 k)
          have e1 := e 95 h1
          have e2 := e 43 h2
          have e3 := e 45 h3
          have e4 := e 35 h4
          have g1 : ((95 : UInt8) == b) = false := by simpa using fun k => h1 k.symm
          have g2 : ((43 : UInt8) == b) = false := by simpa using fun k => h2 k.symm
          have g3 : ((45 : UInt8) == b) = false := by simpa using fun k => h3 k.symm
          have g4 : ((35 : UInt8) == b) = false := by simpa using fun k => h4 k.symm
          have e1' : ¬ b.toNat = 95 := e1
          have e2' : ¬ b.toNat = 43 := e2
          have e3' : ¬ b.toNat = 45 := e3
          have e4' : ¬ b.toNat = 35 := e4
          simp [Lib.indexByte, g1, g2, g3, g4, e1', e2', e3', e4']
theorem withinR_any (n lo hi : Int) (w : World) : Calls Try.prog 59 #[.int .i64 n, .int .i64 lo, .int .i64 hi] w fun e w' => e = .returned (.bool (decide (lo ≤ n) && decide (n ≤ hi))) ∧ w' = w := by
  cases h1 : decide (lo ≤ n) <;> cases h2 : decide (n ≤ hi)
  all_goals
    go_enter Try.func59, Try.ntmps59
    go_wp2_with fail
    go_ret
    exact ⟨rfl, rfl⟩
theorem classes (n : Nat) : (n < 48 ∨ (57 < n ∧ n < 65) ∨ (90 < n ∧ n < 97) ∨ 122 < n) ∨ ((48 ≤ n ∧ n ≤ 57) ∨ (65 ≤ n ∧ n ≤ 90) ∨ (97 ≤ n ∧ n ≤ 122)) := by omega

set_option maxHeartbeats 4000000 in
theorem rIsWord_any (s : ByteArray) (w : World) (hs : s.size ≤ 9223372036854775807) : Calls Try.prog 58 #[.string s] w fun e w' => e = .returned (.bool (wordB s)) ∧ w' = w := by
  have CW := Lib.hid (fun W => withinR_any s.size 1 40 W)
  go_enter Try.func58, Try.ntmps58
  go_wp2_with fail
  go_loopw [7] (fun i wr => ∃ k : Nat, k ≤ s.size ∧ i = .int .i64 k ∧ (s.data.toList.take k).all (fun b => wbB b.toNat) = true ∧ wr = w) (fun i _ => s.size - (intOf i).toNat)
  case atStart => exact ⟨0, Nat.zero_le _, rfl, by simp, rfl⟩
  case round =>
    obtain ⟨k, hk, rfl, ha, rfl⟩ := hrel
    have HA := Lib.hid ha
    clear ha
    have hkz : (0 : Int) ≤ (k : Int) := by omega
    by_cases hlt : k < s.size
    · have hklt : (k : Int) < (s.size : Int) := by omega
      have hb : s.data.toList[k]? = some s[k] := by
        rw [Array.getElem?_toList, Array.getElem?_eq_getElem (show k < s.data.size from hlt)]
        rfl
      have CI := Lib.hid (fun W => Try.strings_IndexByte ⟨#[95, 43, 45, 35]⟩ (s[k].toNat : Int) W)
      have HN := Lib.hid (fun h => all_no (p := fun b => wbB b.toNat) hb h)
      have HT := Lib.hid (all_take (p := fun b => wbB b.toNat) hb)
      have hw : wordB s = (decide (1 ≤ s.size) && decide (s.size ≤ 40) && s.data.toList.all fun b => wbB b.toNat) := rfl
      have HWd := Lib.hid hw
      have HX := Lib.hid (idx_neg s[k])
      clear hb hw
      have e : (s[k].toNat : Int).toNat.toUInt8 = s[k] := by simp
      rw [e] at CI
      clear e
      simp only [show (⟨#[95, 43, 45, 35]⟩ : ByteArray).data.toList = [95, 43, 45, 35] from rfl] at CI
      generalize Lib.indexByte [95, 43, 45, 35] s[k] = v at *
      rcases classes s[k].toNat with (c | ⟨c1, c2⟩ | ⟨c1, c2⟩ | c) | (⟨c1, c2⟩ | ⟨c1, c2⟩ | ⟨c1, c2⟩)
      · cases hwb : wbB s[k].toNat
        · have hv : v < 0 := by
            have h4 := HX.out
            simp [wbB] at hwb
            obtain ⟨⟨⟨⟨_, h95⟩, h43⟩, h45⟩, h35⟩ := hwb
            rw [decide_eq_false h95, decide_eq_false h43, decide_eq_false h45, decide_eq_false h35] at h4
            exact of_decide_eq_true h4
          have HWB := Lib.hid hwb
          clear hwb
          have f0 : (s[k].toNat : Int) < 97 := by omega
          have f1 : (s[k].toNat : Int) < 65 := by omega
          have f2 : (s[k].toNat : Int) < 48 := by omega
          go_wp2_with fail
          refine (CI.out _).mono ?_
          rintro e w2 ⟨rfl, rfl⟩
          go_wp2_with fail
          go_ret
          exact ⟨by rw [HWd.out, HN.out HWB.out]; simp, rfl⟩
        · have hv : ¬ v < 0 := by
            have h4 := HX.out
            have h5 : s[k].toNat = 95 ∨ s[k].toNat = 43 ∨ s[k].toNat = 45 ∨ s[k].toNat = 35 := by simp [wbB] at hwb; omega
            rcases h5 with h5 | h5 | h5 | h5 <;> (rw [h5] at h4; exact of_decide_eq_false h4)
          have HWB := Lib.hid hwb
          clear hwb
          have f0 : (s[k].toNat : Int) < 97 := by omega
          have f1 : (s[k].toNat : Int) < 65 := by omega
          have f2 : (s[k].toNat : Int) < 48 := by omega
          go_wp2_with fail
          refine (CI.out _).mono ?_
          rintro e w2 ⟨rfl, rfl⟩
          go_wp2_with fail
          go_roundw
          case rel => exact ⟨k + 1, by omega, by go_num, by rw [HT.out, HA.out, HWB.out]; rfl, by first | rfl | trivial⟩
          case measure => simp [intOf]; omega
      · cases hwb : wbB s[k].toNat
        · have hv : v < 0 := by
            have h4 := HX.out
            simp [wbB] at hwb
            obtain ⟨⟨⟨⟨_, h95⟩, h43⟩, h45⟩, h35⟩ := hwb
            rw [decide_eq_false h95, decide_eq_false h43, decide_eq_false h45, decide_eq_false h35] at h4
            exact of_decide_eq_true h4
          have HWB := Lib.hid hwb
          clear hwb
          have f0 : (s[k].toNat : Int) < 97 := by omega
          have f1 : (s[k].toNat : Int) < 65 := by omega
          have f2 : ¬ (s[k].toNat : Int) < 48 := by omega
          have f3 : (57 : Int) < (s[k].toNat : Int) := by omega
          go_wp2_with fail
          refine (CI.out _).mono ?_
          rintro e w2 ⟨rfl, rfl⟩
          go_wp2_with fail
          go_ret
          exact ⟨by rw [HWd.out, HN.out HWB.out]; simp, rfl⟩
        · have hv : ¬ v < 0 := by
            have h4 := HX.out
            have h5 : s[k].toNat = 95 ∨ s[k].toNat = 43 ∨ s[k].toNat = 45 ∨ s[k].toNat = 35 := by simp [wbB] at hwb; omega
            rcases h5 with h5 | h5 | h5 | h5 <;> (rw [h5] at h4; exact of_decide_eq_false h4)
          have HWB := Lib.hid hwb
          clear hwb
          have f0 : (s[k].toNat : Int) < 97 := by omega
          have f1 : (s[k].toNat : Int) < 65 := by omega
          have f2 : ¬ (s[k].toNat : Int) < 48 := by omega
          have f3 : (57 : Int) < (s[k].toNat : Int) := by omega
          go_wp2_with fail
          refine (CI.out _).mono ?_
          rintro e w2 ⟨rfl, rfl⟩
          go_wp2_with fail
          go_roundw
          case rel => exact ⟨k + 1, by omega, by go_num, by rw [HT.out, HA.out, HWB.out]; rfl, by first | rfl | trivial⟩
          case measure => simp [intOf]; omega
      · cases hwb : wbB s[k].toNat
        · have hv : v < 0 := by
            have h4 := HX.out
            simp [wbB] at hwb
            obtain ⟨⟨⟨⟨_, h95⟩, h43⟩, h45⟩, h35⟩ := hwb
            rw [decide_eq_false h95, decide_eq_false h43, decide_eq_false h45, decide_eq_false h35] at h4
            exact of_decide_eq_true h4
          have HWB := Lib.hid hwb
          clear hwb
          have f0 : (s[k].toNat : Int) < 97 := by omega
          have f1 : ¬ (s[k].toNat : Int) < 65 := by omega
          have f2 : (90 : Int) < (s[k].toNat : Int) := by omega
          have f3 : ¬ (s[k].toNat : Int) < 48 := by omega
          have f4 : (57 : Int) < (s[k].toNat : Int) := by omega
          go_wp2_with fail
          refine (CI.out _).mono ?_
          rintro e w2 ⟨rfl, rfl⟩
          go_wp2_with fail
          go_ret
          exact ⟨by rw [HWd.out, HN.out HWB.out]; simp, rfl⟩
        · have hv : ¬ v < 0 := by
            have h4 := HX.out
            have h5 : s[k].toNat = 95 ∨ s[k].toNat = 43 ∨ s[k].toNat = 45 ∨ s[k].toNat = 35 := by simp [wbB] at hwb; omega
            rcases h5 with h5 | h5 | h5 | h5 <;> (rw [h5] at h4; exact of_decide_eq_false h4)
          have HWB := Lib.hid hwb
          clear hwb
          have f0 : (s[k].toNat : Int) < 97 := by omega
          have f1 : ¬ (s[k].toNat : Int) < 65 := by omega
          have f2 : (90 : Int) < (s[k].toNat : Int) := by omega
          have f3 : ¬ (s[k].toNat : Int) < 48 := by omega
          have f4 : (57 : Int) < (s[k].toNat : Int) := by omega
          go_wp2_with fail
          refine (CI.out _).mono ?_
          rintro e w2 ⟨rfl, rfl⟩
          go_wp2_with fail
          go_roundw
          case rel => exact ⟨k + 1, by omega, by go_num, by rw [HT.out, HA.out, HWB.out]; rfl, by first | rfl | trivial⟩
          case measure => simp [intOf]; omega
      · cases hwb : wbB s[k].toNat
        · have hv : v < 0 := by
            have h4 := HX.out
            simp [wbB] at hwb
            obtain ⟨⟨⟨⟨_, h95⟩, h43⟩, h45⟩, h35⟩ := hwb
            rw [decide_eq_false h95, decide_eq_false h43, decide_eq_false h45, decide_eq_false h35] at h4
            exact of_decide_eq_true h4
          have HWB := Lib.hid hwb
          clear hwb
          have f0 : ¬ (s[k].toNat : Int) < 97 := by omega
          have f1 : (122 : Int) < (s[k].toNat : Int) := by omega
          have f2 : ¬ (s[k].toNat : Int) < 65 := by omega
          have f3 : (90 : Int) < (s[k].toNat : Int) := by omega
          have f4 : ¬ (s[k].toNat : Int) < 48 := by omega
          have f5 : (57 : Int) < (s[k].toNat : Int) := by omega
          go_wp2_with fail
          refine (CI.out _).mono ?_
          rintro e w2 ⟨rfl, rfl⟩
          go_wp2_with fail
          go_ret
          exact ⟨by rw [HWd.out, HN.out HWB.out]; simp, rfl⟩
        · have hv : ¬ v < 0 := by
            have h4 := HX.out
            have h5 : s[k].toNat = 95 ∨ s[k].toNat = 43 ∨ s[k].toNat = 45 ∨ s[k].toNat = 35 := by simp [wbB] at hwb; omega
            rcases h5 with h5 | h5 | h5 | h5 <;> (rw [h5] at h4; exact of_decide_eq_false h4)
          have HWB := Lib.hid hwb
          clear hwb
          have f0 : ¬ (s[k].toNat : Int) < 97 := by omega
          have f1 : (122 : Int) < (s[k].toNat : Int) := by omega
          have f2 : ¬ (s[k].toNat : Int) < 65 := by omega
          have f3 : (90 : Int) < (s[k].toNat : Int) := by omega
          have f4 : ¬ (s[k].toNat : Int) < 48 := by omega
          have f5 : (57 : Int) < (s[k].toNat : Int) := by omega
          go_wp2_with fail
          refine (CI.out _).mono ?_
          rintro e w2 ⟨rfl, rfl⟩
          go_wp2_with fail
          go_roundw
          case rel => exact ⟨k + 1, by omega, by go_num, by rw [HT.out, HA.out, HWB.out]; rfl, by first | rfl | trivial⟩
          case measure => simp [intOf]; omega
      · have hwb : wbB s[k].toNat = true := by simp [wbB]; omega
        have HWB := Lib.hid hwb
        clear hwb
        have f0 : (s[k].toNat : Int) < 97 := by omega
        have f1 : (s[k].toNat : Int) < 65 := by omega
        have f2 : ¬ (s[k].toNat : Int) < 48 := by omega
        have f3 : ¬ (57 : Int) < (s[k].toNat : Int) := by omega
        go_wp2_with fail
        go_roundw
        case rel => exact ⟨k + 1, by omega, by go_num, by rw [HT.out, HA.out, HWB.out]; rfl, by first | rfl | trivial⟩
        case measure => simp [intOf]; omega
      · have hwb : wbB s[k].toNat = true := by simp [wbB]; omega
        have HWB := Lib.hid hwb
        clear hwb
        have f0 : (s[k].toNat : Int) < 97 := by omega
        have f1 : ¬ (s[k].toNat : Int) < 65 := by omega
        have f2 : ¬ (90 : Int) < (s[k].toNat : Int) := by omega
        go_wp2_with fail
        go_roundw
        case rel => exact ⟨k + 1, by omega, by go_num, by rw [HT.out, HA.out, HWB.out]; rfl, by first | rfl | trivial⟩
        case measure => simp [intOf]; omega
      · have hwb : wbB s[k].toNat = true := by simp [wbB]; omega
        have HWB := Lib.hid hwb
        clear hwb
        have f0 : ¬ (s[k].toNat : Int) < 97 := by omega
        have f1 : ¬ (122 : Int) < (s[k].toNat : Int) := by omega
        go_wp2_with fail
        go_roundw
        case rel => exact ⟨k + 1, by omega, by go_num, by rw [HT.out, HA.out, HWB.out]; rfl, by first | rfl | trivial⟩
        case measure => simp [intOf]; omega
    · obtain rfl : k = s.size := by omega
      go_wp2_with fail
      refine (CW.out _).mono ?_
      rintro e w2 ⟨rfl, rfl⟩
      go_wp2_with fail
      go_ret
      refine ⟨?_, rfl⟩
      have h3 := HA.out
      rw [List.take_of_length_le (by rw [Array.length_toList]; exact Nat.le_refl _)] at h3
      unfold wordB
      rw [h3, Bool.and_true]
      refine congrArg (fun b => Ending.returned (.bool b)) ?_
      rw [Bool.eq_iff_iff]
      simp
      omega
end Go.Proofs.Ytdlglnkhhbkndaa

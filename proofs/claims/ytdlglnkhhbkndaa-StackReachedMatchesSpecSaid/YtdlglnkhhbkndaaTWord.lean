/- Words: what package texts says of them, whatever the world. -/
import Derived.Test.YtdlglnkhhbkndaaBas
namespace Go.Proofs.Ytdlglnkhhbkndaa
open Go.RowKit
set_option linter.unusedSimpArgs false
set_option linter.unusedVariables false
set_option maxRecDepth 100000

/-- A byte that a word can have. -/
def wbB (n : Nat) : Bool := (decide (65 ≤ n) && decide (n ≤ 90)) || (decide (97 ≤ n) && decide (n ≤ 122)) || (decide (48 ≤ n) && decide (n ≤ 57)) || decide (n = 95) || decide (n = 43) || decide (n = 45) || decide (n = 35)
def wordB (s : ByteArray) : Bool := decide (1 ≤ s.size) && decide (s.size ≤ 40) && s.data.toList.all fun b => wbB b.toNat

theorem isDigit_any (n : Nat) (w : World) : Calls Try.prog 99 #[.int .u8 (n : Int)] w fun e w' => e = .returned (.bool (decide (48 ≤ n) && decide (n ≤ 57))) ∧ w' = w := by
  go_enter Try.func99, Try.ntmps99
  go_wp2_with fail
  all_goals
    go_ret
    refine ⟨congrArg (fun b => Ending.returned (.bool b)) ?_, rfl⟩
    rw [Bool.eq_iff_iff]
    (try simp only [decide_eq_true_eq, decide_eq_false_iff_not, Bool.and_eq_true, Bool.not_eq_true] at *)
    (try simp)
    omega
set_option maxHeartbeats 2000000 in
theorem isWordByte_any (n : Nat) (w : World) : Calls Try.prog 90 #[.int .u8 (n : Int)] w fun e w' => e = .returned (.bool (wbB n)) ∧ w' = w := by
  cases hd : decide (48 ≤ n) && decide (n ≤ 57)
  all_goals
    have CD := Lib.hid (fun W => hd ▸ isDigit_any n W)
    have HD := Lib.hid hd
    clear hd
    go_enter Try.func90, Try.ntmps90
    go_wp2_with (go_at_call 99; refine (CD.out _).mono ?_; rintro e w2 ⟨rfl, rfl⟩)
    all_goals
      go_ret
      refine ⟨congrArg (fun b => Ending.returned (.bool b)) ?_, rfl⟩
      have hd := HD.out
      clear HD CD
      rw [Bool.eq_iff_iff]
      (try simp only [decide_eq_true_eq, decide_eq_false_iff_not, Bool.and_eq_true, Bool.not_eq_true, Bool.and_eq_false_iff] at *)
      simp [wbB]
      omega
theorem all_take {l : List UInt8} {p : UInt8 → Bool} {k : Nat} {b : UInt8} (h : l[k]? = some b) : (l.take (k + 1)).all p = ((l.take k).all p && p b) := by
  rw [List.take_add_one, h, List.all_append]
  simp
theorem all_no {l : List UInt8} {p : UInt8 → Bool} {k : Nat} {b : UInt8} (h : l[k]? = some b) (hp : p b = false) : l.all p = false := by
  rw [List.all_eq_false]
  exact ⟨b, List.mem_of_getElem? h, by simp [hp]⟩

set_option maxHeartbeats 2000000 in
theorem isWord_any (s : ByteArray) (w : World) : Calls Try.prog 57 #[.string s] w fun e w' => e = .returned (.bool (wordB s)) ∧ w' = w := by
  by_cases h1 : s.size < 1
  · have hw : wordB s = false := by simp [wordB]; omega
    have HW := Lib.hid hw
    clear hw
    have h1' : (s.size : Int) < 1 := by omega
    go_enter Try.func57, Try.ntmps57
    go_wp2_with fail
    go_ret
    exact ⟨by rw [HW.out]; rfl, rfl⟩
  · by_cases h2 : 40 < s.size
    · have hw : wordB s = false := by simp [wordB]; omega
      have HW := Lib.hid hw
      clear hw
      have h1' : ¬ (s.size : Int) < 1 := by omega
      have h2' : (40 : Int) < (s.size : Int) := by omega
      go_enter Try.func57, Try.ntmps57
      go_wp2_with fail
      go_ret
      exact ⟨by rw [HW.out]; rfl, rfl⟩
    · have h1' : ¬ (s.size : Int) < 1 := by omega
      have h2' : ¬ (40 : Int) < (s.size : Int) := by omega
      have hw : wordB s = s.data.toList.all fun b => wbB b.toNat := by simp [wordB]; omega
      have HW := Lib.hid hw
      clear hw
      go_enter Try.func57, Try.ntmps57
      go_wp2_with fail
      go_loopw [14] (fun i wr => ∃ k : Nat, k ≤ s.size ∧ i = .int .i64 k ∧ (s.data.toList.take k).all (fun b => wbB b.toNat) = true ∧ wr = w) (fun i _ => s.size - (intOf i).toNat)
      case atStart => exact ⟨0, Nat.zero_le _, rfl, by simp, rfl⟩
      case round =>
        obtain ⟨k, hk, rfl, ha, rfl⟩ := hrel
        have HA := Lib.hid ha
        clear ha
        have hkz : (0 : Int) ≤ (k : Int) := by omega
        by_cases hlt : k < s.size
        · have hklt : (k : Int) < (s.size : Int) := by omega
          have hb : s.data.toList[k]? = some s[k] := by
            rw [Array.getElem?_toList, Array.getElem?_eq_getElem (show k < s.data.size from hlt)]
            rfl
          cases hwb : wbB s[k].toNat
          · have CB := Lib.hid (fun W => hwb ▸ isWordByte_any s[k].toNat W)
            have HN := Lib.hid (all_no (p := fun b => wbB b.toNat) hb hwb)
            clear hwb hb
            go_wp2_with fail
            refine (CB.out _).mono ?_
            rintro e w2 ⟨rfl, rfl⟩
            go_wp2_with fail
            go_ret
            exact ⟨by rw [HW.out, HN.out]; rfl, rfl⟩
          · have CB := Lib.hid (fun W => hwb ▸ isWordByte_any s[k].toNat W)
            have HT := Lib.hid (all_take (p := fun b => wbB b.toNat) hb)
            have HWb := Lib.hid hwb
            clear hwb hb
            go_wp2_with fail
            refine (CB.out _).mono ?_
            rintro e w2 ⟨rfl, rfl⟩
            go_wp2_with fail
            go_roundw
            case rel => exact ⟨k + 1, by omega, by go_num, by rw [HT.out, HA.out, HWb.out]; rfl, by first | rfl | trivial⟩
            case measure => simp [intOf]; omega
        · obtain rfl : k = s.size := by omega
          go_wp2_with fail
          go_ret
          refine ⟨?_, rfl⟩
          rw [HW.out]
          have h3 := HA.out
          rw [List.take_of_length_le (by rw [Array.length_toList]; exact Nat.le_refl _)] at h3
          rw [h3]
          rfl
end Go.Proofs.Ytdlglnkhhbkndaa

/- Whether a copper lies in one of the sub-boards of a list (slices.ContainsFunc by the closure of hasLoose), whatever the world. -/
import Derived.Test.YtnjcahdelcdcfaaHolds
import Derived.Test.YtnjcahdelcdcfaaOpn
namespace Go.Proofs.Ytnjcahdelcdcfaa
open Go.RowKit Go.Maps Go.Sort
set_option linter.unusedSimpArgs false
set_option linter.unusedVariables false
set_option maxRecDepth 100000

set_option maxHeartbeats 4000000 in
theorem indexHolds_any (A : Option Addr) (l : List Bq) (c : Nat) (y : Bq) (pb pc : Nat) (k : Int) (w : World) (hl : l.length ≤ 140737488355328) (H : RdG 4 Bq.cs w A l) (hok : ∀ x ∈ l, okQ x) (hy : okQ y) (h0 : w.cell? ⟨pb, 0, none⟩ = some (.int .i64 y.a)) (h1 : w.cell? ⟨pb, 1, none⟩ = some (.int .i64 y.b)) (h2 : w.cell? ⟨pb, 2, none⟩ = some (.bool y.c)) (h3 : w.cell? ⟨pb, 3, none⟩ = some y.h) (h4 : w.cell? ⟨pc, 0, none⟩ = some (.int .i64 k)) :
    Calls Try.prog 135 #[.slice A l.length c, .func (.func 118) #[] #[.pointer (some ⟨pb, 0, none⟩), .pointer (some ⟨pc, 0, none⟩)]] w fun e w' => ∃ r : Int, e = .returned (.int .i64 r) ∧ decide (0 ≤ r) = l.any (fun x => holdQ x y k) ∧ ∃ q os', w' = grow (w.drewN q) os' := by
  have HH := Lib.hid H
  have HY := Lib.hid hy
  have HOK := Lib.hid hok
  have HC := Lib.hid (show _ ∧ _ ∧ _ ∧ _ ∧ _ from ⟨h0, h1, h2, h3, h4⟩)
  clear H hy hok h0 h1 h2 h3 h4
  go_enter Try.func135, Try.ntmps135
  go_wp2_with fail
  go_loopw [8] (fun i wr => ∃ j : Nat, j ≤ l.length ∧ i = .int .i64 j ∧ l.any (fun x => holdQ x y k) = (l.drop j).any (fun x => holdQ x y k) ∧ ∃ q os, wr = grow (w.drewN q) os) (fun i _ => l.length - (intOf i).toNat)
  case atStart => exact ⟨0, Nat.zero_le _, rfl, rfl, 0, #[], (grow_empty _).symm⟩
  case round =>
    obtain ⟨j, hj, rfl, ha, hw⟩ := hrel
    have HA := Lib.hid ha
    have HW := Lib.hid hw
    clear ha hw
    have hkz : (0 : Int) ≤ (j : Int) := by omega
    by_cases hlt : j < l.length
    · obtain ⟨b, off, rfl, hblt, hcs⟩ := HH.out (by omega)
      have hi : l[j]? = some l[j] := List.getElem?_eq_getElem hlt
      have c0 := keep_ex HW.out (by simpa using hcs j _ hi 0 _ rfl)
      have c1 := keep_ex HW.out (hcs j _ hi 1 _ rfl)
      have c2 := keep_ex HW.out (hcs j _ hi 2 _ rfl)
      have c3 := keep_ex HW.out (hcs j _ hi 3 _ rfl)
      have hxo := HOK.out _ (List.getElem_mem hlt)
      have HD := Lib.hid (show (l.drop j).any (fun x => holdQ x y k) = (holdQ l[j] y k || (l.drop (j + 1)).any (fun x => holdQ x y k)) by rw [List.drop_eq_getElem_cons hlt, List.any_cons])
      clear hcs hi
      generalize l[j] = x at *
      have CB := Lib.hid (holds_any x y hxo HY.out pb pc k wr (keep_ex HW.out HC.out.1) (keep_ex HW.out HC.out.2.1) (keep_ex HW.out HC.out.2.2.1) (keep_ex HW.out HC.out.2.2.2.1) (keep_ex HW.out HC.out.2.2.2.2))
      clear hxo
      cases hh : holdQ x y k
      · rw [hh] at CB HD
        go_wp2_with (first | (go_at_call 118; refine CB.out.mono ?_; rintro e w1 ⟨rfl, hw1⟩))
        go_roundw
        case rel => exact ⟨j + 1, by omega, by go_num, by rw [HA.out, HD.out, Bool.false_or], gw_trans HW.out hw1⟩
        case measure => simp [intOf]; omega
      · rw [hh] at CB HD
        go_wp2_with (first | (go_at_call 118; refine CB.out.mono ?_; rintro e w1 ⟨rfl, hw1⟩))
        go_ret
        exact ⟨j, rfl, by rw [HA.out, HD.out, Bool.true_or]; simp, gw_trans HW.out hw1⟩
    · obtain rfl : j = l.length := by omega
      go_wp2_with fail
      go_ret
      exact ⟨-1, rfl, by rw [HA.out, List.drop_length]; rfl, HW.out⟩
end Go.Proofs.Ytnjcahdelcdcfaa

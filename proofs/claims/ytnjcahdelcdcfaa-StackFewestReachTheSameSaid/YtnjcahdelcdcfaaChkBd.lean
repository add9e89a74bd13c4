/- Whether all sub-boards can be made (checkBoards), whatever the world. -/
import Derived.Test.YtnjcahdelcdcfaaLoose
namespace Go.Proofs.Ytnjcahdelcdcfaa
open Go.RowKit Go.Maps Go.Sort
set_option linter.unusedSimpArgs false
set_option linter.unusedVariables false
set_option maxRecDepth 100000

def pairF : List Bq → List Bq → Bool
  | _, [] => false
  | P, x :: l => P.any (fun z => clashQ x z) || pairF (P ++ [x]) l
def madeF (l : List Bq) : Int := if pairF [] l then 12 else if l.any (fun x => looseQ x l) then 11 else 0
set_option maxHeartbeats 4000000 in
theorem checkBoards_any (A : Option Addr) (l : List Bq) (c : Nat) (w : World) (hl : l.length ≤ 140737488355328) (hc : l.length ≤ c) (hc2 : c ≤ 9223372036854775807) (H : RdG 4 Bq.cs w A l) (hok : ∀ z ∈ l, okQ z) (hsl : ∀ z ∈ l, ∃ A n c, z.h = .slice A n c) :
    Calls Try.prog 95 #[.slice A l.length c] w fun e w' => e = .returned (.int .i64 (madeF l)) ∧ Below w.heap.size w w' := by
  have HH := Lib.hid H
  have HOK := Lib.hid hok
  have HSL := Lib.hid hsl
  clear H hok hsl
  go_enter Try.func95, Try.ntmps95
  go_wp2_with fail
  go_loopw [11] (fun i wr => ∃ k : Nat, k ≤ l.length ∧ i = .int .i64 k ∧ pairF [] l = pairF (l.take k) (l.drop k) ∧ Below w.heap.size w wr) (fun i _ => l.length - (intOf i).toNat)
  case atStart => exact ⟨0, Nat.zero_le _, rfl, rfl, Below.refl _ _⟩
  case round =>
    obtain ⟨k, hk, rfl, hf, hw⟩ := hrel
    have HF := Lib.hid hf
    have HWr := Lib.hid hw
    have zw := hw.size
    clear hf
    have hkz : (0 : Int) ≤ (k : Int) := by omega
    by_cases hlt : k < l.length
    · have HHr := Lib.hid (HH.out.below hw)
      obtain ⟨b, off, rfl, hblt, hcs⟩ := HHr.out (by omega)
      have hi : l[k]? = some l[k] := List.getElem?_eq_getElem hlt
      have c0 := by simpa using hcs k _ hi 0 _ rfl
      have c1 := hcs k _ hi 1 _ rfl
      have c2 := hcs k _ hi 2 _ rfl
      have c3 := hcs k _ hi 3 _ rfl
      have hd : l.drop k = l[k] :: l.drop (k + 1) := List.drop_eq_getElem_cons hlt
      have ht : l.take (k + 1) = l.take k ++ [l[k]] := by rw [List.take_add_one, hi]; rfl
      have HP := Lib.hid (show pairF [] l = ((l.take k).any (fun z => clashQ l[k] z) || pairF (l.take (k + 1)) (l.drop (k + 1))) by rw [HF.out, hd, pairF, ht])
      have hkc : k ≤ c := by omega
      have HCS := Lib.hid hcs
      obtain ⟨A9, n9, c9, e9⟩ := HSL.out _ (List.getElem_mem hlt)
      clear hd ht hi hw hcs
      generalize l[k] = x at *
      rw [e9] at c3
      have HE9 := Lib.hid e9
      clear e9
      go_wp2_with fail
      obtain ⟨w8, rfl⟩ : ∃ w8, w8 = wr := ⟨wr, rfl⟩
      go_loopw [20] (fun i wx => ∃ j : Nat, j ≤ k ∧ i = .int .i64 j ∧ (l.take k).any (fun z => clashQ x z) = ((l.take k).drop j).any (fun z => clashQ x z) ∧ Below (w8.heap.size + 1) (w8.alloc (.cells #[.int .i64 x.a, .int .i64 x.b, .bool x.c, .slice A9 n9 c9] 62)) wx) (fun i _ => k - (intOf i).toNat)
      case atStart => exact ⟨0, Nat.zero_le _, rfl, rfl, Below.refl _ _⟩
      case round =>
        obtain ⟨j, hj, rfl, ha, hw⟩ := hrel
        have HA := Lib.hid ha
        have HW := Lib.hid hw
        have zx : w8.heap.size + 1 ≤ wr.heap.size := by simpa using hw.size
        clear ha
        have hjz : (0 : Int) ≤ (j : Int) := by omega
        have b0 : wr.cell? ⟨w8.heap.size, 0, none⟩ = some (.int .i64 x.a) := (hw.cell (p := ⟨w8.heap.size, 0, none⟩) (Nat.lt_succ_self _)).trans (alloc_new_cell w8 _ _ 0 rfl)
        have b1 : wr.cell? ⟨w8.heap.size, 1, none⟩ = some (.int .i64 x.b) := (hw.cell (p := ⟨w8.heap.size, 1, none⟩) (Nat.lt_succ_self _)).trans (alloc_new_cell w8 _ _ 1 rfl)
        have b2 : wr.cell? ⟨w8.heap.size, 2, none⟩ = some (.bool x.c) := (hw.cell (p := ⟨w8.heap.size, 2, none⟩) (Nat.lt_succ_self _)).trans (alloc_new_cell w8 _ _ 2 rfl)
        have b3 : wr.cell? ⟨w8.heap.size, 3, none⟩ = some (.slice A9 n9 c9) := (hw.cell (p := ⟨w8.heap.size, 3, none⟩) (Nat.lt_succ_self _)).trans (alloc_new_cell w8 _ _ 3 rfl)
        have v0 := fun o => keep_cell b0 o
        have v1 := fun o => keep_cell b1 o
        have v2 := fun o => keep_cell b2 o
        have v3 := fun o => keep_cell b3 o
        have HBW := Lib.hid ((HWr.out.alloc HWr.out.size (.cells #[.int .i64 x.a, .int .i64 x.b, .bool x.c, .slice A9 n9 c9] 62)).trans (HW.out.mono (Nat.le_succ_of_le HWr.out.size)))
        by_cases hjk : j < k
        · have hjl : j < l.length := by omega
          have hi : l[j]? = some l[j] := List.getElem?_eq_getElem hjl
          have up := fun (o : Nat) (v : Value) (h : w8.cell? ⟨b, o, none⟩ = some v) => (hw.cell (p := ⟨b, o, none⟩) (by show b < w8.heap.size + 1; omega)).trans ((World.cell?_alloc_lt _ _ _ hblt).trans h)
          have d0 := up _ _ (by simpa using HCS.out j _ hi 0 _ rfl)
          have d1 := up _ _ (HCS.out j _ hi 1 _ rfl)
          have d2 := up _ _ (HCS.out j _ hi 2 _ rfl)
          have d3 := up _ _ (HCS.out j _ hi 3 _ rfl)
          obtain ⟨A7, n7, c7, e7⟩ := HSL.out _ (List.getElem_mem hjl)
          have HD := Lib.hid (show ((l.take k).drop j).any (fun z => clashQ x z) = (clashQ x l[j] || ((l.take k).drop (j + 1)).any (fun z => clashQ x z)) by
            rw [List.drop_eq_getElem_cons (by rw [List.length_take]; omega), List.any_cons, List.getElem_take])
          clear up hi hw
          generalize l[j] = z at *
          have CC := Lib.hid (clash_any x z)
          rw [e7] at d3 CC
          rw [HE9.out] at CC
          clear e7
          cases hq : clashQ x z
          · rw [hq] at CC HD
            go_wp2_with (first | (go_at_call 106; refine (CC.out _).mono ?_; rintro e w1 ⟨rfl, hw1⟩; have HW1 := Lib.hid hw1; clear hw1))
            go_roundw
            case rel => exact ⟨j + 1, by omega, by go_num, by rw [HA.out, HD.out, Bool.false_or], (HW.out.alloc zx _).trans (gw_below (by simp; omega) HW1.out)⟩
            case measure => simp [intOf]; omega
          · rw [hq] at CC HD
            have HG := Lib.hid (show madeF l = 12 by unfold madeF; rw [HP.out, HA.out, HD.out]; rfl)
            go_wp2_with (first | (go_at_call 106; refine (CC.out _).mono ?_; rintro e w1 ⟨rfl, hw1⟩; have HW1 := Lib.hid hw1; clear hw1))
            go_ret
            exact ⟨by rw [HG.out]; rfl, (HBW.out.alloc (by omega) _).trans (gw_below (by simp; omega) HW1.out)⟩
        · obtain rfl : j = k := by omega
          have HN := Lib.hid (show pairF [] l = pairF (l.take (j + 1)) (l.drop (j + 1)) by
            rw [HP.out, HA.out, List.drop_eq_nil_of_le (by rw [List.length_take]; omega)]
            rfl)
          clear hw
          go_wp2_with fail
          go_roundw
          case rel => exact ⟨j + 1, by omega, by go_num, HN.out, HBW.out⟩
          case measure => simp [intOf]; omega
    · obtain rfl : k = l.length := by omega
      have HN := Lib.hid (show pairF [] l = false by rw [HF.out, List.drop_length]; rfl)
      clear hlt hk hkz hw
      go_wp2_with fail
      go_loopw [31] (fun i wr => ∃ j : Nat, j ≤ l.length ∧ i = .int .i64 j ∧ l.any (fun x => looseQ x l) = (l.drop j).any (fun x => looseQ x l) ∧ Below w.heap.size w wr) (fun i _ => l.length - (intOf i).toNat)
      case atStart => exact ⟨0, Nat.zero_le _, rfl, rfl, HWr.out⟩
      case round =>
        obtain ⟨j, hj, rfl, ha, hw⟩ := hrel
        have HA := Lib.hid ha
        have HW2 := Lib.hid hw
        have zw2 := hw.size
        clear ha
        have hjz : (0 : Int) ≤ (j : Int) := by omega
        by_cases hlt : j < l.length
        · have HHr := Lib.hid (HH.out.below hw)
          obtain ⟨b, off, rfl, hblt, hcs⟩ := HHr.out (by omega)
          have hi : l[j]? = some l[j] := List.getElem?_eq_getElem hlt
          have c0 := by simpa using hcs j _ hi 0 _ rfl
          have c1 := hcs j _ hi 1 _ rfl
          have c2 := hcs j _ hi 2 _ rfl
          have c3 := hcs j _ hi 3 _ rfl
          have HD := Lib.hid (show (l.drop j).any (fun x => looseQ x l) = (looseQ l[j] l || (l.drop (j + 1)).any (fun x => looseQ x l)) by rw [List.drop_eq_getElem_cons hlt, List.any_cons])
          have hxo := HOK.out _ (List.getElem_mem hlt)
          obtain ⟨A9, n9, c9, e9⟩ := HSL.out _ (List.getElem_mem hlt)
          clear hcs hi hw
          generalize l[j] = x at *
          have CL := Lib.hid (fun (W : World) (hb : Below wr.heap.size wr W) => hasLoose_any x hxo (some ⟨b, off, none⟩) l c W hl (HHr.out.below hb) HOK.out)
          clear hxo
          rw [e9] at c3 CL
          clear e9
          cases hq : looseQ x l
          · rw [hq] at CL HD
            go_wp2_with (first | (go_at_call 107; refine (CL.out _ (by (repeat' (first | (with_reducible exact Below.refl _ _) | (with_reducible assumption) | (with_reducible refine Below.alloc ?_ ?_ _) | (with_reducible refine Below.drew ?_) | (with_reducible refine below_drewN ?_ _) | (with_reducible refine Below.setCell ?_ ?_ _) | (with_reducible exact Nat.le_refl _) | omega | (simp only [World.size_alloc, World.size_setCell, World.size_drew]; omega) | (simp; omega) | (simp; done))))).mono ?_; rintro e w1 ⟨rfl, hb1⟩; have HB1 := Lib.hid hb1; clear hb1))
            go_roundw
            case rel => exact ⟨j + 1, by omega, by go_num, by rw [HA.out, HD.out, Bool.false_or], (HW2.out.alloc zw2 _).trans (HB1.out.mono (by simp; omega))⟩
            case measure => simp [intOf]; omega
          · rw [hq] at CL HD
            have HG := Lib.hid (show madeF l = 11 by unfold madeF; rw [HN.out, HA.out, HD.out]; rfl)
            go_wp2_with (first | (go_at_call 107; refine (CL.out _ (by (repeat' (first | (with_reducible exact Below.refl _ _) | (with_reducible assumption) | (with_reducible refine Below.alloc ?_ ?_ _) | (with_reducible refine Below.drew ?_) | (with_reducible refine below_drewN ?_ _) | (with_reducible refine Below.setCell ?_ ?_ _) | (with_reducible exact Nat.le_refl _) | omega | (simp only [World.size_alloc, World.size_setCell, World.size_drew]; omega) | (simp; omega) | (simp; done))))).mono ?_; rintro e w1 ⟨rfl, hb1⟩; have HB1 := Lib.hid hb1; clear hb1))
            go_ret
            exact ⟨by rw [HG.out]; rfl, (HW2.out.alloc zw2 _).trans (HB1.out.mono (by simp; omega))⟩
        · obtain rfl : j = l.length := by omega
          have HG := Lib.hid (show madeF l = 0 by unfold madeF; rw [HN.out, HA.out, List.drop_length]; rfl)
          go_wp2_with fail
          go_ret
          exact ⟨by rw [HG.out]; rfl, hw⟩
end Go.Proofs.Ytnjcahdelcdcfaa

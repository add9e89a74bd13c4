/- Which coppers holes join (joints), whatever the world. -/
import Derived.Test.YtnjcahdelcdcfaaCyc
namespace Go.Proofs.Ytnjcahdelcdcfaa
open Go.RowKit Go.Maps
set_option linter.unusedSimpArgs false
set_option linter.unusedVariables false
set_option maxRecDepth 100000

theorem infoBool : (Try.prog.info? 4).map (fun i => (i.zero, i.size, i.bytes)) = some (some (.bool false), 1, 1) := by kernel_rfl
def onJ (x : Thr) (i : Nat) : Bool := decide (x.a ≤ (i : Int) + 1) && decide ((i : Int) + 1 < x.b)
def jB (t : List Thr) (i : Nat) : Bool := t.any fun x => onJ x i
def jT (n : Nat) (t : List Thr) : List Bool := (List.range n).map (jB t)
def jM (n : Nat) (t : List Thr) (y : Thr) (c : Int) : List Bool := (List.range n).map fun i => jB t i || (decide (y.a ≤ (i : Int) + 1) && decide ((i : Int) + 1 < c))
theorem jT_len (n : Nat) (t : List Thr) : (jT n t).length = n := by simp [jT]
theorem jM_len (n : Nat) (t : List Thr) (y : Thr) (c : Int) : (jM n t y c).length = n := by simp [jM]
theorem jT_get {n : Nat} {t : List Thr} {i : Nat} (h : i < n) : (jT n t)[i]? = some (jB t i) := by
  unfold jT
  rw [List.getElem?_map, List.getElem?_range h]
  rfl
theorem jM_start (n : Nat) (t : List Thr) (y : Thr) : jM n t y y.a = jT n t := by
  unfold jM jT
  refine List.map_congr_left fun i _ => ?_
  have : (decide (y.a ≤ (i : Int) + 1) && decide ((i : Int) + 1 < y.a)) = false := by simp <;> omega
  rw [this, Bool.or_false]
theorem jM_end (n : Nat) (t : List Thr) (y : Thr) : jM n t y y.b = jT n (t ++ [y]) := by
  unfold jM jT
  refine List.map_congr_left fun i _ => ?_
  unfold jB onJ
  simp
theorem jM_step {n : Nat} {t : List Thr} {y : Thr} {j : Nat} (h : j < n) (ha : y.a ≤ (j : Int) + 1) : (jM n t y ((j : Int) + 1)).set j true = jM n t y ((j : Int) + 1 + 1) := by
  apply List.ext_getElem?
  intro i
  rw [List.getElem?_set]
  by_cases hi : j = i
  · subst hi
    rw [if_pos rfl, if_pos (by rw [jM_len]; exact h)]
    unfold jM
    rw [List.getElem?_map, List.getElem?_range h]
    have : (decide (y.a ≤ (j : Int) + 1) && decide ((j : Int) + 1 < (j : Int) + 1 + 1)) = true := by simp; omega
    simp only [Option.map_some, this, Bool.or_true]
  · rw [if_neg hi]
    unfold jM
    by_cases hn : i < n
    · rw [List.getElem?_map, List.getElem?_map, List.getElem?_range hn]
      simp only [Option.map_some]
      have : decide ((i : Int) + 1 < (j : Int) + 1) = decide ((i : Int) + 1 < (j : Int) + 1 + 1) := by
        rw [decide_eq_decide]
        omega
      rw [this]
    · rw [List.getElem?_eq_none (by simp; omega), List.getElem?_eq_none (by simp; omega)]
theorem jT_nil (n : Nat) : jT n [] = List.replicate n false := by
  unfold jT
  rw [show jB [] = fun _ => false from rfl, List.map_const', List.length_range]
theorem made_bools (n : Nat) : (madeCells (Value.bool false).cells (n * 1)).toList = (List.replicate n false).map Value.bool := by
  rw [List.map_replicate, Nat.mul_one]
  simp [madeCells, Value.cells]
  rw [show (fun x : Nat => [Value.bool false][x % 1]?.getD default) = fun _ => Value.bool false from by funext x; simp [Nat.mod_one], List.map_const', List.length_range]
/-- What joints returns. -/
def JntRet (n : Nat) (t : List Thr) (w : World) (e : Ending) (w' : World) : Prop :=
  ∃ g : Nat, e = .returned (.slice (some ⟨g, 0, none⟩) n n) ∧ w'.ownsRow w.heap.size 4 1 (.slice (some ⟨g, 0, none⟩) n n) n ((jT n t).map Value.bool) ∧ Below w.heap.size w w'
set_option maxHeartbeats 4000000 in
theorem joints_any (A : Option Addr) (t : List Thr) (c : Nat) (n : Nat) (w : World) (hn : n ≤ 1000) (hl : t.length ≤ 1000) (hok : ∀ x ∈ t, 1 ≤ x.a ∧ x.a < x.b ∧ x.b ≤ ((n + 1 : Nat) : Int)) (hd : RdG 2 Thr.cs w A t) :
    Calls Try.prog 79 #[.slice A t.length c, .int .i64 ((n + 1 : Nat) : Int)] w (JntRet n t w) := by
  have HOK := Lib.hid hok
  have HD := Lib.hid hd
  obtain ⟨i0, hi0, hz0, hz1, hz2⟩ := info_parts infoBool
  have y0 : IntKind.i64.wrap (n : Int) = (n : Int) := IntWalk.i64_in _ (by omega)
  have y9 : IntKind.i64.wrap (((n + 1 : Nat) : Int) - 1) = (n : Int) := (IntWalk.i64_in _ (by omega)).trans (by omega)
  clear hok hd
  unfold JntRet
  go_enter Try.func79, Try.ntmps79
  go_wp2_with (first | (at_make; refine wpList_make_full _ rfl (.tmp 10) (.tmp 10) 111 rfl w.heap.size 4 i0 (.bool false) 1 Try.underlying111 hi0 hz0 hz1 .i64 .i64 (n : Int) (n : Int) n rfl rfl rfl rfl ?m1 ?m2 ?m3 ?_; (case m1 => rw [hz2]; omega); (case m2 => simp only [maxLen]; omega); (case m3 => omega); intro w2 hown hg; have HO := Lib.hid hown; have HG := Lib.hid hg; clear hown hg))
  have lt0 := (HO.out.lt w.heap.size rfl).2
  have BW := (Below.refl w.heap.size w).grown HG.out (Nat.le_refl _) (fun j hj => by cases hj)
  have H0 := Lib.hid (show w2.ownsRow w.heap.size 4 1 (.slice (some ⟨w.heap.size, 0, none⟩) n n) n ((jT n (t.take 0)).map Value.bool) by
    rw [List.take_zero, jT_nil, ← made_bools]
    exact HO.out)
  clear HO
  go_loopw [14] (fun i wr => ∃ k : Nat, k ≤ t.length ∧ i = .int .i64 k ∧ wr.ownsRow w.heap.size 4 1 (.slice (some ⟨w.heap.size, 0, none⟩) n n) n ((jT n (t.take k)).map Value.bool) ∧ Below w.heap.size w wr) (fun i _ => t.length - (intOf i).toNat)
  case atStart => exact ⟨0, Nat.zero_le _, rfl, H0.out, BW⟩
  case round =>
    obtain ⟨k, hk, rfl, ho, hw⟩ := hrel
    have HO := Lib.hid ho
    have HW := Lib.hid hw
    have zw := hw.size
    have lg := (ho.lt w.heap.size rfl).2
    have hkz : (0 : Int) ≤ (k : Int) := by omega
    clear ho
    by_cases hlt : k < t.length
    · obtain ⟨b, off, rfl, hblt, hcs⟩ := (HD.out.below hw) (by omega)
      have hi : t[k]? = some t[k] := List.getElem?_eq_getElem hlt
      have c0 := by simpa using hcs k _ hi 0 _ rfl
      have c1 := hcs k _ hi 1 _ rfl
      have hin := HOK.out t[k] (List.getElem_mem hlt)
      have ht2 : t.take (k + 1) = t.take k ++ [t[k]] := by rw [List.take_add_one, hi]; rfl
      have HT := Lib.hid ht2
      clear hi hcs ht2 hw
      generalize t[k] = y at *
      go_wp2_with fail
      obtain ⟨w8, rfl⟩ : ∃ w8, w8 = wr := ⟨wr, rfl⟩
      have HQ := Lib.hid (jM_start n (t.take k) y)
      go_loopw [8] (fun cv wx => ∃ x : Int, cv = .int .i64 x ∧ y.a ≤ x ∧ x ≤ y.b ∧ wx.ownsRow w.heap.size 4 1 (.slice (some ⟨w.heap.size, 0, none⟩) n n) n ((jM n (t.take k) y x).map Value.bool) ∧ wx.cell? ⟨w8.heap.size, 1, none⟩ = some (.int .i64 y.b) ∧ w8.heap.size < wx.heap.size ∧ Below w.heap.size w wx) (fun cv _ => (y.b - intOf cv).toNat)
      case atStart => exact ⟨y.a, rfl, Int.le_refl _, by omega, by rw [HQ.out]; exact HO.out.alloc _, alloc_new_cell w8 _ _ 1 rfl, by simp, HW.out.alloc zw _⟩
      case round =>
        obtain ⟨x, rfl, hx1, hx2, ho, hc, hl8, hw⟩ := hrel
        have HOX := Lib.hid ho
        have HWX := Lib.hid hw
        by_cases hxb : x < y.b
        · obtain ⟨j, rfl⟩ : ∃ j : Nat, x = (j : Int) + 1 := ⟨(x - 1).toNat, by omega⟩
          have hjn : j < n := by omega
          have hg := own_cellC (j := j) (v := .bool ((jM n (t.take k) y ((j : Int) + 1))[j]'(by rw [jM_len]; exact hjn))) ho (by rw [List.getElem?_map, List.getElem?_eq_getElem (by rw [jM_len]; exact hjn)]; rfl)
          have hst := own_setC (j := j) ho (.bool true)
          rw [← List.map_set, jM_step hjn (by omega)] at hst
          have HST := Lib.hid hst
          obtain ⟨hg1, hg2⟩ := hg
          clear ho hw hst
          generalize (jM n (t.take k) y ((j : Int) + 1))[j]'(by rw [jM_len]; exact hjn) = v at *
          have y1 : IntKind.i64.wrap (j : Int) = j := IntWalk.i64_in _ (by omega)
          have y3 : IntKind.i64.wrap ((j : Int) + 1 + 1) = (j : Int) + 1 + 1 := IntWalk.i64_in _ (by omega)
          have y4 : (0 : Int) ≤ (j : Int) := by omega
          have y5 : (j : Int) < (n : Int) := by omega
          have y6 : (j : Int) + 1 - 1 = j := by omega
          go_wp2_with fail
          go_roundw
          case rel =>
            refine ⟨(j : Int) + 1 + 1, rfl, by omega, by omega, HST.out, ?_, by simp; exact hl8, ?_⟩
            · rw [World.cell?_setCell_far _ _ _ _ (show w.heap.size ≠ w8.heap.size by omega)]
              exact hc
            · exact HWX.out.trans (below_gb (gb_set (p := ⟨w.heap.size, j, none⟩) (gb_refl _ (some w.heap.size)) (.inl rfl) _) HWX.out.size (fun g e => by cases e; exact Nat.le_refl _))
          case measure => simp [intOf]; omega
        · obtain rfl : x = y.b := by omega
          have HN := Lib.hid (show jT n (t.take (k + 1)) = jM n (t.take k) y y.b by rw [HT.out, jM_end])
          go_wp2_with fail
          go_roundw
          case rel => exact ⟨k + 1, by omega, by go_num, by rw [HN.out]; exact HOX.out, HWX.out⟩
          case measure => simp [intOf]; omega
    · obtain rfl : k = t.length := by omega
      have ho := HO.out
      rw [List.take_length] at ho
      go_wp2_with fail
      go_ret
      exact ⟨w.heap.size, rfl, ho, HW.out⟩
end Go.Proofs.Ytnjcahdelcdcfaa

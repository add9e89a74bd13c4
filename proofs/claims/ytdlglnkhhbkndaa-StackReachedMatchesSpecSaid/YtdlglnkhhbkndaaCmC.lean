/- Several texts in one: CmpT, ChkT. -/
import Derived.Test.YtdlglnkhhbkndaaPrC
import Derived.Test.YtdlglnkhhbkndaaStkG
/- How spans are ordered (compareSpans), whatever the world. -/
namespace Go.Proofs.Ytdlglnkhhbkndaa
open Go.RowKit Go.Maps Go.Sort
set_option linter.unusedSimpArgs false
set_option linter.unusedVariables false
set_option maxRecDepth 100000

def cmpT (x y : Thr) : Int := orI (cmpI x.a y.a) (cmpI x.b y.b)
/-- A span stands behind another one. -/
def afterT (x y : Thr) : Bool := decide (y.a < x.a) || (decide (y.a = x.a) && decide (y.b < x.b))
theorem cmpT_after (x y : Thr) : decide (cmpT x y ≤ 0) = !afterT x y := by
  unfold cmpT orI cmpI afterT
  rcases Int.lt_trichotomy x.a y.a with h | h | h
  · have h1 : ¬ y.a < x.a := by omega
    have h2 : ¬ y.a = x.a := by omega
    simp [h, h1, h2]
  · rcases Int.lt_trichotomy x.b y.b with h2 | h2 | h2
    · have h3 : ¬ y.b < x.b := by omega
      simp [h, h2, h3]
    · simp [h, h2]
    · have h3 : ¬ x.b < y.b := by omega
      simp [h, h2, h3]
  · have h1 : ¬ x.a < y.a := by omega
    simp [h, h1]
set_option maxHeartbeats 2000000 in
theorem compareSpans_any (x y : Thr) (w : World) : Calls Try.prog 102 #[.agg #[.int .i64 x.a, .int .i64 x.b], .agg #[.int .i64 y.a, .int .i64 y.b]] w fun e w' => e = .returned (.int .i64 (cmpT x y)) ∧ ∃ q os', w' = grow (w.drewN q) os' := by
  unfold cmpT
  go_enter Try.func102, Try.ntmps102
  go_wp2_with fail
  go_region_held3 (fun w' => w'.cell? ⟨w.heap.size, 0, none⟩ = some (.int .i64 x.a) ∧ w'.cell? ⟨w.heap.size, 1, none⟩ = some (.int .i64 x.b) ∧ w'.cell? ⟨w.heap.size + 1, 0, none⟩ = some (.int .i64 y.a) ∧ w'.cell? ⟨w.heap.size + 1, 1, none⟩ = some (.int .i64 y.b)) (go_keep)
    (first | (go_at_call 113; refine (compare_any _ _ _).mono ?_; rintro e w1 ⟨rfl, rfl⟩) | (go_at_call 112; refine (or_two _ (cmpI x.a y.a) (cmpI x.b y.b) _ ?hc0 ?hc1).mono ?_; (case hc0 => simp [go_sem]); (case hc1 => simp [go_sem]); rintro e w1 ⟨rfl, rfl⟩))
  go_wp2_with fail
  go_ret
  exact ⟨rfl, gw_trans (gw_trans (gw_trans ⟨0, _, grow_one w _⟩ ⟨0, _, grow_one _ _⟩) ⟨0, _, grow_one _ _⟩) ⟨1, #[], (grow_empty _).symm⟩⟩
end Go.Proofs.Ytdlglnkhhbkndaa
/- The order and the ends of spans (checkRow), whatever the world. -/
namespace Go.Proofs.Ytdlglnkhhbkndaa
open Go.RowKit Go.Maps Go.Sort
set_option linter.unusedSimpArgs false
set_option linter.unusedVariables false
set_option maxRecDepth 100000

def badT (n : Int) (x : Thr) : Prop := x.a < 1 ∨ n < x.b ∨ x.b ≤ x.a
instance (n : Int) (x : Thr) : Decidable (badT n x) := by unfold badT; infer_instance
def thrGo (n : Int) : List Thr → List Thr → Int
  | _, [] => 0
  | q, x :: l => if badT n x then 1 else if q.any (fun p => !afterT x p) then 8 else thrGo n [x] l
def thrF (n : Int) (l : List Thr) : Int := if 200 < l.length then 2 else thrGo n [] l
theorem thrGo_bad {n : Int} {q : List Thr} {x : Thr} {l : List Thr} (h : badT n x) : thrGo n q (x :: l) = 1 := if_pos h
theorem thrGo_order {n : Int} {q : List Thr} {x : Thr} {l : List Thr} (h : ¬ badT n x) (hq : q.any (fun p => !afterT x p) = true) : thrGo n q (x :: l) = 8 := by rw [thrGo, if_neg h, if_pos hq]
theorem thrGo_go {n : Int} {q : List Thr} {x : Thr} {l : List Thr} (h : ¬ badT n x) (hq : q.any (fun p => !afterT x p) = false) : thrGo n q (x :: l) = thrGo n [x] l := by rw [thrGo, if_neg h, if_neg (by rw [hq]; decide)]
theorem last_one {α : Type} {l : List α} {k : Nat} {p : α} (h : l[k]? = some p) : (l.take (k + 1)).getLast?.toList = [p] := by
  rw [List.take_add_one, h]
  simp
theorem below_grow {B : Nat} {w w1 : World} (h : Below B w w1) (hB : B ≤ w1.heap.size) (q : Nat) (os : Array Obj) : Below B w (grow (w1.drewN q) os) :=
  ⟨h.os, h.tape, h.output, by have := h.size; simp; omega, fun j hj => (heap_grow_old _ _ (by simpa using (by omega : j < w1.heap.size))).trans (h.block j hj)⟩

set_option maxHeartbeats 4000000 in
theorem checkRow_any (A : Option Addr) (l : List Thr) (c : Nat) (n : Int) (w : World) (hl : l.length ≤ 140737488355328) (h : RdG 2 Thr.cs w A l) :
    Calls Try.prog 93 #[.slice A l.length c, .int .i64 n] w fun e w' => e = .returned (.int .i64 (thrF n l)) ∧ Below w.heap.size w w' := by
  have H := Lib.hid h
  clear h
  by_cases h2 : 200 < l.length
  · have HG := Lib.hid (show thrF n l = 2 from if_pos h2)
    go_enter Try.func93, Try.ntmps93
    go_wp2_with fail
    go_ret
    exact ⟨by rw [HG.out]; rfl, by (repeat' (first | (with_reducible exact Below.refl _ _) | (with_reducible assumption) | (with_reducible refine Below.alloc ?_ ?_ _) | (with_reducible refine Below.drew ?_) | (with_reducible refine below_drewN ?_ _) | (with_reducible refine Below.setCell ?_ ?_ _) | (with_reducible exact Nat.le_refl _) | omega | (simp only [World.size_alloc, World.size_setCell, World.size_drew]; omega) | (simp; omega) | (simp; done)))⟩
  · have HG := Lib.hid (show thrF n l = thrGo n [] l from if_neg h2)
    have h2b : decide (200 < (l.length : Int)) = false := by simp; omega
    go_enter Try.func93, Try.ntmps93
    go_wp2_with fail
    go_loopw [12] (fun i wr => ∃ k : Nat, k ≤ l.length ∧ i = .int .i64 k ∧ thrGo n [] l = thrGo n (l.take k).getLast?.toList (l.drop k) ∧ Below w.heap.size w wr) (fun i _ => l.length - (intOf i).toNat)
    case atStart => exact ⟨0, Nat.zero_le _, rfl, rfl, Below.refl _ _⟩
    case round =>
      obtain ⟨k, hk, rfl, hf, hw⟩ := hrel
      have HF := Lib.hid hf
      have zw := hw.size
      clear hf
      have hkz : (0 : Int) ≤ (k : Int) := by omega
      by_cases hlt : k < l.length
      · obtain ⟨b, off, rfl, hblt, hcs⟩ := (H.out.below hw) (by omega)
        have hi : l[k]? = some l[k] := List.getElem?_eq_getElem hlt
        have c0 := by simpa using hcs k _ hi 0 _ rfl
        have c1 := hcs k _ hi 1 _ rfl
        have HCS := Lib.hid hcs
        have hd : l.drop k = l[k] :: l.drop (k + 1) := List.drop_eq_getElem_cons hlt
        have HD := Lib.hid hd
        have HI := Lib.hid hi
        clear hd hi hcs
        generalize l[k] = p at *
        have HBAD := Lib.hid (fun h => (HF.out.trans (HD.out ▸ thrGo_bad (x := p) h) : thrGo n [] l = 1))
        by_cases h3 : p.a < 1
        · have HN := Lib.hid (HBAD.out (.inl h3))
          clear HBAD
          go_wp2_with fail
          go_ret
          exact ⟨by rw [HG.out, HN.out]; rfl, by (repeat' (first | (with_reducible exact Below.refl _ _) | (with_reducible assumption) | (with_reducible refine Below.alloc ?_ ?_ _) | (with_reducible refine Below.drew ?_) | (with_reducible refine below_drewN ?_ _) | (with_reducible refine Below.setCell ?_ ?_ _) | (with_reducible exact Nat.le_refl _) | omega | (simp only [World.size_alloc, World.size_setCell, World.size_drew]; omega) | (simp; omega) | (simp; done)))⟩
        · by_cases h4 : n < p.b
          · have HN := Lib.hid (HBAD.out (.inr (.inl h4)))
            clear HBAD
            go_wp2_with fail
            go_ret
            exact ⟨by rw [HG.out, HN.out]; rfl, by (repeat' (first | (with_reducible exact Below.refl _ _) | (with_reducible assumption) | (with_reducible refine Below.alloc ?_ ?_ _) | (with_reducible refine Below.drew ?_) | (with_reducible refine below_drewN ?_ _) | (with_reducible refine Below.setCell ?_ ?_ _) | (with_reducible exact Nat.le_refl _) | omega | (simp only [World.size_alloc, World.size_setCell, World.size_drew]; omega) | (simp; omega) | (simp; done)))⟩
          · by_cases h5 : p.b ≤ p.a
            · have HN := Lib.hid (HBAD.out (.inr (.inr h5)))
              clear HBAD
              go_wp2_with fail
              go_ret
              exact ⟨by rw [HG.out, HN.out]; rfl, by (repeat' (first | (with_reducible exact Below.refl _ _) | (with_reducible assumption) | (with_reducible refine Below.alloc ?_ ?_ _) | (with_reducible refine Below.drew ?_) | (with_reducible refine below_drewN ?_ _) | (with_reducible refine Below.setCell ?_ ?_ _) | (with_reducible exact Nat.le_refl _) | omega | (simp only [World.size_alloc, World.size_setCell, World.size_drew]; omega) | (simp; omega) | (simp; done)))⟩
            · have HB := Lib.hid (show ¬ badT n p by unfold badT; omega)
              clear HBAD
              by_cases hz : k = 0
              · have hz1 : decide ((0 : Int) < (k : Int)) = false := by simp; omega
                have hz2 : decide (0 < k) = false := by simp; omega
                have HZ := Lib.hid (show (l.take k).getLast?.toList = [] by rw [hz]; rfl)
                have HN := Lib.hid (show thrGo n [] l = thrGo n [p] (l.drop (k + 1)) by rw [HF.out, HD.out, HZ.out]; exact thrGo_go HB.out rfl)
                clear hz
                go_wp2_with fail
                go_quiet (fail)
                go_wp2_with fail
                go_roundw
                case rel => exact ⟨k + 1, by omega, by go_num, HN.out.trans (by rw [last_one HI.out]), below_drewN (by (repeat' (first | (with_reducible exact Below.refl _ _) | (with_reducible assumption) | (with_reducible refine Below.alloc ?_ ?_ _) | (with_reducible refine Below.drew ?_) | (with_reducible refine below_drewN ?_ _) | (with_reducible refine Below.setCell ?_ ?_ _) | (with_reducible exact Nat.le_refl _) | omega | (simp only [World.size_alloc, World.size_setCell, World.size_drew]; omega) | (simp; omega) | (simp; done)))) _⟩
                case measure => simp [intOf]; omega
              · obtain ⟨j, rfl⟩ : ∃ j, k = j + 1 := ⟨k - 1, by omega⟩
                have hj : l[j]? = some l[j] := List.getElem?_eq_getElem (by omega)
                have d0 := by simpa using HCS.out j _ hj 0 _ rfl
                have d1 := HCS.out j _ hj 1 _ rfl
                have HJ := Lib.hid hj
                clear hj hz
                generalize l[j] = q at *
                have HL := Lib.hid (last_one HJ.out)
                have x1 : (j : Int) + 1 - 1 = j := by omega
                have x2 : (0 : Int) ≤ (j : Int) := by omega
                have x3 : (j : Int) < (l.length : Int) := by omega
                have x4 : j < l.length := by omega
                have x5 : IntKind.i64.wrap ((j : Int) + 1 - 1) = (j : Int) + 1 - 1 := IntWalk.i64_in _ (by omega)
                have x6 : IntKind.i64.wrap (j : Int) = (j : Int) := IntWalk.i64_in _ (by omega)
                have E0 : ∀ (cs : Array Value) (t : TypeId), (wr.alloc (.cells cs t)).cell? ⟨b, off + j * 2, none⟩ = some (.int .i64 q.a) := fun cs t => (World.cell?_alloc_lt _ _ _ hblt).trans d0
                have E1 : ∀ (cs : Array Value) (t : TypeId), (wr.alloc (.cells cs t)).cell? ⟨b, off + j * 2 + 1, none⟩ = some (.int .i64 q.b) := fun cs t => (World.cell?_alloc_lt _ _ _ hblt).trans d1
                cases ho : afterT p q
                · have HN := Lib.hid (show thrGo n [] l = 8 by rw [HF.out, HL.out, HD.out]; exact thrGo_order HB.out (by simp [ho]))
                  have ht := cmpT_after p q
                  rw [ho] at ht
                  have ht' : decide (cmpT p q ≤ 0) = true := ht
                  clear ho ht
                  go_wp2_with fail
                  go_region_held3 (fun w' => w'.cell? ⟨wr.heap.size, 0, none⟩ = some (.int .i64 p.a) ∧ w'.cell? ⟨wr.heap.size, 1, none⟩ = some (.int .i64 p.b) ∧ w'.cell? ⟨b, off + j * 2, none⟩ = some (.int .i64 q.a) ∧ w'.cell? ⟨b, off + j * 2 + 1, none⟩ = some (.int .i64 q.b))
                    (first | exact ⟨alloc_cells rfl _ _ _, alloc_cells rfl _ _ _, E0 _ _, E1 _ _⟩ | (focus (refine ⟨?_, ?_, ?_, ?_⟩ <;> (first | (focus ((with_reducible assumption); done)) | (focus ((with_reducible apply keep_grow); first | assumption | exact alloc_cells rfl _ _ _ | exact E0 _ _ | exact E1 _ _)) | (focus (go_keep; done))))) | go_keep)
                    (first | (go_at_call 102; refine (compareSpans_any _ _ _).mono ?_; rintro e w1 ⟨rfl, q9, os', rfl⟩))
                  go_wp2_with fail
                  go_ret
                  exact ⟨by rw [HG.out, HN.out]; rfl, below_grow (hw.alloc zw _) (by simp; omega) _ _⟩
                · have HN := Lib.hid (show thrGo n [] l = thrGo n [p] (l.drop (j + 1 + 1)) by rw [HF.out, HL.out, HD.out]; exact thrGo_go HB.out (by simp [ho]))
                  have ht := cmpT_after p q
                  rw [ho] at ht
                  have ht' : decide (cmpT p q ≤ 0) = false := ht
                  clear ho ht
                  go_wp2_with fail
                  go_region_held3 (fun w' => w'.cell? ⟨wr.heap.size, 0, none⟩ = some (.int .i64 p.a) ∧ w'.cell? ⟨wr.heap.size, 1, none⟩ = some (.int .i64 p.b) ∧ w'.cell? ⟨b, off + j * 2, none⟩ = some (.int .i64 q.a) ∧ w'.cell? ⟨b, off + j * 2 + 1, none⟩ = some (.int .i64 q.b))
                    (first | exact ⟨alloc_cells rfl _ _ _, alloc_cells rfl _ _ _, E0 _ _, E1 _ _⟩ | (focus (refine ⟨?_, ?_, ?_, ?_⟩ <;> (first | (focus ((with_reducible assumption); done)) | (focus ((with_reducible apply keep_grow); first | assumption | exact alloc_cells rfl _ _ _ | exact E0 _ _ | exact E1 _ _)) | (focus (go_keep; done))))) | go_keep)
                    (first | (go_at_call 102; refine (compareSpans_any _ _ _).mono ?_; rintro e w1 ⟨rfl, q9, os', rfl⟩))
                  go_wp2_with fail
                  go_roundw
                  case rel => exact ⟨j + 1 + 1, by omega, by go_num, HN.out.trans (by rw [last_one HI.out]), below_grow (hw.alloc zw _) (by simp; omega) _ _⟩
                  case measure => simp [intOf]; omega
      · obtain rfl : k = l.length := by omega
        have hend : thrGo n [] l = 0 := by
          rw [HF.out, List.drop_length]
          rfl
        have HE := Lib.hid (HG.out.trans hend)
        clear hend
        go_wp2_with fail
        go_ret
        exact ⟨by rw [HE.out]; rfl, hw⟩
end Go.Proofs.Ytdlglnkhhbkndaa

/- The reference's Has and Bounds, whatever the world. -/
import Derived.Test.YtiigneepmpgmmaaRefH
import Derived.Test.YtiigneepmpgmmaaShapeG
import Derived.RegionTactic
import Derived.BigRegion
namespace Go.Proofs.Ytiigneepmpgmmaa
open Go.RowKit
open Reg (R4 Span Band)
set_option linter.unusedSimpArgs false
set_option linter.unusedVariables false

theorem isPoint_any (x y : Int) (w : World) : Calls Try.prog 57 #[.agg #[.int .i64 x, .int .i64 y]] w fun e w' => e = .returned (.bool (okAt x && okAt y)) ∧ Below w.heap.size w w' := by
  cases h1 : okAt x
  all_goals
    go_enter Try.func57, Try.ntmps57
    go_wp2_with (go_at_call 43; refine (at_any _ _).mono ?_; rintro e w' ⟨rfl, rfl⟩)
    go_ret
    exact ⟨rfl, (Below.refl _ _).alloc (Nat.le_refl _) _⟩

def insB (l : List Span) (x : Int) : Bool := l.any fun s => decide (s.1 ≤ x) && decide (x < s.2)
theorem insB_iff {l : List Span} {x : Int} : insB l x = true ↔ Reg.inS l x := by
  unfold insB Reg.inS
  rw [List.any_eq_true]
  simp only [Bool.and_eq_true, decide_eq_true_eq]
theorem IsS.open_ {w : World} {v : Value} {l : List Span} (h : IsS w v l) : ∃ A c, v = .slice A l.length c ∧ (0 < l.length → ∃ b off, A = some ⟨b, off, none⟩ ∧ b < w.heap.size ∧ ∀ i s, l[i]? = some s → w.cell? ⟨b, off + i * 2, none⟩ = some (.int .i64 s.1) ∧ w.cell? ⟨b, off + i * 2 + 1, none⟩ = some (.int .i64 s.2)) := by
  rcases h with ⟨rfl, rfl⟩ | ⟨_, b, off, c, e, _, _, h3, h4⟩
  · exact ⟨none, 0, rfl, fun h => by simp at h⟩
  · exact ⟨_, _, e, fun _ => ⟨b, off, rfl, h3, h4⟩⟩

set_option maxRecDepth 100000 in
set_option maxHeartbeats 1000000 in
theorem inside_any (v : Value) (l : List Span) (x : Int) (w : World) (h : IsS w v l) (hl : l.length ≤ 1000000) : Calls Try.prog 80 #[v, .int .i64 x] w fun e w' => e = .returned (.bool (insB l x)) ∧ Below w.heap.size w w' := by
  obtain ⟨A, c, rfl, hcell⟩ := h.open_
  clear h
  have HC := Lib.hid hcell
  clear hcell
  go_enter Try.func80, Try.ntmps80
  go_wp2_with fail
  go_loopw [5] (fun i wr => ∃ k : Nat, k ≤ l.length ∧ i = .int .i64 k ∧ insB l x = insB (l.drop k) x ∧ Below w.heap.size w wr) (fun i _ => l.length - (intOf i).toNat)
  case atStart => exact ⟨0, Nat.zero_le _, rfl, rfl, Below.refl _ _⟩
  case round =>
    obtain ⟨k, hk, rfl, hf, hbw⟩ := hrel
    have zw := hbw.size
    have HF := Lib.hid hf
    clear hf
    have hkz : (0 : Int) ≤ (k : Int) := by omega
    by_cases hlt : k < l.length
    · obtain ⟨b, off, rfl, hblt, hcs⟩ := HC.out (by omega)
      have hi : l[k]? = some l[k] := List.getElem?_eq_getElem hlt
      have c0 := ((bcell hbw).1 _ _ hblt).trans (hcs k _ hi).1
      have c1 := ((bcell hbw).1 _ _ hblt).trans (hcs k _ hi).2
      have hd : l.drop k = l[k] :: l.drop (k + 1) := List.drop_eq_getElem_cons hlt
      have HD := Lib.hid hd
      clear hd hi hcs
      generalize l[k] = s at *
      have hklt : (k : Int) < (l.length : Int) := by omega
      by_cases h1 : s.1 ≤ x
      · by_cases h2 : x < s.2
        · have hn : insB l x = true := by rw [HF.out, HD.out]; simp [insB, h1, h2]
          have HN := Lib.hid hn
          clear hn
          go_wp2_with fail
          go_ret
          exact ⟨by rw [HN.out]; rfl, hbw⟩
        · have hn : insB l x = insB (l.drop (k + 1)) x := by rw [HF.out, HD.out]; simp [insB, h2]
          have HN := Lib.hid hn
          clear hn
          go_wp2_with fail
          go_roundw
          case rel => exact ⟨k + 1, by omega, by go_num, HN.out, hbw⟩
          case measure => simp [intOf]; omega
      · have hn : insB l x = insB (l.drop (k + 1)) x := by rw [HF.out, HD.out]; simp [insB, h1]
        have HN := Lib.hid hn
        clear hn
        go_wp2_with fail
        go_roundw
        case rel => exact ⟨k + 1, by omega, by go_num, HN.out, hbw⟩
        case measure => simp [intOf]; omega
    · obtain rfl : k = l.length := by omega
      have hn : insB l x = false := by rw [HF.out, List.drop_length]; rfl
      have HN := Lib.hid hn
      clear hn
      go_wp2_with fail
      go_ret
      exact ⟨by rw [HN.out]; rfl, hbw⟩

theorem hasB_row {l : List R4} (hg : Reg.Good l) (x y : Int) : insB (Reg.rowL l y) x = hasB l x y := by
  rw [Bool.eq_iff_iff, insB_iff, hasB_iff, (Reg.rowL_ok hg y).2 x]

set_option maxRecDepth 100000 in
set_option maxHeartbeats 1000000 in
theorem hasPoint_any (A : Option Addr) (l : List R4) (c : Nat) (x y : Int) (w : World) (hl : l.length ≤ 100000) (hg : Reg.Good l) (h : Rd w A l) :
    Calls Try.prog 58 #[.slice A l.length c, .agg #[.int .i64 x, .int .i64 y]] w fun e w' => e = .returned (.bool (hasB l x y)) ∧ Below w.heap.size w w' := by
  have H0 := Lib.hid h
  clear h
  have C1 := Lib.hid (fun W h => row_any A l c y W hl h)
  have hrl := rowL_len l y
  have HB := Lib.hid (hasB_row hg x y)
  have C2 := Lib.hid (fun v W h => inside_any v (Reg.rowL l y) x W h (by omega))
  generalize Reg.rowL l y = rw_ at *
  clear hg
  go_enter Try.func58, Try.ntmps58
  go_wp2_with fail
  go_region_held3 (fun w' => w'.cell? ⟨w.heap.size, 0, none⟩ = some (.int .i64 x) ∧ w'.cell? ⟨w.heap.size, 1, none⟩ = some (.int .i64 y)) (go_keep)
    (first | (go_at_call 70; refine (C1.out _ ?hi1).mono ?_; (case hi1 => exact H0.out.below (by (repeat' (first | (with_reducible exact Below.refl _ _) | (with_reducible assumption) | (with_reducible refine Below.alloc ?_ ?_ _) | (with_reducible refine Below.drew ?_) | (with_reducible refine below_drewN ?_ _) | (with_reducible refine Below.setCell ?_ ?_ _) | (with_reducible exact Nat.le_refl _) | omega | (simp only [World.size_alloc, World.size_setCell, World.size_drew]; omega) | (simp; omega) | (simp; done))))); rintro e wc ⟨v1, rfl, hv1, hfr, hb⟩; have HV1 := Lib.hid hv1; have qc := kc hb w.heap.size (by (first | (with_reducible exact Nat.le_refl _) | (with_reducible assumption) | omega | (simp only [World.size_alloc, World.size_setCell, World.size_drew]; omega) | (simp; omega) | (simp; done))); have zc := hb.size; (try simp only [World.size_alloc, World.size_setCell, World.size_drew] at zc); have Bc := up (B := w.heap.size) (w := w) (by (repeat' (first | (with_reducible exact Below.refl _ _) | (with_reducible assumption) | (with_reducible refine Below.alloc ?_ ?_ _) | (with_reducible refine Below.drew ?_) | (with_reducible refine below_drewN ?_ _) | (with_reducible refine Below.setCell ?_ ?_ _) | (with_reducible exact Nat.le_refl _) | omega | (simp only [World.size_alloc, World.size_setCell, World.size_drew]; omega) | (simp; omega) | (simp; done)))) hb (by (first | (with_reducible exact Nat.le_refl _) | (with_reducible assumption) | omega | (simp only [World.size_alloc, World.size_setCell, World.size_drew]; omega) | (simp; omega) | (simp; done))); clear hb hv1 hfr) | (go_at_call 80; refine (C2.out _ _ ?hi2).mono ?_; (case hi2 => exact HV1.out); rintro e wc2 ⟨rfl, hb⟩; have qc2 := kc hb w.heap.size (by (first | (with_reducible exact Nat.le_refl _) | (with_reducible assumption) | omega | (simp only [World.size_alloc, World.size_setCell, World.size_drew]; omega) | (simp; omega) | (simp; done))); have zc2 := hb.size; (try simp only [World.size_alloc, World.size_setCell, World.size_drew] at zc2); have Bc2 := up (B := w.heap.size) (w := w) (by (repeat' (first | (with_reducible exact Below.refl _ _) | (with_reducible assumption) | (with_reducible refine Below.alloc ?_ ?_ _) | (with_reducible refine Below.drew ?_) | (with_reducible refine below_drewN ?_ _) | (with_reducible refine Below.setCell ?_ ?_ _) | (with_reducible exact Nat.le_refl _) | omega | (simp only [World.size_alloc, World.size_setCell, World.size_drew]; omega) | (simp; omega) | (simp; done)))) hb (by (first | (with_reducible exact Nat.le_refl _) | (with_reducible assumption) | omega | (simp only [World.size_alloc, World.size_setCell, World.size_drew]; omega) | (simp; omega) | (simp; done))); clear hb))
  go_wp2_with fail
  go_ret
  exact ⟨by rw [← HB.out]; rfl, Bc2⟩

set_option maxRecDepth 100000 in
set_option maxHeartbeats 1000000 in
theorem rhas_any (A : Option Addr) (l : List R4) (c : Nat) (x y : Int) (w : World) (hl : l.length ≤ c) (hc : c ≤ 140737488355328) (h : Rd w A l) :
    Calls Try.prog 27 #[.slice A l.length c, .agg #[.int .i64 x, .int .i64 y]] w fun e w' => e = .returned (.tuple #[.bool (hasF l x y).1, .int .i64 (hasF l x y).2]) ∧ Below w.heap.size w w' := by
  have H0 := Lib.hid h
  have C1 := Lib.hid (fun W h => rcheckRegion_any A l c W hl hc h)
  clear h
  by_cases h0 : regF l = 0
  · have hf : hasF l x y = if okAt x && okAt y then (hasB l x y, 0) else (false, 1) := if_pos h0
    obtain ⟨hg, h2000⟩ := good_of_rects (regF_rects h0)
    rw [h0] at C1
    clear h0
    have C3 := Lib.hid (fun W h => hasPoint_any A l c x y W (by omega) hg h)
    clear hg
    cases hp : (okAt x && okAt y)
    · rw [hp] at hf
      have C2 := Lib.hid (show ∀ W, Calls Try.prog 57 #[.agg #[.int .i64 x, .int .i64 y]] W fun e w' => e = .returned (.bool false) ∧ Below W.heap.size W w' from fun W => hp ▸ isPoint_any x y W)
      rw [show hasF l x y = (false, 1) from hf]
      clear hf hp
      go_enter Try.func27, Try.ntmps27
      go_wp2_with fail
      refine (C1.out _ (H0.out.below (by (repeat' (first | (with_reducible exact Below.refl _ _) | (with_reducible assumption) | (with_reducible refine Below.alloc ?_ ?_ _) | (with_reducible refine Below.drew ?_) | (with_reducible refine below_drewN ?_ _) | (with_reducible refine Below.setCell ?_ ?_ _) | (with_reducible exact Nat.le_refl _) | omega | (simp only [World.size_alloc, World.size_setCell, World.size_drew]; omega) | (simp; omega) | (simp; done)))))).mono ?_
      rintro e w1 ⟨rfl, hb⟩
      obtain ⟨kq, fq⟩ := kp hb (b := w.heap.size) (cs := #[Value.int .i64 x, Value.int .i64 y]) (by (first | (with_reducible exact Nat.le_refl _) | (with_reducible assumption) | omega | (simp only [World.size_alloc, World.size_setCell, World.size_drew]; omega) | (simp; omega) | (simp; done))) (fun i => by simp [go_sem]) (fun i => by simp [go_sem])
      have z1 := hb.size
      (try simp only [World.size_alloc, World.size_setCell, World.size_drew] at z1)
      have B1 := up (B := w.heap.size) (w := w) (by (repeat' (first | (with_reducible exact Below.refl _ _) | (with_reducible assumption) | (with_reducible refine Below.alloc ?_ ?_ _) | (with_reducible refine Below.drew ?_) | (with_reducible refine below_drewN ?_ _) | (with_reducible refine Below.setCell ?_ ?_ _) | (with_reducible exact Nat.le_refl _) | omega | (simp only [World.size_alloc, World.size_setCell, World.size_drew]; omega) | (simp; omega) | (simp; done)))) hb (by (first | (with_reducible exact Nat.le_refl _) | (with_reducible assumption) | omega | (simp only [World.size_alloc, World.size_setCell, World.size_drew]; omega) | (simp; omega) | (simp; done)))
      clear hb
      go_wp2_with fail
      refine (C2.out _).mono ?_
      rintro e w2 ⟨rfl, hb⟩
      have B2 := up (B := w.heap.size) (w := w) (by (repeat' (first | (with_reducible exact Below.refl _ _) | (with_reducible assumption) | (with_reducible refine Below.alloc ?_ ?_ _) | (with_reducible refine Below.drew ?_) | (with_reducible refine below_drewN ?_ _) | (with_reducible refine Below.setCell ?_ ?_ _) | (with_reducible exact Nat.le_refl _) | omega | (simp only [World.size_alloc, World.size_setCell, World.size_drew]; omega) | (simp; omega) | (simp; done)))) hb (by (first | (with_reducible exact Nat.le_refl _) | (with_reducible assumption) | omega | (simp only [World.size_alloc, World.size_setCell, World.size_drew]; omega) | (simp; omega) | (simp; done)))
      clear hb
      go_wp2_with fail
      go_ret2
      exact ⟨rfl, B2⟩
    · rw [hp] at hf
      have C2 := Lib.hid (show ∀ W, Calls Try.prog 57 #[.agg #[.int .i64 x, .int .i64 y]] W fun e w' => e = .returned (.bool true) ∧ Below W.heap.size W w' from fun W => hp ▸ isPoint_any x y W)
      rw [show hasF l x y = (hasB l x y, 0) from hf]
      clear hf hp
      go_enter Try.func27, Try.ntmps27
      go_wp2_with fail
      refine (C1.out _ (H0.out.below (by (repeat' (first | (with_reducible exact Below.refl _ _) | (with_reducible assumption) | (with_reducible refine Below.alloc ?_ ?_ _) | (with_reducible refine Below.drew ?_) | (with_reducible refine below_drewN ?_ _) | (with_reducible refine Below.setCell ?_ ?_ _) | (with_reducible exact Nat.le_refl _) | omega | (simp only [World.size_alloc, World.size_setCell, World.size_drew]; omega) | (simp; omega) | (simp; done)))))).mono ?_
      rintro e w1 ⟨rfl, hb⟩
      have H1 := Lib.hid ((H0.out.below (by (repeat' (first | (with_reducible exact Below.refl _ _) | (with_reducible assumption) | (with_reducible refine Below.alloc ?_ ?_ _) | (with_reducible refine Below.drew ?_) | (with_reducible refine below_drewN ?_ _) | (with_reducible refine Below.setCell ?_ ?_ _) | (with_reducible exact Nat.le_refl _) | omega | (simp only [World.size_alloc, World.size_setCell, World.size_drew]; omega) | (simp; omega) | (simp; done))))).below hb)
      obtain ⟨kq, fq⟩ := kp hb (b := w.heap.size) (cs := #[Value.int .i64 x, Value.int .i64 y]) (by (first | (with_reducible exact Nat.le_refl _) | (with_reducible assumption) | omega | (simp only [World.size_alloc, World.size_setCell, World.size_drew]; omega) | (simp; omega) | (simp; done))) (fun i => by simp [go_sem]) (fun i => by simp [go_sem])
      have z1 := hb.size
      (try simp only [World.size_alloc, World.size_setCell, World.size_drew] at z1)
      have B1 := up (B := w.heap.size) (w := w) (by (repeat' (first | (with_reducible exact Below.refl _ _) | (with_reducible assumption) | (with_reducible refine Below.alloc ?_ ?_ _) | (with_reducible refine Below.drew ?_) | (with_reducible refine below_drewN ?_ _) | (with_reducible refine Below.setCell ?_ ?_ _) | (with_reducible exact Nat.le_refl _) | omega | (simp only [World.size_alloc, World.size_setCell, World.size_drew]; omega) | (simp; omega) | (simp; done)))) hb (by (first | (with_reducible exact Nat.le_refl _) | (with_reducible assumption) | omega | (simp only [World.size_alloc, World.size_setCell, World.size_drew]; omega) | (simp; omega) | (simp; done)))
      clear hb
      go_wp2_with fail
      refine (C2.out _).mono ?_
      rintro e w2 ⟨rfl, hb⟩
      have H2 := Lib.hid (H1.out.below hb)
      obtain ⟨kq2, fq2⟩ := kp hb (b := w.heap.size) (cs := #[Value.int .i64 x, Value.int .i64 y]) (by (first | (with_reducible exact Nat.le_refl _) | (with_reducible assumption) | omega | (simp only [World.size_alloc, World.size_setCell, World.size_drew]; omega) | (simp; omega) | (simp; done))) kq fq
      have z2 := hb.size
      have B2 := up (B := w.heap.size) (w := w) (by (repeat' (first | (with_reducible exact Below.refl _ _) | (with_reducible assumption) | (with_reducible refine Below.alloc ?_ ?_ _) | (with_reducible refine Below.drew ?_) | (with_reducible refine below_drewN ?_ _) | (with_reducible refine Below.setCell ?_ ?_ _) | (with_reducible exact Nat.le_refl _) | omega | (simp only [World.size_alloc, World.size_setCell, World.size_drew]; omega) | (simp; omega) | (simp; done)))) hb (by (first | (with_reducible exact Nat.le_refl _) | (with_reducible assumption) | omega | (simp only [World.size_alloc, World.size_setCell, World.size_drew]; omega) | (simp; omega) | (simp; done)))
      clear hb kq fq
      go_wp2_with fail
      refine (C3.out _ H2.out).mono ?_
      rintro e w3 ⟨rfl, hb⟩
      have B3 := up (B := w.heap.size) (w := w) (by (repeat' (first | (with_reducible exact Below.refl _ _) | (with_reducible assumption) | (with_reducible refine Below.alloc ?_ ?_ _) | (with_reducible refine Below.drew ?_) | (with_reducible refine below_drewN ?_ _) | (with_reducible refine Below.setCell ?_ ?_ _) | (with_reducible exact Nat.le_refl _) | omega | (simp only [World.size_alloc, World.size_setCell, World.size_drew]; omega) | (simp; omega) | (simp; done)))) hb (by (first | (with_reducible exact Nat.le_refl _) | (with_reducible assumption) | omega | (simp only [World.size_alloc, World.size_setCell, World.size_drew]; omega) | (simp; omega) | (simp; done)))
      clear hb
      go_wp2_with fail
      go_ret2
      exact ⟨rfl, B3⟩
  · rw [show hasF l x y = (false, regF l) from if_neg h0]
    have hd : (regF l == 0) = false := by simpa using h0
    clear h0
    generalize regF l = d at *
    go_enter Try.func27, Try.ntmps27
    go_wp2_with fail
    refine (C1.out _ (H0.out.below (by (repeat' (first | (with_reducible exact Below.refl _ _) | (with_reducible assumption) | (with_reducible refine Below.alloc ?_ ?_ _) | (with_reducible refine Below.drew ?_) | (with_reducible refine below_drewN ?_ _) | (with_reducible refine Below.setCell ?_ ?_ _) | (with_reducible exact Nat.le_refl _) | omega | (simp only [World.size_alloc, World.size_setCell, World.size_drew]; omega) | (simp; omega) | (simp; done)))))).mono ?_
    rintro e w1 ⟨rfl, hb⟩
    have B1 := up (B := w.heap.size) (w := w) (by (repeat' (first | (with_reducible exact Below.refl _ _) | (with_reducible assumption) | (with_reducible refine Below.alloc ?_ ?_ _) | (with_reducible refine Below.drew ?_) | (with_reducible refine below_drewN ?_ _) | (with_reducible refine Below.setCell ?_ ?_ _) | (with_reducible exact Nat.le_refl _) | omega | (simp only [World.size_alloc, World.size_setCell, World.size_drew]; omega) | (simp; omega) | (simp; done)))) hb (by (first | (with_reducible exact Nat.le_refl _) | (with_reducible assumption) | omega | (simp only [World.size_alloc, World.size_setCell, World.size_drew]; omega) | (simp; omega) | (simp; done)))
    clear hb
    go_wp2_with fail
    go_ret2
    exact ⟨rfl, B1⟩

end Go.Proofs.Ytiigneepmpgmmaa

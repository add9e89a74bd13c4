/- The least square of one region that is near another one, of the reference. -/
import Derived.Test.YtjcbngpgmgeanaaLeastA
import Derived.IntWalk
namespace Go.Proofs.Ytjcbngpgmgeanaa
open Go.RowKit
open Reg (R4)
set_option linter.unusedSimpArgs false
set_option linter.unusedVariables false

theorem in_bounds {x y : R4} {n : Int} (hx : Rg x) (hy : Rg y) (n0 : 0 ≤ n) (n1 : n ≤ 2000000) : (-3000000 ≤ y.x0 - n ∧ y.x0 - n ≤ 1000000 ∧ -3000000 ≤ y.y0 - n ∧ y.y0 - n ≤ 1000000) ∧ (-1000000 ≤ y.x1 + n ∧ y.x1 + n ≤ 3000000 ∧ -1000000 ≤ y.y1 + n ∧ y.y1 + n ≤ 3000000) ∧
    -1000000 ≤ npX n x y ∧ npX n x y ≤ 1000000 ∧ -1000000 ≤ npY n x y ∧ npY n x y ≤ 1000000 ∧ -1000000 ≤ min x.x1 (y.x1 + n) ∧ min x.x1 (y.x1 + n) ≤ 1000000 ∧ -1000000 ≤ min x.y1 (y.y1 + n) ∧ min x.y1 (y.y1 + n) ≤ 1000000 := by
  unfold Rg at *
  simp only [npX, npY]
  omega
set_option maxRecDepth 100000 in
set_option maxHeartbeats 4000000 in
theorem nearest_any (A B : Option Addr) (a b : List R4) (ca cb : Nat) (n : Int) (w : World) (ha : ∀ r, r ∈ a → Rg r) (hb : ∀ r, r ∈ b → Rg r) (sa : a.length ≤ 140737488355328) (sb : b.length ≤ 140737488355328) (n0 : 0 ≤ n) (n1 : n ≤ 2000000) (h1 : Rd w A a) (h2 : Rd w B b) :
    Calls Try.prog 65 #[.slice A a.length ca, .slice B b.length cb, .int .i64 n] w fun e w' => e = .returned (.tuple #[.agg #[.int .i64 (npF n a b).2.1, .int .i64 (npF n a b).2.2], .bool (npF n a b).1]) ∧ Below w.heap.size w w' := by
  have HA0 := Lib.hid h1
  have HB0 := Lib.hid h2
  have HM := Lib.hid ha
  have HN := Lib.hid hb
  clear h1 h2 ha hb
  obtain ⟨Z, hZ⟩ : ∃ Z, Z = npF n a b := ⟨_, rfl⟩
  rw [← hZ]
  have HZ := Lib.hid hZ
  clear hZ
  go_enter Try.func65, Try.ntmps65
  go_wp2_with fail
  go_loopw [9, 10] (fun v8 i wr => ∃ k : Nat, k ≤ a.length ∧ i = .int .i64 k ∧ v8 = .bool (npAll n b (false, 0, 0) (a.take k)).1 ∧ FnW w w.heap.size (npAll n b (false, 0, 0) (a.take k)).2.1 (npAll n b (false, 0, 0) (a.take k)).2.2 wr) (fun _ i _ => a.length - (intOf i).toNat)
  case atStart => exact ⟨0, Nat.zero_le _, rfl, rfl, ⟨fun i => by simp [go_sem], fun i => by simp [go_sem], fun i => by simp [go_sem, npAll], fun i => by simp [go_sem], by simp, by (repeat' (first | (with_reducible exact Below.refl _ _) | (with_reducible assumption) | (with_reducible refine Below.alloc ?_ ?_ _) | (with_reducible refine Below.drew ?_) | (with_reducible refine below_drewN ?_ _) | (with_reducible refine Below.setCell ?_ ?_ _) | (with_reducible exact Nat.le_refl _) | omega | (simp only [World.size_alloc, World.size_setCell, World.size_drew]; omega) | (simp; omega) | (simp; done)))⟩⟩
  case round =>
    obtain ⟨k, hk, rfl, rfl, hF⟩ := hrel
    have HF := Lib.hid hF
    clear hF
    have zw := HF.out.b.size
    have zs := HF.out.s
    have hkz : (0 : Int) ≤ (k : Int) := by omega
    by_cases hlt : k < a.length
    · have hi1 : a[k]? = some a[k] := List.getElem?_eq_getElem hlt
      have HS := Lib.hid (npAll_snoc n b (false, 0, 0) a k hlt)
      have HI1 := Lib.hid hi1
      have RX := Lib.hid (HM.out _ (List.getElem_mem hlt))
      clear hi1
      generalize a[k] = x at *
      have hklt : (k : Int) < (a.length : Int) := by omega
      obtain ⟨w8, rfl⟩ : ∃ w8, w8 = wr := ⟨wr, rfl⟩
      obtain ⟨s0, hs0⟩ : ∃ s0, s0 = npAll n b (false, 0, 0) (a.take k) := ⟨_, rfl⟩
      rw [← hs0] at HF HS
      rw [← hs0]
      clear hs0
      go_wp2_with fail
      go_loopw [9, 11] (fun v8 i wr => ∃ j : Nat, j ≤ b.length ∧ i = .int .i64 j ∧ v8 = .bool (npRow n x s0 (b.take j)).1 ∧ FnW w w.heap.size (npRow n x s0 (b.take j)).2.1 (npRow n x s0 (b.take j)).2.2 wr) (fun _ i _ => b.length - (intOf i).toNat)
      case atStart => exact ⟨0, Nat.zero_le _, rfl, rfl, HF.out⟩
      case round =>
        obtain ⟨j, hj, rfl, rfl, hG⟩ := hrel
        have HG := Lib.hid hG
        clear hG
        have zi := HG.out.b.size
        have zt := HG.out.s
        have hjz : (0 : Int) ≤ (j : Int) := by omega
        by_cases hjl : j < b.length
        · obtain ⟨ba, oa, e, hba, hca⟩ := HA0.out.below HG.out.b (by omega)
          subst e
          obtain ⟨bb, ob, e, hbb, hcb⟩ := HB0.out.below HG.out.b (by omega)
          subst e
          have hi1 : b[j]? = some b[j] := List.getElem?_eq_getElem hjl
          obtain ⟨d0, d1, d2, d3⟩ := hcb j _ hi1
          obtain ⟨c0, c1, c2, c3⟩ := hca k _ HI1.out
          have HS2 := Lib.hid (npRow_snoc n x s0 b j hjl)
          have RY := HN.out _ (List.getElem_mem hjl)
          clear hi1 hcb hca
          generalize b[j] = y at *
          have hjlt : (j : Int) < (b.length : Int) := by omega
          obtain ⟨s1, hs1⟩ : ∃ s1, s1 = npRow n x s0 (b.take j) := ⟨_, rfl⟩
          rw [← hs1] at HG HS2
          rw [← hs1]
          clear hs1
          obtain ⟨sb, sx, sy⟩ := s1
          obtain ⟨⟨i0, i1, i2, i3⟩, ⟨i4, i5, i6, i7⟩, i8, i9, i10, i11, i12, i13, i14, i15⟩ := in_bounds RX.out RY n0 n1
          have hcase := np_case n sb sx sy x y
          generalize hQ : npStep n (sb, sx, sy) x y = Q at *
          simp only at HG
          have hmx : ∀ x y : Int, (if x < y then y else x) = max x y := fun x y => by omega
          have hmn : ∀ x y : Int, (if y < x then y else x) = min x y := fun x y => by omega
          have hmx' : ∀ x y : Int, (if x < y then Value.int .i64 y else Value.int .i64 x) = Value.int .i64 (max x y) := fun x y => by rw [← hmx]; split <;> rfl
          have hmn' : ∀ x y : Int, (if y < x then Value.int .i64 y else Value.int .i64 x) = Value.int .i64 (min x y) := fun x y => by rw [← hmn]; split <;> rfl
          have hcase2 : ((¬ npX n x y < min x.x1 (y.x1 + n) ∨ (npX n x y < min x.x1 (y.x1 + n) ∧ ¬ npY n x y < min x.y1 (y.y1 + n))) ∧ Q = (sb, sx, sy)) ∨ ((npX n x y < min x.x1 (y.x1 + n) ∧ npY n x y < min x.y1 (y.y1 + n)) ∧ ((Q = (true, npX n x y, npY n x y) ∧ (sb = false ∨ (sb = true ∧ (npY n x y < sy ∨ (¬ npY n x y < sy ∧ npY n x y = sy ∧ npX n x y < sx))))) ∨ (Q = (sb, sx, sy) ∧ sb = true ∧ ¬ npY n x y < sy ∧ (¬ npY n x y = sy ∨ (npY n x y = sy ∧ ¬ npX n x y < sx))))) := by
            rw [cmp_less] at hcase
            rcases hcase with ⟨h, e⟩ | ⟨h, hs, e⟩ | ⟨h, hs, hl, e⟩ | ⟨h, hs, hl, e⟩
            · refine .inl ⟨?_, e⟩
              simp only [npIn, Bool.and_eq_false_iff, decide_eq_false_iff_not] at h
              omega
            · simp only [npIn, Bool.and_eq_true, decide_eq_true_eq] at h
              exact .inr ⟨h, .inl ⟨e, .inl hs⟩⟩
            · simp only [npIn, Bool.and_eq_true, decide_eq_true_eq] at h
              exact .inr ⟨h, .inl ⟨e, .inr ⟨hs, by omega⟩⟩⟩
            · simp only [npIn, Bool.and_eq_true, decide_eq_true_eq] at h
              exact .inr ⟨h, .inr ⟨e, hs, by omega, by omega⟩⟩
          clear hcase hQ
          have t0 := IntWalk.i64_in (y.x0 - n) (by omega)
          have t1 := IntWalk.i64_in (y.y0 - n) (by omega)
          have t2 := IntWalk.i64_in (y.x1 + n) (by omega)
          have t3 := IntWalk.i64_in (y.y1 + n) (by omega)
          have t4 := IntWalk.i64_in (min x.x1 (y.x1 + n) - 1) (by omega)
          have t5 := IntWalk.i64_in (min x.y1 (y.y1 + n) - 1) (by omega)
          have e1 : max x.x0 (y.x0 - n) = npX n x y := rfl
          have e2 : max x.y0 (y.y0 - n) = npY n x y := rfl
          generalize npX n x y = px at *
          generalize npY n x y = py at *
          generalize e3 : min x.x1 (y.x1 + n) = mx at *
          generalize e4 : min x.y1 (y.y1 + n) = my at *
          have hf := HG.out.f
          have p0 := hf 0
          have p1 := hf 1
          simp at p0 p1
          have g0 := HG.out.ff 0
          have g1 := HG.out.ff 1
          clear hf RY
          have q2 : w.heap.size + 1 < wr.heap.size := by omega
          rcases hcase2 with ⟨ho | ⟨ho1, ho2⟩, rfl⟩ | ⟨⟨ho1, ho2⟩, hin⟩
          · have f1 : decide (mx - 1 < px) = true := by simp; omega
            have f2 : mx - 1 < px := by omega
            go_wp2_with fail
            go_quiet (fail)
            go_wp2_with fail
            go_quiet (fail)
            go_wp2_with fail
            go_roundw
            case rel => exact ⟨j + 1, by omega, by go_num, by rw [HS2.out], by rw [HS2.out]; exact HG.out.next (Nat.le_refl _) (by (repeat' (first | (with_reducible exact Below.refl _ _) | (with_reducible assumption) | (with_reducible refine Below.alloc ?_ ?_ _) | (with_reducible refine Below.drew ?_) | (with_reducible refine below_drewN ?_ _) | (with_reducible refine Below.setCell ?_ ?_ _) | (with_reducible exact Nat.le_refl _) | omega | (simp only [World.size_alloc, World.size_setCell, World.size_drew]; omega) | (simp; omega) | (simp; done))))⟩
            case measure => simp [intOf]; omega
          · have f1 : decide (mx - 1 < px) = false := by simp; omega
            have f2 : ¬ mx - 1 < px := by omega
            have f3 : decide (my - 1 < py) = true := by simp; omega
            have f4 : my - 1 < py := by omega
            go_wp2_with fail
            go_quiet (fail)
            go_wp2_with fail
            go_quiet (fail)
            go_wp2_with fail
            go_roundw
            case rel => exact ⟨j + 1, by omega, by go_num, by rw [HS2.out], by rw [HS2.out]; exact HG.out.next (Nat.le_refl _) (by (repeat' (first | (with_reducible exact Below.refl _ _) | (with_reducible assumption) | (with_reducible refine Below.alloc ?_ ?_ _) | (with_reducible refine Below.drew ?_) | (with_reducible refine below_drewN ?_ _) | (with_reducible refine Below.setCell ?_ ?_ _) | (with_reducible exact Nat.le_refl _) | omega | (simp only [World.size_alloc, World.size_setCell, World.size_drew]; omega) | (simp; omega) | (simp; done))))⟩
            case measure => simp [intOf]; omega
          · have f1 : decide (mx - 1 < px) = false := by simp; omega
            have f2 : ¬ mx - 1 < px := by omega
            have f3 : decide (my - 1 < py) = false := by simp; omega
            have f4 : ¬ my - 1 < py := by omega
            rcases hin with ⟨rfl, rfl | ⟨rfl, hl | ⟨hl1, hl2, hl3⟩⟩⟩ | ⟨rfl, rfl, hl1, hl2 | ⟨hl2, hl3⟩⟩
            · go_wp2_with fail
              go_quiet (fail)
              go_wp2_with fail
              go_quiet (fail)
              go_wp2_with fail
              go_roundw
              case rel => exact ⟨j + 1, by omega, by go_num, by rw [HS2.out], by rw [HS2.out]; exact (HG.out.next (Nat.le_refl _) (by (repeat' (first | (with_reducible exact Below.refl _ _) | (with_reducible assumption) | (with_reducible refine Below.alloc ?_ ?_ _) | (with_reducible refine Below.drew ?_) | (with_reducible refine below_drewN ?_ _) | (with_reducible refine Below.setCell ?_ ?_ _) | (with_reducible exact Nat.le_refl _) | omega | (simp only [World.size_alloc, World.size_setCell, World.size_drew]; omega) | (simp; omega) | (simp; done))))).set (Nat.le_refl _) px py⟩
              case measure => simp [intOf]; omega
            · go_wp2_with fail
              go_quiet (fail)
              go_wp2_with fail
              go_quiet (fail)
              go_wp2_with fail
              go_roundw
              case rel => exact ⟨j + 1, by omega, by go_num, by rw [HS2.out], by rw [HS2.out]; exact (HG.out.next (Nat.le_refl _) (by (repeat' (first | (with_reducible exact Below.refl _ _) | (with_reducible assumption) | (with_reducible refine Below.alloc ?_ ?_ _) | (with_reducible refine Below.drew ?_) | (with_reducible refine below_drewN ?_ _) | (with_reducible refine Below.setCell ?_ ?_ _) | (with_reducible exact Nat.le_refl _) | omega | (simp only [World.size_alloc, World.size_setCell, World.size_drew]; omega) | (simp; omega) | (simp; done))))).set (Nat.le_refl _) px py⟩
              case measure => simp [intOf]; omega
            · have b1 : (py == sy) = true := by simpa using hl2
              have HL := Lib.hid hl2
              clear hl2
              go_wp2_with fail
              go_quiet (fail)
              go_wp2_with fail
              go_quiet (fail)
              go_wp2_with fail
              go_roundw
              case rel => exact ⟨j + 1, by omega, by go_num, by rw [HS2.out], by rw [HS2.out]; exact (HG.out.next (Nat.le_refl _) (by (repeat' (first | (with_reducible exact Below.refl _ _) | (with_reducible assumption) | (with_reducible refine Below.alloc ?_ ?_ _) | (with_reducible refine Below.drew ?_) | (with_reducible refine below_drewN ?_ _) | (with_reducible refine Below.setCell ?_ ?_ _) | (with_reducible exact Nat.le_refl _) | omega | (simp only [World.size_alloc, World.size_setCell, World.size_drew]; omega) | (simp; omega) | (simp; done))))).set (Nat.le_refl _) px py⟩
              case measure => simp [intOf]; omega
            · have b1 : (py == sy) = false := by simpa using hl2
              go_wp2_with fail
              go_quiet (fail)
              go_wp2_with fail
              go_quiet (fail)
              go_wp2_with fail
              go_roundw
              case rel => exact ⟨j + 1, by omega, by go_num, by rw [HS2.out], by rw [HS2.out]; exact HG.out.next (Nat.le_refl _) (by (repeat' (first | (with_reducible exact Below.refl _ _) | (with_reducible assumption) | (with_reducible refine Below.alloc ?_ ?_ _) | (with_reducible refine Below.drew ?_) | (with_reducible refine below_drewN ?_ _) | (with_reducible refine Below.setCell ?_ ?_ _) | (with_reducible exact Nat.le_refl _) | omega | (simp only [World.size_alloc, World.size_setCell, World.size_drew]; omega) | (simp; omega) | (simp; done))))⟩
              case measure => simp [intOf]; omega
            · have b1 : (py == sy) = true := by simpa using hl2
              have HL := Lib.hid hl2
              clear hl2
              go_wp2_with fail
              go_quiet (fail)
              go_wp2_with fail
              go_quiet (fail)
              go_wp2_with fail
              go_roundw
              case rel => exact ⟨j + 1, by omega, by go_num, by rw [HS2.out], by rw [HS2.out]; exact HG.out.next (Nat.le_refl _) (by (repeat' (first | (with_reducible exact Below.refl _ _) | (with_reducible assumption) | (with_reducible refine Below.alloc ?_ ?_ _) | (with_reducible refine Below.drew ?_) | (with_reducible refine below_drewN ?_ _) | (with_reducible refine Below.setCell ?_ ?_ _) | (with_reducible exact Nat.le_refl _) | omega | (simp only [World.size_alloc, World.size_setCell, World.size_drew]; omega) | (simp; omega) | (simp; done))))⟩
              case measure => simp [intOf]; omega
        · obtain rfl : j = b.length := by omega
          rw [List.take_length] at HG
          rw [List.take_length]
          go_wp2_with fail
          go_roundw
          case rel => exact ⟨k + 1, by omega, by go_num, by rw [HS.out], by rw [HS.out]; exact HG.out⟩
          case measure => simp [intOf]; omega
    · obtain rfl : k = a.length := by omega
      rw [List.take_length] at HF
      rw [List.take_length]
      have hz : Z = npAll n b (false, 0, 0) a := HZ.out
      rw [← hz] at HF
      rw [← hz]
      clear hz HZ
      have hf := HF.out.f
      have hr := HF.out.r
      have g0 := hf 0
      have g1 := hf 1
      simp at g0 g1
      have q0 := HF.out.rf 0
      have q1 := HF.out.rf 1
      have B1 := HF.out.b
      clear hf HF
      go_wp2_with fail
      have kz := set2 (a := .int .i64 Z.2.1) (b := .int .i64 Z.2.2) hr
      exact bodyPost_ret (v := .tuple #[.agg #[.int .i64 Z.2.1, .int .i64 Z.2.2], .bool Z.1]) (by simp [results, Try.results65, go_sem, kz]) rfl ⟨rfl, by (repeat' (first | (with_reducible exact Below.refl _ _) | (with_reducible assumption) | (with_reducible refine Below.alloc ?_ ?_ _) | (with_reducible refine Below.drew ?_) | (with_reducible refine below_drewN ?_ _) | (with_reducible refine Below.setCell ?_ ?_ _) | (with_reducible exact Nat.le_refl _) | omega | (simp only [World.size_alloc, World.size_setCell, World.size_drew]; omega) | (simp; omega) | (simp; done)))⟩
end Go.Proofs.Ytjcbngpgmgeanaa

/- The reference's row and sameSpans, whatever the world. -/
import Derived.Test.YtmcbjaefnhfopaaGreatRefC
namespace Go.Proofs.YtmcbjaefnhfopaaGreat
open Go.RowKit
open Reg (R4 Span)
set_option linter.unusedSimpArgs false
set_option linter.unusedVariables false

theorem joined_any (v : Value) (l : List Span) (x y : Int) (w : World) (h : IsS w v l) (hsmall : l.length ≤ 1000000) : Calls Tryz.prog 84 #[v, .agg #[.int .i64 x, .int .i64 y]] w (GotS w (Reg.joinedL l (x, y))) := by
  rcases h with ⟨rfl, rfl⟩ | ⟨h0, b, off, c, rfl, h1, h2, h3, h4⟩
  · exact joined_nil x y w
  · exact joined_some b off c l x y w h0 h1 h2 hsmall h3 h4
theorem absorb_len (l : List Span) : ∀ s, (Reg.absorbL l s).length ≤ l.length + 1 := by
  induction l with
  | nil => intro s; simp [Reg.absorbL]
  | cons a l ih =>
    intro s
    simp only [Reg.absorbL]
    split
    · have := ih (min s.1 a.1, max s.2 a.2)
      simp only [List.length_cons]
      omega
    · simp
theorem joinedL_len (l : List Span) (s : Span) : (Reg.joinedL l s).length ≤ l.length + 1 := by
  induction l with
  | nil => simp [Reg.joinedL]
  | cons a l ih =>
    simp only [Reg.joinedL]
    split
    · simp; omega
    · exact absorb_len _ _

theorem Reg.rowFrom_append (y : Int) (a b : List R4) : ∀ acc : List Span, Reg.rowFrom y acc (a ++ b) = Reg.rowFrom y (Reg.rowFrom y acc a) b := by
  induction a with
  | nil => intro acc; rfl
  | cons r a ih =>
    intro acc
    simp only [List.cons_append, Reg.rowFrom]
    split
    · exact ih _
    · exact ih _
theorem Reg.rowFrom_snoc (y : Int) (l : List R4) (k : Nat) (h : k < l.length) : Reg.rowFrom y [] (l.take (k + 1)) = if l[k].y0 ≤ y ∧ y < l[k].y1 then Reg.joinedL (Reg.rowFrom y [] (l.take k)) (l[k].x0, l[k].x1) else Reg.rowFrom y [] (l.take k) := by
  rw [List.take_succ_eq_append_getElem h, Reg.rowFrom_append]
  rfl
set_option maxRecDepth 100000 in
set_option maxHeartbeats 400000 in
theorem row_anyB (A : Option Addr) (l : List R4) (c : Nat) (y : Int) (w : World) (hl : l.length ≤ 2000000000) (hh : ∀ k, (Reg.rowFrom y [] (l.take k)).length ≤ 900000) (h : Rd w A l) :
    Calls Tryz.prog 65 #[.slice A l.length c, .int .i64 y] w (GotS w (Reg.rowL l y)) := by
  have H0 := Lib.hid h
  have HH := Lib.hid hh
  clear h hh
  go_enter Tryz.func65, Tryz.ntmps65
  go_wp2_with fail
  go_loopw [5, 6] (fun v i wr => ∃ (k : Nat) (acc : List Span), k ≤ l.length ∧ i = .int .i64 k ∧ IsS wr v acc ∧ (∀ g, v.ownBlock = some g → w.heap.size ≤ g) ∧ acc = Reg.rowFrom y [] (l.take k) ∧ Reg.rowL l y = Reg.rowFrom y acc (l.drop k) ∧ Below w.heap.size w wr) (fun _ i _ => l.length - (intOf i).toNat)
  case atStart => exact ⟨0, [], Nat.zero_le _, rfl, .inl ⟨rfl, rfl⟩, (fun g hg => by cases hg), rfl, rfl, Below.refl _ _⟩
  case round =>
    obtain ⟨k, acc, hk, rfl, hI, hfre, heq, hf, hbw⟩ := hrel
    have hlen : acc.length ≤ 900000 := by rw [heq]; exact HH.out k
    have HE := Lib.hid heq
    clear heq
    have zw := hbw.size
    have HFE := Lib.hid hfre
    clear hfre
    have HI := Lib.hid hI
    have HF := Lib.hid hf
    clear hI hf
    have hkz : (0 : Int) ≤ (k : Int) := by omega
    by_cases hlt : k < l.length
    · obtain ⟨b, off, rfl, hblt, hcs⟩ := (H0.out.below hbw) (by omega)
      have hi : l[k]? = some l[k] := List.getElem?_eq_getElem hlt
      have hd : l.drop k = l[k] :: l.drop (k + 1) := List.drop_eq_getElem_cons hlt
      have HD := Lib.hid hd
      have HK := Lib.hid (Reg.rowFrom_snoc y l k hlt)
      have hu := hcs k _ hi
      clear hcs hi hd
      generalize l[k] = r at *
      obtain ⟨c0, c1, c2, c3⟩ := hu
      have hklt : (k : Int) < (l.length : Int) := by omega
      by_cases hin : r.y0 ≤ y ∧ y < r.y1
      · have hn : Reg.rowL l y = Reg.rowFrom y (Reg.joinedL acc (r.x0, r.x1)) (l.drop (k + 1)) := by rw [HF.out, HD.out]; simp only [Reg.rowFrom]; rw [if_pos hin]
        have HN := Lib.hid hn
        have C := Lib.hid (fun v W h => joined_any v acc r.x0 r.x1 W h (by omega))
        obtain ⟨hin1, hin2⟩ := hin
        clear hn
        go_wp2_with fail
        go_region_held3 (fun w' => w'.cell? ⟨b, off + k * 4, none⟩ = some (.int .i64 r.x0) ∧ w'.cell? ⟨b, off + k * 4 + 2, none⟩ = some (.int .i64 r.x1)) (go_keep)
          (first | (go_at_call 84; refine (C.out _ _ ?hi1).mono ?_; (case hi1 => exact HI.out); rintro e wc ⟨v1, rfl, hv1, hfr, hb⟩; have HFR := Lib.hid (fun g hg => Nat.le_trans (show w.heap.size ≤ _ from by (first | (with_reducible exact Nat.le_refl _) | (with_reducible assumption) | omega | (simp only [World.size_alloc, World.size_setCell, World.size_drew]; omega) | (simp; omega) | (simp; done))) (hfr g hg)); clear hfr; have HV1 := Lib.hid hv1; have qc := kc hb b (by (first | (with_reducible exact Nat.le_refl _) | (with_reducible assumption) | omega | (simp only [World.size_alloc, World.size_setCell, World.size_drew]; omega) | (simp; omega) | (simp; done))); have zc := hb.size; (try simp only [World.size_alloc, World.size_setCell, World.size_drew] at zc); have Bc := up (B := w.heap.size) (w := w) (by (repeat' (first | (with_reducible exact Below.refl _ _) | (with_reducible assumption) | (with_reducible refine Below.alloc ?_ ?_ _) | (with_reducible refine Below.drew ?_) | (with_reducible refine below_drewN ?_ _) | (with_reducible refine Below.setCell ?_ ?_ _) | (with_reducible exact Nat.le_refl _) | omega | (simp only [World.size_alloc, World.size_setCell, World.size_drew]; omega) | (simp; omega) | (simp; done)))) hb (by (first | (with_reducible exact Nat.le_refl _) | (with_reducible assumption) | omega | (simp only [World.size_alloc, World.size_setCell, World.size_drew]; omega) | (simp; omega) | (simp; done))); clear hb hv1))
        go_wp2_with fail
        go_roundw
        case rel => exact ⟨k + 1, _, by omega, by go_num, HV1.out, HFR.out, by rw [HK.out, if_pos ⟨hin1, hin2⟩, ← HE.out], HN.out, Bc⟩
        case measure => simp [intOf]; omega
      · have hn : Reg.rowL l y = Reg.rowFrom y acc (l.drop (k + 1)) := by rw [HF.out, HD.out]; simp only [Reg.rowFrom]; rw [if_neg hin]
        have HN := Lib.hid hn
        have HNI := Lib.hid hin
        clear hn
        by_cases hy0 : r.y0 ≤ y
        · have hy1 : ¬ y < r.y1 := fun h => hin ⟨hy0, h⟩
          clear hin
          go_wp2_with fail
          go_roundw
          case rel => exact ⟨k + 1, acc, by omega, by go_num, HI.out, HFE.out, by rw [HK.out, if_neg HNI.out, ← HE.out], HN.out, by (repeat' (first | (with_reducible exact Below.refl _ _) | (with_reducible assumption) | (with_reducible refine Below.alloc ?_ ?_ _) | (with_reducible refine Below.drew ?_) | (with_reducible refine below_drewN ?_ _) | (with_reducible refine Below.setCell ?_ ?_ _) | (with_reducible exact Nat.le_refl _) | omega | (simp only [World.size_alloc, World.size_setCell, World.size_drew]; omega) | (simp; omega) | (simp; done)))⟩
          case measure => simp [intOf]; omega
        · clear hin
          go_wp2_with fail
          go_roundw
          case rel => exact ⟨k + 1, acc, by omega, by go_num, HI.out, HFE.out, by rw [HK.out, if_neg HNI.out, ← HE.out], HN.out, by (repeat' (first | (with_reducible exact Below.refl _ _) | (with_reducible assumption) | (with_reducible refine Below.alloc ?_ ?_ _) | (with_reducible refine Below.drew ?_) | (with_reducible refine below_drewN ?_ _) | (with_reducible refine Below.setCell ?_ ?_ _) | (with_reducible exact Nat.le_refl _) | omega | (simp only [World.size_alloc, World.size_setCell, World.size_drew]; omega) | (simp; omega) | (simp; done)))⟩
          case measure => simp [intOf]; omega
    · obtain rfl : k = l.length := by omega
      have hn : Reg.rowL l y = acc := by rw [HF.out, List.drop_length]; rfl
      have HN := Lib.hid hn
      clear hn
      go_wp2_with fail
      go_ret
      exact ⟨_, rfl, by rw [HN.out]; exact HI.out, HFE.out, hbw⟩

theorem rowFrom_len2 (y : Int) (l : List R4) : ∀ acc : List Span, (Reg.rowFrom y acc l).length ≤ acc.length + l.length := by
  induction l with
  | nil => intro acc; simp [Reg.rowFrom]
  | cons r l ih =>
    intro acc
    simp only [Reg.rowFrom, List.length_cons]
    split
    · have h1 := ih (Reg.joinedL acc (r.x0, r.x1))
      have h2 := joinedL_len acc (r.x0, r.x1)
      omega
    · have h1 := ih acc
      omega
theorem row_any (A : Option Addr) (l : List R4) (c : Nat) (y : Int) (w : World) (hl : l.length ≤ 100000) (h : Rd w A l) :
    Calls Tryz.prog 65 #[.slice A l.length c, .int .i64 y] w (GotS w (Reg.rowL l y)) :=
  row_anyB A l c y w (by omega) (fun k => by
    have h1 := rowFrom_len2 y (l.take k) []
    rw [List.length_take] at h1
    simp only [List.length_nil] at h1
    omega) h

theorem same_nil (m : List Span) (v : Value) (w : World) (h : IsS w v m) : Calls Tryz.prog 82 #[.slice none 0 0, v] w fun e w' => e = .returned (.bool (decide ([] = m))) ∧ Below w.heap.size w w' := by
  rcases h with ⟨rfl, rfl⟩ | ⟨h0, b, off, c, rfl, h1, h2, h3, h4⟩
  · go_enter Tryz.func82, Tryz.ntmps82
    go_wp2_with fail
    refine wp_loop_rounds 1 ?_
    rw [rounds_succ]
    go_wp2_with fail
    go_ret
    exact ⟨rfl, by (repeat' (first | (with_reducible exact Below.refl _ _) | (with_reducible assumption) | (with_reducible refine Below.alloc ?_ ?_ _) | (with_reducible refine Below.drew ?_) | (with_reducible refine below_drewN ?_ _) | (with_reducible refine Below.setCell ?_ ?_ _) | (with_reducible exact Nat.le_refl _) | omega | (simp only [World.size_alloc, World.size_setCell, World.size_drew]; omega) | (simp; omega) | (simp; done)))⟩
  · have hn : decide ([] = m) = false := by cases m; simp at h0; rfl
    have HN := Lib.hid hn
    clear hn
    have hne : (0 != (m.length : Int)) = true := bne_iff_ne.2 (by omega)
    go_enter Tryz.func82, Tryz.ntmps82
    go_wp2_with fail
    go_ret
    exact ⟨by rw [HN.out]; rfl, by (repeat' (first | (with_reducible exact Below.refl _ _) | (with_reducible assumption) | (with_reducible refine Below.alloc ?_ ?_ _) | (with_reducible refine Below.drew ?_) | (with_reducible refine below_drewN ?_ _) | (with_reducible refine Below.setCell ?_ ?_ _) | (with_reducible exact Nat.le_refl _) | omega | (simp only [World.size_alloc, World.size_setCell, World.size_drew]; omega) | (simp; omega) | (simp; done)))⟩

set_option maxHeartbeats 400000 in
theorem same_some (b off c : Nat) (l m : List Span) (v : Value) (w : World) (hl0 : 0 < l.length) (hl : l.length ≤ c) (hc : c ≤ 9223372036854775807) (hsmall : l.length ≤ 1000000) (hblt : b < w.heap.size)
    (hcs : ∀ i s, l[i]? = some s → w.cell? ⟨b, off + i * 2, none⟩ = some (.int .i64 s.1) ∧ w.cell? ⟨b, off + i * 2 + 1, none⟩ = some (.int .i64 s.2)) (h : IsS w v m) (hm : m.length ≤ 1000000) :
    Calls Tryz.prog 82 #[.slice (some ⟨b, off, none⟩) l.length c, v] w fun e w' => e = .returned (.bool (decide (l = m))) ∧ Below w.heap.size w w' := by
  rcases h with ⟨rfl, rfl⟩ | ⟨h0, b2, off2, c2, rfl, h1, h2, h3, h4⟩
  · have hn : decide (l = []) = false := by cases l; simp at hl0; rfl
    have HN := Lib.hid hn
    clear hn hcs
    have hne : ((l.length : Int) != 0) = true := bne_iff_ne.2 (by omega)
    go_enter Tryz.func82, Tryz.ntmps82
    go_wp2_with fail
    go_ret
    exact ⟨by rw [HN.out]; rfl, by (repeat' (first | (with_reducible exact Below.refl _ _) | (with_reducible assumption) | (with_reducible refine Below.alloc ?_ ?_ _) | (with_reducible refine Below.drew ?_) | (with_reducible refine below_drewN ?_ _) | (with_reducible refine Below.setCell ?_ ?_ _) | (with_reducible exact Nat.le_refl _) | omega | (simp only [World.size_alloc, World.size_setCell, World.size_drew]; omega) | (simp; omega) | (simp; done)))⟩
  · have HA := Lib.hid hcs
    have HB := Lib.hid h4
    clear hcs h4
    by_cases hlen : l.length = m.length
    · have hlb : ((l.length : Int) != (m.length : Int)) = false := by simp [hlen]
      have HL := Lib.hid hlen
      clear hlen
      go_enter Tryz.func82, Tryz.ntmps82
      go_wp2_with fail
      go_loopw [5] (fun i wr => ∃ k : Nat, k ≤ l.length ∧ i = .int .i64 k ∧ l.take k = m.take k ∧ Below w.heap.size w wr) (fun i _ => l.length - (intOf i).toNat)
      case atStart => exact ⟨0, Nat.zero_le _, rfl, rfl, Below.refl _ _⟩
      case round =>
        obtain ⟨k, hk, rfl, hf, hbw⟩ := hrel
        have zw := hbw.size
        have HF := Lib.hid hf
        clear hf
        have hbo := (bcell hbw).1
        by_cases hlt : k < l.length
        · have hlt2 : k < m.length := by have := HL.out; omega
          have hi : l[k]? = some l[k] := List.getElem?_eq_getElem hlt
          have hi2 : m[k]? = some m[k] := List.getElem?_eq_getElem hlt2
          have hu := HA.out k _ hi
          have hu2 := HB.out k _ hi2
          have ht : l.take (k + 1) = l.take k ++ [l[k]] := List.take_succ_eq_append_getElem hlt
          have ht2 : m.take (k + 1) = m.take k ++ [m[k]] := List.take_succ_eq_append_getElem hlt2
          have HI := Lib.hid hi
          have HI2 := Lib.hid hi2
          have HT := Lib.hid ht
          have HT2 := Lib.hid ht2
          clear ht ht2 hi hi2
          generalize l[k] = r at *
          generalize m[k] = u at *
          have c0 := (hbo b _ hblt).trans hu.1
          have c1 := (hbo b _ hblt).trans hu.2
          have d0 := (hbo b2 _ h3).trans hu2.1
          have d1 := (hbo b2 _ h3).trans hu2.2
          clear hu hu2 hbo
          have hkz : (0 : Int) ≤ (k : Int) := by omega
          have hkz1 : (k : Int) < (l.length : Int) := by omega
          have hkz2 : (k : Int) < (m.length : Int) := by omega
          by_cases hs : r = u
          · have hn : l.take (k + 1) = m.take (k + 1) := by rw [HT.out, HT2.out, HF.out, hs]
            have HN := Lib.hid hn
            have e1 : (r.1 == u.1) = true := by simp [hs]
            have e2 : (r.2 == u.2) = true := by simp [hs]
            clear hn hs
            go_wp2_with fail
            go_quiet (fail)
            go_wp2_with fail
            go_roundw
            case rel => exact ⟨k + 1, by omega, by go_num, HN.out, by (repeat' (first | (with_reducible exact Below.refl _ _) | (with_reducible assumption) | (with_reducible refine Below.alloc ?_ ?_ _) | (with_reducible refine Below.drew ?_) | (with_reducible refine below_drewN ?_ _) | (with_reducible refine Below.setCell ?_ ?_ _) | (with_reducible exact Nat.le_refl _) | omega | (simp only [World.size_alloc, World.size_setCell, World.size_drew]; omega) | (simp; omega) | (simp; done)))⟩
            case measure => simp [intOf]; omega
          · have hn : decide (l = m) = false := by
              rw [decide_eq_false_iff_not]
              intro he
              have h1' := HI.out
              rw [he, HI2.out] at h1'
              injection h1' with h1'
              exact hs h1'.symm
            have HN := Lib.hid hn
            clear hn
            have hor : (r.1 == u.1) = false ∨ ((r.1 == u.1) = true ∧ (r.2 == u.2) = false) := by
              by_cases h1' : r.1 = u.1
              · right
                refine ⟨by simp [h1'], ?_⟩
                rw [beq_eq_false_iff_ne]
                intro h2'
                exact hs (Prod.ext h1' h2')
              · left
                simpa using h1'
            clear hs
            rcases hor with e1 | ⟨e1, e2⟩
            · go_wp2_with fail
              go_quiet (fail)
              go_wp2_with fail
              go_ret
              exact ⟨by rw [HN.out]; rfl, by (repeat' (first | (with_reducible exact Below.refl _ _) | (with_reducible assumption) | (with_reducible refine Below.alloc ?_ ?_ _) | (with_reducible refine Below.drew ?_) | (with_reducible refine below_drewN ?_ _) | (with_reducible refine Below.setCell ?_ ?_ _) | (with_reducible exact Nat.le_refl _) | omega | (simp only [World.size_alloc, World.size_setCell, World.size_drew]; omega) | (simp; omega) | (simp; done)))⟩
            · go_wp2_with fail
              go_quiet (fail)
              go_wp2_with fail
              go_ret
              exact ⟨by rw [HN.out]; rfl, by (repeat' (first | (with_reducible exact Below.refl _ _) | (with_reducible assumption) | (with_reducible refine Below.alloc ?_ ?_ _) | (with_reducible refine Below.drew ?_) | (with_reducible refine below_drewN ?_ _) | (with_reducible refine Below.setCell ?_ ?_ _) | (with_reducible exact Nat.le_refl _) | omega | (simp only [World.size_alloc, World.size_setCell, World.size_drew]; omega) | (simp; omega) | (simp; done)))⟩
        · obtain rfl : k = l.length := by omega
          have hn : decide (l = m) = true := by
            rw [decide_eq_true_eq]
            have := HF.out
            rw [List.take_length, HL.out, List.take_length] at this
            exact this
          have HN := Lib.hid hn
          clear hn hbo
          go_wp2_with fail
          go_ret
          exact ⟨by rw [HN.out]; rfl, by (repeat' (first | (with_reducible exact Below.refl _ _) | (with_reducible assumption) | (with_reducible refine Below.alloc ?_ ?_ _) | (with_reducible refine Below.drew ?_) | (with_reducible refine below_drewN ?_ _) | (with_reducible refine Below.setCell ?_ ?_ _) | (with_reducible exact Nat.le_refl _) | omega | (simp only [World.size_alloc, World.size_setCell, World.size_drew]; omega) | (simp; omega) | (simp; done)))⟩
    · have hlb : ((l.length : Int) != (m.length : Int)) = true := by simp; omega
      have hn : decide (l = m) = false := by
        rw [decide_eq_false_iff_not]
        intro he
        exact hlen (by rw [he])
      have HN := Lib.hid hn
      clear hn hlen
      go_enter Tryz.func82, Tryz.ntmps82
      go_wp2_with fail
      go_ret
      exact ⟨by rw [HN.out]; rfl, by (repeat' (first | (with_reducible exact Below.refl _ _) | (with_reducible assumption) | (with_reducible refine Below.alloc ?_ ?_ _) | (with_reducible refine Below.drew ?_) | (with_reducible refine below_drewN ?_ _) | (with_reducible refine Below.setCell ?_ ?_ _) | (with_reducible exact Nat.le_refl _) | omega | (simp only [World.size_alloc, World.size_setCell, World.size_drew]; omega) | (simp; omega) | (simp; done)))⟩

theorem same_any (v1 v2 : Value) (l m : List Span) (w : World) (h1 : IsS w v1 l) (h2 : IsS w v2 m) (hl : l.length ≤ 1000000) (hm : m.length ≤ 1000000) : Calls Tryz.prog 82 #[v1, v2] w fun e w' => e = .returned (.bool (decide (l = m))) ∧ Below w.heap.size w w' := by
  rcases h1 with ⟨rfl, rfl⟩ | ⟨h0, b, off, c, rfl, k1, k2, k3, k4⟩
  · exact same_nil m v2 w h2
  · exact same_some b off c l m v2 w h0 k1 k2 hl k3 k4 h2 hm
end Go.Proofs.YtmcbjaefnhfopaaGreat

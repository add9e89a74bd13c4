/- The reference's mixed, whatever the world. -/
import Derived.Test.YtmcbjaefnhfopaaGreatMix
namespace Go.Proofs.YtmcbjaefnhfopaaGreat
open Go.RowKit
open Reg (R4 Span Band putL)
set_option linter.unusedSimpArgs false
set_option linter.unusedVariables false

theorem joinFrom_step (ks : Int → Bool) (acc : List Span) (ys : List Int) (k : Nat) (a b : Int) (h1 : ys[k]? = some a) (h2 : ys[k + 1]? = some b) :
    joinFrom ks acc (ys.drop k) = joinFrom ks (if ks a then Reg.joinedL acc (a, b) else acc) (ys.drop (k + 1)) := by
  obtain ⟨i1, rfl⟩ := List.getElem?_eq_some_iff.1 h1
  obtain ⟨i2, rfl⟩ := List.getElem?_eq_some_iff.1 h2
  rw [List.drop_eq_getElem_cons i1, List.drop_eq_getElem_cons i2, joinFrom]
theorem joinFrom_end (ks : Int → Bool) (acc : List Span) (ys : List Int) (k : Nat) (h : ¬ k + 1 < ys.length) : joinFrom ks acc (ys.drop k) = acc := by
  by_cases h2 : k < ys.length
  · rw [List.drop_eq_getElem_cons h2, List.drop_of_length_le (by omega)]; rfl
  · rw [List.drop_of_length_le (by omega)]; rfl
theorem IsI.open_ {w : World} {v : Value} {l : List Int} (h : IsI w v l) : ∃ A c, v = .slice A l.length c ∧ (0 < l.length → ∃ b off, A = some ⟨b, off, none⟩ ∧ b < w.heap.size ∧ ∀ i s, l[i]? = some s → w.cell? ⟨b, off + i, none⟩ = some (.int .i64 s)) := by
  rcases h with ⟨rfl, rfl⟩ | ⟨_, b, off, c, e, _, _, h3, h4⟩
  · exact ⟨none, 0, rfl, fun h => by simp at h⟩
  · exact ⟨_, _, e, fun _ => ⟨b, off, rfl, h3, h4⟩⟩

set_option maxRecDepth 100000 in
set_option maxHeartbeats 4000000 in
theorem mixed_any (va vb : Value) (a b : List Span) (way : Int) (w : World) (h1 : IsS w va a) (h2 : IsS w vb b) (hla : a.length ≤ 100000) (hlb : b.length ≤ 100000) (hway : way = 1 ∨ way = 2 ∨ way = 3) :
    Calls Tryz.prog 64 #[va, vb, .int .i64 way] w (GotS w (mixedL way a b)) := by
  have HA0 := Lib.hid h1
  have HB0 := Lib.hid h2
  obtain ⟨A, ca, rfl, hca⟩ := h1.open_
  obtain ⟨B, cb, rfl, hcb⟩ := h2.open_
  have HCA := Lib.hid hca
  have HCB := Lib.hid hcb
  clear h1 h2 hca hcb
  have CI1 := Lib.hid (fun x W h => inside_any (.slice A a.length ca) a x W h (by omega))
  have CI2 := Lib.hid (fun x W h => inside_any (.slice B b.length cb) b x W h (by omega))
  have hplen := ptsFrom_len b (ptsFrom [] a)
  have hplen0 := ptsFrom_len a []
  simp only [List.length_nil, Nat.zero_add] at hplen0
  have hps := (ptsFrom_ok b _ (ptsFrom_ok a [] List.Pairwise.nil).1).1
  have HPS := Lib.hid hps
  clear hps
  have hmx : mixedL way a b = joinFrom (fun x => wayB way (insB a x) (insB b x)) [] ((ptsFrom (ptsFrom [] a) b).drop 0) := rfl
  have HMX := Lib.hid hmx
  clear hmx
  go_enter Tryz.func64, Tryz.ntmps64
  go_wp2_with fail
  go_loopw [7, 8] (fun v i wr => ∃ (k : Nat) (hs : List Int), k ≤ a.length ∧ i = .int .i64 k ∧ IsI wr v hs ∧ hs.Pairwise (· < ·) ∧ hs.length ≤ 2 * k ∧ ptsFrom [] a = ptsFrom hs (a.drop k) ∧ Below w.heap.size w wr) (fun _ i _ => a.length - (intOf i).toNat)
  case atStart => exact ⟨0, [], Nat.zero_le _, rfl, .inl ⟨rfl, rfl⟩, List.Pairwise.nil, Nat.le_refl _, rfl, Below.refl _ _⟩
  case round =>
    obtain ⟨k, hs, hk, rfl, hI, hsort, hlen, hf, hbw⟩ := hrel
    have zw := hbw.size
    have HI := Lib.hid hI
    have HF := Lib.hid hf
    have HS := Lib.hid hsort
    clear hI hf hsort
    have hkz : (0 : Int) ≤ (k : Int) := by omega
    by_cases hlt : k < a.length
    · obtain ⟨g, off, rfl, hblt, hcs⟩ := HCA.out (by omega)
      have hi : a[k]? = some a[k] := List.getElem?_eq_getElem hlt
      have hd : a.drop k = a[k] :: a.drop (k + 1) := List.drop_eq_getElem_cons hlt
      have HD := Lib.hid hd
      have c0 := ((bcell hbw).1 _ _ hblt).trans (hcs k _ hi).1
      have c1 := ((bcell hbw).1 _ _ hblt).trans (hcs k _ hi).2
      clear hcs hi hd
      generalize a[k] = r at *
      have hklt : (k : Int) < (a.length : Int) := by omega
      have C1 := Lib.hid (fun v W h => put_any v hs r.1 W h HS.out (by omega))
      have C2 := Lib.hid (fun v W h => put_any v (putL hs r.1) r.2 W h (Reg.putL_sorted HS.out) (by have := putL_len hs r.1; omega))
      have tok1 : True := trivial
      go_wp2_with fail
      go_region_held3 (fun w' => w'.cell? ⟨g, off + k * 2, none⟩ = some (.int .i64 r.1) ∧ w'.cell? ⟨g, off + k * 2 + 1, none⟩ = some (.int .i64 r.2)) (go_keep)
        (first | (go_at_call 81; have _t := tok1; refine (C1.out _ _ ?hi1).mono ?_; (case hi1 => exact HI.out); rintro e wc ⟨v1, rfl, hv1, hb⟩; have HV1 := Lib.hid hv1; have qc := kc hb g (by (first | (with_reducible exact Nat.le_refl _) | (with_reducible assumption) | omega | (simp only [World.size_alloc, World.size_setCell, World.size_drew]; omega) | (simp; omega) | (simp; done))); have zc := hb.size; (try simp only [World.size_alloc, World.size_setCell, World.size_drew] at zc); have Bc := up (B := w.heap.size) (w := w) (by (repeat' (first | (with_reducible exact Below.refl _ _) | (with_reducible assumption) | (with_reducible refine Below.alloc ?_ ?_ _) | (with_reducible refine Below.drew ?_) | (with_reducible refine below_drewN ?_ _) | (with_reducible refine Below.setCell ?_ ?_ _) | (with_reducible exact Nat.le_refl _) | omega | (simp only [World.size_alloc, World.size_setCell, World.size_drew]; omega) | (simp; omega) | (simp; done)))) hb (by (first | (with_reducible exact Nat.le_refl _) | (with_reducible assumption) | omega | (simp only [World.size_alloc, World.size_setCell, World.size_drew]; omega) | (simp; omega) | (simp; done))); clear hb hv1 tok1) | (go_at_call 81; refine (C2.out _ _ ?hi2).mono ?_; (case hi2 => exact HV1.out); rintro e wc ⟨v2, rfl, hv2, hb⟩; have HV2 := Lib.hid hv2; have qc := kc hb g (by (first | (with_reducible exact Nat.le_refl _) | (with_reducible assumption) | omega | (simp only [World.size_alloc, World.size_setCell, World.size_drew]; omega) | (simp; omega) | (simp; done))); have zc := hb.size; (try simp only [World.size_alloc, World.size_setCell, World.size_drew] at zc); have Bc := up (B := w.heap.size) (w := w) (by (repeat' (first | (with_reducible exact Below.refl _ _) | (with_reducible assumption) | (with_reducible refine Below.alloc ?_ ?_ _) | (with_reducible refine Below.drew ?_) | (with_reducible refine below_drewN ?_ _) | (with_reducible refine Below.setCell ?_ ?_ _) | (with_reducible exact Nat.le_refl _) | omega | (simp only [World.size_alloc, World.size_setCell, World.size_drew]; omega) | (simp; omega) | (simp; done)))) hb (by (first | (with_reducible exact Nat.le_refl _) | (with_reducible assumption) | omega | (simp only [World.size_alloc, World.size_setCell, World.size_drew]; omega) | (simp; omega) | (simp; done))); clear hb hv2))
      go_wp2_with fail
      go_roundw
      case rel => exact ⟨k + 1, putL (putL hs r.1) r.2, by omega, by go_num, HV2.out, Reg.putL_sorted (Reg.putL_sorted HS.out), by have := putL_len hs r.1; have := putL_len (putL hs r.1) r.2; omega, by rw [HF.out, HD.out]; rfl, Bc⟩
      case measure => simp [intOf]; omega
    · obtain rfl : k = a.length := by omega
      have hn : ptsFrom [] a = hs := by rw [HF.out, List.drop_length]; rfl
      have HN := Lib.hid hn
      clear hn
      go_wp2_with fail
      have hst : ptsFrom (ptsFrom [] a) b = ptsFrom hs (b.drop 0) := by rw [HN.out]; rfl
      have HST := Lib.hid hst
      clear hst
      go_loopw [7, 9] (fun v i wr => ∃ (k : Nat) (hs : List Int), k ≤ b.length ∧ i = .int .i64 k ∧ IsI wr v hs ∧ hs.Pairwise (· < ·) ∧ hs.length ≤ 2 * a.length + 2 * k ∧ ptsFrom (ptsFrom [] a) b = ptsFrom hs (b.drop k) ∧ Below w.heap.size w wr) (fun _ i _ => b.length - (intOf i).toNat)
      case atStart => exact ⟨0, hs, Nat.zero_le _, rfl, HI.out, HS.out, by omega, HST.out, hbw⟩
      case round =>
        clear HI HF HS HN HST hbw zw hlen
        obtain ⟨k, hs, hk, rfl, hI, hsort, hlen, hf, hbw⟩ := hrel
        have zw := hbw.size
        have HI := Lib.hid hI
        have HF := Lib.hid hf
        have HS := Lib.hid hsort
        clear hI hf hsort
        have hkz : (0 : Int) ≤ (k : Int) := by omega
        by_cases hlt : k < b.length
        · obtain ⟨g, off, rfl, hblt, hcs⟩ := HCB.out (by omega)
          have hi : b[k]? = some b[k] := List.getElem?_eq_getElem hlt
          have hd : b.drop k = b[k] :: b.drop (k + 1) := List.drop_eq_getElem_cons hlt
          have HD := Lib.hid hd
          have c0 := ((bcell hbw).1 _ _ hblt).trans (hcs k _ hi).1
          have c1 := ((bcell hbw).1 _ _ hblt).trans (hcs k _ hi).2
          clear hcs hi hd
          generalize b[k] = r at *
          have hklt : (k : Int) < (b.length : Int) := by omega
          have C1 := Lib.hid (fun v W h => put_any v hs r.1 W h HS.out (by omega))
          have C2 := Lib.hid (fun v W h => put_any v (putL hs r.1) r.2 W h (Reg.putL_sorted HS.out) (by have := putL_len hs r.1; omega))
          have tok1 : True := trivial
          go_wp2_with fail
          go_region_held3 (fun w' => w'.cell? ⟨g, off + k * 2, none⟩ = some (.int .i64 r.1) ∧ w'.cell? ⟨g, off + k * 2 + 1, none⟩ = some (.int .i64 r.2)) (go_keep)
            (first | (go_at_call 81; have _t := tok1; refine (C1.out _ _ ?hi1).mono ?_; (case hi1 => exact HI.out); rintro e wc ⟨v1, rfl, hv1, hb⟩; have HV1 := Lib.hid hv1; have qc := kc hb g (by (first | (with_reducible exact Nat.le_refl _) | (with_reducible assumption) | omega | (simp only [World.size_alloc, World.size_setCell, World.size_drew]; omega) | (simp; omega) | (simp; done))); have zc := hb.size; (try simp only [World.size_alloc, World.size_setCell, World.size_drew] at zc); have Bc := up (B := w.heap.size) (w := w) (by (repeat' (first | (with_reducible exact Below.refl _ _) | (with_reducible assumption) | (with_reducible refine Below.alloc ?_ ?_ _) | (with_reducible refine Below.drew ?_) | (with_reducible refine below_drewN ?_ _) | (with_reducible refine Below.setCell ?_ ?_ _) | (with_reducible exact Nat.le_refl _) | omega | (simp only [World.size_alloc, World.size_setCell, World.size_drew]; omega) | (simp; omega) | (simp; done)))) hb (by (first | (with_reducible exact Nat.le_refl _) | (with_reducible assumption) | omega | (simp only [World.size_alloc, World.size_setCell, World.size_drew]; omega) | (simp; omega) | (simp; done))); clear hb hv1 tok1) | (go_at_call 81; refine (C2.out _ _ ?hi2).mono ?_; (case hi2 => exact HV1.out); rintro e wc ⟨v2, rfl, hv2, hb⟩; have HV2 := Lib.hid hv2; have qc := kc hb g (by (first | (with_reducible exact Nat.le_refl _) | (with_reducible assumption) | omega | (simp only [World.size_alloc, World.size_setCell, World.size_drew]; omega) | (simp; omega) | (simp; done))); have zc := hb.size; (try simp only [World.size_alloc, World.size_setCell, World.size_drew] at zc); have Bc := up (B := w.heap.size) (w := w) (by (repeat' (first | (with_reducible exact Below.refl _ _) | (with_reducible assumption) | (with_reducible refine Below.alloc ?_ ?_ _) | (with_reducible refine Below.drew ?_) | (with_reducible refine below_drewN ?_ _) | (with_reducible refine Below.setCell ?_ ?_ _) | (with_reducible exact Nat.le_refl _) | omega | (simp only [World.size_alloc, World.size_setCell, World.size_drew]; omega) | (simp; omega) | (simp; done)))) hb (by (first | (with_reducible exact Nat.le_refl _) | (with_reducible assumption) | omega | (simp only [World.size_alloc, World.size_setCell, World.size_drew]; omega) | (simp; omega) | (simp; done))); clear hb hv2))
          go_wp2_with fail
          go_roundw
          case rel => exact ⟨k + 1, putL (putL hs r.1) r.2, by omega, by go_num, HV2.out, Reg.putL_sorted (Reg.putL_sorted HS.out), by have := putL_len hs r.1; have := putL_len (putL hs r.1) r.2; omega, by rw [HF.out, HD.out]; rfl, Bc⟩
          case measure => simp [intOf]; omega
        · obtain rfl : k = b.length := by omega
          have hn : ptsFrom (ptsFrom [] a) b = hs := by rw [HF.out, List.drop_length]; rfl
          have HX1 := Lib.hid HI.out
          have HB1 := Lib.hid hbw
          generalize ptsFrom (ptsFrom [] a) b = xs at *
          subst hn
          obtain ⟨X, cx, rfl, hcx⟩ := HX1.out.open_
          have HCX := Lib.hid hcx
          clear hcx HF HS HI hlen hbw zw hlt hk
          generalize hw1 : wr = w1 at *
          have z1 := HB1.out.size
          clear hw1
          go_wp2_with fail
          go_loopw [10, 11] (fun v i wr => ∃ (k : Nat) (acc : List Span), k ≤ xs.length ∧ i = .int .i64 ((k : Int) + 1) ∧ IsS wr v acc ∧ (∀ g, v.ownBlock = some g → w.heap.size ≤ g) ∧ acc.length ≤ k ∧ mixedL way a b = joinFrom (fun x => wayB way (insB a x) (insB b x)) acc (xs.drop k) ∧ Below w1.heap.size w1 wr) (fun _ i _ => xs.length + 1 - (intOf i).toNat)
          case atStart => exact ⟨0, [], Nat.zero_le _, rfl, .inl ⟨rfl, rfl⟩, (fun g hg => by cases hg), Nat.le_refl _, HMX.out, Below.refl _ _⟩
          case round =>
            obtain ⟨k, acc, hk, rfl, hI, hfre, hlen, hf, hbw⟩ := hrel
            have zw := hbw.size
            have HFE := Lib.hid hfre
            have HI := Lib.hid hI
            have HF := Lib.hid hf
            have HW := Lib.hid (show Below w.heap.size w wr from HB1.out.trans (hbw.mono z1))
            clear hfre hI hf
            have hkz : (0 : Int) ≤ (k : Int) := by omega
            by_cases hlt : k + 1 < xs.length
            · obtain ⟨g, off, rfl, hblt, hcs⟩ := HCX.out (by omega)
              have hia : xs[k]? = some xs[k] := List.getElem?_eq_getElem (by omega)
              have hib : xs[k + 1]? = some xs[k + 1] := List.getElem?_eq_getElem hlt
              have HST := Lib.hid (joinFrom_step (fun x => wayB way (insB a x) (insB b x)) acc xs k _ _ hia hib)
              have c0 := ((bcell hbw).1 _ _ hblt).trans (hcs k _ hia)
              have c1 := ((bcell hbw).1 _ _ hblt).trans (hcs (k + 1) _ hib)
              clear hcs hia hib
              generalize xs[k] = p at *
              generalize xs[k + 1] = q at *
              have hklt : (k : Int) + 1 < (xs.length : Int) := by omega
              have hklt0 : (k : Int) < (xs.length : Int) := by omega
              have hkz1 : (0 : Int) ≤ (k : Int) + 1 := by omega
              have hs1 : IntKind.i64.wrap (k : Int) = (k : Int) := IntWalk.i64_in _ (by omega)
              have hs2 : ((k : Int) + 1).toNat = k + 1 := by omega
              have D1 := Lib.hid (CI1.out p)
              have D2 := Lib.hid (CI2.out p)
              have hn : mixedL way a b = joinFrom (fun x => wayB way (insB a x) (insB b x)) (if wayB way (insB a p) (insB b p) then Reg.joinedL acc (p, q) else acc) (xs.drop (k + 1)) := by rw [HF.out, HST.out]
              have HN := Lib.hid hn
              have CJ := Lib.hid (fun v W h => joined_any v acc p q W h (by omega))
              clear hn HF HST
              generalize insB a p = ia at *
              generalize insB b p = ib at *
              have hA1 := HA0.out.below HW.out
              have hB1 := HB0.out.below HW.out
              have HA1 := Lib.hid hA1
              have HB1' := Lib.hid hB1
              clear hA1 hB1
              have tok1 : True := trivial
              go_wp2_with fail
              go_region_held3 (fun w' => w'.cell? ⟨g, off + k, none⟩ = some (.int .i64 p) ∧ w'.cell? ⟨g, off + (k + 1), none⟩ = some (.int .i64 q)) (go_keep)
                (first | (go_at_call 83; have _t := tok1; refine (D1.out _ ?hi1).mono ?_; (case hi1 => exact HA1.out.below (by (repeat' (first | (with_reducible exact Below.refl _ _) | (with_reducible assumption) | (with_reducible refine Below.alloc ?_ ?_ _) | (with_reducible refine Below.drew ?_) | (with_reducible refine below_drewN ?_ _) | (with_reducible refine Below.setCell ?_ ?_ _) | (with_reducible exact Nat.le_refl _) | omega | (simp only [World.size_alloc, World.size_setCell, World.size_drew]; omega) | (simp; omega) | (simp; done))))); rintro e wc ⟨rfl, hb⟩; have HB2' := Lib.hid ((HB1'.out.below (by (repeat' (first | (with_reducible exact Below.refl _ _) | (with_reducible assumption) | (with_reducible refine Below.alloc ?_ ?_ _) | (with_reducible refine Below.drew ?_) | (with_reducible refine below_drewN ?_ _) | (with_reducible refine Below.setCell ?_ ?_ _) | (with_reducible exact Nat.le_refl _) | omega | (simp only [World.size_alloc, World.size_setCell, World.size_drew]; omega) | (simp; omega) | (simp; done))))).below hb); have qc := kc hb g (by (first | (with_reducible exact Nat.le_refl _) | (with_reducible assumption) | omega | (simp only [World.size_alloc, World.size_setCell, World.size_drew]; omega) | (simp; omega) | (simp; done))); have zc := hb.size; (try simp only [World.size_alloc, World.size_setCell, World.size_drew] at zc); have Bc := up (B := wr.heap.size) (w := wr) (by (repeat' (first | (with_reducible exact Below.refl _ _) | (with_reducible assumption) | (with_reducible refine Below.alloc ?_ ?_ _) | (with_reducible refine Below.drew ?_) | (with_reducible refine below_drewN ?_ _) | (with_reducible refine Below.setCell ?_ ?_ _) | (with_reducible exact Nat.le_refl _) | omega | (simp only [World.size_alloc, World.size_setCell, World.size_drew]; omega) | (simp; omega) | (simp; done)))) hb (by (first | (with_reducible exact Nat.le_refl _) | (with_reducible assumption) | omega | (simp only [World.size_alloc, World.size_setCell, World.size_drew]; omega) | (simp; omega) | (simp; done))); clear hb tok1) | (go_at_call 83; refine (D2.out _ ?hi2).mono ?_; (case hi2 => exact HB2'.out); rintro e wc ⟨rfl, hb⟩; have qc := kc hb g (by (first | (with_reducible exact Nat.le_refl _) | (with_reducible assumption) | omega | (simp only [World.size_alloc, World.size_setCell, World.size_drew]; omega) | (simp; omega) | (simp; done))); have zc := hb.size; (try simp only [World.size_alloc, World.size_setCell, World.size_drew] at zc); have Bq := up (B := wr.heap.size) (w := wr) (by (repeat' (first | (with_reducible exact Below.refl _ _) | (with_reducible assumption) | (with_reducible refine Below.alloc ?_ ?_ _) | (with_reducible refine Below.drew ?_) | (with_reducible refine below_drewN ?_ _) | (with_reducible refine Below.setCell ?_ ?_ _) | (with_reducible exact Nat.le_refl _) | omega | (simp only [World.size_alloc, World.size_setCell, World.size_drew]; omega) | (simp; omega) | (simp; done)))) hb (by (first | (with_reducible exact Nat.le_refl _) | (with_reducible assumption) | omega | (simp only [World.size_alloc, World.size_setCell, World.size_drew]; omega) | (simp; omega) | (simp; done))); have HI2 := Lib.hid (HI.out.below Bq); have Bw := hbw.trans (Bq.mono zw); clear hb))
              rcases hway with rfl | rfl | rfl <;> cases ia <;> cases ib
              all_goals first
                | (have hk := HN.out
                   rw [if_pos (by rfl)] at hk
                   have HK := Lib.hid hk
                   clear hk
                   go_wp2_with fail
                   go_region_held3 (fun w' => w'.cell? ⟨g, off + k, none⟩ = some (.int .i64 p) ∧ w'.cell? ⟨g, off + (k + 1), none⟩ = some (.int .i64 q)) (go_keep)
                     (first | (go_at_call 84; refine (CJ.out _ _ ?hi1).mono ?_; (case hi1 => exact HI2.out); rintro e wd ⟨v1, rfl, hv1, hfr, hb⟩; have HFR := Lib.hid (fun g hg => Nat.le_trans (show w.heap.size ≤ _ from by (first | (with_reducible exact Nat.le_refl _) | (with_reducible assumption) | omega | (simp only [World.size_alloc, World.size_setCell, World.size_drew]; omega) | (simp; omega) | (simp; done))) (hfr g hg)); clear hfr; have HV1 := Lib.hid hv1; have qd := kc hb g (by (first | (with_reducible exact Nat.le_refl _) | (with_reducible assumption) | omega | (simp only [World.size_alloc, World.size_setCell, World.size_drew]; omega) | (simp; omega) | (simp; done))); have zd := hb.size; (try simp only [World.size_alloc, World.size_setCell, World.size_drew] at zd); have Bd := up (B := w1.heap.size) (w := w1) (by (repeat' (first | (with_reducible exact Below.refl _ _) | (with_reducible assumption) | (with_reducible refine Below.alloc ?_ ?_ _) | (with_reducible refine Below.drew ?_) | (with_reducible refine below_drewN ?_ _) | (with_reducible refine Below.setCell ?_ ?_ _) | (with_reducible exact Nat.le_refl _) | omega | (simp only [World.size_alloc, World.size_setCell, World.size_drew]; omega) | (simp; omega) | (simp; done)))) hb (by (first | (with_reducible exact Nat.le_refl _) | (with_reducible assumption) | omega | (simp only [World.size_alloc, World.size_setCell, World.size_drew]; omega) | (simp; omega) | (simp; done))); clear hb hv1))
                   go_wp2_with fail
                   go_roundw
                   case rel => exact ⟨k + 1, _, by omega, by go_num, HV1.out, HFR.out, by have := joinedL_len acc (p, q); omega, HK.out, Bd⟩
                   case measure => simp [intOf]; omega)
                | (have hk := HN.out
                   rw [if_neg (by decide)] at hk
                   have HK := Lib.hid hk
                   clear hk
                   go_wp2_with fail
                   go_roundw
                   case rel => exact ⟨k + 1, acc, by omega, by go_num, HI2.out, HFE.out, by omega, HK.out, by (repeat' (first | (with_reducible exact Below.refl _ _) | (with_reducible assumption) | (with_reducible refine Below.alloc ?_ ?_ _) | (with_reducible refine Below.drew ?_) | (with_reducible refine below_drewN ?_ _) | (with_reducible refine Below.setCell ?_ ?_ _) | (with_reducible exact Nat.le_refl _) | omega | (simp only [World.size_alloc, World.size_setCell, World.size_drew]; omega) | (simp; omega) | (simp; done)))⟩
                   case measure => simp [intOf]; omega)
            · have hn : mixedL way a b = acc := by rw [HF.out, joinFrom_end _ _ _ _ hlt]
              have HN := Lib.hid hn
              clear hn
              go_wp2_with fail
              go_ret
              exact ⟨_, rfl, by rw [HN.out]; exact HI.out, HFE.out, HW.out⟩
end Go.Proofs.YtmcbjaefnhfopaaGreat

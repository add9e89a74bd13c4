/- Several texts in one: MixA, Clone, MixB. -/
import Derived.Test.YtjcbngpgmgeanaaGreatMix
import Derived.Test.YtjcbngpgmgeanaaGreatCanon
import Derived.BigRegion
/- The reference's mixed, whatever the world. -/
namespace Go.Proofs.YtjcbngpgmgeanaaGreat
open Go.RowKit
open Reg (R4 Span Band putL)
set_option linter.unusedSimpArgs false
set_option linter.unusedVariables false

theorem joinFrom_step (ks : Int → Bool) (acc : List Span) (ys : List Int) (k : Nat) (a b : Int) (h1 : ys[k]? = some a) (h2 : ys[k + 1]? = some b) :
    joinFrom ks acc (ys.drop k) = joinFrom ks (if ks a then Reg.joinedL acc (a, b) else acc) (ys.drop (k + 1)) := by
  obtain ⟨i1, rfl⟩ := List.getElem?_eq_some_iff.1 h1
  obtain ⟨i2, rfl⟩ := List.getElem?_eq_some_iff.1 h2
  rw [List.drop_eq_getElem_cons i1, List.drop_eq_getElem_cons i2, joinFrom]
theorem joinFrom_end (ks : Int → Bool) (acc : List Span) (ys : List Int) (k : Nat) (h : ¬ k + 1 < ys.length) : joinFrom ks acc (ys.drop k) = acc := by
  by_cases h2 : k < ys.length
  · rw [List.drop_eq_getElem_cons h2, List.drop_of_length_le (by omega)]; rfl
  · rw [List.drop_of_length_le (by omega)]; rfl
theorem IsI.open_ {w : World} {v : Value} {l : List Int} (h : IsI w v l) : ∃ A c, v = .slice A l.length c ∧ (0 < l.length → ∃ b off, A = some ⟨b, off, none⟩ ∧ b < w.heap.size ∧ ∀ i s, l[i]? = some s → w.cell? ⟨b, off + i, none⟩ = some (.int .i64 s)) := by
  rcases h with ⟨rfl, rfl⟩ | ⟨_, b, off, c, e, _, _, h3, h4⟩
  · exact ⟨none, 0, rfl, fun h => by simp at h⟩
  · exact ⟨_, _, e, fun _ => ⟨b, off, rfl, h3, h4⟩⟩

set_option maxRecDepth 100000 in
set_option maxHeartbeats 4000000 in
theorem mixed_any (va vb : Value) (a b : List Span) (way : Int) (w : World) (h1 : IsS w va a) (h2 : IsS w vb b) (hla : a.length ≤ 100000) (hlb : b.length ≤ 100000) (hway : way = 1 ∨ way = 2 ∨ way = 3) :
    Calls Tryz.prog 98 #[va, vb, .int .i64 way] w (GotS w (mixedL way a b)) := by
  have HA0 := Lib.hid h1
  have HB0 := Lib.hid h2
  obtain ⟨A, ca, rfl, hca⟩ := h1.open_
  obtain ⟨B, cb, rfl, hcb⟩ := h2.open_
  have HCA := Lib.hid hca
  have HCB := Lib.hid hcb
  clear h1 h2 hca hcb
  have CI1 := Lib.hid (fun x W h => inside_any (.slice A a.length ca) a x W h (by omega))
  have CI2 := Lib.hid (fun x W h => inside_any (.slice B b.length cb) b x W h (by omega))
  have hplen := ptsFrom_len b (ptsFrom [] a)
  have hplen0 := ptsFrom_len a []
  simp only [List.length_nil, Nat.zero_add] at hplen0
  have hps := (ptsFrom_ok b _ (ptsFrom_ok a [] List.Pairwise.nil).1).1
  have HPS := Lib.hid hps
  clear hps
  have hmx : mixedL way a b = joinFrom (fun x => wayB way (insB a x) (insB b x)) [] ((ptsFrom (ptsFrom [] a) b).drop 0) := rfl
  have HMX := Lib.hid hmx
  clear hmx
  go_enter Tryz.func98, Tryz.ntmps98
  go_wp2_with fail
  go_loopw [7, 8] (fun v i wr => ∃ (k : Nat) (hs : List Int), k ≤ a.length ∧ i = .int .i64 k ∧ IsI wr v hs ∧ hs.Pairwise (· < ·) ∧ hs.length ≤ 2 * k ∧ ptsFrom [] a = ptsFrom hs (a.drop k) ∧ Below w.heap.size w wr) (fun _ i _ => a.length - (intOf i).toNat)
  case atStart => exact ⟨0, [], Nat.zero_le _, rfl, .inl ⟨rfl, rfl⟩, List.Pairwise.nil, Nat.le_refl _, rfl, Below.refl _ _⟩
  case round =>
    obtain ⟨k, hs, hk, rfl, hI, hsort, hlen, hf, hbw⟩ := hrel
    have zw := hbw.size
    have HI := Lib.hid hI
    have HF := Lib.hid hf
    have HS := Lib.hid hsort
    clear hI hf hsort
    have hkz : (0 : Int) ≤ (k : Int) := by omega
    by_cases hlt : k < a.length
    · obtain ⟨g, off, rfl, hblt, hcs⟩ := HCA.out (by omega)
      have hi : a[k]? = some a[k] := List.getElem?_eq_getElem hlt
      have hd : a.drop k = a[k] :: a.drop (k + 1) := List.drop_eq_getElem_cons hlt
      have HD := Lib.hid hd
      have c0 := ((bcell hbw).1 _ _ hblt).trans (hcs k _ hi).1
      have c1 := ((bcell hbw).1 _ _ hblt).trans (hcs k _ hi).2
      clear hcs hi hd
      generalize a[k] = r at *
      have hklt : (k : Int) < (a.length : Int) := by omega
      have C1 := Lib.hid (fun v W h => put_any v hs r.1 W h HS.out (by omega))
      have C2 := Lib.hid (fun v W h => put_any v (putL hs r.1) r.2 W h (Reg.putL_sorted HS.out) (by have := putL_len hs r.1; omega))
      have tok1 : True := trivial
      go_wp2_with fail
      go_region_held3 (fun w' => w'.cell? ⟨g, off + k * 2, none⟩ = some (.int .i64 r.1) ∧ w'.cell? ⟨g, off + k * 2 + 1, none⟩ = some (.int .i64 r.2)) (go_keep)
        (first | (go_at_call 77; have _t := tok1; refine (C1.out _ _ ?hi1).mono ?_; (case hi1 => exact HI.out); rintro e wc ⟨v1, rfl, hv1, hb⟩; have HV1 := Lib.hid hv1; have qc := kc hb g (by (first | (with_reducible exact Nat.le_refl _) | (with_reducible assumption) | omega | (simp only [World.size_alloc, World.size_setCell, World.size_drew]; omega) | (simp; omega) | (simp; done))); have zc := hb.size; (try simp only [World.size_alloc, World.size_setCell, World.size_drew] at zc); have Bc := up (B := w.heap.size) (w := w) (by (repeat' (first | (with_reducible exact Below.refl _ _) | (with_reducible assumption) | (with_reducible refine Below.alloc ?_ ?_ _) | (with_reducible refine Below.drew ?_) | (with_reducible refine below_drewN ?_ _) | (with_reducible refine Below.setCell ?_ ?_ _) | (with_reducible exact Nat.le_refl _) | omega | (simp only [World.size_alloc, World.size_setCell, World.size_drew]; omega) | (simp; omega) | (simp; done)))) hb (by (first | (with_reducible exact Nat.le_refl _) | (with_reducible assumption) | omega | (simp only [World.size_alloc, World.size_setCell, World.size_drew]; omega) | (simp; omega) | (simp; done))); clear hb hv1 tok1) | (go_at_call 77; refine (C2.out _ _ ?hi2).mono ?_; (case hi2 => exact HV1.out); rintro e wc ⟨v2, rfl, hv2, hb⟩; have HV2 := Lib.hid hv2; have qc := kc hb g (by (first | (with_reducible exact Nat.le_refl _) | (with_reducible assumption) | omega | (simp only [World.size_alloc, World.size_setCell, World.size_drew]; omega) | (simp; omega) | (simp; done))); have zc := hb.size; (try simp only [World.size_alloc, World.size_setCell, World.size_drew] at zc); have Bc := up (B := w.heap.size) (w := w) (by (repeat' (first | (with_reducible exact Below.refl _ _) | (with_reducible assumption) | (with_reducible refine Below.alloc ?_ ?_ _) | (with_reducible refine Below.drew ?_) | (with_reducible refine below_drewN ?_ _) | (with_reducible refine Below.setCell ?_ ?_ _) | (with_reducible exact Nat.le_refl _) | omega | (simp only [World.size_alloc, World.size_setCell, World.size_drew]; omega) | (simp; omega) | (simp; done)))) hb (by (first | (with_reducible exact Nat.le_refl _) | (with_reducible assumption) | omega | (simp only [World.size_alloc, World.size_setCell, World.size_drew]; omega) | (simp; omega) | (simp; done))); clear hb hv2))
      go_wp2_with fail
      go_roundw
      case rel => exact ⟨k + 1, putL (putL hs r.1) r.2, by omega, by go_num, HV2.out, Reg.putL_sorted (Reg.putL_sorted HS.out), by have := putL_len hs r.1; have := putL_len (putL hs r.1) r.2; omega, by rw [HF.out, HD.out]; rfl, Bc⟩
      case measure => simp [intOf]; omega
    · obtain rfl : k = a.length := by omega
      have hn : ptsFrom [] a = hs := by rw [HF.out, List.drop_length]; rfl
      have HN := Lib.hid hn
      clear hn
      go_wp2_with fail
      have hst : ptsFrom (ptsFrom [] a) b = ptsFrom hs (b.drop 0) := by rw [HN.out]; rfl
      have HST := Lib.hid hst
      clear hst
      go_loopw [7, 9] (fun v i wr => ∃ (k : Nat) (hs : List Int), k ≤ b.length ∧ i = .int .i64 k ∧ IsI wr v hs ∧ hs.Pairwise (· < ·) ∧ hs.length ≤ 2 * a.length + 2 * k ∧ ptsFrom (ptsFrom [] a) b = ptsFrom hs (b.drop k) ∧ Below w.heap.size w wr) (fun _ i _ => b.length - (intOf i).toNat)
      case atStart => exact ⟨0, hs, Nat.zero_le _, rfl, HI.out, HS.out, by omega, HST.out, hbw⟩
      case round =>
        clear HI HF HS HN HST hbw zw hlen
        obtain ⟨k, hs, hk, rfl, hI, hsort, hlen, hf, hbw⟩ := hrel
        have zw := hbw.size
        have HI := Lib.hid hI
        have HF := Lib.hid hf
        have HS := Lib.hid hsort
        clear hI hf hsort
        have hkz : (0 : Int) ≤ (k : Int) := by omega
        by_cases hlt : k < b.length
        · obtain ⟨g, off, rfl, hblt, hcs⟩ := HCB.out (by omega)
          have hi : b[k]? = some b[k] := List.getElem?_eq_getElem hlt
          have hd : b.drop k = b[k] :: b.drop (k + 1) := List.drop_eq_getElem_cons hlt
          have HD := Lib.hid hd
          have c0 := ((bcell hbw).1 _ _ hblt).trans (hcs k _ hi).1
          have c1 := ((bcell hbw).1 _ _ hblt).trans (hcs k _ hi).2
          clear hcs hi hd
          generalize b[k] = r at *
          have hklt : (k : Int) < (b.length : Int) := by omega
          have C1 := Lib.hid (fun v W h => put_any v hs r.1 W h HS.out (by omega))
          have C2 := Lib.hid (fun v W h => put_any v (putL hs r.1) r.2 W h (Reg.putL_sorted HS.out) (by have := putL_len hs r.1; omega))
          have tok1 : True := trivial
          go_wp2_with fail
          go_region_held3 (fun w' => w'.cell? ⟨g, off + k * 2, none⟩ = some (.int .i64 r.1) ∧ w'.cell? ⟨g, off + k * 2 + 1, none⟩ = some (.int .i64 r.2)) (go_keep)
            (first | (go_at_call 77; have _t := tok1; refine (C1.out _ _ ?hi1).mono ?_; (case hi1 => exact HI.out); rintro e wc ⟨v1, rfl, hv1, hb⟩; have HV1 := Lib.hid hv1; have qc := kc hb g (by (first | (with_reducible exact Nat.le_refl _) | (with_reducible assumption) | omega | (simp only [World.size_alloc, World.size_setCell, World.size_drew]; omega) | (simp; omega) | (simp; done))); have zc := hb.size; (try simp only [World.size_alloc, World.size_setCell, World.size_drew] at zc); have Bc := up (B := w.heap.size) (w := w) (by (repeat' (first | (with_reducible exact Below.refl _ _) | (with_reducible assumption) | (with_reducible refine Below.alloc ?_ ?_ _) | (with_reducible refine Below.drew ?_) | (with_reducible refine below_drewN ?_ _) | (with_reducible refine Below.setCell ?_ ?_ _) | (with_reducible exact Nat.le_refl _) | omega | (simp only [World.size_alloc, World.size_setCell, World.size_drew]; omega) | (simp; omega) | (simp; done)))) hb (by (first | (with_reducible exact Nat.le_refl _) | (with_reducible assumption) | omega | (simp only [World.size_alloc, World.size_setCell, World.size_drew]; omega) | (simp; omega) | (simp; done))); clear hb hv1 tok1) | (go_at_call 77; refine (C2.out _ _ ?hi2).mono ?_; (case hi2 => exact HV1.out); rintro e wc ⟨v2, rfl, hv2, hb⟩; have HV2 := Lib.hid hv2; have qc := kc hb g (by (first | (with_reducible exact Nat.le_refl _) | (with_reducible assumption) | omega | (simp only [World.size_alloc, World.size_setCell, World.size_drew]; omega) | (simp; omega) | (simp; done))); have zc := hb.size; (try simp only [World.size_alloc, World.size_setCell, World.size_drew] at zc); have Bc := up (B := w.heap.size) (w := w) (by (repeat' (first | (with_reducible exact Below.refl _ _) | (with_reducible assumption) | (with_reducible refine Below.alloc ?_ ?_ _) | (with_reducible refine Below.drew ?_) | (with_reducible refine below_drewN ?_ _) | (with_reducible refine Below.setCell ?_ ?_ _) | (with_reducible exact Nat.le_refl _) | omega | (simp only [World.size_alloc, World.size_setCell, World.size_drew]; omega) | (simp; omega) | (simp; done)))) hb (by (first | (with_reducible exact Nat.le_refl _) | (with_reducible assumption) | omega | (simp only [World.size_alloc, World.size_setCell, World.size_drew]; omega) | (simp; omega) | (simp; done))); clear hb hv2))
          go_wp2_with fail
          go_roundw
          case rel => exact ⟨k + 1, putL (putL hs r.1) r.2, by omega, by go_num, HV2.out, Reg.putL_sorted (Reg.putL_sorted HS.out), by have := putL_len hs r.1; have := putL_len (putL hs r.1) r.2; omega, by rw [HF.out, HD.out]; rfl, Bc⟩
          case measure => simp [intOf]; omega
        · obtain rfl : k = b.length := by omega
          have hn : ptsFrom (ptsFrom [] a) b = hs := by rw [HF.out, List.drop_length]; rfl
          have HX1 := Lib.hid HI.out
          have HB1 := Lib.hid hbw
          generalize ptsFrom (ptsFrom [] a) b = xs at *
          subst hn
          obtain ⟨X, cx, rfl, hcx⟩ := HX1.out.open_
          have HCX := Lib.hid hcx
          clear hcx HF HS HI hlen hbw zw hlt hk
          generalize hw1 : wr = w1 at *
          have z1 := HB1.out.size
          clear hw1
          go_wp2_with fail
          go_loopw [10, 11] (fun v i wr => ∃ (k : Nat) (acc : List Span), k ≤ xs.length ∧ i = .int .i64 ((k : Int) + 1) ∧ IsS wr v acc ∧ (∀ g, v.ownBlock = some g → w.heap.size ≤ g) ∧ acc.length ≤ k ∧ mixedL way a b = joinFrom (fun x => wayB way (insB a x) (insB b x)) acc (xs.drop k) ∧ Below w1.heap.size w1 wr) (fun _ i _ => xs.length + 1 - (intOf i).toNat)
          case atStart => exact ⟨0, [], Nat.zero_le _, rfl, .inl ⟨rfl, rfl⟩, (fun g hg => by cases hg), Nat.le_refl _, HMX.out, Below.refl _ _⟩
          case round =>
            obtain ⟨k, acc, hk, rfl, hI, hfre, hlen, hf, hbw⟩ := hrel
            have zw := hbw.size
            have HFE := Lib.hid hfre
            have HI := Lib.hid hI
            have HF := Lib.hid hf
            have HW := Lib.hid (show Below w.heap.size w wr from HB1.out.trans (hbw.mono z1))
            clear hfre hI hf
            have hkz : (0 : Int) ≤ (k : Int) := by omega
            by_cases hlt : k + 1 < xs.length
            · obtain ⟨g, off, rfl, hblt, hcs⟩ := HCX.out (by omega)
              have hia : xs[k]? = some xs[k] := List.getElem?_eq_getElem (by omega)
              have hib : xs[k + 1]? = some xs[k + 1] := List.getElem?_eq_getElem hlt
              have HST := Lib.hid (joinFrom_step (fun x => wayB way (insB a x) (insB b x)) acc xs k _ _ hia hib)
              have c0 := ((bcell hbw).1 _ _ hblt).trans (hcs k _ hia)
              have c1 := ((bcell hbw).1 _ _ hblt).trans (hcs (k + 1) _ hib)
              clear hcs hia hib
              generalize xs[k] = p at *
              generalize xs[k + 1] = q at *
              have hklt : (k : Int) + 1 < (xs.length : Int) := by omega
              have hklt0 : (k : Int) < (xs.length : Int) := by omega
              have hkz1 : (0 : Int) ≤ (k : Int) + 1 := by omega
              have hs1 : IntKind.i64.wrap (k : Int) = (k : Int) := IntWalk.i64_in _ (by omega)
              have hs2 : ((k : Int) + 1).toNat = k + 1 := by omega
              have D1 := Lib.hid (CI1.out p)
              have D2 := Lib.hid (CI2.out p)
              have hn : mixedL way a b = joinFrom (fun x => wayB way (insB a x) (insB b x)) (if wayB way (insB a p) (insB b p) then Reg.joinedL acc (p, q) else acc) (xs.drop (k + 1)) := by rw [HF.out, HST.out]
              have HN := Lib.hid hn
              have CJ := Lib.hid (fun v W h => joined_any v acc p q W h (by omega))
              clear hn HF HST
              generalize insB a p = ia at *
              generalize insB b p = ib at *
              have hA1 := HA0.out.below HW.out
              have hB1 := HB0.out.below HW.out
              have HA1 := Lib.hid hA1
              have HB1' := Lib.hid hB1
              clear hA1 hB1
              have tok1 : True := trivial
              go_wp2_with fail
              go_region_held3 (fun w' => w'.cell? ⟨g, off + k, none⟩ = some (.int .i64 p) ∧ w'.cell? ⟨g, off + (k + 1), none⟩ = some (.int .i64 q)) (go_keep)
                (first | (go_at_call 130; have _t := tok1; refine (D1.out _ ?hi1).mono ?_; (case hi1 => exact HA1.out.below (by (repeat' (first | (with_reducible exact Below.refl _ _) | (with_reducible assumption) | (with_reducible refine Below.alloc ?_ ?_ _) | (with_reducible refine Below.drew ?_) | (with_reducible refine below_drewN ?_ _) | (with_reducible refine Below.setCell ?_ ?_ _) | (with_reducible exact Nat.le_refl _) | omega | (simp only [World.size_alloc, World.size_setCell, World.size_drew]; omega) | (simp; omega) | (simp; done))))); rintro e wc ⟨rfl, hb⟩; have HB2' := Lib.hid ((HB1'.out.below (by (repeat' (first | (with_reducible exact Below.refl _ _) | (with_reducible assumption) | (with_reducible refine Below.alloc ?_ ?_ _) | (with_reducible refine Below.drew ?_) | (with_reducible refine below_drewN ?_ _) | (with_reducible refine Below.setCell ?_ ?_ _) | (with_reducible exact Nat.le_refl _) | omega | (simp only [World.size_alloc, World.size_setCell, World.size_drew]; omega) | (simp; omega) | (simp; done))))).below hb); have qc := kc hb g (by (first | (with_reducible exact Nat.le_refl _) | (with_reducible assumption) | omega | (simp only [World.size_alloc, World.size_setCell, World.size_drew]; omega) | (simp; omega) | (simp; done))); have zc := hb.size; (try simp only [World.size_alloc, World.size_setCell, World.size_drew] at zc); have Bc := up (B := wr.heap.size) (w := wr) (by (repeat' (first | (with_reducible exact Below.refl _ _) | (with_reducible assumption) | (with_reducible refine Below.alloc ?_ ?_ _) | (with_reducible refine Below.drew ?_) | (with_reducible refine below_drewN ?_ _) | (with_reducible refine Below.setCell ?_ ?_ _) | (with_reducible exact Nat.le_refl _) | omega | (simp only [World.size_alloc, World.size_setCell, World.size_drew]; omega) | (simp; omega) | (simp; done)))) hb (by (first | (with_reducible exact Nat.le_refl _) | (with_reducible assumption) | omega | (simp only [World.size_alloc, World.size_setCell, World.size_drew]; omega) | (simp; omega) | (simp; done))); clear hb tok1) | (go_at_call 130; refine (D2.out _ ?hi2).mono ?_; (case hi2 => exact HB2'.out); rintro e wc ⟨rfl, hb⟩; have qc := kc hb g (by (first | (with_reducible exact Nat.le_refl _) | (with_reducible assumption) | omega | (simp only [World.size_alloc, World.size_setCell, World.size_drew]; omega) | (simp; omega) | (simp; done))); have zc := hb.size; (try simp only [World.size_alloc, World.size_setCell, World.size_drew] at zc); have Bq := up (B := wr.heap.size) (w := wr) (by (repeat' (first | (with_reducible exact Below.refl _ _) | (with_reducible assumption) | (with_reducible refine Below.alloc ?_ ?_ _) | (with_reducible refine Below.drew ?_) | (with_reducible refine below_drewN ?_ _) | (with_reducible refine Below.setCell ?_ ?_ _) | (with_reducible exact Nat.le_refl _) | omega | (simp only [World.size_alloc, World.size_setCell, World.size_drew]; omega) | (simp; omega) | (simp; done)))) hb (by (first | (with_reducible exact Nat.le_refl _) | (with_reducible assumption) | omega | (simp only [World.size_alloc, World.size_setCell, World.size_drew]; omega) | (simp; omega) | (simp; done))); have HI2 := Lib.hid (HI.out.below Bq); have Bw := hbw.trans (Bq.mono zw); clear hb))
              rcases hway with rfl | rfl | rfl <;> cases ia <;> cases ib
              all_goals first
                | (have hk := HN.out
                   rw [if_pos (by rfl)] at hk
                   have HK := Lib.hid hk
                   clear hk
                   go_wp2_with fail
                   go_region_held3 (fun w' => w'.cell? ⟨g, off + k, none⟩ = some (.int .i64 p) ∧ w'.cell? ⟨g, off + (k + 1), none⟩ = some (.int .i64 q)) (go_keep)
                     (first | (go_at_call 120; refine (CJ.out _ _ ?hi1).mono ?_; (case hi1 => exact HI2.out); rintro e wd ⟨v1, rfl, hv1, hfr, hb⟩; have HFR := Lib.hid (fun g hg => Nat.le_trans (show w.heap.size ≤ _ from by (first | (with_reducible exact Nat.le_refl _) | (with_reducible assumption) | omega | (simp only [World.size_alloc, World.size_setCell, World.size_drew]; omega) | (simp; omega) | (simp; done))) (hfr g hg)); clear hfr; have HV1 := Lib.hid hv1; have qd := kc hb g (by (first | (with_reducible exact Nat.le_refl _) | (with_reducible assumption) | omega | (simp only [World.size_alloc, World.size_setCell, World.size_drew]; omega) | (simp; omega) | (simp; done))); have zd := hb.size; (try simp only [World.size_alloc, World.size_setCell, World.size_drew] at zd); have Bd := up (B := w1.heap.size) (w := w1) (by (repeat' (first | (with_reducible exact Below.refl _ _) | (with_reducible assumption) | (with_reducible refine Below.alloc ?_ ?_ _) | (with_reducible refine Below.drew ?_) | (with_reducible refine below_drewN ?_ _) | (with_reducible refine Below.setCell ?_ ?_ _) | (with_reducible exact Nat.le_refl _) | omega | (simp only [World.size_alloc, World.size_setCell, World.size_drew]; omega) | (simp; omega) | (simp; done)))) hb (by (first | (with_reducible exact Nat.le_refl _) | (with_reducible assumption) | omega | (simp only [World.size_alloc, World.size_setCell, World.size_drew]; omega) | (simp; omega) | (simp; done))); clear hb hv1))
                   go_wp2_with fail
                   go_roundw
                   case rel => exact ⟨k + 1, _, by omega, by go_num, HV1.out, HFR.out, by have := joinedL_len acc (p, q); omega, HK.out, Bd⟩
                   case measure => simp [intOf]; omega)
                | (have hk := HN.out
                   rw [if_neg (by decide)] at hk
                   have HK := Lib.hid hk
                   clear hk
                   go_wp2_with fail
                   go_roundw
                   case rel => exact ⟨k + 1, acc, by omega, by go_num, HI2.out, HFE.out, by omega, HK.out, by (repeat' (first | (with_reducible exact Below.refl _ _) | (with_reducible assumption) | (with_reducible refine Below.alloc ?_ ?_ _) | (with_reducible refine Below.drew ?_) | (with_reducible refine below_drewN ?_ _) | (with_reducible refine Below.setCell ?_ ?_ _) | (with_reducible exact Nat.le_refl _) | omega | (simp only [World.size_alloc, World.size_setCell, World.size_drew]; omega) | (simp; omega) | (simp; done)))⟩
                   case measure => simp [intOf]; omega)
            · have hn : mixedL way a b = acc := by rw [HF.out, joinFrom_end _ _ _ _ hlt]
              have HN := Lib.hid hn
              clear hn
              go_wp2_with fail
              go_ret
              exact ⟨_, rfl, by rw [HN.out]; exact HI.out, HFE.out, HW.out⟩
end Go.Proofs.YtjcbngpgmgeanaaGreat
/- slices.Clone and slices.Reverse of rectangles, whatever the world. -/
namespace Go.Proofs.YtjcbngpgmgeanaaGreat
open Go.RowKit
open Reg (R4)
set_option linter.unusedSimpArgs false
set_option linter.unusedVariables false

theorem rd_cells {w : World} {A : Option Addr} {l : List R4} {ad : Addr} (h : Rd w A l) (hA : A = some ad) : ∀ j u, (cR l)[j]? = some u → w.cell? (ad.add j) = some u := by
  intro t u hu
  have ht : t < l.length * 4 := by rw [← cR_len]; exact (List.getElem?_eq_some_iff.1 hu).1
  obtain ⟨b, off, e, hlt, hc⟩ := h (by omega)
  rw [hA] at e
  cases e
  have e : (⟨b, off, none⟩ : Addr).add t = ⟨b, off + t, none⟩ := by unfold Addr.add; split <;> simp_all
  rw [e]
  have hq : t / 4 < l.length := by omega
  have hi : l[t / 4]? = some l[t / 4] := List.getElem?_eq_getElem hq
  obtain ⟨a0, a1, a2, a3⟩ := hc _ _ hi
  obtain ⟨c0, c1, c2, c3⟩ := cR_at hi
  have hm : t % 4 < 4 := Nat.mod_lt _ (by decide)
  have hd : t = t / 4 * 4 + t % 4 := by omega
  generalize t / 4 = q at *
  generalize t % 4 = m at *
  subst hd
  rw [← hu]
  match m, hm with
  | 0, _ => exact a0.trans c0.symm
  | 1, _ => exact a1.trans c1.symm
  | 2, _ => exact a2.trans c2.symm
  | 3, _ => exact a3.trans c3.symm
theorem cR_one (l : List R4) : ∀ u ∈ cR l, u.oneCell' = true := by
  intro u hu
  simp only [cR, List.mem_flatMap] at hu
  obtain ⟨e, _, hu⟩ := hu
  simp at hu
  rcases hu with rfl | rfl | rfl | rfl <;> rfl

/-! ## The reversal -/
/-- i elements from either end are exchanged. -/
def RevAt (l m : List R4) (i : Nat) : Prop := m.length = l.length ∧ ∀ t, t < l.length → m[t]? = if t < i ∨ l.length - i ≤ t then l[l.length - 1 - t]? else l[t]?
theorem RevAt.start (l : List R4) : RevAt l l 0 := ⟨rfl, fun t ht => by rw [if_neg (by omega)]⟩
theorem RevAt.step {l m : List R4} {i j : Nat} {r s : R4} (h : RevAt l m i) (hj : j + i + 1 = l.length) (hij : i < j) (hr : m[i]? = some r) (hs : m[j]? = some s) : RevAt l ((m.set i s).set j r) (i + 1) := by
  obtain ⟨h1, h2⟩ := h
  have e1 := h2 i (by omega)
  have e2 := h2 j (by omega)
  rw [if_neg (by omega), hr] at e1
  rw [if_neg (by omega), hs] at e2
  refine ⟨by simpa using h1, fun t ht => ?_⟩
  simp only [List.getElem?_set, List.length_set]
  by_cases htj : j = t
  · subst htj
    rw [if_pos rfl, if_pos (by omega), if_pos (by omega), show l.length - 1 - j = i from by omega]
    exact e1
  · rw [if_neg htj]
    by_cases hti : i = t
    · subst hti
      rw [if_pos rfl, if_pos (by omega), if_pos (by omega), show l.length - 1 - i = j from by omega]
      exact e2
    · rw [if_neg hti, h2 t ht]
      by_cases hin : t < i ∨ l.length - i ≤ t
      · rw [if_pos hin, if_pos (by omega)]
      · rw [if_neg hin, if_neg (by omega)]
theorem RevAt.done {l m : List R4} {i : Nat} (h : RevAt l m i) (hi : l.length ≤ 2 * i + 1) : m = l.reverse := by
  obtain ⟨h1, h2⟩ := h
  apply List.ext_getElem?
  intro t
  by_cases ht : t < l.length
  · rw [h2 t ht, List.getElem?_reverse ht]
    split
    · rfl
    · rw [show l.length - 1 - t = t from by omega]
  · rw [List.getElem?_eq_none (by omega), List.getElem?_eq_none (by simp; omega)]
theorem cR_put : ∀ (m : List R4) (i : Nat) (s : R4), i < m.length → ((((cR m).set (i * 4) (.int .i64 s.x0)).set (i * 4 + 1) (.int .i64 s.y0)).set (i * 4 + 2) (.int .i64 s.x1)).set (i * 4 + 3) (.int .i64 s.y1) = cR (m.set i s)
  | [], _, _, h => by simp at h
  | a :: m, 0, s, _ => rfl
  | a :: m, i + 1, s, h => by
    have := cR_put m i s (by simpa using h)
    simp only [List.set_cons_succ]
    have e : ∀ x : R4, cR (a :: m) = [Value.int .i64 a.x0, .int .i64 a.y0, .int .i64 a.x1, .int .i64 a.y1] ++ cR m := fun _ => rfl
    have e2 : cR (a :: m.set i s) = [Value.int .i64 a.x0, .int .i64 a.y0, .int .i64 a.x1, .int .i64 a.y1] ++ cR (m.set i s) := rfl
    rw [e2, ← this, e s]
    have k : ∀ (xs : List Value) (j : Nat) (v : Value), ([Value.int .i64 a.x0, .int .i64 a.y0, .int .i64 a.x1, .int .i64 a.y1] ++ xs).set (4 + j) v = [Value.int .i64 a.x0, .int .i64 a.y0, .int .i64 a.x1, .int .i64 a.y1] ++ xs.set j v := fun xs j v => by
      rw [List.set_append_right _ _ (by simp)]
      simp
    rw [show (i + 1) * 4 = 4 + i * 4 from by omega, k, show 4 + i * 4 + 1 = 4 + (i * 4 + 1) from by omega, k, show 4 + i * 4 + 2 = 4 + (i * 4 + 2) from by omega, k, show 4 + i * 4 + 3 = 4 + (i * 4 + 3) from by omega, k]
theorem own_put4 {w : World} {base g cap : Nat} {m : List R4} (h : w.ownsRow base 30 4 (.slice (some ⟨g, 0, none⟩) m.length cap) m.length (cR m)) {i : Nat} (hi : i < m.length) (s : R4) :
    ((((w.setCell ⟨g, i * 4, none⟩ (.int .i64 s.x0)).setCell ⟨g, i * 4 + 1, none⟩ (.int .i64 s.y0)).setCell ⟨g, i * 4 + 2, none⟩ (.int .i64 s.x1)).setCell ⟨g, i * 4 + 3, none⟩ (.int .i64 s.y1)).ownsRow base 30 4 (.slice (some ⟨g, 0, none⟩) (m.set i s).length cap) (m.set i s).length (cR (m.set i s)) := by
  have h1 := own_setC (own_setC (own_setC (own_setC h (j := i * 4) (by omega) (.int .i64 s.x0)) (j := i * 4 + 1) (by omega) (.int .i64 s.y0)) (j := i * 4 + 2) (by omega) (.int .i64 s.x1)) (j := i * 4 + 3) (by omega) (.int .i64 s.y1)
  rw [cR_put m i s hi] at h1
  rw [List.length_set]
  exact h1

end Go.Proofs.YtjcbngpgmgeanaaGreat
/- The reference's combined, whatever the world. -/
namespace Go.Proofs.YtjcbngpgmgeanaaGreat
open Go.RowKit
open Reg (R4 Span Band)
set_option linter.unusedSimpArgs false
set_option linter.unusedVariables false

/-- Rectangles that came in are put behind a row of one's own, be there some or none. -/
theorem wpList_append_rects {ops : Array Oper} {rest : List Oper} {o : Oper} {a : Act} {Q : Exit → Act → World → Prop} {w : World} (hgd : o.guard = none) (s x : Operand)
    (ho : o.op = .call { callee := .builtin .append, args := #[s, x], argTypes := #[22, 22] })
    (base : Nat) (v : Value) (n : Nat) (xs : List Value) (hs : a.eval s = v) (hown : w.ownsRow base 30 4 v n xs)
    (A : Option Addr) (l : List R4) (c : Nat) (hx : a.eval x = .slice A l.length c) (hA : A = none → c = 0) (h : Rd w A l) (hn : n + l.length ≤ 2100000000) (hbase : base ≤ w.heap.size)
    (K : ∀ v' w', w'.ownsRow base 30 4 v' (n + l.length) (xs ++ cR l) → w.grownBy w' v.ownBlock → wpList Tryz.prog ops Q rest (a.put o.dst v') w') : wpList Tryz.prog ops Q (o :: rest) a w := by
  obtain ⟨i0, hi, hz0, hz1, hz2⟩ := info_parts infoR
  cases A with
  | none =>
    have hl0 : l = [] := by
      cases l with
      | nil => rfl
      | cons r t => obtain ⟨b, off, e, _⟩ := h (by simp); cases e
    subst hl0
    rw [hA rfl] at hx
    exact wpList_append_own_none hgd s x 22 ho base 30 i0 4 Tryz.underlying22 hi v n xs hs hown hx (K v w (by simpa [cR] using hown) (gb_refl _ _))
  | some ad =>
    exact wpList_append_own w hgd s x 22 ho base 30 i0 (.agg #[.int .i64 0, .int .i64 0, .int .i64 0, .int .i64 0]) 4 32 Tryz.underlying22 hi hz0 hz1 hz2 rfl (by decide) v n xs hs hown ad l.length c (cR l) hx (cR_len l) (rd_cells h rfl) (cR_one l) (by simp only [maxLen]; omega) (by omega) hbase fun v' w' h1 h2 _ => K v' w' h1 h2

theorem rowM_len (way : Int) (a b : List R4) (y : Int) : (rowM way a b y).length ≤ 2 * a.length + 2 * b.length := by
  have h1 := mixedL_len way (Reg.rowL a y) (Reg.rowL b y)
  have h2 := rowL_len a y
  have h3 := rowL_len b y
  unfold rowM
  omega

set_option maxRecDepth 100000 in
set_option maxHeartbeats 4000000 in
theorem combined_anyB (A B : Option Addr) (a b : List R4) (ca cb : Nat) (way : Int) (w : World) (hla : a.length ≤ 2000) (hlb : b.length ≤ 1000000000) (hrows : ∀ y k, (Reg.rowFrom y [] (b.take k)).length ≤ 20000) (hhs : ∀ k, (Reg.heightsFrom [] ((a ++ b).take k)).length ≤ 100000) (hnA : A = none → ca = 0) (hnB : B = none → cb = 0) (hway : way = 1 ∨ way = 2 ∨ way = 3) (h1 : Rd w A a) (h2 : Rd w B b) :
    Calls Tryz.prog 58 #[.slice A a.length ca, .slice B b.length cb, .int .i64 way] w (GotR w (combL way a b)) := by
  have HA0 := Lib.hid h1
  have HB0 := Lib.hid h2
  have HWY := Lib.hid hway
  have HNA := Lib.hid hnA
  have HNB := Lib.hid hnB
  have HRO := Lib.hid hrows
  have HHS := Lib.hid hhs
  clear h1 h2 hway hnA hnB hrows hhs
  have hbc : combL way a b = Reg.told (Reg.bandsFrom (rowM way a b) [] ((Reg.heightsL (a ++ b)).drop 0)) := by rw [List.drop_zero]; rfl
  have hab : (a ++ b).length = a.length + b.length := List.length_append
  have hcr : cR (a ++ b) = cR a ++ cR b := cR_append a b
  generalize a ++ b = ab at *
  have HBC := Lib.hid hbc
  clear hbc
  have hyl : (Reg.heightsL ab).length ≤ 100000 := by have := HHS.out ab.length; rw [List.take_length] at this; exact this
  have C1 := Lib.hid (fun A' c W h => heights_anyB A' ab c W (by omega) (fun k => Nat.le_trans (HHS.out k) (by omega)) h)
  have FIX := Lib.hid (fun (W : World) (v : Value) (h : W.ownsRow w.heap.size 30 4 v (0 + a.length + b.length) ([] ++ cR a ++ cR b)) => rd_own (base := w.heap.size) (l := ab) (by rw [hab, hcr]; simpa using h))
  clear hcr hab
  go_enter Tryz.func58, Tryz.ntmps58
  go_wp2_with (first
    | (at_builtin; refine wpList_append_rects rfl (.tmp 11) (.tmp 12) rfl w.heap.size (.slice none 0 0) 0 [] rfl own_nil A a ca rfl HNA.out HA0.out (by omega) (Nat.le_refl _) ?_; intro v1 w1 hown1 hg1; have HO1 := Lib.hid hown1; have B1 := below_app (B := w.heap.size) (w0 := w) (base := w.heap.size) (size := 4) (e := 30) (Below.refl _ _) own_nil hg1 (Nat.le_refl _) (Nat.le_refl _); have z1 := hg1.size; clear hown1 hg1)
    | (at_builtin; refine wpList_append_rects rfl (.tmp 14) (.tmp 15) rfl w.heap.size v1 (0 + a.length) ([] ++ cR a) rfl HO1.out B b cb rfl HNB.out (HB0.out.below B1) (by omega) z1 ?_; intro v2 w2 hown2 hg2; obtain ⟨A2, c2, rfl, q1, q2, q3, q4⟩ := FIX.out _ _ hown2; have HQ3 := Lib.hid q3; have B2 := below_app (B := w.heap.size) (w0 := w) B1 HO1.out hg2 (Nat.le_refl _) z1; have z2 := hg2.size; clear hown2 hg2 q1 q2 q3 q4))
  refine (C1.out _ _ _ HQ3.out).mono ?_
  rintro e w3 ⟨yv, rfl, hyv, hb⟩
  have HY1 := Lib.hid hyv
  have z3 := hb.size
  have Hb1 := Lib.hid (up (B := w.heap.size) (w := w) B2 hb (by omega))
  clear hb hyv B1 B2
  generalize hys : Reg.heightsL ab = ys at *
  clear hys
  have hlenv : ∃ A' c', yv = .slice A' ys.length c' := by
    rcases HY1.out with ⟨h1, h2⟩ | ⟨_, b, off, c, h2, _⟩
    · exact ⟨none, 0, by rw [h2, h1]; rfl⟩
    · exact ⟨_, _, h2⟩
  obtain ⟨yA, yc, rfl⟩ := hlenv
  go_wp2_with fail
  go_loopw [9, 10] (fun v i wr => ∃ (k : Nat) (bs : List Band), i = .int .i64 ((k : Int) + 1) ∧ k ≤ ys.length ∧ combL way a b = Reg.told (Reg.bandsFrom (rowM way a b) bs (ys.drop k)) ∧ IsB wr w3.heap.size v bs ∧ bs.length ≤ k ∧ (∀ c, c ∈ bs → c.sp.length ≤ 100000) ∧ Below w3.heap.size w3 wr) (fun _ i _ => ys.length + 1 - (intOf i).toNat)
  case atStart => exact ⟨0, [], rfl, Nat.zero_le _, HBC.out, IsB.nil _ _, Nat.le_refl _, (fun c hc => by cases hc), by (repeat' (first | (with_reducible exact Below.refl _ _) | (with_reducible assumption) | (with_reducible refine Below.alloc ?_ ?_ _) | (with_reducible refine Below.drew ?_) | (with_reducible refine below_drewN ?_ _) | (with_reducible refine Below.setCell ?_ ?_ _) | (with_reducible exact Nat.le_refl _) | omega | (simp only [World.size_alloc, World.size_setCell, World.size_drew]; omega) | (simp; omega) | (simp; done)))⟩
  case round =>
    obtain ⟨k, bs, rfl, hk, hf, hI, hlen, hall, hbw⟩ := hrel
    have zw := hbw.size
    have HF := Lib.hid hf
    have HI := Lib.hid hI
    have HA := Lib.hid hall
    have Hw := Lib.hid (show Below w.heap.size w wr from Hb1.out.trans (hbw.mono (by omega)))
    have HRa := Lib.hid (HA0.out.below Hw.out)
    have HRb := Lib.hid (HB0.out.below Hw.out)
    clear hf hI hall
    have hkz : (0 : Int) ≤ (k : Int) := by omega
    by_cases hlt : k + 1 < ys.length
    · obtain ⟨A', c', e, hc1, hc2, hcell⟩ : ∃ A' c', (Value.slice yA ys.length yc) = .slice A' ys.length c' ∧ ys.length ≤ c' ∧ c' ≤ 9223372036854775807 ∧ ∃ b off, A' = some ⟨b, off, none⟩ ∧ b < w3.heap.size ∧ ∀ i v, ys[i]? = some v → wr.cell? ⟨b, off + i, none⟩ = some (.int .i64 v) := by
        rcases HY1.out with ⟨h1, _⟩ | ⟨_, b, off, c, h2, h3, h4, h5, h6⟩
        · rw [h1] at hlt; simp at hlt
        · exact ⟨_, c, h2, h3, h4, b, off, rfl, h5, fun i v hi => (kcB hbw b h5 _).trans (h6 i v hi)⟩
      obtain ⟨yb, yo, rfl, hyblt, hyc⟩ := hcell
      cases e
      have hia : ys[k]? = some ys[k] := List.getElem?_eq_getElem (by omega)
      have hib : ys[k + 1]? = some ys[k + 1] := List.getElem?_eq_getElem hlt
      have HST := Lib.hid (bandsFrom_step (rowM way a b) bs ys k _ _ hia hib)
      have ca' := hyc k _ hia
      have cb' := hyc (k + 1) _ hib
      clear hyc hia hib
      generalize ys[k] = ya at *
      generalize ys[k + 1] = ya2 at *
      have C2 := Lib.hid (fun W h => row_any A a ca ya W (by omega) h)
      have C3 := Lib.hid (fun W h => row_anyB B b cb ya W (by omega) (fun k => Nat.le_trans (HRO.out ya k) (by omega)) h)
      have hra := rowL_len a ya
      have hrb : (Reg.rowL b ya).length ≤ 20000 := by have := HRO.out ya b.length; rw [List.take_length] at this; exact this
      have hrl : (rowM way a b ya).length ≤ 44000 := by have := mixedL_len way (Reg.rowL a ya) (Reg.rowL b ya); unfold rowM; omega
      have C4 := Lib.hid (fun va vb W h1 h2 => (show Calls Tryz.prog 98 #[va, vb, .int .i64 way] W (GotS W (rowM way a b ya)) from mixed_any va vb (Reg.rowL a ya) (Reg.rowL b ya) way W h1 h2 (by omega) (by omega) HWY.out))
      have hn : combL way a b = Reg.told (Reg.bandsFrom (rowM way a b) (Reg.stackL bs ⟨ya, ya2, rowM way a b ya⟩) (ys.drop (k + 1))) := by rw [HF.out, HST.out]
      have HN := Lib.hid hn
      have hsc := stackL_count ⟨ya, ya2, rowM way a b ya⟩ bs
      have HAN := Lib.hid (stackL_sp ⟨ya, ya2, rowM way a b ya⟩ 100000 (by simp only; omega) bs HA.out)
      have C5 := Lib.hid (fun sv W h1 h2 h3 h4 => stacked_any w3.heap.size u9 bs ⟨ya, ya2, rowM way a b ya⟩ sv W h1 h2 h3 h4 (by simp only; omega) (fun c hc => Nat.le_trans (HA.out c hc) (by omega)) (by omega))
      have HOB := Lib.hid (show ∀ g, u9.ownBlock = some g → g < wr.heap.size from fun g hg => by obtain ⟨ps, _, h2, _⟩ := HI.out; exact (h2.lt g hg).2)
      generalize rowM way a b ya = rw_ at *
      generalize Reg.rowL a ya = ra at *
      generalize Reg.rowL b ya = rb at *
      clear hn
      have hklt : (k : Int) + 1 < (ys.length : Int) := by omega
      have hklt0 : (k : Int) < (ys.length : Int) := by omega
      have hkz1 : (0 : Int) ≤ (k : Int) + 1 := by omega
      have hs1 : IntKind.i64.wrap (k : Int) = (k : Int) := IntWalk.i64_in _ (by omega)
      have hs2 : ((k : Int) + 1).toNat = k + 1 := by omega
      have tok1 : True := trivial
      go_wp2_with fail
      go_region_held3 (fun w' => w'.cell? ⟨yb, yo + k, none⟩ = some (.int .i64 ya) ∧ w'.cell? ⟨yb, yo + (k + 1), none⟩ = some (.int .i64 ya2)) (go_keep)
        (first
          | (go_at_call 89; have _t := tok1; refine (C2.out _ ?hi1).mono ?_; (case hi1 => exact HRa.out); rintro e wc ⟨v1, rfl, hv1, hfr, hb⟩; have HV1 := Lib.hid hv1; have qc := kc hb yb (by (first | (with_reducible exact Nat.le_refl _) | (with_reducible assumption) | omega | (simp only [World.size_alloc, World.size_setCell, World.size_drew]; omega) | (simp; omega) | (simp; done))); have zc := hb.size; (try simp only [World.size_alloc, World.size_setCell, World.size_drew] at zc); have Bc := up (B := wr.heap.size) (w := wr) (by (repeat' (first | (with_reducible exact Below.refl _ _) | (with_reducible assumption) | (with_reducible refine Below.alloc ?_ ?_ _) | (with_reducible refine Below.drew ?_) | (with_reducible refine below_drewN ?_ _) | (with_reducible refine Below.setCell ?_ ?_ _) | (with_reducible exact Nat.le_refl _) | omega | (simp only [World.size_alloc, World.size_setCell, World.size_drew]; omega) | (simp; omega) | (simp; done)))) hb (by (first | (with_reducible exact Nat.le_refl _) | (with_reducible assumption) | omega | (simp only [World.size_alloc, World.size_setCell, World.size_drew]; omega) | (simp; omega) | (simp; done))); have HRb2 := Lib.hid (HRb.out.below Bc); clear hb hv1 hfr tok1)
          | (go_at_call 89; refine (C3.out _ ?hi2).mono ?_; (case hi2 => exact HRb2.out); rintro e wc2 ⟨v2, rfl, hv2, hfr, hb⟩; have HV2 := Lib.hid hv2; have HV1' := Lib.hid (HV1.out.below hb); have qc2 := kc hb yb (by (first | (with_reducible exact Nat.le_refl _) | (with_reducible assumption) | omega | (simp only [World.size_alloc, World.size_setCell, World.size_drew]; omega) | (simp; omega) | (simp; done))); have zc2 := hb.size; (try simp only [World.size_alloc, World.size_setCell, World.size_drew] at zc2); have Bc2 := up (B := wr.heap.size) (w := wr) Bc hb (by (first | (with_reducible exact Nat.le_refl _) | (with_reducible assumption) | omega | (simp only [World.size_alloc, World.size_setCell, World.size_drew]; omega) | (simp; omega) | (simp; done))); clear hb hv2 hfr)
          | (go_at_call 98; refine (C4.out _ _ _ ?hi3 ?hi4).mono ?_; (case hi3 => exact HV1'.out); (case hi4 => exact HV2.out); rintro e wc3 ⟨v3, rfl, hv3, hfr, hb⟩; obtain ⟨A1, c1, rfl⟩ := hv3.form; have HFR := Lib.hid (fun g hg => Nat.le_trans (show wr.heap.size ≤ _ from by (first | (with_reducible exact Nat.le_refl _) | (with_reducible assumption) | omega | (simp only [World.size_alloc, World.size_setCell, World.size_drew]; omega) | (simp; omega) | (simp; done))) (hfr g hg)); clear hfr; have HV3 := Lib.hid hv3; have qc3 := kc hb yb (by (first | (with_reducible exact Nat.le_refl _) | (with_reducible assumption) | omega | (simp only [World.size_alloc, World.size_setCell, World.size_drew]; omega) | (simp; omega) | (simp; done))); have zc3 := hb.size; (try simp only [World.size_alloc, World.size_setCell, World.size_drew] at zc3); have HBC3 := Lib.hid (up (B := wr.heap.size) (w := wr) Bc2 hb (by (first | (with_reducible exact Nat.le_refl _) | (with_reducible assumption) | omega | (simp only [World.size_alloc, World.size_setCell, World.size_drew]; omega) | (simp; omega) | (simp; done)))); have Bw3 := hbw.trans (HBC3.out.mono zw); clear hb hv3)
          | (go_at_call 78; refine (C5.out _ _ ?hi5 ?hi6 ?hi7 ?hi8).mono ?_; (case hi5 => exact HI.out.below HBC3.out); (case hi6 => exact HV3.out); (case hi7 => exact fun g hg h2 => absurd (HFR.out g h2) (by have := HOB.out g hg; omega)); (case hi8 => (first | (with_reducible exact Nat.le_refl _) | (with_reducible assumption) | omega | (simp only [World.size_alloc, World.size_setCell, World.size_drew]; omega) | (simp; omega) | (simp; done))); rintro e wc4 ⟨v4, rfl, hv4, hb⟩; have HV4 := Lib.hid hv4; have qc4 := kcB hb yb (by (first | (with_reducible exact Nat.le_refl _) | (with_reducible assumption) | omega | (simp only [World.size_alloc, World.size_setCell, World.size_drew]; omega) | (simp; omega) | (simp; done))); have zc4 := hb.size; (try simp only [World.size_alloc, World.size_setCell, World.size_drew] at zc4); have Bc4 := Bw3.trans hb; clear hb hv4))
      go_wp2_with fail
      go_roundw
      case rel => exact ⟨k + 1, _, by go_num, by omega, HN.out, HV4.out, by omega, HAN.out, Bc4⟩
      case measure => simp [intOf]; omega
    · have hn : combL way a b = Reg.told bs := by rw [HF.out, bandsFrom_end _ _ _ _ hlt]
      have HN := Lib.hid hn
      clear hn
      have C4 := Lib.hid (fun W h => told_any u9 bs W h (by omega) (fun c hc => Nat.le_trans (HA.out c hc) (by omega)))
      go_wp2_with fail
      refine (C4.out _ HI.out.read).mono ?_
      rintro e w4 ⟨A2, c2, rfl, k1, k2, k3, k4, hb⟩
      have K1 := Lib.hid k1
      have K2 := Lib.hid k2
      have K3 := Lib.hid k3
      have K4 := Lib.hid k4
      have HB2 := Lib.hid hb
      clear k1 k2 k3 k4 hb
      go_wp2_with fail
      go_ret
      rw [HN.out]
      exact ⟨A2, c2, rfl, K1.out, K2.out, K3.out, ⟨fun a ha => (by have := K4.out.1 a ha; omega), K4.out.2⟩, Hw.out.trans (HB2.out.mono (by omega))⟩

theorem combined_any (A B : Option Addr) (a b : List R4) (ca cb : Nat) (way : Int) (w : World) (hla : a.length ≤ 2000) (hlb : b.length ≤ 2000) (hnA : A = none → ca = 0) (hnB : B = none → cb = 0) (hway : way = 1 ∨ way = 2 ∨ way = 3) (h1 : Rd w A a) (h2 : Rd w B b) :
    Calls Tryz.prog 58 #[.slice A a.length ca, .slice B b.length cb, .int .i64 way] w (GotR w (combL way a b)) :=
  combined_anyB A B a b ca cb way w hla (by omega) (fun y k => by
    have h := rowFrom_len2 y (b.take k) []
    rw [List.length_take] at h
    simp only [List.length_nil] at h
    omega) (fun k => by
    have h := heightsFrom_len2 ((a ++ b).take k) []
    rw [List.length_take, List.length_append] at h
    simp only [List.length_nil] at h
    omega) hnA hnB hway h1 h2
end Go.Proofs.YtjcbngpgmgeanaaGreat

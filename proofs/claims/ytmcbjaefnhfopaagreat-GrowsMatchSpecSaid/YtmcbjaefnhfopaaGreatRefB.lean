/- The reference's heights: all heights at which rectangles begin or end, in order, whatever the world. -/
import Derived.Test.YtmcbjaefnhfopaaGreatRefA
namespace Go.Proofs.YtmcbjaefnhfopaaGreat
open Go.RowKit
open Reg (R4)
set_option linter.unusedSimpArgs false
set_option linter.unusedVariables false

/-- A value that reads as a list of integers: nil, or a slice of some. -/
def IsI (w : World) (v : Value) (l : List Int) : Prop :=
  (l = [] ∧ v = .slice none 0 0) ∨ (0 < l.length ∧ ∃ b off c, v = .slice (some ⟨b, off, none⟩) l.length c ∧ l.length ≤ c ∧ c ≤ 9223372036854775807 ∧ b < w.heap.size ∧ ∀ i v, l[i]? = some v → w.cell? ⟨b, off + i, none⟩ = some (.int .i64 v))
theorem IsI.below {w w' : World} {v : Value} {l : List Int} (h : IsI w v l) (hb : Below w.heap.size w w') : IsI w' v l := by
  rcases h with h | ⟨h0, b, off, c, e, h1, h2, h3, h4⟩
  · exact .inl h
  · exact .inr ⟨h0, b, off, c, e, h1, h2, Nat.lt_of_lt_of_le h3 hb.size, fun i r hi => ((bcell hb).1 _ _ h3).trans (h4 i r hi)⟩
theorem IsI.drewN {w : World} {v : Value} {l : List Int} (h : IsI w v l) (n : Nat) : IsI (w.drewN n) v l := h
def GotV (w : World) (l : List Int) (e : Ending) (w' : World) : Prop := ∃ v, e = .returned v ∧ IsI w' v l ∧ Below w.heap.size w w'

theorem putL_pos (l : List Int) (n : Int) : 0 < (Reg.putL l n).length := by
  cases l with
  | nil => simp [Reg.putL]
  | cons a l => simp only [Reg.putL]; split <;> (try split) <;> simp
theorem putL_len (l : List Int) (n : Int) : (Reg.putL l n).length ≤ l.length + 1 := by
  induction l with
  | nil => simp [Reg.putL]
  | cons a l ih => simp only [Reg.putL]; split <;> (try split) <;> simp <;> omega

theorem put_any (v : Value) (l : List Int) (n : Int) (w : World) (h : IsI w v l) (hs : l.Pairwise (· < ·)) (hsmall : l.length ≤ 1000000) : Calls Tryz.prog 81 #[v, .int .i64 n] w (GotV w (Reg.putL l n)) := by
  have fin_ : ∀ e w', GotI w (Reg.putL l n) e w' → GotV w (Reg.putL l n) e w' := by
    rintro e w' ⟨A, c, rfl, h1, h2, h3, hb⟩
    obtain ⟨b, off, rfl, hlt, hc⟩ := h3 (putL_pos l n)
    exact ⟨_, rfl, .inr ⟨putL_pos l n, b, off, c, rfl, h1, h2, hlt, hc⟩, hb⟩
  rcases h with ⟨rfl, rfl⟩ | ⟨h0, b, off, c, rfl, h1, h2, h3, h4⟩
  · exact (put_nil n w).mono fin_
  · exact (put_loop b off c l n w h0 h1 h2 hsmall h3 hs h4).mono fin_

theorem Reg.heightsFrom_append (a b : List R4) : ∀ acc : List Int, Reg.heightsFrom acc (a ++ b) = Reg.heightsFrom (Reg.heightsFrom acc a) b := by
  induction a with
  | nil => intro acc; rfl
  | cons r a ih => intro acc; simp only [List.cons_append, Reg.heightsFrom]; exact ih _
theorem Reg.heightsFrom_snoc (l : List R4) (k : Nat) (h : k < l.length) : Reg.heightsFrom [] (l.take (k + 1)) = Reg.putL (Reg.putL (Reg.heightsFrom [] (l.take k)) l[k].y0) l[k].y1 := by
  rw [List.take_succ_eq_append_getElem h, Reg.heightsFrom_append]
  rfl
set_option maxRecDepth 100000 in
set_option maxHeartbeats 400000 in
theorem heights_anyB (A : Option Addr) (l : List R4) (c : Nat) (w : World) (hl : l.length ≤ 2000000000) (hh : ∀ k, (Reg.heightsFrom [] (l.take k)).length ≤ 900000) (h : Rd w A l) :
    Calls Tryz.prog 62 #[.slice A l.length c] w (GotV w (Reg.heightsL l)) := by
  have H0 := Lib.hid h
  have HH := Lib.hid hh
  clear h hh
  go_enter Tryz.func62, Tryz.ntmps62
  go_wp2_with fail
  go_loopw [3, 4] (fun v i wr => ∃ (k : Nat) (hs : List Int), k ≤ l.length ∧ i = .int .i64 k ∧ IsI wr v hs ∧ hs.Pairwise (· < ·) ∧ hs = Reg.heightsFrom [] (l.take k) ∧ Reg.heightsL l = Reg.heightsFrom hs (l.drop k) ∧ Below w.heap.size w wr) (fun _ i _ => l.length - (intOf i).toNat)
  case atStart => exact ⟨0, [], Nat.zero_le _, rfl, .inl ⟨rfl, rfl⟩, List.Pairwise.nil, rfl, rfl, Below.refl _ _⟩
  case round =>
    obtain ⟨k, hs, hk, rfl, hI, hsort, heq, hf, hbw⟩ := hrel
    have hlen : hs.length ≤ 900000 := by rw [heq]; exact HH.out k
    have HE := Lib.hid heq
    clear heq
    have zw := hbw.size
    have HI := Lib.hid hI
    have HF := Lib.hid hf
    have HS := Lib.hid hsort
    clear hI hf hsort
    have hkz : (0 : Int) ≤ (k : Int) := by omega
    by_cases hlt : k < l.length
    · obtain ⟨b, off, rfl, hblt, hcs⟩ := (H0.out.below hbw) (by omega)
      have hi : l[k]? = some l[k] := List.getElem?_eq_getElem hlt
      have hd : l.drop k = l[k] :: l.drop (k + 1) := List.drop_eq_getElem_cons hlt
      have HD := Lib.hid hd
      have HK := Lib.hid (Reg.heightsFrom_snoc l k hlt)
      have hu := hcs k _ hi
      clear hcs hi hd
      generalize l[k] = r at *
      obtain ⟨_, c1, _, c3⟩ := hu
      have hklt : (k : Int) < (l.length : Int) := by omega
      have C1 := Lib.hid (fun v W h => put_any v hs r.y0 W h HS.out (by omega))
      have C2 := Lib.hid (fun v W h => put_any v (Reg.putL hs r.y0) r.y1 W h (Reg.putL_sorted HS.out) (by have := putL_len hs r.y0; omega))
      have tok1 : True := trivial
      go_wp2_with fail
      go_region_held3 (fun w' => w'.cell? ⟨b, off + k * 4 + 1, none⟩ = some (.int .i64 r.y0) ∧ w'.cell? ⟨b, off + k * 4 + 3, none⟩ = some (.int .i64 r.y1)) (go_keep)
        (first | (go_at_call 81; have _t := tok1; refine (C1.out _ _ ?hi1).mono ?_; (case hi1 => exact HI.out); rintro e wc ⟨v1, rfl, hv1, hb⟩; have HV1 := Lib.hid hv1; have qc := kc hb b (by (first | (with_reducible exact Nat.le_refl _) | (with_reducible assumption) | omega | (simp only [World.size_alloc, World.size_setCell, World.size_drew]; omega) | (simp; omega) | (simp; done))); have zc := hb.size; (try simp only [World.size_alloc, World.size_setCell, World.size_drew] at zc); have Bc := up (B := w.heap.size) (w := w) (by (repeat' (first | (with_reducible exact Below.refl _ _) | (with_reducible assumption) | (with_reducible refine Below.alloc ?_ ?_ _) | (with_reducible refine Below.drew ?_) | (with_reducible refine below_drewN ?_ _) | (with_reducible refine Below.setCell ?_ ?_ _) | (with_reducible exact Nat.le_refl _) | omega | (simp only [World.size_alloc, World.size_setCell, World.size_drew]; omega) | (simp; omega) | (simp; done)))) hb (by (first | (with_reducible exact Nat.le_refl _) | (with_reducible assumption) | omega | (simp only [World.size_alloc, World.size_setCell, World.size_drew]; omega) | (simp; omega) | (simp; done))); clear hb hv1 tok1) | (go_at_call 81; refine (C2.out _ _ ?hi2).mono ?_; (case hi2 => exact HV1.out); rintro e wc ⟨v2, rfl, hv2, hb⟩; have HV2 := Lib.hid hv2; have qc := kc hb b (by (first | (with_reducible exact Nat.le_refl _) | (with_reducible assumption) | omega | (simp only [World.size_alloc, World.size_setCell, World.size_drew]; omega) | (simp; omega) | (simp; done))); have zc := hb.size; (try simp only [World.size_alloc, World.size_setCell, World.size_drew] at zc); have Bc := up (B := w.heap.size) (w := w) (by (repeat' (first | (with_reducible exact Below.refl _ _) | (with_reducible assumption) | (with_reducible refine Below.alloc ?_ ?_ _) | (with_reducible refine Below.drew ?_) | (with_reducible refine below_drewN ?_ _) | (with_reducible refine Below.setCell ?_ ?_ _) | (with_reducible exact Nat.le_refl _) | omega | (simp only [World.size_alloc, World.size_setCell, World.size_drew]; omega) | (simp; omega) | (simp; done)))) hb (by (first | (with_reducible exact Nat.le_refl _) | (with_reducible assumption) | omega | (simp only [World.size_alloc, World.size_setCell, World.size_drew]; omega) | (simp; omega) | (simp; done))); clear hb hv2))
      go_wp2_with fail
      go_roundw
      case rel => exact ⟨k + 1, Reg.putL (Reg.putL hs r.y0) r.y1, by omega, by go_num, HV2.out, Reg.putL_sorted (Reg.putL_sorted HS.out), by rw [HK.out, ← HE.out], by rw [HF.out, HD.out]; rfl, Bc⟩
      case measure => simp [intOf]; omega
    · obtain rfl : k = l.length := by omega
      have hn : Reg.heightsL l = hs := by rw [HF.out, List.drop_length]; rfl
      have HN := Lib.hid hn
      clear hn
      go_wp2_with fail
      go_ret
      exact ⟨_, rfl, by rw [HN.out]; exact HI.out, hbw⟩

theorem heightsFrom_len2 (l : List R4) : ∀ acc : List Int, (Reg.heightsFrom acc l).length ≤ acc.length + 2 * l.length := by
  induction l with
  | nil => intro acc; simp [Reg.heightsFrom]
  | cons r l ih =>
    intro acc
    have h1 := ih (Reg.putL (Reg.putL acc r.y0) r.y1)
    have h2 := putL_len acc r.y0
    have h3 := putL_len (Reg.putL acc r.y0) r.y1
    simp only [Reg.heightsFrom, List.length_cons]
    omega
theorem heights_any (A : Option Addr) (l : List R4) (c : Nat) (w : World) (hl : l.length ≤ 100000) (h : Rd w A l) :
    Calls Tryz.prog 62 #[.slice A l.length c] w (GotV w (Reg.heightsL l)) :=
  heights_anyB A l c w (by omega) (fun k => by
    have h1 := heightsFrom_len2 (l.take k) []
    rw [List.length_take] at h1
    simp only [List.length_nil] at h1
    omega) h
end Go.Proofs.YtmcbjaefnhfopaaGreat

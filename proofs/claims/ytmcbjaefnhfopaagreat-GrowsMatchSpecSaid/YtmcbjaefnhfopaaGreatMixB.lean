/- The reference's combined, whatever the world. -/
import Derived.Test.YtmcbjaefnhfopaaGreatMixA
import Derived.Test.YtmcbjaefnhfopaaGreatClone
namespace Go.Proofs.YtmcbjaefnhfopaaGreat
open Go.RowKit
open Reg (R4 Span Band)
set_option linter.unusedSimpArgs false
set_option linter.unusedVariables false

/-- Rectangles that came in are put behind a row of one's own, be there some or none. -/
theorem wpList_append_rects {ops : Array Oper} {rest : List Oper} {o : Oper} {a : Act} {Q : Exit → Act → World → Prop} {w : World} (hgd : o.guard = none) (s x : Operand)
    (ho : o.op = .call { callee := .builtin .append, args := #[s, x], argTypes := #[22, 22] })
    (base : Nat) (v : Value) (n : Nat) (xs : List Value) (hs : a.eval s = v) (hown : w.ownsRow base 28 4 v n xs)
    (A : Option Addr) (l : List R4) (c : Nat) (hx : a.eval x = .slice A l.length c) (hA : A = none → c = 0) (h : Rd w A l) (hn : n + l.length ≤ 2100000000) (hbase : base ≤ w.heap.size)
    (K : ∀ v' w', w'.ownsRow base 28 4 v' (n + l.length) (xs ++ cR l) → w.grownBy w' v.ownBlock → wpList Tryz.prog ops Q rest (a.put o.dst v') w') : wpList Tryz.prog ops Q (o :: rest) a w := by
  obtain ⟨i0, hi, hz0, hz1, hz2⟩ := info_parts infoR
  cases A with
  | none =>
    have hl0 : l = [] := by
      cases l with
      | nil => rfl
      | cons r t => obtain ⟨b, off, e, _⟩ := h (by simp); cases e
    subst hl0
    rw [hA rfl] at hx
    exact wpList_append_own_none hgd s x 22 ho base 28 i0 4 Tryz.underlying22 hi v n xs hs hown hx (K v w (by simpa [cR] using hown) (gb_refl _ _))
  | some ad =>
    exact wpList_append_own w hgd s x 22 ho base 28 i0 (.agg #[.int .i64 0, .int .i64 0, .int .i64 0, .int .i64 0]) 4 32 Tryz.underlying22 hi hz0 hz1 hz2 rfl (by decide) v n xs hs hown ad l.length c (cR l) hx (cR_len l) (rd_cells h rfl) (cR_one l) (by simp only [maxLen]; omega) (by omega) hbase fun v' w' h1 h2 _ => K v' w' h1 h2

theorem rowM_len (way : Int) (a b : List R4) (y : Int) : (rowM way a b y).length ≤ 2 * a.length + 2 * b.length := by
  have h1 := mixedL_len way (Reg.rowL a y) (Reg.rowL b y)
  have h2 := rowL_len a y
  have h3 := rowL_len b y
  unfold rowM
  omega

set_option maxRecDepth 100000 in
set_option maxHeartbeats 4000000 in
theorem combined_anyB (A B : Option Addr) (a b : List R4) (ca cb : Nat) (way : Int) (w : World) (hla : a.length ≤ 2000) (hlb : b.length ≤ 1000000000) (hrows : ∀ y k, (Reg.rowFrom y [] (b.take k)).length ≤ 20000) (hhs : ∀ k, (Reg.heightsFrom [] ((a ++ b).take k)).length ≤ 100000) (hnA : A = none → ca = 0) (hnB : B = none → cb = 0) (hway : way = 1 ∨ way = 2 ∨ way = 3) (h1 : Rd w A a) (h2 : Rd w B b) :
    Calls Tryz.prog 44 #[.slice A a.length ca, .slice B b.length cb, .int .i64 way] w (GotR w (combL way a b)) := by
  have HA0 := Lib.hid h1
  have HB0 := Lib.hid h2
  have HWY := Lib.hid hway
  have HNA := Lib.hid hnA
  have HNB := Lib.hid hnB
  have HRO := Lib.hid hrows
  have HHS := Lib.hid hhs
  clear h1 h2 hway hnA hnB hrows hhs
  have hbc : combL way a b = Reg.told (Reg.bandsFrom (rowM way a b) [] ((Reg.heightsL (a ++ b)).drop 0)) := by rw [List.drop_zero]; rfl
  have hab : (a ++ b).length = a.length + b.length := List.length_append
  have hcr : cR (a ++ b) = cR a ++ cR b := cR_append a b
  generalize a ++ b = ab at *
  have HBC := Lib.hid hbc
  clear hbc
  have hyl : (Reg.heightsL ab).length ≤ 100000 := by have := HHS.out ab.length; rw [List.take_length] at this; exact this
  have C1 := Lib.hid (fun A' c W h => heights_anyB A' ab c W (by omega) (fun k => Nat.le_trans (HHS.out k) (by omega)) h)
  have FIX := Lib.hid (fun (W : World) (v : Value) (h : W.ownsRow w.heap.size 28 4 v (0 + a.length + b.length) ([] ++ cR a ++ cR b)) => rd_own (base := w.heap.size) (l := ab) (by rw [hab, hcr]; simpa using h))
  clear hcr hab
  go_enter Tryz.func44, Tryz.ntmps44
  go_wp2_with (first
    | (at_builtin; refine wpList_append_rects rfl (.tmp 11) (.tmp 12) rfl w.heap.size (.slice none 0 0) 0 [] rfl own_nil A a ca rfl HNA.out HA0.out (by omega) (Nat.le_refl _) ?_; intro v1 w1 hown1 hg1; have HO1 := Lib.hid hown1; have B1 := below_app (B := w.heap.size) (w0 := w) (base := w.heap.size) (size := 4) (e := 28) (Below.refl _ _) own_nil hg1 (Nat.le_refl _) (Nat.le_refl _); have z1 := hg1.size; clear hown1 hg1)
    | (at_builtin; refine wpList_append_rects rfl (.tmp 14) (.tmp 15) rfl w.heap.size v1 (0 + a.length) ([] ++ cR a) rfl HO1.out B b cb rfl HNB.out (HB0.out.below B1) (by omega) z1 ?_; intro v2 w2 hown2 hg2; obtain ⟨A2, c2, rfl, q1, q2, q3, q4⟩ := FIX.out _ _ hown2; have HQ3 := Lib.hid q3; have B2 := below_app (B := w.heap.size) (w0 := w) B1 HO1.out hg2 (Nat.le_refl _) z1; have z2 := hg2.size; clear hown2 hg2 q1 q2 q3 q4))
  refine (C1.out _ _ _ HQ3.out).mono ?_
  rintro e w3 ⟨yv, rfl, hyv, hb⟩
  have HY1 := Lib.hid hyv
  have z3 := hb.size
  have Hb1 := Lib.hid (up (B := w.heap.size) (w := w) B2 hb (by omega))
  clear hb hyv B1 B2
  generalize hys : Reg.heightsL ab = ys at *
  clear hys
  have hlenv : ∃ A' c', yv = .slice A' ys.length c' := by
    rcases HY1.out with ⟨h1, h2⟩ | ⟨_, b, off, c, h2, _⟩
    · exact ⟨none, 0, by rw [h2, h1]; rfl⟩
    · exact ⟨_, _, h2⟩
  obtain ⟨yA, yc, rfl⟩ := hlenv
  go_wp2_with fail
  go_loopw [9, 10] (fun v i wr => ∃ (k : Nat) (bs : List Band), i = .int .i64 ((k : Int) + 1) ∧ k ≤ ys.length ∧ combL way a b = Reg.told (Reg.bandsFrom (rowM way a b) bs (ys.drop k)) ∧ IsB wr w3.heap.size v bs ∧ bs.length ≤ k ∧ (∀ c, c ∈ bs → c.sp.length ≤ 100000) ∧ Below w3.heap.size w3 wr) (fun _ i _ => ys.length + 1 - (intOf i).toNat)
  case atStart => exact ⟨0, [], rfl, Nat.zero_le _, HBC.out, IsB.nil _ _, Nat.le_refl _, (fun c hc => by cases hc), by (repeat' (first | (with_reducible exact Below.refl _ _) | (with_reducible assumption) | (with_reducible refine Below.alloc ?_ ?_ _) | (with_reducible refine Below.drew ?_) | (with_reducible refine below_drewN ?_ _) | (with_reducible refine Below.setCell ?_ ?_ _) | (with_reducible exact Nat.le_refl _) | omega | (simp only [World.size_alloc, World.size_setCell, World.size_drew]; omega) | (simp; omega) | (simp; done)))⟩
  case round =>
    obtain ⟨k, bs, rfl, hk, hf, hI, hlen, hall, hbw⟩ := hrel
    have zw := hbw.size
    have HF := Lib.hid hf
    have HI := Lib.hid hI
    have HA := Lib.hid hall
    have Hw := Lib.hid (show Below w.heap.size w wr from Hb1.out.trans (hbw.mono (by omega)))
    have HRa := Lib.hid (HA0.out.below Hw.out)
    have HRb := Lib.hid (HB0.out.below Hw.out)
    clear hf hI hall
    have hkz : (0 : Int) ≤ (k : Int) := by omega
    by_cases hlt : k + 1 < ys.length
    · obtain ⟨A', c', e, hc1, hc2, hcell⟩ : ∃ A' c', (Value.slice yA ys.length yc) = .slice A' ys.length c' ∧ ys.length ≤ c' ∧ c' ≤ 9223372036854775807 ∧ ∃ b off, A' = some ⟨b, off, none⟩ ∧ b < w3.heap.size ∧ ∀ i v, ys[i]? = some v → wr.cell? ⟨b, off + i, none⟩ = some (.int .i64 v) := by
        rcases HY1.out with ⟨h1, _⟩ | ⟨_, b, off, c, h2, h3, h4, h5, h6⟩
        · rw [h1] at hlt; simp at hlt
        · exact ⟨_, c, h2, h3, h4, b, off, rfl, h5, fun i v hi => (kcB hbw b h5 _).trans (h6 i v hi)⟩
      obtain ⟨yb, yo, rfl, hyblt, hyc⟩ := hcell
      cases e
      have hia : ys[k]? = some ys[k] := List.getElem?_eq_getElem (by omega)
      have hib : ys[k + 1]? = some ys[k + 1] := List.getElem?_eq_getElem hlt
      have HST := Lib.hid (bandsFrom_step (rowM way a b) bs ys k _ _ hia hib)
      have ca' := hyc k _ hia
      have cb' := hyc (k + 1) _ hib
      clear hyc hia hib
      generalize ys[k] = ya at *
      generalize ys[k + 1] = ya2 at *
      have C2 := Lib.hid (fun W h => row_any A a ca ya W (by omega) h)
      have C3 := Lib.hid (fun W h => row_anyB B b cb ya W (by omega) (fun k => Nat.le_trans (HRO.out ya k) (by omega)) h)
      have hra := rowL_len a ya
      have hrb : (Reg.rowL b ya).length ≤ 20000 := by have := HRO.out ya b.length; rw [List.take_length] at this; exact this
      have hrl : (rowM way a b ya).length ≤ 44000 := by have := mixedL_len way (Reg.rowL a ya) (Reg.rowL b ya); unfold rowM; omega
      have C4 := Lib.hid (fun va vb W h1 h2 => (show Calls Tryz.prog 64 #[va, vb, .int .i64 way] W (GotS W (rowM way a b ya)) from mixed_any va vb (Reg.rowL a ya) (Reg.rowL b ya) way W h1 h2 (by omega) (by omega) HWY.out))
      have hn : combL way a b = Reg.told (Reg.bandsFrom (rowM way a b) (Reg.stackL bs ⟨ya, ya2, rowM way a b ya⟩) (ys.drop (k + 1))) := by rw [HF.out, HST.out]
      have HN := Lib.hid hn
      have hsc := stackL_count ⟨ya, ya2, rowM way a b ya⟩ bs
      have HAN := Lib.hid (stackL_sp ⟨ya, ya2, rowM way a b ya⟩ 100000 (by simp only; omega) bs HA.out)
      have C5 := Lib.hid (fun sv W h1 h2 h3 h4 => stacked_any w3.heap.size u9 bs ⟨ya, ya2, rowM way a b ya⟩ sv W h1 h2 h3 h4 (by simp only; omega) (fun c hc => Nat.le_trans (HA.out c hc) (by omega)) (by omega))
      have HOB := Lib.hid (show ∀ g, u9.ownBlock = some g → g < wr.heap.size from fun g hg => by obtain ⟨ps, _, h2, _⟩ := HI.out; exact (h2.lt g hg).2)
      generalize rowM way a b ya = rw_ at *
      generalize Reg.rowL a ya = ra at *
      generalize Reg.rowL b ya = rb at *
      clear hn
      have hklt : (k : Int) + 1 < (ys.length : Int) := by omega
      have hklt0 : (k : Int) < (ys.length : Int) := by omega
      have hkz1 : (0 : Int) ≤ (k : Int) + 1 := by omega
      have hs1 : IntKind.i64.wrap (k : Int) = (k : Int) := IntWalk.i64_in _ (by omega)
      have hs2 : ((k : Int) + 1).toNat = k + 1 := by omega
      have tok1 : True := trivial
      go_wp2_with fail
      go_region_held3 (fun w' => w'.cell? ⟨yb, yo + k, none⟩ = some (.int .i64 ya) ∧ w'.cell? ⟨yb, yo + (k + 1), none⟩ = some (.int .i64 ya2)) (go_keep)
        (first
          | (go_at_call 65; have _t := tok1; refine (C2.out _ ?hi1).mono ?_; (case hi1 => exact HRa.out); rintro e wc ⟨v1, rfl, hv1, hfr, hb⟩; have HV1 := Lib.hid hv1; have qc := kc hb yb (by (first | (with_reducible exact Nat.le_refl _) | (with_reducible assumption) | omega | (simp only [World.size_alloc, World.size_setCell, World.size_drew]; omega) | (simp; omega) | (simp; done))); have zc := hb.size; (try simp only [World.size_alloc, World.size_setCell, World.size_drew] at zc); have Bc := up (B := wr.heap.size) (w := wr) (by (repeat' (first | (with_reducible exact Below.refl _ _) | (with_reducible assumption) | (with_reducible refine Below.alloc ?_ ?_ _) | (with_reducible refine Below.drew ?_) | (with_reducible refine below_drewN ?_ _) | (with_reducible refine Below.setCell ?_ ?_ _) | (with_reducible exact Nat.le_refl _) | omega | (simp only [World.size_alloc, World.size_setCell, World.size_drew]; omega) | (simp; omega) | (simp; done)))) hb (by (first | (with_reducible exact Nat.le_refl _) | (with_reducible assumption) | omega | (simp only [World.size_alloc, World.size_setCell, World.size_drew]; omega) | (simp; omega) | (simp; done))); have HRb2 := Lib.hid (HRb.out.below Bc); clear hb hv1 hfr tok1)
          | (go_at_call 65; refine (C3.out _ ?hi2).mono ?_; (case hi2 => exact HRb2.out); rintro e wc2 ⟨v2, rfl, hv2, hfr, hb⟩; have HV2 := Lib.hid hv2; have HV1' := Lib.hid (HV1.out.below hb); have qc2 := kc hb yb (by (first | (with_reducible exact Nat.le_refl _) | (with_reducible assumption) | omega | (simp only [World.size_alloc, World.size_setCell, World.size_drew]; omega) | (simp; omega) | (simp; done))); have zc2 := hb.size; (try simp only [World.size_alloc, World.size_setCell, World.size_drew] at zc2); have Bc2 := up (B := wr.heap.size) (w := wr) Bc hb (by (first | (with_reducible exact Nat.le_refl _) | (with_reducible assumption) | omega | (simp only [World.size_alloc, World.size_setCell, World.size_drew]; omega) | (simp; omega) | (simp; done))); clear hb hv2 hfr)
          | (go_at_call 64; refine (C4.out _ _ _ ?hi3 ?hi4).mono ?_; (case hi3 => exact HV1'.out); (case hi4 => exact HV2.out); rintro e wc3 ⟨v3, rfl, hv3, hfr, hb⟩; obtain ⟨A1, c1, rfl⟩ := hv3.form; have HFR := Lib.hid (fun g hg => Nat.le_trans (show wr.heap.size ≤ _ from by (first | (with_reducible exact Nat.le_refl _) | (with_reducible assumption) | omega | (simp only [World.size_alloc, World.size_setCell, World.size_drew]; omega) | (simp; omega) | (simp; done))) (hfr g hg)); clear hfr; have HV3 := Lib.hid hv3; have qc3 := kc hb yb (by (first | (with_reducible exact Nat.le_refl _) | (with_reducible assumption) | omega | (simp only [World.size_alloc, World.size_setCell, World.size_drew]; omega) | (simp; omega) | (simp; done))); have zc3 := hb.size; (try simp only [World.size_alloc, World.size_setCell, World.size_drew] at zc3); have HBC3 := Lib.hid (up (B := wr.heap.size) (w := wr) Bc2 hb (by (first | (with_reducible exact Nat.le_refl _) | (with_reducible assumption) | omega | (simp only [World.size_alloc, World.size_setCell, World.size_drew]; omega) | (simp; omega) | (simp; done)))); have Bw3 := hbw.trans (HBC3.out.mono zw); clear hb hv3)
          | (go_at_call 63; refine (C5.out _ _ ?hi5 ?hi6 ?hi7 ?hi8).mono ?_; (case hi5 => exact HI.out.below HBC3.out); (case hi6 => exact HV3.out); (case hi7 => exact fun g hg h2 => absurd (HFR.out g h2) (by have := HOB.out g hg; omega)); (case hi8 => (first | (with_reducible exact Nat.le_refl _) | (with_reducible assumption) | omega | (simp only [World.size_alloc, World.size_setCell, World.size_drew]; omega) | (simp; omega) | (simp; done))); rintro e wc4 ⟨v4, rfl, hv4, hb⟩; have HV4 := Lib.hid hv4; have qc4 := kcB hb yb (by (first | (with_reducible exact Nat.le_refl _) | (with_reducible assumption) | omega | (simp only [World.size_alloc, World.size_setCell, World.size_drew]; omega) | (simp; omega) | (simp; done))); have zc4 := hb.size; (try simp only [World.size_alloc, World.size_setCell, World.size_drew] at zc4); have Bc4 := Bw3.trans hb; clear hb hv4))
      go_wp2_with fail
      go_roundw
      case rel => exact ⟨k + 1, _, by go_num, by omega, HN.out, HV4.out, by omega, HAN.out, Bc4⟩
      case measure => simp [intOf]; omega
    · have hn : combL way a b = Reg.told bs := by rw [HF.out, bandsFrom_end _ _ _ _ hlt]
      have HN := Lib.hid hn
      clear hn
      have C4 := Lib.hid (fun W h => told_any u9 bs W h (by omega) (fun c hc => Nat.le_trans (HA.out c hc) (by omega)))
      go_wp2_with fail
      refine (C4.out _ HI.out.read).mono ?_
      rintro e w4 ⟨A2, c2, rfl, k1, k2, k3, k4, hb⟩
      have K1 := Lib.hid k1
      have K2 := Lib.hid k2
      have K3 := Lib.hid k3
      have K4 := Lib.hid k4
      have HB2 := Lib.hid hb
      clear k1 k2 k3 k4 hb
      go_wp2_with fail
      go_ret
      rw [HN.out]
      exact ⟨A2, c2, rfl, K1.out, K2.out, K3.out, ⟨fun a ha => (by have := K4.out.1 a ha; omega), K4.out.2⟩, Hw.out.trans (HB2.out.mono (by omega))⟩

theorem combined_any (A B : Option Addr) (a b : List R4) (ca cb : Nat) (way : Int) (w : World) (hla : a.length ≤ 2000) (hlb : b.length ≤ 2000) (hnA : A = none → ca = 0) (hnB : B = none → cb = 0) (hway : way = 1 ∨ way = 2 ∨ way = 3) (h1 : Rd w A a) (h2 : Rd w B b) :
    Calls Tryz.prog 44 #[.slice A a.length ca, .slice B b.length cb, .int .i64 way] w (GotR w (combL way a b)) :=
  combined_anyB A B a b ca cb way w hla (by omega) (fun y k => by
    have h := rowFrom_len2 y (b.take k) []
    rw [List.length_take] at h
    simp only [List.length_nil] at h
    omega) (fun k => by
    have h := heightsFrom_len2 ((a ++ b).take k) []
    rw [List.length_take, List.length_append] at h
    simp only [List.length_nil] at h
    omega) hnA hnB hway h1 h2
end Go.Proofs.YtmcbjaefnhfopaaGreat

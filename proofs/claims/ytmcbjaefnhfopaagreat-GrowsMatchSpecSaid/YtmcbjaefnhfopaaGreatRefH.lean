/- The reference's Canonical and CheckRegion, whatever the world. -/
import Derived.Test.YtmcbjaefnhfopaaGreatRefG
import Derived.Test.YtmcbjaefnhfopaaGreatRefE
namespace Go.Proofs.YtmcbjaefnhfopaaGreat
open Go.RowKit
open Reg (R4 Span Band)
set_option linter.unusedSimpArgs false
set_option linter.unusedVariables false

theorem rowFrom_len (y : Int) (l : List R4) : ∀ acc : List Span, (Reg.rowFrom y acc l).length ≤ acc.length + l.length := by
  induction l with
  | nil => intro acc; exact Nat.le_refl _
  | cons r l ih =>
    intro acc
    simp only [Reg.rowFrom, List.length_cons]
    have h1 := ih (if r.y0 ≤ y ∧ y < r.y1 then Reg.joinedL acc (r.x0, r.x1) else acc)
    split at h1
    · rename_i h; rw [if_pos h]; have := joinedL_len acc (r.x0, r.x1); omega
    · rename_i h; rw [if_neg h]; omega
theorem rowL_len (l : List R4) (y : Int) : (Reg.rowL l y).length ≤ l.length := by have := rowFrom_len y l []; simpa [Reg.rowL] using this
theorem heightsFrom_len (l : List R4) : ∀ acc : List Int, (Reg.heightsFrom acc l).length ≤ acc.length + 2 * l.length := by
  induction l with
  | nil => intro acc; exact Nat.le_refl _
  | cons r l ih =>
    intro acc
    simp only [Reg.heightsFrom, List.length_cons]
    have := ih (Reg.putL (Reg.putL acc r.y0) r.y1)
    have := putL_len acc r.y0
    have := putL_len (Reg.putL acc r.y0) r.y1
    omega
theorem heightsL_len (l : List R4) : (Reg.heightsL l).length ≤ 2 * l.length := by have := heightsFrom_len l []; simpa [Reg.heightsL] using this
theorem stackL_sp (b : Band) (m : Nat) (hb : b.sp.length ≤ m) : ∀ l : List Band, (∀ c, c ∈ l → c.sp.length ≤ m) → ∀ c, c ∈ Reg.stackL l b → c.sp.length ≤ m
  | [], _ => by intro c hc; simp only [Reg.stackL] at hc; split at hc <;> simp at hc; subst hc; exact hb
  | [d], h => by
    intro c hc
    have hd := h d (by simp)
    simp only [Reg.stackL] at hc
    split at hc
    · simp at hc; subst hc; exact hd
    · split at hc
      · simp at hc; subst hc; exact hd
      · simp at hc; rcases hc with rfl | rfl
        · exact hd
        · exact hb
  | d :: e :: l, h => by
    intro c hc
    rw [Reg.stackL] at hc
    rcases List.mem_cons.1 hc with rfl | hc
    · exact h _ (by simp)
    · exact stackL_sp b m hb (e :: l) (fun c hc => h c (List.mem_cons_of_mem _ hc)) c hc
theorem stackL_count (b : Band) : ∀ l : List Band, (Reg.stackL l b).length ≤ l.length + 1
  | [] => by simp only [Reg.stackL]; split <;> simp
  | [d] => by simp only [Reg.stackL]; split <;> (try split) <;> simp
  | d :: e :: l => by have := stackL_count b (e :: l); rw [Reg.stackL]; simp only [List.length_cons] at this ⊢; omega
theorem bandsFrom_count (row : Int → List Span) (m : Nat) (hrow : ∀ y, (row y).length ≤ m) (ys : List Int) : ∀ acc : List Band, (∀ c, c ∈ acc → c.sp.length ≤ m) →
    (Reg.bandsFrom row acc ys).length ≤ acc.length + ys.length ∧ ∀ c, c ∈ Reg.bandsFrom row acc ys → c.sp.length ≤ m := by
  induction ys with
  | nil => intro acc h; exact ⟨Nat.le_refl _, h⟩
  | cons a ys ih =>
    intro acc h
    cases ys with
    | nil => exact ⟨Nat.le_add_right _ _, h⟩
    | cons b ys =>
      obtain ⟨h1, h2⟩ := ih (Reg.stackL acc ⟨a, b, row a⟩) (stackL_sp _ m (hrow a) acc h)
      have := stackL_count ⟨a, b, row a⟩ acc
      refine ⟨?_, h2⟩
      rw [Reg.bandsFrom]
      simp only [List.length_cons] at h1 ⊢
      omega
theorem canonL_len (l : List R4) : (Reg.canonL l).length ≤ 2 * l.length * l.length := by
  obtain ⟨h1, h2⟩ := bandsFrom_count (Reg.rowL l) l.length (rowL_len l) (Reg.heightsL l) [] (fun c hc => by cases hc)
  have h3 := told_len h2
  have h4 := heightsL_len l
  rw [List.length_nil, Nat.zero_add] at h1
  exact Nat.le_trans h3 (Nat.mul_le_mul_right _ (Nat.le_trans h1 h4))

/-- The cells of a block below a bound stay. -/
theorem kcB {B : Nat} {W w1 : World} (hb : Below B W w1) (b : Nat) (h : b < B) : ∀ o, w1.cell? ⟨b, o, none⟩ = W.cell? ⟨b, o, none⟩ := fun o => hb.cell (p := ⟨b, o, none⟩) h
theorem IsI.belowB {B : Nat} {w w' : World} {v : Value} {l : List Int} (h : IsI w v l) (hv : ∀ g, v.ownBlock = some g → g < B) (hb : Below B w w') : IsI w' v l := by
  rcases h with h | ⟨h0, b, off, c, e, h1, h2, h3, h4⟩
  · exact .inl h
  · subst e
    exact .inr ⟨h0, b, off, c, rfl, h1, h2, Nat.lt_of_lt_of_le h3 hb.size, fun i r hi => (kcB hb b (hv b rfl) _).trans (h4 i r hi)⟩
theorem IsS.form {w : World} {v : Value} {l : List Span} (h : IsS w v l) : ∃ A c, v = .slice A l.length c := by
  rcases h with ⟨rfl, rfl⟩ | ⟨_, b, off, c, e, _⟩
  · exact ⟨none, 0, rfl⟩
  · exact ⟨_, _, e⟩
theorem bandsFrom_step (row : Int → List Span) (bs : List Band) (ys : List Int) (k : Nat) (a b : Int) (h1 : ys[k]? = some a) (h2 : ys[k + 1]? = some b) :
    Reg.bandsFrom row bs (ys.drop k) = Reg.bandsFrom row (Reg.stackL bs ⟨a, b, row a⟩) (ys.drop (k + 1)) := by
  obtain ⟨i1, rfl⟩ := List.getElem?_eq_some_iff.1 h1
  obtain ⟨i2, rfl⟩ := List.getElem?_eq_some_iff.1 h2
  rw [List.drop_eq_getElem_cons i1, List.drop_eq_getElem_cons i2, Reg.bandsFrom]
theorem bandsFrom_end (row : Int → List Span) (bs : List Band) (ys : List Int) (k : Nat) (h : ¬ k + 1 < ys.length) : Reg.bandsFrom row bs (ys.drop k) = bs := by
  by_cases h2 : k < ys.length
  · rw [List.drop_eq_getElem_cons h2, List.drop_of_length_le (by omega)]; rfl
  · rw [List.drop_of_length_le (by omega)]; rfl

set_option maxRecDepth 100000 in
set_option maxHeartbeats 1000000 in
theorem rcanonical_any (A : Option Addr) (l : List R4) (c : Nat) (w : World) (hl : l.length ≤ 100000) (h : Rd w A l) :
    Calls Tryz.prog 52 #[.slice A l.length c] w (GotR w (Reg.canonL l)) := by
  have H0 := Lib.hid h
  have C1 := Lib.hid (fun W h => heights_any A l c W hl h)
  clear h
  have hyl := heightsL_len l
  go_enter Tryz.func52, Tryz.ntmps52
  go_wp2_with fail
  refine (C1.out _ H0.out).mono ?_
  rintro e w1 ⟨yv, rfl, hyv, hb⟩
  have HY1 := Lib.hid hyv
  have hyb : ∀ g, yv.ownBlock = some g → g < w1.heap.size := by
    intro g hg
    rcases hyv with ⟨_, rfl⟩ | ⟨_, b, off, c, rfl, _, _, h3, _⟩
    · cases hg
    · simp [Value.ownBlock] at hg; subst hg; exact h3
  have HYB := Lib.hid hyb
  have z1 := hb.size
  have Hb1 := Lib.hid hb
  clear hb hyv hyb
  have hbc : Reg.bandsC l = Reg.bandsFrom (Reg.rowL l) [] ((Reg.heightsL l).drop 0) := rfl
  have HBC := Lib.hid hbc
  clear hbc
  have HYL := Lib.hid (show Reg.bandsC l = Reg.bandsFrom (Reg.rowL l) [] (Reg.heightsL l) from rfl)
  generalize hys : Reg.heightsL l = ys at *
  have Hys := Lib.hid hys
  clear hys
  have hlenv : ∃ A' c', yv = .slice A' ys.length c' := by
    rcases HY1.out with ⟨h1, h2⟩ | ⟨_, b, off, c, h2, _⟩
    · exact ⟨none, 0, by rw [h2, h1]; rfl⟩
    · exact ⟨_, _, h2⟩
  obtain ⟨yA, yc, rfl⟩ := hlenv
  go_wp2_with fail
  go_loopw [4, 5] (fun v i wr => ∃ (k : Nat) (bs : List Band), i = .int .i64 ((k : Int) + 1) ∧ k ≤ ys.length ∧ Reg.bandsC l = Reg.bandsFrom (Reg.rowL l) bs (ys.drop k) ∧ IsB wr w1.heap.size v bs ∧ bs.length ≤ k ∧ (∀ c, c ∈ bs → c.sp.length ≤ 100000) ∧ Below w1.heap.size w1 wr) (fun _ i _ => ys.length + 1 - (intOf i).toNat)
  case atStart => exact ⟨0, [], rfl, Nat.zero_le _, HBC.out, IsB.nil _ _, Nat.le_refl _, (fun c hc => by cases hc), by (repeat' (first | (with_reducible exact Below.refl _ _) | (with_reducible assumption) | (with_reducible refine Below.alloc ?_ ?_ _) | (with_reducible refine Below.drew ?_) | (with_reducible refine below_drewN ?_ _) | (with_reducible refine Below.setCell ?_ ?_ _) | (with_reducible exact Nat.le_refl _) | omega | (simp only [World.size_alloc, World.size_setCell, World.size_drew]; omega) | (simp; omega) | (simp; done)))⟩
  case round =>
    obtain ⟨k, bs, rfl, hk, hf, hI, hlen, hall, hbw⟩ := hrel
    have zw := hbw.size
    have HF := Lib.hid hf
    have HI := Lib.hid hI
    have HA := Lib.hid hall
    have Hw := Lib.hid (show Below w.heap.size w wr from Hb1.out.trans (hbw.mono (by omega)))
    have HR := Lib.hid (H0.out.below Hw.out)
    clear hf hI hall
    have hkz : (0 : Int) ≤ (k : Int) := by omega
    by_cases hlt : k + 1 < ys.length
    · obtain ⟨A', c', e, hc1, hc2, hcell⟩ : ∃ A' c', (Value.slice yA ys.length yc) = .slice A' ys.length c' ∧ ys.length ≤ c' ∧ c' ≤ 9223372036854775807 ∧ ∃ b off, A' = some ⟨b, off, none⟩ ∧ b < w1.heap.size ∧ ∀ i v, ys[i]? = some v → wr.cell? ⟨b, off + i, none⟩ = some (.int .i64 v) := by
        rcases HY1.out with ⟨h1, _⟩ | ⟨_, b, off, c, h2, h3, h4, h5, h6⟩
        · rw [h1] at hlt; simp at hlt
        · exact ⟨_, c, h2, h3, h4, b, off, rfl, h5, fun i v hi => (kcB hbw b h5 _).trans (h6 i v hi)⟩
      obtain ⟨yb, yo, rfl, hyblt, hyc⟩ := hcell
      cases e
      have hia : ys[k]? = some ys[k] := List.getElem?_eq_getElem (by omega)
      have hib : ys[k + 1]? = some ys[k + 1] := List.getElem?_eq_getElem hlt
      have HST := Lib.hid (bandsFrom_step (Reg.rowL l) bs ys k _ _ hia hib)
      have ca := hyc k _ hia
      have cb := hyc (k + 1) _ hib
      clear hyc hia hib
      generalize ys[k] = ya at *
      generalize ys[k + 1] = ya2 at *
      have C2 := Lib.hid (fun W h => row_any A l c ya W hl h)
      have hrl := rowL_len l ya
      have hn : Reg.bandsC l = Reg.bandsFrom (Reg.rowL l) (Reg.stackL bs ⟨ya, ya2, Reg.rowL l ya⟩) (ys.drop (k + 1)) := by rw [HF.out, HST.out]
      have HN := Lib.hid hn
      have hsc := stackL_count ⟨ya, ya2, Reg.rowL l ya⟩ bs
      have HAN := Lib.hid (stackL_sp ⟨ya, ya2, Reg.rowL l ya⟩ 100000 (by simp only; omega) bs HA.out)
      have C3 := Lib.hid (fun sv W h1 h2 h3 h4 => stacked_any w1.heap.size u4 bs ⟨ya, ya2, Reg.rowL l ya⟩ sv W h1 h2 h3 h4 (by simp only; omega) (fun c hc => Nat.le_trans (HA.out c hc) (by omega)) (by omega))
      have HOB := Lib.hid (show ∀ g, u4.ownBlock = some g → g < wr.heap.size from fun g hg => by obtain ⟨ps, _, h2, _⟩ := HI.out; exact (h2.lt g hg).2)
      generalize Reg.rowL l ya = rw_ at *
      clear hn
      have hklt : (k : Int) + 1 < (ys.length : Int) := by omega
      have hklt0 : (k : Int) < (ys.length : Int) := by omega
      have hkz1 : (0 : Int) ≤ (k : Int) + 1 := by omega
      have hs1 : IntKind.i64.wrap (k : Int) = (k : Int) := IntWalk.i64_in _ (by omega)
      have hs2 : ((k : Int) + 1).toNat = k + 1 := by omega
      go_wp2_with fail
      go_region_held3 (fun w' => w'.cell? ⟨yb, yo + k, none⟩ = some (.int .i64 ya) ∧ w'.cell? ⟨yb, yo + (k + 1), none⟩ = some (.int .i64 ya2)) (go_keep)
        (first | (go_at_call 65; refine (C2.out _ ?hi1).mono ?_; (case hi1 => exact HR.out); rintro e wc ⟨v1, rfl, hv1, hfr, hb⟩; obtain ⟨A1, c1, rfl⟩ := hv1.form; have HFR := Lib.hid hfr; clear hfr; have HV1 := Lib.hid hv1; have qc := kc hb yb (by (first | (with_reducible exact Nat.le_refl _) | (with_reducible assumption) | omega | (simp only [World.size_alloc, World.size_setCell, World.size_drew]; omega) | (simp; omega) | (simp; done))); have zc := hb.size; (try simp only [World.size_alloc, World.size_setCell, World.size_drew] at zc); have HBC := Lib.hid (up (B := wr.heap.size) (w := wr) (by (repeat' (first | (with_reducible exact Below.refl _ _) | (with_reducible assumption) | (with_reducible refine Below.alloc ?_ ?_ _) | (with_reducible refine Below.drew ?_) | (with_reducible refine below_drewN ?_ _) | (with_reducible refine Below.setCell ?_ ?_ _) | (with_reducible exact Nat.le_refl _) | omega | (simp only [World.size_alloc, World.size_setCell, World.size_drew]; omega) | (simp; omega) | (simp; done)))) hb (by (first | (with_reducible exact Nat.le_refl _) | (with_reducible assumption) | omega | (simp only [World.size_alloc, World.size_setCell, World.size_drew]; omega) | (simp; omega) | (simp; done)))); have HFR := Lib.hid (show ∀ g, (Value.slice A1 rw_.length c1).ownBlock = some g → wr.heap.size ≤ g from HFR.out); have Bc := up (B := w1.heap.size) (w := w1) (by (repeat' (first | (with_reducible exact Below.refl _ _) | (with_reducible assumption) | (with_reducible refine Below.alloc ?_ ?_ _) | (with_reducible refine Below.drew ?_) | (with_reducible refine below_drewN ?_ _) | (with_reducible refine Below.setCell ?_ ?_ _) | (with_reducible exact Nat.le_refl _) | omega | (simp only [World.size_alloc, World.size_setCell, World.size_drew]; omega) | (simp; omega) | (simp; done)))) hb (by (first | (with_reducible exact Nat.le_refl _) | (with_reducible assumption) | omega | (simp only [World.size_alloc, World.size_setCell, World.size_drew]; omega) | (simp; omega) | (simp; done))); clear hb hv1) | (go_at_call 63; refine (C3.out _ _ ?hi2 ?hi3 ?hi4 ?hi5).mono ?_; (case hi2 => exact HI.out.below HBC.out); (case hi3 => exact HV1.out); (case hi4 => exact fun g hg h2 => absurd (HFR.out g h2) (by have := HOB.out g hg; omega)); (case hi5 => (first | (with_reducible exact Nat.le_refl _) | (with_reducible assumption) | omega | (simp only [World.size_alloc, World.size_setCell, World.size_drew]; omega) | (simp; omega) | (simp; done))); rintro e wc2 ⟨v2, rfl, hv2, hb⟩; have HV2 := Lib.hid hv2; have qc2 := kcB hb yb (by (first | (with_reducible exact Nat.le_refl _) | (with_reducible assumption) | omega | (simp only [World.size_alloc, World.size_setCell, World.size_drew]; omega) | (simp; omega) | (simp; done))); have zc2 := hb.size; (try simp only [World.size_alloc, World.size_setCell, World.size_drew] at zc2); have Bc2 := Bc.trans hb; clear hb hv2))
      go_wp2_with fail
      go_roundw
      case rel => exact ⟨k + 1, _, by go_num, by omega, HN.out, HV2.out, by omega, HAN.out, Bc2⟩
      case measure => simp [intOf]; omega
    · have hn : Reg.bandsC l = bs := by rw [HF.out, bandsFrom_end _ _ _ _ hlt]
      have HN := Lib.hid hn
      clear hn
      have C4 := Lib.hid (fun W h => told_any u4 bs W h (by omega) (fun c hc => Nat.le_trans (HA.out c hc) (by omega)))
      go_wp2_with fail
      refine (C4.out _ HI.out.read).mono ?_
      rintro e w2 ⟨A2, c2, rfl, k1, k2, k3, k4, hb⟩
      have K1 := Lib.hid k1
      have K2 := Lib.hid k2
      have K3 := Lib.hid k3
      have K4 := Lib.hid k4
      have HB2 := Lib.hid hb
      clear k1 k2 k3 k4 hb
      go_wp2_with fail
      go_ret
      have e : Reg.canonL l = Reg.told bs := by rw [Reg.canonL, HN.out]
      rw [e]
      exact ⟨A2, c2, rfl, K1.out, K2.out, K3.out, ⟨fun a ha => (by have := K4.out.1 a ha; omega), K4.out.2⟩, Hw.out.trans (HB2.out.mono (by omega))⟩

theorem good_of_rects {l : List R4} (h : rectsF l = 0) : Reg.Good l ∧ l.length ≤ 2000 := by
  unfold rectsF at h
  split at h
  · cases h
  · rename_i hl
    refine ⟨?_, by omega⟩
    clear hl
    induction l with
    | nil => intro r hr; cases hr
    | cons a l ih =>
      simp only [firstBad] at h
      split at h
      · rename_i h0
        intro r hr
        rcases List.mem_cons.1 hr with rfl | hr
        · unfold rectF at h0
          split at h0
          · split at h0
            · cases h0
            · omega
          · cases h0
        · exact ih h r hr
      · rename_i h0; exact absurd h h0

set_option maxRecDepth 100000 in
set_option maxHeartbeats 1000000 in
theorem rcheckRegion_any (A : Option Addr) (l : List R4) (c : Nat) (w : World) (hl : l.length ≤ c) (hc : c ≤ 140737488355328) (h : Rd w A l) :
    Calls Tryz.prog 29 #[.slice A l.length c] w fun e w' => e = .returned (.int .i64 (regF l)) ∧ Below w.heap.size w w' := by
  have H0 := Lib.hid h
  have C1 := Lib.hid (fun W h => rcheckRects_any A l c W (by omega) h)
  clear h
  by_cases h0 : rectsF l = 0
  · have hreg : regF l = if ordB l then (if decide (l = Reg.canonL l) then 0 else 3) else 8 := by
      rw [regF, if_pos h0]
      have := Reg.progC_iff (good_of_rects h0).1
      congr 2
      rw [eq_iff_iff, this]; simp
    have HG := Lib.hid hreg
    obtain ⟨_, h2000⟩ := good_of_rects h0
    have hcl := canonL_len l
    have hcl2 : (Reg.canonL l).length ≤ 140737488355328 := by
      have : 2 * l.length * l.length ≤ 2 * 2000 * 2000 := Nat.mul_le_mul (by omega) h2000
      omega
    clear hreg hcl
    rw [h0] at C1
    clear h0
    have C2 := Lib.hid (fun W h => rcanonical_any A l c W (by omega) h)
    have C3 := Lib.hid (fun A2 c2 W h1 h2 => sameRects_any A A2 l (Reg.canonL l) c c2 W (by omega) hcl2 h1 h2)
    generalize Reg.canonL l = cl at *
    generalize decide (l = cl) = eqv at *
    cases l with
    | nil =>
      go_enter Tryz.func29, Tryz.ntmps29
      go_wp2_with fail
      refine (C1.out _ H0.out).mono ?_
      rintro e w1 ⟨rfl, hb⟩
      have H1 := Lib.hid (H0.out.below hb)
      have B1 := up (B := w.heap.size) (w := w) (by (repeat' (first | (with_reducible exact Below.refl _ _) | (with_reducible assumption) | (with_reducible refine Below.alloc ?_ ?_ _) | (with_reducible refine Below.drew ?_) | (with_reducible refine below_drewN ?_ _) | (with_reducible refine Below.setCell ?_ ?_ _) | (with_reducible exact Nat.le_refl _) | omega | (simp only [World.size_alloc, World.size_setCell, World.size_drew]; omega) | (simp; omega) | (simp; done)))) hb (by (first | (with_reducible exact Nat.le_refl _) | (with_reducible assumption) | omega | (simp only [World.size_alloc, World.size_setCell, World.size_drew]; omega) | (simp; omega) | (simp; done)))
      have z1 := hb.size
      clear hb
      go_wp2_with fail
      refine wp_loop_rounds 1 ?_
      rw [rounds_succ]
      go_wp2_with fail
      refine (C2.out _ H1.out).mono ?_
      rintro e w2 ⟨A2, c2, rfl, k1, k2, k3, k4, hb⟩
      have K3 := Lib.hid k3
      have H2 := Lib.hid (H1.out.below hb)
      have B2 := up (B := w.heap.size) (w := w) (by (repeat' (first | (with_reducible exact Below.refl _ _) | (with_reducible assumption) | (with_reducible refine Below.alloc ?_ ?_ _) | (with_reducible refine Below.drew ?_) | (with_reducible refine below_drewN ?_ _) | (with_reducible refine Below.setCell ?_ ?_ _) | (with_reducible exact Nat.le_refl _) | omega | (simp only [World.size_alloc, World.size_setCell, World.size_drew]; omega) | (simp; omega) | (simp; done)))) hb (by (first | (with_reducible exact Nat.le_refl _) | (with_reducible assumption) | omega | (simp only [World.size_alloc, World.size_setCell, World.size_drew]; omega) | (simp; omega) | (simp; done)))
      have z2 := hb.size
      clear hb k1 k2 k3 k4
      go_wp2_with fail
      refine (C3.out _ _ _ H2.out K3.out).mono ?_
      rintro e w3 ⟨rfl, hb⟩
      have B3 := up (B := w.heap.size) (w := w) (by (repeat' (first | (with_reducible exact Below.refl _ _) | (with_reducible assumption) | (with_reducible refine Below.alloc ?_ ?_ _) | (with_reducible refine Below.drew ?_) | (with_reducible refine below_drewN ?_ _) | (with_reducible refine Below.setCell ?_ ?_ _) | (with_reducible exact Nat.le_refl _) | omega | (simp only [World.size_alloc, World.size_setCell, World.size_drew]; omega) | (simp; omega) | (simp; done)))) hb (by (first | (with_reducible exact Nat.le_refl _) | (with_reducible assumption) | omega | (simp only [World.size_alloc, World.size_setCell, World.size_drew]; omega) | (simp; omega) | (simp; done)))
      clear hb
      cases eqv
      · go_wp2_with fail
        go_ret
        exact ⟨by rw [HG.out]; rfl, B3⟩
      · go_wp2_with fail
        go_ret
        exact ⟨by rw [HG.out]; rfl, B3⟩
    | cons r t =>
      obtain ⟨b, off, rfl, hblt, hcs⟩ := H0.out (by simp)
      clear hcs
      go_enter Tryz.func29, Tryz.ntmps29
      go_wp2_with fail
      refine (C1.out _ H0.out).mono ?_
      rintro e w1 ⟨rfl, hb⟩
      have H1 := Lib.hid (H0.out.below hb)
      have B1 := up (B := w.heap.size) (w := w) (by (repeat' (first | (with_reducible exact Below.refl _ _) | (with_reducible assumption) | (with_reducible refine Below.alloc ?_ ?_ _) | (with_reducible refine Below.drew ?_) | (with_reducible refine below_drewN ?_ _) | (with_reducible refine Below.setCell ?_ ?_ _) | (with_reducible exact Nat.le_refl _) | omega | (simp only [World.size_alloc, World.size_setCell, World.size_drew]; omega) | (simp; omega) | (simp; done)))) hb (by (first | (with_reducible exact Nat.le_refl _) | (with_reducible assumption) | omega | (simp only [World.size_alloc, World.size_setCell, World.size_drew]; omega) | (simp; omega) | (simp; done)))
      have z1 := hb.size
      clear hb
      go_wp2_with fail
      go_loopw [4] (fun i wr => ∃ (k : Nat) (p : R4), k < t.length + 1 ∧ i = .int .i64 ((k : Int) + 1) ∧ (r :: t)[k]? = some p ∧ ordB (r :: t) = ordFrom p ((r :: t).drop (k + 1)) ∧ Below w.heap.size w wr) (fun i _ => t.length + 2 - (intOf i).toNat)
      case atStart => exact ⟨0, r, by omega, rfl, rfl, rfl, B1⟩
      case round =>
        obtain ⟨k, p, hk, rfl, hp, hf, hbw⟩ := hrel
        have zw := hbw.size
        have HF := Lib.hid hf
        clear hf
        have HR := Lib.hid (H0.out.below hbw)
        have hkz : (0 : Int) ≤ (k : Int) := by omega
        have hlc : t.length + 1 ≤ 140737488355328 := by simp at hl; omega
        by_cases hlt : k + 1 < t.length + 1
        · have hlt' : k + 1 < (r :: t).length := by simpa using hlt
          have hi : (r :: t)[k + 1]? = some (r :: t)[k + 1] := List.getElem?_eq_getElem hlt'
          have hd : (r :: t).drop (k + 1) = (r :: t)[k + 1] :: (r :: t).drop (k + 1 + 1) := List.drop_eq_getElem_cons hlt'
          have HD := Lib.hid hd
          have HI := Lib.hid hi
          obtain ⟨b', off', e, hb', hcs⟩ := HR.out (by simp)
          cases e
          obtain ⟨p0, p1, p2, p3⟩ := hcs k _ hp
          have hu := hcs (k + 1) _ hi
          generalize (r :: t)[k + 1] = u at *
          obtain ⟨u0, u1, u2, u3⟩ := hu
          clear hcs hi hd hp
          have hkz1 : (0 : Int) ≤ (k : Int) + 1 := by omega
          have hlz : (k : Int) + 1 < (t.length : Int) + 1 := by omega
          have hlz2 : (k : Int) < (t.length : Int) + 1 := by omega
          have hbr : b < wr.heap.size := by omega
          have hs1 : IntKind.i64.wrap (k : Int) = (k : Int) := IntWalk.i64_in _ (by omega)
          have hs2 : ((k : Int) + 1).toNat = k + 1 := by omega
          cases hle : lessYX p u
          · have hn : ordB (r :: t) = false := by rw [HF.out, HD.out]; simp [ordFrom, hle]
            have HN := Lib.hid hn
            have C4 := Lib.hid (show ∀ W, Calls Tryz.prog 50 #[.agg #[.int .i64 p.x0, .int .i64 p.y0, .int .i64 p.x1, .int .i64 p.y1], .agg #[.int .i64 u.x0, .int .i64 u.y0, .int .i64 u.x1, .int .i64 u.y1]] W fun e w' => e = .returned (.bool false) ∧ Below W.heap.size W w' from fun W => hle ▸ before_any p u W)
            clear hn hle
            go_wp2_with fail
            go_region_held3 (fun w' => w'.cell? ⟨b, off + k * 4, none⟩ = some (.int .i64 p.x0) ∧ w'.cell? ⟨b, off + k * 4 + 1, none⟩ = some (.int .i64 p.y0) ∧ w'.cell? ⟨b, off + k * 4 + 2, none⟩ = some (.int .i64 p.x1) ∧ w'.cell? ⟨b, off + k * 4 + 3, none⟩ = some (.int .i64 p.y1) ∧
                w'.cell? ⟨b, off + (k + 1) * 4, none⟩ = some (.int .i64 u.x0) ∧ w'.cell? ⟨b, off + (k + 1) * 4 + 1, none⟩ = some (.int .i64 u.y0) ∧ w'.cell? ⟨b, off + (k + 1) * 4 + 2, none⟩ = some (.int .i64 u.x1) ∧ w'.cell? ⟨b, off + (k + 1) * 4 + 3, none⟩ = some (.int .i64 u.y1)) (go_keep)
              (first | (go_at_call 50; refine (C4.out _).mono ?_; rintro e wc ⟨rfl, hb⟩; have qc := kc hb b (by (first | (with_reducible exact Nat.le_refl _) | (with_reducible assumption) | omega | (simp only [World.size_alloc, World.size_setCell, World.size_drew]; omega) | (simp; omega) | (simp; done))); have zc := hb.size; (try simp only [World.size_alloc, World.size_setCell, World.size_drew] at zc); have Bc := up (B := w.heap.size) (w := w) (by (repeat' (first | (with_reducible exact Below.refl _ _) | (with_reducible assumption) | (with_reducible refine Below.alloc ?_ ?_ _) | (with_reducible refine Below.drew ?_) | (with_reducible refine below_drewN ?_ _) | (with_reducible refine Below.setCell ?_ ?_ _) | (with_reducible exact Nat.le_refl _) | omega | (simp only [World.size_alloc, World.size_setCell, World.size_drew]; omega) | (simp; omega) | (simp; done)))) hb (by (first | (with_reducible exact Nat.le_refl _) | (with_reducible assumption) | omega | (simp only [World.size_alloc, World.size_setCell, World.size_drew]; omega) | (simp; omega) | (simp; done))); clear hb))
            go_wp2_with fail
            go_ret
            exact ⟨by rw [HG.out, HN.out]; rfl, Bc⟩
          · have hn : ordB (r :: t) = ordFrom u ((r :: t).drop (k + 1 + 1)) := by rw [HF.out, HD.out]; simp [ordFrom, hle]
            have HN := Lib.hid hn
            have C4 := Lib.hid (show ∀ W, Calls Tryz.prog 50 #[.agg #[.int .i64 p.x0, .int .i64 p.y0, .int .i64 p.x1, .int .i64 p.y1], .agg #[.int .i64 u.x0, .int .i64 u.y0, .int .i64 u.x1, .int .i64 u.y1]] W fun e w' => e = .returned (.bool true) ∧ Below W.heap.size W w' from fun W => hle ▸ before_any p u W)
            clear hn hle
            go_wp2_with fail
            go_region_held3 (fun w' => w'.cell? ⟨b, off + k * 4, none⟩ = some (.int .i64 p.x0) ∧ w'.cell? ⟨b, off + k * 4 + 1, none⟩ = some (.int .i64 p.y0) ∧ w'.cell? ⟨b, off + k * 4 + 2, none⟩ = some (.int .i64 p.x1) ∧ w'.cell? ⟨b, off + k * 4 + 3, none⟩ = some (.int .i64 p.y1) ∧
                w'.cell? ⟨b, off + (k + 1) * 4, none⟩ = some (.int .i64 u.x0) ∧ w'.cell? ⟨b, off + (k + 1) * 4 + 1, none⟩ = some (.int .i64 u.y0) ∧ w'.cell? ⟨b, off + (k + 1) * 4 + 2, none⟩ = some (.int .i64 u.x1) ∧ w'.cell? ⟨b, off + (k + 1) * 4 + 3, none⟩ = some (.int .i64 u.y1)) (go_keep)
              (first | (go_at_call 50; refine (C4.out _).mono ?_; rintro e wc ⟨rfl, hb⟩; have qc := kc hb b (by (first | (with_reducible exact Nat.le_refl _) | (with_reducible assumption) | omega | (simp only [World.size_alloc, World.size_setCell, World.size_drew]; omega) | (simp; omega) | (simp; done))); have zc := hb.size; (try simp only [World.size_alloc, World.size_setCell, World.size_drew] at zc); have Bc := up (B := w.heap.size) (w := w) (by (repeat' (first | (with_reducible exact Below.refl _ _) | (with_reducible assumption) | (with_reducible refine Below.alloc ?_ ?_ _) | (with_reducible refine Below.drew ?_) | (with_reducible refine below_drewN ?_ _) | (with_reducible refine Below.setCell ?_ ?_ _) | (with_reducible exact Nat.le_refl _) | omega | (simp only [World.size_alloc, World.size_setCell, World.size_drew]; omega) | (simp; omega) | (simp; done)))) hb (by (first | (with_reducible exact Nat.le_refl _) | (with_reducible assumption) | omega | (simp only [World.size_alloc, World.size_setCell, World.size_drew]; omega) | (simp; omega) | (simp; done))); clear hb))
            go_wp2_with fail
            go_roundw
            case rel => exact ⟨k + 1, u, by omega, by go_num, HI.out, HN.out, Bc⟩
            case measure => simp [intOf]; omega
        · obtain rfl : k = t.length := by omega
          have hn : ordB (r :: t) = true := by rw [HF.out]; simp [ordFrom]
          have HN := Lib.hid hn
          clear hn hp
          go_wp2_with fail
          refine (C2.out _ HR.out).mono ?_
          rintro e w2 ⟨A2, c2, rfl, k1, k2, k3, k4, hb⟩
          have K3 := Lib.hid k3
          have H2 := Lib.hid (HR.out.below hb)
          have B2 := up (B := w.heap.size) (w := w) (by (repeat' (first | (with_reducible exact Below.refl _ _) | (with_reducible assumption) | (with_reducible refine Below.alloc ?_ ?_ _) | (with_reducible refine Below.drew ?_) | (with_reducible refine below_drewN ?_ _) | (with_reducible refine Below.setCell ?_ ?_ _) | (with_reducible exact Nat.le_refl _) | omega | (simp only [World.size_alloc, World.size_setCell, World.size_drew]; omega) | (simp; omega) | (simp; done)))) hb (by (first | (with_reducible exact Nat.le_refl _) | (with_reducible assumption) | omega | (simp only [World.size_alloc, World.size_setCell, World.size_drew]; omega) | (simp; omega) | (simp; done)))
          have z2 := hb.size
          clear hb k1 k2 k3 k4
          go_wp2_with fail
          refine (C3.out _ _ _ H2.out K3.out).mono ?_
          rintro e w3 ⟨rfl, hb⟩
          have B3 := up (B := w.heap.size) (w := w) (by (repeat' (first | (with_reducible exact Below.refl _ _) | (with_reducible assumption) | (with_reducible refine Below.alloc ?_ ?_ _) | (with_reducible refine Below.drew ?_) | (with_reducible refine below_drewN ?_ _) | (with_reducible refine Below.setCell ?_ ?_ _) | (with_reducible exact Nat.le_refl _) | omega | (simp only [World.size_alloc, World.size_setCell, World.size_drew]; omega) | (simp; omega) | (simp; done)))) hb (by (first | (with_reducible exact Nat.le_refl _) | (with_reducible assumption) | omega | (simp only [World.size_alloc, World.size_setCell, World.size_drew]; omega) | (simp; omega) | (simp; done)))
          clear hb
          cases eqv
          · go_wp2_with fail
            go_ret
            exact ⟨by rw [HG.out, HN.out]; rfl, B3⟩
          · go_wp2_with fail
            go_ret
            exact ⟨by rw [HG.out, HN.out]; rfl, B3⟩
  · have hreg : regF l = rectsF l := if_neg h0
    rw [hreg]
    have hd : (rectsF l == 0) = false := by simpa using h0
    clear hreg h0
    generalize rectsF l = d at *
    go_enter Tryz.func29, Tryz.ntmps29
    go_wp2_with fail
    refine (C1.out _ H0.out).mono ?_
    rintro e w1 ⟨rfl, hb⟩
    have B1 := up (B := w.heap.size) (w := w) (by (repeat' (first | (with_reducible exact Below.refl _ _) | (with_reducible assumption) | (with_reducible refine Below.alloc ?_ ?_ _) | (with_reducible refine Below.drew ?_) | (with_reducible refine below_drewN ?_ _) | (with_reducible refine Below.setCell ?_ ?_ _) | (with_reducible exact Nat.le_refl _) | omega | (simp only [World.size_alloc, World.size_setCell, World.size_drew]; omega) | (simp; omega) | (simp; done)))) hb (by (first | (with_reducible exact Nat.le_refl _) | (with_reducible assumption) | omega | (simp only [World.size_alloc, World.size_setCell, World.size_drew]; omega) | (simp; omega) | (simp; done)))
    clear hb
    go_wp2_with fail
    go_ret
    exact ⟨rfl, B1⟩
end Go.Proofs.YtmcbjaefnhfopaaGreat

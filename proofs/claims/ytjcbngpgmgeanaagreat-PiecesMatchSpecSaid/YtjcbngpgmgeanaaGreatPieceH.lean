/- Several texts in one: HolS, Hol. -/
import Derived.Test.YtjcbngpgmgeanaaGreatPieceC
/- Plain mathematics of holes, for the reference's way: the piece around a region, and no other one, is as large as its frame. -/
namespace Go.Proofs.YtjcbngpgmgeanaaGreat
open Go.RowKit
open Reg (R4 inR canonL)
set_option linter.unusedSimpArgs false
set_option linter.unusedVariables false

theorem run_x {l : List R4} (y : Int) (n : Nat) : ∀ x : Int, (∀ t : Int, x ≤ t → t ≤ x + n → inR l t y) → SqWay l x y (x + n) y := by
  induction n with
  | zero => intro x h; rw [show x + ((0 : Nat) : Int) = x from by omega]; exact .stay (h x (by omega) (by omega))
  | succ n ih =>
    intro x h
    have k := ih (x + 1) (fun t h1 h2 => h t (by omega) (by omega))
    rw [show x + 1 + (n : Int) = x + ((n + 1 : Nat) : Int) from by omega] at k
    exact .go (h x (by omega) (by omega)) (.inl (.inl ⟨rfl, rfl⟩)) k
theorem run_y {l : List R4} (x : Int) (n : Nat) : ∀ y : Int, (∀ t : Int, y ≤ t → t ≤ y + n → inR l x t) → SqWay l x y x (y + n) := by
  induction n with
  | zero => intro y h; rw [show y + ((0 : Nat) : Int) = y from by omega]; exact .stay (h y (by omega) (by omega))
  | succ n ih =>
    intro y h
    have k := ih (y + 1) (fun t h1 h2 => h t (by omega) (by omega))
    rw [show y + 1 + (n : Int) = y + ((n + 1 : Nat) : Int) from by omega] at k
    exact .go (h y (by omega) (by omega)) (.inl (.inr ⟨rfl, rfl⟩)) k
theorem to_x {l : List R4} {y x x' : Int} (hx : x ≤ x') (h : ∀ t : Int, x ≤ t → t ≤ x' → inR l t y) : SqWay l x y x' y := by
  have k := run_x (l := l) y (x' - x).toNat x (fun t h1 h2 => h t h1 (by omega))
  rw [show x + ((x' - x).toNat : Int) = x' from by omega] at k
  exact k
theorem to_y {l : List R4} {x y y' : Int} (hy : y ≤ y') (h : ∀ t : Int, y ≤ t → t ≤ y' → inR l x t) : SqWay l x y x y' := by
  have k := run_y (l := l) x (y' - y).toNat y (fun t h1 h2 => h t h1 (by omega))
  rw [show y + ((y' - y).toNat : Int) = y' from by omega] at k
  exact k
theorem ring_way {l : List R4} (h : regF l = 0) (hpos : 0 < l.length) {x y : Int} (hx : (aroundR l).x0 - 1 ≤ x ∧ x < (aroundR l).x1 + 1 ∧ (aroundR l).y0 - 1 ≤ y ∧ y < (aroundR l).y1 + 1) (hn : ¬ inBox (aroundR l) x y) :
    SqWay (outL l) ((aroundR l).x0 - 1) ((aroundR l).y0 - 1) x y := by
  have ring : ∀ u v : Int, ((aroundR l).x0 - 1 ≤ u ∧ u < (aroundR l).x1 + 1 ∧ (aroundR l).y0 - 1 ≤ v ∧ v < (aroundR l).y1 + 1) → ¬ inBox (aroundR l) u v → inR (outL l) u v := fun u v h1 h2 => (out_inR h hpos u v).2 ⟨h1, fun k => h2 (around_sq k)⟩
  simp only [inBox] at ring hn
  generalize aroundR l = f at *
  by_cases c1 : y = f.y0 - 1
  · subst c1
    exact to_x (by omega) fun t h1 h2 => ring _ _ (by omega) (by omega)
  · by_cases c2 : x = f.x0 - 1
    · subst c2
      exact to_y (by omega) fun t h1 h2 => ring _ _ (by omega) (by omega)
    · by_cases c3 : y = f.y1
      · subst c3
        have k1 : SqWay (outL l) (f.x0 - 1) (f.y0 - 1) (f.x0 - 1) f.y1 := to_y (by omega) fun t h1 h2 => ring _ _ (by omega) (by omega)
        have k2 : SqWay (outL l) (f.x0 - 1) f.y1 x f.y1 := to_x (by omega) fun t h1 h2 => ring _ _ (by omega) (by omega)
        exact k1.trans k2
      · have c4 : x = f.x1 := by omega
        subst c4
        have k1 : SqWay (outL l) (f.x0 - 1) (f.y0 - 1) f.x1 (f.y0 - 1) := to_x (by omega) fun t h1 h2 => ring _ _ (by omega) (by omega)
        have k2 : SqWay (outL l) f.x1 (f.y0 - 1) f.x1 y := to_y (by omega) fun t h1 h2 => ring _ _ (by omega) (by omega)
        exact k1.trans k2
theorem frame_iff {l P : List R4} (h : regF l = 0) (hpos : 0 < l.length) (hP : P ∈ pcsL (outL l)) : hlB l P = !decide (aroundR P = frameR l) := by
  have cO := cn_out h hpos
  have gP := pc_good cO hP
  have pP := pc_pos cO hP
  have hbox : (aroundR l).x0 < (aroundR l).x1 ∧ (aroundR l).y0 < (aroundR l).y1 := by
    obtain ⟨r, hr⟩ := List.exists_mem_of_length_pos hpos
    have := around_sq (good_sq (cR_good h) hr)
    omega
  rw [Bool.eq_iff_iff, hlB_iff gP pP]
  simp only [Bool.not_eq_true', decide_eq_false_iff_not]
  constructor
  · intro k e
    have c := (cov_iff gP pP (aroundR l)).2 k
    rw [e] at c
    simp only [Cov, frameR, wideA] at c
    omega
  · intro k
    refine Classical.byContradiction fun hn => k ?_
    have ex : ∃ x y, inR P x y ∧ ¬ inBox (aroundR l) x y := Classical.byContradiction fun q => hn fun x y hx => Classical.byContradiction fun hb => q ⟨x, y, hx, hb⟩
    obtain ⟨x, y, hx, hb⟩ := ex
    have o := ((out_inR h hpos x y).1 (pc_sub cO hP hx)).1
    have w := ring_way h hpos o hb
    have hc := (pc_way cO hP hx w.back).last
    have far : ¬ inBox (aroundR l) (aroundR l).x1 (aroundR l).y1 := by simp only [inBox]; omega
    have w2 := ring_way h hpos (x := (aroundR l).x1) (y := (aroundR l).y1) (by omega) far
    have hd := (pc_way cO hP hc w2).last
    have c1 := around_sq hc
    have c2 := around_sq hd
    have c3 : Cov (frameR l) (aroundR P) := (cov_iff gP pP _).2 fun u v hu => by
      have := ((out_inR h hpos u v).1 (pc_sub cO hP hu)).1
      simp only [inBox, frameR, wideA]
      omega
    generalize aroundR P = a at *
    obtain ⟨a0, a1, a2, a3⟩ := a
    simp only [Cov, frameR, wideA] at *
    simp only [R4.mk.injEq]
    omega
end Go.Proofs.YtjcbngpgmgeanaaGreat
/- Holes of package shape, whatever the world. -/
namespace Go.Proofs.YtjcbngpgmgeanaaGreat
open Go.RowKit Go.ChangeShapes
open Reg (R4 canonL)
set_option linter.unusedSimpArgs false
set_option linter.unusedVariables false
set_option maxRecDepth 100000

def hoL (l : List R4) : List (List R4) := if regF l = 0 then hlsE l else []
/-- The places of those that are chosen, up to k. -/
def selI (p : List R4 → Bool) (L : List (List R4)) (k : Nat) : List Nat := (List.range k).filter fun i => p (L.getD i [])
theorem selI_yes {p : List R4 → Bool} {L : List (List R4)} {k : Nat} {P : List R4} (h : L[k]? = some P) (hp : p P = true) : selI p L (k + 1) = selI p L k ++ [k] := by
  unfold selI
  rw [List.range_succ, List.filter_append]
  simp [List.getD_eq_getElem?_getD, h, hp]
theorem selI_no {p : List R4 → Bool} {L : List (List R4)} {k : Nat} {P : List R4} (h : L[k]? = some P) (hp : p P = false) : selI p L (k + 1) = selI p L k := by
  unfold selI
  rw [List.range_succ, List.filter_append]
  simp [List.getD_eq_getElem?_getD, h, hp]
theorem selI_len (p : List R4 → Bool) (L : List (List R4)) (k : Nat) : (selI p L k).length ≤ k := by
  unfold selI
  exact Nat.le_trans (List.length_filter_le _ _) (by simp)
theorem lists_by_place (L : List (List R4)) : (List.range L.length).map (fun j => L.getD j []) = L := by
  apply List.ext_getElem?
  intro i
  by_cases h : i < L.length
  · simp [h, List.getD]
  · simp [h]
theorem filter_sel (p : List R4 → Bool) (L : List (List R4)) : L.filter p = (selI p L L.length).map fun i => L.getD i [] := by
  conv => lhs; rw [← lists_by_place L, List.filter_map]
  rfl
def hdrV (L : List (List R4)) (hd : Nat → Option Addr × Nat) (i : Nat) : Value := .slice (hd i).1 (L.getD i []).length (hd i).2
theorem sel_rd {w : World} {base : Nat} {ov : Value} {L : List (List R4)} {hd : Nat → Option Addr × Nat} {p : List R4 → Bool} (ho : w.ownsRow base 22 1 ov (selI p L L.length).length ((selI p L L.length).map (hdrV L hd)))
    (hR : ∀ (i : Nat) (l : List R4), L[i]? = some l → Rd w (hd i).1 l ∧ l.length ≤ (hd i).2 ∧ (hd i).2 ≤ maxLen) : ∃ A c hd', ov = .slice A (L.filter p).length c ∧ (L.filter p).length ≤ c ∧ c ≤ maxLen ∧ RdO w A (L.filter p) hd' := by
  obtain ⟨A, c, rfl, h1, h2, h3⟩ := own_cells ho
  have hlen : (L.filter p).length = (selI p L L.length).length := by rw [filter_sel, List.length_map]
  have at_ : ∀ (i : Nat) (l : List R4), (L.filter p)[i]? = some l → ∃ j : Nat, (selI p L L.length)[i]? = some j ∧ L[j]? = some l := by
    intro i l hi
    rw [filter_sel, List.getElem?_map] at hi
    obtain ⟨j, hj, e⟩ := Option.map_eq_some_iff.1 hi
    refine ⟨j, hj, ?_⟩
    have hm := List.mem_of_getElem? hj
    unfold selI at hm
    have hlt := List.mem_range.1 (List.mem_filter.1 hm).1
    rw [List.getD_eq_getElem?_getD, List.getElem?_eq_getElem hlt] at e
    rw [List.getElem?_eq_getElem hlt, ← e]
    rfl
  refine ⟨A, c, fun i => hd ((selI p L L.length).getD i 0), by rw [hlen], by omega, h2, fun hp => ?_, fun i l hi => ?_⟩
  · obtain ⟨g, e, _, hlt, hc⟩ := h3 (by omega)
    refine ⟨g, 0, e, hlt, fun i l hi => ?_⟩
    obtain ⟨j, hj, hl⟩ := at_ i l hi
    rw [Nat.zero_add]
    have := hc i (hdrV L hd j) (by rw [List.getElem?_map, hj]; rfl)
    rw [this]
    simp [hdrV, List.getD_eq_getElem?_getD, hl, hj]
  · obtain ⟨j, hj, hl⟩ := at_ i l hi
    have e : (selI p L L.length).getD i 0 = j := by rw [List.getD_eq_getElem?_getD, hj]; rfl
    show Rd w (hd ((selI p L L.length).getD i 0)).1 l ∧ l.length ≤ (hd ((selI p L L.length).getD i 0)).2 ∧ (hd ((selI p L L.length).getD i 0)).2 ≤ maxLen
    rw [e]
    exact hR j l hl
theorem out_ry {l : List R4} (h : regF l = 0) (hpos : 0 < l.length) : ∀ r, r ∈ outL l → Ry r := fun r hr => by
  have g := (cn_out h hpos).1
  have k1 := (out_inR h hpos _ _).1 (good_sq g hr)
  have k2 := (out_inR h hpos (r.x1 - 1) (r.y1 - 1)).1 ⟨r, hr, by have := g r hr; simp only [R4.has]; omega⟩
  obtain ⟨ain, -, -⟩ := frame_ok h hpos
  simp only [InB] at ain
  unfold Ry
  omega
theorem pc_len {l P : List R4} (hb : Banded l) (hP : P ∈ pcsL l) : P.length ≤ l.length := by
  obtain ⟨i, hi, hf, rfl⟩ := mem_pcs.1 hP
  exact Nat.le_trans (canon_count fun r hr s hs => hb r (own_sub r hr) s (own_sub s hs)) (own_list l i).length_le
theorem pcs_few (l : List R4) : (pcsL l).length ≤ l.length := by
  unfold pcsL
  rw [List.length_map]
  exact Nat.le_trans (List.length_filter_le _ _) (by simp)

set_option maxHeartbeats 8000000 in
theorem holes_any (A : Option Addr) (l : List R4) (c : Nat) (w : World) (hl : l.length ≤ c) (hc : c ≤ maxLen) (hl2 : l.length ≤ 140737488355328) (h : Rd w A l) :
    Calls Tryz.prog 8 #[.slice A l.length c] w (GotPs w (hoL l) (regF l)) := by
  obtain ⟨i0, hi0, hz0, hz1, hz2⟩ := info_parts infoSl
  have H0 := Lib.hid h
  have C1 := Lib.hid (checkRegion_anyM A l c w hl (by simpa [maxLen] using hc) hl2 h)
  unfold GotPs hoL hlsE
  clear h
  by_cases h0 : regF l = 0
  · rw [if_pos h0]
    by_cases hnil : l = []
    · subst hnil
      rw [if_pos rfl]
      rw [h0] at C1 ⊢
      clear h0
      simp only [List.length_nil] at C1 ⊢
      go_enter Tryz.func8, Tryz.ntmps8
      go_wp2_with fail
      refine C1.out.mono ?_
      rintro e w1 ⟨rfl, hb⟩
      have B1 := Lib.hid hb
      clear hb
      go_wp2_with fail
      go_ret2
      exact ⟨none, 0, _, rfl, by simp, by simp [maxLen], rdO_nil _ _, B1.out⟩
    · rw [if_neg hnil]
      have hpos : 0 < l.length := by cases l with | nil => exact absurd rfl hnil | cons a t => simp
      obtain ⟨hg, h2000⟩ := good_of_rects (regF_rects h0)
      have cO := cn_out h0 hpos
      have hcount := out_count h0 hpos
      have C2 := Lib.hid (fun W h => around_any A l c W hpos hl2 h)
      have C3 := Lib.hid (fun W h => outside_any A l c W h0 hpos h)
      have C4 := Lib.hid (fun A' c' W h => parts_any A' (outL l) c' W (by omega) (out_ry h0 hpos) cO.1 h)
      have hfew := pcs_few (outL l)
      have hP := Lib.hid (fun P (hP : P ∈ pcsL (outL l)) => And.intro (pc_pos cO hP) (pc_len (out_banded h0 hpos).1 hP))
      rw [show hlsL l = (pcsL (outL l)).filter (hlB l) from rfl]
      have HB := Lib.hid (fun P => show hlB l P = decide (aroundR P = commonR (aroundR P) (aroundR l)) from rfl)
      rw [h0] at C1 ⊢
      unfold GotOwn at C3
      have hll : (outL l).length ≤ 20000 := by omega
      have hne : ((l.length : Int) == 0) = false := by rw [beq_eq_false_iff_ne]; omega
      clear h0 hnil hg cO hcount
      generalize hlB l = p at *
      generalize pcsL (outL l) = L at *
      generalize outL l = O at *
      generalize aroundR l = ar at *
      simp only [rv] at C2
      go_enter Tryz.func8, Tryz.ntmps8
      go_wp2_with fail
      refine C1.out.mono ?_
      rintro e w1 ⟨rfl, hb⟩
      have B1 := Lib.hid hb
      clear hb
      go_wp2_with fail
      refine (C2.out w1 (H0.out.below B1.out)).mono ?_
      rintro e w2 ⟨rfl, hb⟩
      have B2 := Lib.hid (B1.out.trans (hb.mono B1.out.size))
      have z2 := B2.out.size
      clear hb
      go_wp2_with fail
      refine (C3.out _ (H0.out.below (B2.out.alloc z2 _))).mono ?_
      rintro e w3 ⟨v, rfl, ho, hb⟩
      obtain ⟨A3, c3, rfl, -, -, hr3, -⟩ := rd_own ho
      have R3 := Lib.hid hr3
      have B3 := Lib.hid (up (B := w.heap.size) (w := w) (B2.out.alloc z2 _) hb (by simp; omega))
      have z3 := hb.size
      have q0 : w3.cell? ⟨w2.heap.size, 0, none⟩ = some (.int .i64 ar.x0) := ((bcell hb).1 _ _ (by simp)).trans (by simp [go_sem])
      have q1 : w3.cell? ⟨w2.heap.size, 1, none⟩ = some (.int .i64 ar.y0) := ((bcell hb).1 _ _ (by simp)).trans (by simp [go_sem])
      have q2 : w3.cell? ⟨w2.heap.size, 2, none⟩ = some (.int .i64 ar.x1) := ((bcell hb).1 _ _ (by simp)).trans (by simp [go_sem])
      have q3 : w3.cell? ⟨w2.heap.size, 3, none⟩ = some (.int .i64 ar.y1) := ((bcell hb).1 _ _ (by simp)).trans (by simp [go_sem])
      simp at z3
      clear ho hb hr3
      go_wp2_with fail
      refine (C4.out A3 c3 w3 R3.out).mono ?_
      rintro e w5 ⟨v5, rows, rfl, hPt, hb⟩
      obtain ⟨A5, c5, hd, rfl, k1, k2, hR⟩ := pt_rd hPt
      have R5 := Lib.hid hR
      have B5 := Lib.hid (B3.out.trans (hb.mono B3.out.size))
      have z5 := hb.size
      have z5' := B5.out.size
      have p0 := ((bcell hb).1 w2.heap.size 0 (by omega)).trans q0
      have p1 := ((bcell hb).1 w2.heap.size 1 (by omega)).trans q1
      have p2 := ((bcell hb).1 w2.heap.size 2 (by omega)).trans q2
      have p3 := ((bcell hb).1 w2.heap.size 3 (by omega)).trans q3
      have hlt2 : w2.heap.size < w5.heap.size := by omega
      clear hPt hb hR q0 q1 q2 q3
      go_wp2_with fail
      go_loopw [6, 25] (fun ov i wr => ∃ (k : Nat), k ≤ L.length ∧ i = .int .i64 k ∧ wr.ownsRow w5.heap.size 22 1 ov (selI p L k).length ((selI p L k).map (hdrV L hd)) ∧ Below w5.heap.size w5 wr) (fun _ i _ => L.length - (intOf i).toNat)
      case atStart => exact ⟨0, Nat.zero_le _, rfl, own_nilR _ _ _ _, Below.refl _ _⟩
      case round =>
        obtain ⟨k, hk, rfl, ho, hbw⟩ := hrel
        have zw := hbw.size
        have hkz : (0 : Int) ≤ (k : Int) := by omega
        by_cases hlt : k < L.length
        · have hklt : (k : Int) < (L.length : Int) := by omega
          obtain ⟨Ao, co, hov, q1, q2, -⟩ := own_cells ho
          subst hov
          have q2' : co ≤ 9223372036854775807 := q2
          have hsl := selI_len p L k
          have HO := Lib.hid ho
          clear ho q2
          have hM := R5.out.below hbw
          obtain ⟨b, off, e, hb, hcc⟩ := hM.1 (by omega)
          subst e
          have hi := List.getElem?_eq_getElem hlt
          have c0 := hcc k _ hi
          obtain ⟨hrd, lx, lc⟩ := hM.2 k _ hi
          have HRD := Lib.hid hrd
          obtain ⟨s1, s2⟩ := hP.out _ (List.getElem_mem hlt)
          have HBk := Lib.hid (HB.out L[k])
          have SY := Lib.hid (fun h => selI_yes (p := p) hi h)
          have SN := Lib.hid (fun h => selI_no (p := p) hi h)
          have HD : hdrV L hd k = .slice (hd k).1 L[k].length (hd k).2 := by unfold hdrV; rw [List.getD_eq_getElem?_getD, hi]; rfl
          have HDk := Lib.hid HD
          clear hcc hi hM hrd HD
          generalize L[k] = P at *
          have CA := Lib.hid (fun W h => around_any (hd k).1 P (hd k).2 W s1 (by omega) h)
          have CC := Lib.hid (fun W => common_any (aroundR P) ar W)
          simp only [rv] at CA CC
          generalize hcm : commonR (aroundR P) ar = cm at *
          generalize hap : aroundR P = ap at *
          have r0 := ((bcell hbw).1 w2.heap.size 0 hlt2).trans p0
          have r1 := ((bcell hbw).1 w2.heap.size 1 hlt2).trans p1
          have r2 := ((bcell hbw).1 w2.heap.size 2 hlt2).trans p2
          have r3 := ((bcell hbw).1 w2.heap.size 3 hlt2).trans p3
          clear p0 p1 p2 p3 hcm hap
          obtain ⟨w8, rfl⟩ : ∃ w8, w8 = wr := ⟨wr, rfl⟩
          have RM := Lib.hid (fun W (hq : Below w8.heap.size w8 W) => HRD.out.below hq)
          have hlt8 : w2.heap.size < w8.heap.size := by omega
          go_wp2_with fail
          go_cut [35] (fun s35 wx => s35 = .bool (p P) ∧ Below w8.heap.size w8 wx)
          case first =>
            by_cases hrs : ap = cm
            · have hp : p P = true := by rw [HBk.out]; simp [hrs]
              have HPp := Lib.hid hp
              subst hrs
              clear hp
              go_region_held3 (fun w' => w'.cell? ⟨w2.heap.size, 0, none⟩ = some (.int .i64 ar.x0) ∧ w'.cell? ⟨w2.heap.size, 1, none⟩ = some (.int .i64 ar.y0) ∧ w'.cell? ⟨w2.heap.size, 2, none⟩ = some (.int .i64 ar.x1) ∧ w'.cell? ⟨w2.heap.size, 3, none⟩ = some (.int .i64 ar.y1)) (first | go_keep | exact ⟨((bcell BX).1 _ _ hlt8).trans r0, ((bcell BX).1 _ _ hlt8).trans r1, ((bcell BX).1 _ _ hlt8).trans r2, ((bcell BX).1 _ _ hlt8).trans r3⟩)
                (first | (go_at_call 23; refine (CA.out _ (RM.out _ ?_)).mono ?_; (focus ((repeat' (first | (with_reducible exact Below.refl _ _) | (with_reducible assumption) | (with_reducible refine Below.alloc ?_ ?_ _) | (with_reducible refine Below.drew ?_) | (with_reducible refine below_drewN ?_ _) | (with_reducible refine Below.setCell ?_ ?_ _) | (with_reducible exact Nat.le_refl _) | omega | (simp only [World.size_alloc, World.size_setCell, World.size_drew]; omega) | (simp; omega) | (simp; done))); done)); rintro e w6 ⟨rfl, hbx⟩; have BX := up (B := w8.heap.size) (w := w8) (by (repeat' (first | (with_reducible exact Below.refl _ _) | (with_reducible assumption) | (with_reducible refine Below.alloc ?_ ?_ _) | (with_reducible refine Below.drew ?_) | (with_reducible refine below_drewN ?_ _) | (with_reducible refine Below.setCell ?_ ?_ _) | (with_reducible exact Nat.le_refl _) | omega | (simp only [World.size_alloc, World.size_setCell, World.size_drew]; omega) | (simp; omega) | (simp; done)))) hbx (by (first | (with_reducible exact Nat.le_refl _) | (with_reducible assumption) | omega | (simp only [World.size_alloc, World.size_setCell, World.size_drew]; omega) | (simp; omega) | (simp; done))); have zX := BX.size) | (go_at_call 25; refine (CC.out _).mono ?_; rintro e w6 ⟨rfl, hbx⟩; have BX := up (B := w8.heap.size) (w := w8) (by (repeat' (first | (with_reducible exact Below.refl _ _) | (with_reducible assumption) | (with_reducible refine Below.alloc ?_ ?_ _) | (with_reducible refine Below.drew ?_) | (with_reducible refine below_drewN ?_ _) | (with_reducible refine Below.setCell ?_ ?_ _) | (with_reducible exact Nat.le_refl _) | omega | (simp only [World.size_alloc, World.size_setCell, World.size_drew]; omega) | (simp; omega) | (simp; done)))) hbx (by (first | (with_reducible exact Nat.le_refl _) | (with_reducible assumption) | omega | (simp only [World.size_alloc, World.size_setCell, World.size_drew]; omega) | (simp; omega) | (simp; done))); have zX := BX.size))
              go_wp2_with fail
              go_meet
              exact ⟨by rw [HPp.out], by (repeat' (first | (with_reducible exact Below.refl _ _) | (with_reducible assumption) | (with_reducible refine Below.alloc ?_ ?_ _) | (with_reducible refine Below.drew ?_) | (with_reducible refine below_drewN ?_ _) | (with_reducible refine Below.setCell ?_ ?_ _) | (with_reducible exact Nat.le_refl _) | omega | (simp only [World.size_alloc, World.size_setCell, World.size_drew]; omega) | (simp; omega) | (simp; done)))⟩
            · have hp : p P = false := by rw [HBk.out]; simp [hrs]
              have HPp := Lib.hid hp
              clear hp
              have hrs' := Lib.hid hrs
              clear hrs
              cases t0 : (ap.x0 == cm.x0) <;> cases t1 : (ap.y0 == cm.y0) <;> cases t2 : (ap.x1 == cm.x1) <;> cases t3 : (ap.y1 == cm.y1)
              case true.true.true.true => exact absurd (r4_ext.2 ⟨by simpa using t0, by simpa using t1, by simpa using t2, by simpa using t3⟩) hrs'.out
              all_goals
                go_region_held3 (fun w' => w'.cell? ⟨w2.heap.size, 0, none⟩ = some (.int .i64 ar.x0) ∧ w'.cell? ⟨w2.heap.size, 1, none⟩ = some (.int .i64 ar.y0) ∧ w'.cell? ⟨w2.heap.size, 2, none⟩ = some (.int .i64 ar.x1) ∧ w'.cell? ⟨w2.heap.size, 3, none⟩ = some (.int .i64 ar.y1)) (first | go_keep | exact ⟨((bcell BX).1 _ _ hlt8).trans r0, ((bcell BX).1 _ _ hlt8).trans r1, ((bcell BX).1 _ _ hlt8).trans r2, ((bcell BX).1 _ _ hlt8).trans r3⟩)
                  (first | (go_at_call 23; refine (CA.out _ (RM.out _ ?_)).mono ?_; (focus ((repeat' (first | (with_reducible exact Below.refl _ _) | (with_reducible assumption) | (with_reducible refine Below.alloc ?_ ?_ _) | (with_reducible refine Below.drew ?_) | (with_reducible refine below_drewN ?_ _) | (with_reducible refine Below.setCell ?_ ?_ _) | (with_reducible exact Nat.le_refl _) | omega | (simp only [World.size_alloc, World.size_setCell, World.size_drew]; omega) | (simp; omega) | (simp; done))); done)); rintro e w6 ⟨rfl, hbx⟩; have BX := up (B := w8.heap.size) (w := w8) (by (repeat' (first | (with_reducible exact Below.refl _ _) | (with_reducible assumption) | (with_reducible refine Below.alloc ?_ ?_ _) | (with_reducible refine Below.drew ?_) | (with_reducible refine below_drewN ?_ _) | (with_reducible refine Below.setCell ?_ ?_ _) | (with_reducible exact Nat.le_refl _) | omega | (simp only [World.size_alloc, World.size_setCell, World.size_drew]; omega) | (simp; omega) | (simp; done)))) hbx (by (first | (with_reducible exact Nat.le_refl _) | (with_reducible assumption) | omega | (simp only [World.size_alloc, World.size_setCell, World.size_drew]; omega) | (simp; omega) | (simp; done))); have zX := BX.size) | (go_at_call 25; refine (CC.out _).mono ?_; rintro e w6 ⟨rfl, hbx⟩; have BX := up (B := w8.heap.size) (w := w8) (by (repeat' (first | (with_reducible exact Below.refl _ _) | (with_reducible assumption) | (with_reducible refine Below.alloc ?_ ?_ _) | (with_reducible refine Below.drew ?_) | (with_reducible refine below_drewN ?_ _) | (with_reducible refine Below.setCell ?_ ?_ _) | (with_reducible exact Nat.le_refl _) | omega | (simp only [World.size_alloc, World.size_setCell, World.size_drew]; omega) | (simp; omega) | (simp; done)))) hbx (by (first | (with_reducible exact Nat.le_refl _) | (with_reducible assumption) | omega | (simp only [World.size_alloc, World.size_setCell, World.size_drew]; omega) | (simp; omega) | (simp; done))); have zX := BX.size))
                go_wp2_with fail
                go_meet
                exact ⟨by rw [HPp.out], by (repeat' (first | (with_reducible exact Below.refl _ _) | (with_reducible assumption) | (with_reducible refine Below.alloc ?_ ?_ _) | (with_reducible refine Below.drew ?_) | (with_reducible refine below_drewN ?_ _) | (with_reducible refine Below.setCell ?_ ?_ _) | (with_reducible exact Nat.le_refl _) | omega | (simp only [World.size_alloc, World.size_setCell, World.size_drew]; omega) | (simp; omega) | (simp; done)))⟩
          case rest =>
            obtain ⟨rfl, hcut⟩ := hcut
            have BW := Lib.hid (hbw.trans (hcut.mono hbw.size))
            have zc := hcut.size
            have RC := Lib.hid (HRD.out.below hcut)
            have O3 := Lib.hid (ownsRow_below' HO.out hcut)
            clear hcut r0 r1 r2 r3 c0
            generalize hS : selI p L k = S at *
            clear hS
            cases hp : p P
            · have SN' := Lib.hid (SN.out hp)
              clear hp
              go_wp2_with fail
              go_roundw
              case rel => exact ⟨k + 1, by omega, by go_num, by rw [SN'.out]; exact O3.out, BW.out⟩
              case measure => simp [intOf]; omega
            · have SY' := Lib.hid (SY.out hp)
              clear hp
              go_wp2_with (first
                | (at_builtin; refine wpList_append_lies _ rfl (.tmp 36) (.tmp 38) 23 rfl w5.heap.size 22 i0 (.slice none 0 0) 1 24 Tryz.underlying23 hi0 hz0 hz1 hz2 rfl (by omega) (.slice Ao S.length co) S.length (S.map (hdrV L hd)) rfl (O3.out.alloc _) ⟨wc.heap.size, 0, none⟩ 1 1 [.slice (hd k).1 P.length (hd k).2] rfl rfl (cell_one_new _ _ _) (by simp [Value.oneCell']) (by omega) (by unfold maxLen; omega) (by omega) (by simp; omega) (wc.heap.size + 1) (by simp) ?_; intro gg cap w6 hown6 hgrow6 hat6 hlt6; have HO6 := Lib.hid hown6; have HG6 := Lib.hid hgrow6; clear hown6 hgrow6))
              go_roundw
              case rel =>
                refine ⟨k + 1, by omega, by go_num, ?_, ?_⟩
                · rw [SY'.out, List.length_append, List.map_append]
                  simpa [HDk.out] using HO6.out
                · exact (BW.out.alloc (by omega) _).grown HG6.out (by simp; omega) (fun j hj => (O3.out.lt j hj).1)
              case measure => simp [intOf]; omega
        · obtain rfl : k = L.length := by omega
          have hR := R5.out.below hbw
          obtain ⟨A6, c6, hd6, rfl, m1, m2, hR6⟩ := sel_rd ho hR.2
          have R6 := Lib.hid hR6
          have BW := Lib.hid (B5.out.trans (hbw.mono z5'))
          clear hR hR6 ho
          go_wp2_with fail
          go_ret2
          exact ⟨A6, c6, hd6, rfl, m1, m2, R6.out, BW.out⟩
  · rw [if_neg h0]
    have hd1 : (regF l != 0) = true := by simpa using h0
    clear h0
    generalize regF l = F at *
    go_enter Tryz.func8, Tryz.ntmps8
    go_wp2_with fail
    refine C1.out.mono ?_
    rintro e w1 ⟨rfl, hb⟩
    have B1 := Lib.hid hb
    clear hb
    go_wp2_with fail
    go_ret2
    exact ⟨none, 0, _, rfl, by simp, by simp [maxLen], rdO_nil _ _, B1.out⟩
end Go.Proofs.YtjcbngpgmgeanaaGreat

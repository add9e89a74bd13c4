/- Several texts in one: Hol, SetsAdd, HolR, Clone, AppR. -/
import Derived.Test.YtjcbngpgmgeanaaPieceC
import Derived.Test.YtjcbngpgmgeanaaArea
import Derived.Test.YtjcbngpgmgeanaaAwake
import Derived.Test.YtjcbngpgmgeanaaOpens
import Derived.Test.YtjcbngpgmgeanaaCanon
import Derived.BigRegion
/- Holes of package shape, whatever the world. -/
namespace Go.Proofs.Ytjcbngpgmgeanaa
open Go.RowKit Go.ChangeShapes
open Reg (R4 canonL)
set_option linter.unusedSimpArgs false
set_option linter.unusedVariables false
set_option maxRecDepth 100000

def hoL (l : List R4) : List (List R4) := if regF l = 0 then hlsE l else []
/-- The places of those that are chosen, up to k. -/
def selI (p : List R4 → Bool) (L : List (List R4)) (k : Nat) : List Nat := (List.range k).filter fun i => p (L.getD i [])
theorem selI_yes {p : List R4 → Bool} {L : List (List R4)} {k : Nat} {P : List R4} (h : L[k]? = some P) (hp : p P = true) : selI p L (k + 1) = selI p L k ++ [k] := by
  unfold selI
  rw [List.range_succ, List.filter_append]
  simp [List.getD_eq_getElem?_getD, h, hp]
theorem selI_no {p : List R4 → Bool} {L : List (List R4)} {k : Nat} {P : List R4} (h : L[k]? = some P) (hp : p P = false) : selI p L (k + 1) = selI p L k := by
  unfold selI
  rw [List.range_succ, List.filter_append]
  simp [List.getD_eq_getElem?_getD, h, hp]
theorem selI_len (p : List R4 → Bool) (L : List (List R4)) (k : Nat) : (selI p L k).length ≤ k := by
  unfold selI
  exact Nat.le_trans (List.length_filter_le _ _) (by simp)
theorem lists_by_place (L : List (List R4)) : (List.range L.length).map (fun j => L.getD j []) = L := by
  apply List.ext_getElem?
  intro i
  by_cases h : i < L.length
  · simp [h, List.getD]
  · simp [h]
theorem filter_sel (p : List R4 → Bool) (L : List (List R4)) : L.filter p = (selI p L L.length).map fun i => L.getD i [] := by
  conv => lhs; rw [← lists_by_place L, List.filter_map]
  rfl
def hdrV (L : List (List R4)) (hd : Nat → Option Addr × Nat) (i : Nat) : Value := .slice (hd i).1 (L.getD i []).length (hd i).2
theorem sel_rd {w : World} {base : Nat} {ov : Value} {L : List (List R4)} {hd : Nat → Option Addr × Nat} {p : List R4 → Bool} (ho : w.ownsRow base 22 1 ov (selI p L L.length).length ((selI p L L.length).map (hdrV L hd)))
    (hR : ∀ (i : Nat) (l : List R4), L[i]? = some l → Rd w (hd i).1 l ∧ l.length ≤ (hd i).2 ∧ (hd i).2 ≤ maxLen) : ∃ A c hd', ov = .slice A (L.filter p).length c ∧ (L.filter p).length ≤ c ∧ c ≤ maxLen ∧ RdO w A (L.filter p) hd' := by
  obtain ⟨A, c, rfl, h1, h2, h3⟩ := own_cells ho
  have hlen : (L.filter p).length = (selI p L L.length).length := by rw [filter_sel, List.length_map]
  have at_ : ∀ (i : Nat) (l : List R4), (L.filter p)[i]? = some l → ∃ j : Nat, (selI p L L.length)[i]? = some j ∧ L[j]? = some l := by
    intro i l hi
    rw [filter_sel, List.getElem?_map] at hi
    obtain ⟨j, hj, e⟩ := Option.map_eq_some_iff.1 hi
    refine ⟨j, hj, ?_⟩
    have hm := List.mem_of_getElem? hj
    unfold selI at hm
    have hlt := List.mem_range.1 (List.mem_filter.1 hm).1
    rw [List.getD_eq_getElem?_getD, List.getElem?_eq_getElem hlt] at e
    rw [List.getElem?_eq_getElem hlt, ← e]
    rfl
  refine ⟨A, c, fun i => hd ((selI p L L.length).getD i 0), by rw [hlen], by omega, h2, fun hp => ?_, fun i l hi => ?_⟩
  · obtain ⟨g, e, _, hlt, hc⟩ := h3 (by omega)
    refine ⟨g, 0, e, hlt, fun i l hi => ?_⟩
    obtain ⟨j, hj, hl⟩ := at_ i l hi
    rw [Nat.zero_add]
    have := hc i (hdrV L hd j) (by rw [List.getElem?_map, hj]; rfl)
    rw [this]
    simp [hdrV, List.getD_eq_getElem?_getD, hl, hj]
  · obtain ⟨j, hj, hl⟩ := at_ i l hi
    have e : (selI p L L.length).getD i 0 = j := by rw [List.getD_eq_getElem?_getD, hj]; rfl
    show Rd w (hd ((selI p L L.length).getD i 0)).1 l ∧ l.length ≤ (hd ((selI p L L.length).getD i 0)).2 ∧ (hd ((selI p L L.length).getD i 0)).2 ≤ maxLen
    rw [e]
    exact hR j l hl
theorem out_ry {l : List R4} (h : regF l = 0) (hpos : 0 < l.length) : ∀ r, r ∈ outL l → Ry r := fun r hr => by
  have g := (cn_out h hpos).1
  have k1 := (out_inR h hpos _ _).1 (good_sq g hr)
  have k2 := (out_inR h hpos (r.x1 - 1) (r.y1 - 1)).1 ⟨r, hr, by have := g r hr; simp only [R4.has]; omega⟩
  obtain ⟨ain, -, -⟩ := frame_ok h hpos
  simp only [InB] at ain
  unfold Ry
  omega
theorem pc_len {l P : List R4} (hb : Banded l) (hP : P ∈ pcsL l) : P.length ≤ l.length := by
  obtain ⟨i, hi, hf, rfl⟩ := mem_pcs.1 hP
  exact Nat.le_trans (canon_count fun r hr s hs => hb r (own_sub r hr) s (own_sub s hs)) (own_list l i).length_le
theorem pcs_few (l : List R4) : (pcsL l).length ≤ l.length := by
  unfold pcsL
  rw [List.length_map]
  exact Nat.le_trans (List.length_filter_le _ _) (by simp)

set_option maxHeartbeats 8000000 in
theorem holes_any (A : Option Addr) (l : List R4) (c : Nat) (w : World) (hl : l.length ≤ c) (hc : c ≤ maxLen) (hl2 : l.length ≤ 140737488355328) (h : Rd w A l) :
    Calls Try.prog 13 #[.slice A l.length c] w (GotPs w (hoL l) (regF l)) := by
  obtain ⟨i0, hi0, hz0, hz1, hz2⟩ := info_parts infoSl
  have H0 := Lib.hid h
  have C1 := Lib.hid (checkRegion_anyM A l c w hl (by simpa [maxLen] using hc) hl2 h)
  unfold GotPs hoL hlsE
  clear h
  by_cases h0 : regF l = 0
  · rw [if_pos h0]
    by_cases hnil : l = []
    · subst hnil
      rw [if_pos rfl]
      rw [h0] at C1 ⊢
      clear h0
      simp only [List.length_nil] at C1 ⊢
      go_enter Try.func13, Try.ntmps13
      go_wp2_with fail
      refine C1.out.mono ?_
      rintro e w1 ⟨rfl, hb⟩
      have B1 := Lib.hid hb
      clear hb
      go_wp2_with fail
      go_ret2
      exact ⟨none, 0, _, rfl, by simp, by simp [maxLen], rdO_nil _ _, B1.out⟩
    · rw [if_neg hnil]
      have hpos : 0 < l.length := by cases l with | nil => exact absurd rfl hnil | cons a t => simp
      obtain ⟨hg, h2000⟩ := good_of_rects (regF_rects h0)
      have cO := cn_out h0 hpos
      have hcount := out_count h0 hpos
      have C2 := Lib.hid (fun W h => around_any A l c W hpos hl2 h)
      have C3 := Lib.hid (fun W h => outside_any A l c W h0 hpos h)
      have C4 := Lib.hid (fun A' c' W h => parts_any A' (outL l) c' W (by omega) (out_ry h0 hpos) cO.1 h)
      have hfew := pcs_few (outL l)
      have hP := Lib.hid (fun P (hP : P ∈ pcsL (outL l)) => And.intro (pc_pos cO hP) (pc_len (out_banded h0 hpos).1 hP))
      rw [show hlsL l = (pcsL (outL l)).filter (hlB l) from rfl]
      have HB := Lib.hid (fun P => show hlB l P = decide (aroundR P = commonR (aroundR P) (aroundR l)) from rfl)
      rw [h0] at C1 ⊢
      unfold GotOwn at C3
      have hll : (outL l).length ≤ 20000 := by omega
      have hne : ((l.length : Int) == 0) = false := by rw [beq_eq_false_iff_ne]; omega
      clear h0 hnil hg cO hcount
      generalize hlB l = p at *
      generalize pcsL (outL l) = L at *
      generalize outL l = O at *
      generalize aroundR l = ar at *
      simp only [rv] at C2
      go_enter Try.func13, Try.ntmps13
      go_wp2_with fail
      refine C1.out.mono ?_
      rintro e w1 ⟨rfl, hb⟩
      have B1 := Lib.hid hb
      clear hb
      go_wp2_with fail
      refine (C2.out w1 (H0.out.below B1.out)).mono ?_
      rintro e w2 ⟨rfl, hb⟩
      have B2 := Lib.hid (B1.out.trans (hb.mono B1.out.size))
      have z2 := B2.out.size
      clear hb
      go_wp2_with fail
      refine (C3.out _ (H0.out.below (B2.out.alloc z2 _))).mono ?_
      rintro e w3 ⟨v, rfl, ho, hb⟩
      obtain ⟨A3, c3, rfl, -, -, hr3, -⟩ := rd_own ho
      have R3 := Lib.hid hr3
      have B3 := Lib.hid (up (B := w.heap.size) (w := w) (B2.out.alloc z2 _) hb (by simp; omega))
      have z3 := hb.size
      have q0 : w3.cell? ⟨w2.heap.size, 0, none⟩ = some (.int .i64 ar.x0) := ((bcell hb).1 _ _ (by simp)).trans (by simp [go_sem])
      have q1 : w3.cell? ⟨w2.heap.size, 1, none⟩ = some (.int .i64 ar.y0) := ((bcell hb).1 _ _ (by simp)).trans (by simp [go_sem])
      have q2 : w3.cell? ⟨w2.heap.size, 2, none⟩ = some (.int .i64 ar.x1) := ((bcell hb).1 _ _ (by simp)).trans (by simp [go_sem])
      have q3 : w3.cell? ⟨w2.heap.size, 3, none⟩ = some (.int .i64 ar.y1) := ((bcell hb).1 _ _ (by simp)).trans (by simp [go_sem])
      simp at z3
      clear ho hb hr3
      go_wp2_with fail
      refine (C4.out A3 c3 w3 R3.out).mono ?_
      rintro e w5 ⟨v5, rows, rfl, hPt, hb⟩
      obtain ⟨A5, c5, hd, rfl, k1, k2, hR⟩ := pt_rd hPt
      have R5 := Lib.hid hR
      have B5 := Lib.hid (B3.out.trans (hb.mono B3.out.size))
      have z5 := hb.size
      have z5' := B5.out.size
      have p0 := ((bcell hb).1 w2.heap.size 0 (by omega)).trans q0
      have p1 := ((bcell hb).1 w2.heap.size 1 (by omega)).trans q1
      have p2 := ((bcell hb).1 w2.heap.size 2 (by omega)).trans q2
      have p3 := ((bcell hb).1 w2.heap.size 3 (by omega)).trans q3
      have hlt2 : w2.heap.size < w5.heap.size := by omega
      clear hPt hb hR q0 q1 q2 q3
      go_wp2_with fail
      go_loopw [6, 25] (fun ov i wr => ∃ (k : Nat), k ≤ L.length ∧ i = .int .i64 k ∧ wr.ownsRow w5.heap.size 22 1 ov (selI p L k).length ((selI p L k).map (hdrV L hd)) ∧ Below w5.heap.size w5 wr) (fun _ i _ => L.length - (intOf i).toNat)
      case atStart => exact ⟨0, Nat.zero_le _, rfl, own_nilR _ _ _ _, Below.refl _ _⟩
      case round =>
        obtain ⟨k, hk, rfl, ho, hbw⟩ := hrel
        have zw := hbw.size
        have hkz : (0 : Int) ≤ (k : Int) := by omega
        by_cases hlt : k < L.length
        · have hklt : (k : Int) < (L.length : Int) := by omega
          obtain ⟨Ao, co, hov, q1, q2, -⟩ := own_cells ho
          subst hov
          have q2' : co ≤ 9223372036854775807 := q2
          have hsl := selI_len p L k
          have HO := Lib.hid ho
          clear ho q2
          have hM := R5.out.below hbw
          obtain ⟨b, off, e, hb, hcc⟩ := hM.1 (by omega)
          subst e
          have hi := List.getElem?_eq_getElem hlt
          have c0 := hcc k _ hi
          obtain ⟨hrd, lx, lc⟩ := hM.2 k _ hi
          have HRD := Lib.hid hrd
          obtain ⟨s1, s2⟩ := hP.out _ (List.getElem_mem hlt)
          have HBk := Lib.hid (HB.out L[k])
          have SY := Lib.hid (fun h => selI_yes (p := p) hi h)
          have SN := Lib.hid (fun h => selI_no (p := p) hi h)
          have HD : hdrV L hd k = .slice (hd k).1 L[k].length (hd k).2 := by unfold hdrV; rw [List.getD_eq_getElem?_getD, hi]; rfl
          have HDk := Lib.hid HD
          clear hcc hi hM hrd HD
          generalize L[k] = P at *
          have CA := Lib.hid (fun W h => around_any (hd k).1 P (hd k).2 W s1 (by omega) h)
          have CC := Lib.hid (fun W => common_any (aroundR P) ar W)
          simp only [rv] at CA CC
          generalize hcm : commonR (aroundR P) ar = cm at *
          generalize hap : aroundR P = ap at *
          have r0 := ((bcell hbw).1 w2.heap.size 0 hlt2).trans p0
          have r1 := ((bcell hbw).1 w2.heap.size 1 hlt2).trans p1
          have r2 := ((bcell hbw).1 w2.heap.size 2 hlt2).trans p2
          have r3 := ((bcell hbw).1 w2.heap.size 3 hlt2).trans p3
          clear p0 p1 p2 p3 hcm hap
          obtain ⟨w8, rfl⟩ : ∃ w8, w8 = wr := ⟨wr, rfl⟩
          have RM := Lib.hid (fun W (hq : Below w8.heap.size w8 W) => HRD.out.below hq)
          have hlt8 : w2.heap.size < w8.heap.size := by omega
          go_wp2_with fail
          go_cut [35] (fun s35 wx => s35 = .bool (p P) ∧ Below w8.heap.size w8 wx)
          case first =>
            by_cases hrs : ap = cm
            · have hp : p P = true := by rw [HBk.out]; simp [hrs]
              have HPp := Lib.hid hp
              subst hrs
              clear hp
              go_region_held3 (fun w' => w'.cell? ⟨w2.heap.size, 0, none⟩ = some (.int .i64 ar.x0) ∧ w'.cell? ⟨w2.heap.size, 1, none⟩ = some (.int .i64 ar.y0) ∧ w'.cell? ⟨w2.heap.size, 2, none⟩ = some (.int .i64 ar.x1) ∧ w'.cell? ⟨w2.heap.size, 3, none⟩ = some (.int .i64 ar.y1)) (first | go_keep | exact ⟨((bcell BX).1 _ _ hlt8).trans r0, ((bcell BX).1 _ _ hlt8).trans r1, ((bcell BX).1 _ _ hlt8).trans r2, ((bcell BX).1 _ _ hlt8).trans r3⟩)
                (first | (go_at_call 29; refine (CA.out _ (RM.out _ ?_)).mono ?_; (focus ((repeat' (first | (with_reducible exact Below.refl _ _) | (with_reducible assumption) | (with_reducible refine Below.alloc ?_ ?_ _) | (with_reducible refine Below.drew ?_) | (with_reducible refine below_drewN ?_ _) | (with_reducible refine Below.setCell ?_ ?_ _) | (with_reducible exact Nat.le_refl _) | omega | (simp only [World.size_alloc, World.size_setCell, World.size_drew]; omega) | (simp; omega) | (simp; done))); done)); rintro e w6 ⟨rfl, hbx⟩; have BX := up (B := w8.heap.size) (w := w8) (by (repeat' (first | (with_reducible exact Below.refl _ _) | (with_reducible assumption) | (with_reducible refine Below.alloc ?_ ?_ _) | (with_reducible refine Below.drew ?_) | (with_reducible refine below_drewN ?_ _) | (with_reducible refine Below.setCell ?_ ?_ _) | (with_reducible exact Nat.le_refl _) | omega | (simp only [World.size_alloc, World.size_setCell, World.size_drew]; omega) | (simp; omega) | (simp; done)))) hbx (by (first | (with_reducible exact Nat.le_refl _) | (with_reducible assumption) | omega | (simp only [World.size_alloc, World.size_setCell, World.size_drew]; omega) | (simp; omega) | (simp; done))); have zX := BX.size) | (go_at_call 31; refine (CC.out _).mono ?_; rintro e w6 ⟨rfl, hbx⟩; have BX := up (B := w8.heap.size) (w := w8) (by (repeat' (first | (with_reducible exact Below.refl _ _) | (with_reducible assumption) | (with_reducible refine Below.alloc ?_ ?_ _) | (with_reducible refine Below.drew ?_) | (with_reducible refine below_drewN ?_ _) | (with_reducible refine Below.setCell ?_ ?_ _) | (with_reducible exact Nat.le_refl _) | omega | (simp only [World.size_alloc, World.size_setCell, World.size_drew]; omega) | (simp; omega) | (simp; done)))) hbx (by (first | (with_reducible exact Nat.le_refl _) | (with_reducible assumption) | omega | (simp only [World.size_alloc, World.size_setCell, World.size_drew]; omega) | (simp; omega) | (simp; done))); have zX := BX.size))
              go_wp2_with fail
              go_meet
              exact ⟨by rw [HPp.out], by (repeat' (first | (with_reducible exact Below.refl _ _) | (with_reducible assumption) | (with_reducible refine Below.alloc ?_ ?_ _) | (with_reducible refine Below.drew ?_) | (with_reducible refine below_drewN ?_ _) | (with_reducible refine Below.setCell ?_ ?_ _) | (with_reducible exact Nat.le_refl _) | omega | (simp only [World.size_alloc, World.size_setCell, World.size_drew]; omega) | (simp; omega) | (simp; done)))⟩
            · have hp : p P = false := by rw [HBk.out]; simp [hrs]
              have HPp := Lib.hid hp
              clear hp
              have hrs' := Lib.hid hrs
              clear hrs
              cases t0 : (ap.x0 == cm.x0) <;> cases t1 : (ap.y0 == cm.y0) <;> cases t2 : (ap.x1 == cm.x1) <;> cases t3 : (ap.y1 == cm.y1)
              case true.true.true.true => exact absurd (r4_ext.2 ⟨by simpa using t0, by simpa using t1, by simpa using t2, by simpa using t3⟩) hrs'.out
              all_goals
                go_region_held3 (fun w' => w'.cell? ⟨w2.heap.size, 0, none⟩ = some (.int .i64 ar.x0) ∧ w'.cell? ⟨w2.heap.size, 1, none⟩ = some (.int .i64 ar.y0) ∧ w'.cell? ⟨w2.heap.size, 2, none⟩ = some (.int .i64 ar.x1) ∧ w'.cell? ⟨w2.heap.size, 3, none⟩ = some (.int .i64 ar.y1)) (first | go_keep | exact ⟨((bcell BX).1 _ _ hlt8).trans r0, ((bcell BX).1 _ _ hlt8).trans r1, ((bcell BX).1 _ _ hlt8).trans r2, ((bcell BX).1 _ _ hlt8).trans r3⟩)
                  (first | (go_at_call 29; refine (CA.out _ (RM.out _ ?_)).mono ?_; (focus ((repeat' (first | (with_reducible exact Below.refl _ _) | (with_reducible assumption) | (with_reducible refine Below.alloc ?_ ?_ _) | (with_reducible refine Below.drew ?_) | (with_reducible refine below_drewN ?_ _) | (with_reducible refine Below.setCell ?_ ?_ _) | (with_reducible exact Nat.le_refl _) | omega | (simp only [World.size_alloc, World.size_setCell, World.size_drew]; omega) | (simp; omega) | (simp; done))); done)); rintro e w6 ⟨rfl, hbx⟩; have BX := up (B := w8.heap.size) (w := w8) (by (repeat' (first | (with_reducible exact Below.refl _ _) | (with_reducible assumption) | (with_reducible refine Below.alloc ?_ ?_ _) | (with_reducible refine Below.drew ?_) | (with_reducible refine below_drewN ?_ _) | (with_reducible refine Below.setCell ?_ ?_ _) | (with_reducible exact Nat.le_refl _) | omega | (simp only [World.size_alloc, World.size_setCell, World.size_drew]; omega) | (simp; omega) | (simp; done)))) hbx (by (first | (with_reducible exact Nat.le_refl _) | (with_reducible assumption) | omega | (simp only [World.size_alloc, World.size_setCell, World.size_drew]; omega) | (simp; omega) | (simp; done))); have zX := BX.size) | (go_at_call 31; refine (CC.out _).mono ?_; rintro e w6 ⟨rfl, hbx⟩; have BX := up (B := w8.heap.size) (w := w8) (by (repeat' (first | (with_reducible exact Below.refl _ _) | (with_reducible assumption) | (with_reducible refine Below.alloc ?_ ?_ _) | (with_reducible refine Below.drew ?_) | (with_reducible refine below_drewN ?_ _) | (with_reducible refine Below.setCell ?_ ?_ _) | (with_reducible exact Nat.le_refl _) | omega | (simp only [World.size_alloc, World.size_setCell, World.size_drew]; omega) | (simp; omega) | (simp; done)))) hbx (by (first | (with_reducible exact Nat.le_refl _) | (with_reducible assumption) | omega | (simp only [World.size_alloc, World.size_setCell, World.size_drew]; omega) | (simp; omega) | (simp; done))); have zX := BX.size))
                go_wp2_with fail
                go_meet
                exact ⟨by rw [HPp.out], by (repeat' (first | (with_reducible exact Below.refl _ _) | (with_reducible assumption) | (with_reducible refine Below.alloc ?_ ?_ _) | (with_reducible refine Below.drew ?_) | (with_reducible refine below_drewN ?_ _) | (with_reducible refine Below.setCell ?_ ?_ _) | (with_reducible exact Nat.le_refl _) | omega | (simp only [World.size_alloc, World.size_setCell, World.size_drew]; omega) | (simp; omega) | (simp; done)))⟩
          case rest =>
            obtain ⟨rfl, hcut⟩ := hcut
            have BW := Lib.hid (hbw.trans (hcut.mono hbw.size))
            have zc := hcut.size
            have RC := Lib.hid (HRD.out.below hcut)
            have O3 := Lib.hid (ownsRow_below' HO.out hcut)
            clear hcut r0 r1 r2 r3 c0
            generalize hS : selI p L k = S at *
            clear hS
            cases hp : p P
            · have SN' := Lib.hid (SN.out hp)
              clear hp
              go_wp2_with fail
              go_roundw
              case rel => exact ⟨k + 1, by omega, by go_num, by rw [SN'.out]; exact O3.out, BW.out⟩
              case measure => simp [intOf]; omega
            · have SY' := Lib.hid (SY.out hp)
              clear hp
              go_wp2_with (first
                | (at_builtin; refine wpList_append_lies _ rfl (.tmp 36) (.tmp 38) 23 rfl w5.heap.size 22 i0 (.slice none 0 0) 1 24 Try.underlying23 hi0 hz0 hz1 hz2 rfl (by omega) (.slice Ao S.length co) S.length (S.map (hdrV L hd)) rfl (O3.out.alloc _) ⟨wc.heap.size, 0, none⟩ 1 1 [.slice (hd k).1 P.length (hd k).2] rfl rfl (cell_one_new _ _ _) (by simp [Value.oneCell']) (by omega) (by unfold maxLen; omega) (by omega) (by simp; omega) (wc.heap.size + 1) (by simp) ?_; intro gg cap w6 hown6 hgrow6 hat6 hlt6; have HO6 := Lib.hid hown6; have HG6 := Lib.hid hgrow6; clear hown6 hgrow6))
              go_roundw
              case rel =>
                refine ⟨k + 1, by omega, by go_num, ?_, ?_⟩
                · rw [SY'.out, List.length_append, List.map_append]
                  simpa [HDk.out] using HO6.out
                · exact (BW.out.alloc (by omega) _).grown HG6.out (by simp; omega) (fun j hj => (O3.out.lt j hj).1)
              case measure => simp [intOf]; omega
        · obtain rfl : k = L.length := by omega
          have hR := R5.out.below hbw
          obtain ⟨A6, c6, hd6, rfl, m1, m2, hR6⟩ := sel_rd ho hR.2
          have R6 := Lib.hid hR6
          have BW := Lib.hid (B5.out.trans (hbw.mono z5'))
          clear hR hR6 ho
          go_wp2_with fail
          go_ret2
          exact ⟨A6, c6, hd6, rfl, m1, m2, R6.out, BW.out⟩
  · rw [if_neg h0]
    have hd1 : (regF l != 0) = true := by simpa using h0
    clear h0
    generalize regF l = F at *
    go_enter Try.func13, Try.ntmps13
    go_wp2_with fail
    refine C1.out.mono ?_
    rintro e w1 ⟨rfl, hb⟩
    have B1 := Lib.hid hb
    clear hb
    go_wp2_with fail
    go_ret2
    exact ⟨none, 0, _, rfl, by simp, by simp [maxLen], rdO_nil _ _, B1.out⟩
end Go.Proofs.Ytjcbngpgmgeanaa
/- The law SetsAddUp: for every two slices of rectangles, what is in a alone, and what is in both, make a, and have its area together; the areas of the union and of what is in both are those of a and b. -/
namespace Go.Proofs.Ytjcbngpgmgeanaa
open Go.ChangeShapes Go.WideShapes Go.ChangeAt Go.RowKit
open Reg (R4 inR Kept)
set_option linter.unusedSimpArgs false
set_option linter.unusedVariables false

set_option maxRecDepth 100000 in
set_option maxHeartbeats 1000000 in
theorem larea_any (A : Option Addr) (l : List R4) (c : Nat) (w : World) (hr : regF l = 0) (hl : l.length ≤ c) (hc : c ≤ maxLen) (hl2 : l.length ≤ 140737488355328) (h : Rd w A l) :
    Calls Try.prog 11 #[.slice A l.length c] w fun e w' => e = .returned (.int .i64 (areaL l)) ∧ Below w.heap.size w w' := by
  have H0 := Lib.hid h
  have C1 := Lib.hid (area_anyM A l c w hl hc hl2 h)
  have ha : areaF l = areaL l := if_pos hr
  rw [hr, ha] at C1
  clear h hr ha
  generalize areaL l = a at *
  go_enter Try.func11, Try.ntmps11
  go_wp2_with fail
  refine C1.out.mono ?_
  rintro e w1 ⟨rfl, hb⟩
  have B1 := Lib.hid hb
  clear hb
  go_wp2_with fail
  go_ret
  exact ⟨rfl, B1.out⟩
theorem area_small {l : List R4} (h : regF l = 0) : 0 ≤ areaL l ∧ areaL l ≤ 8000000000000000 := by
  obtain ⟨h1, h2⟩ := rectsF_zero.1 (regF_zero.1 h).1
  obtain ⟨a1, a2⟩ := area_bound h2
  refine ⟨a1, ?_⟩
  have : (l.length : Int) * 4000000000000 ≤ 2000 * 4000000000000 := Int.mul_le_mul_of_nonneg_right (by omega) (by omega)
  omega

end Go.Proofs.Ytjcbngpgmgeanaa
/- Plain mathematics of holes, third part: how large what is filled can be. -/
namespace Go.Proofs.Ytjcbngpgmgeanaa
open Go.RowKit
open Reg (R4 inR canonL)
set_option linter.unusedSimpArgs false
set_option linter.unusedVariables false

theorem pcs_lenB {l : List R4} (hb : Banded l) : (pcsL l).flatten.length ≤ l.length := by
  have e1 := sum_own l (fun _ => 1)
  rw [sum_const] at e1
  have key : ∀ I : List Nat, ((I.map fun i => canonL (own_ l i)).flatten.length : Int) ≤ (I.map fun i => ((own_ l i).map fun _ => (1 : Int)).sum).sum := by
    intro I
    induction I with
    | nil => simp
    | cons i I ih =>
      have : (canonL (own_ l i)).length ≤ (own_ l i).length := canon_count fun r hr s hs => hb r (own_sub r hr) s (own_sub s hs)
      simp only [List.map_cons, List.flatten_cons, List.length_append, List.sum_cons, sum_const] at *
      omega
  have := key ((List.range l.length).filter fun i => decide (fst_ l i = i))
  rw [e1] at this
  unfold pcsL
  omega
theorem flat_filter (p : List R4 → Bool) : ∀ L : List (List R4), (L.filter p).flatten.length ≤ L.flatten.length
  | [] => by simp
  | P :: L => by
    have := flat_filter p L
    rw [List.filter_cons]
    split
    · simp only [List.flatten_cons, List.length_append]; omega
    · simp only [List.flatten_cons, List.length_append]; omega
theorem hls_few {l : List R4} (h : regF l = 0) : (hlsE l).flatten.length ≤ 12004 ∧ (hlsE l).length ≤ 12004 ∧ ∀ P, P ∈ hlsE l → regF P = 0 ∧ 0 < P.length ∧ stF andK P l = 0 ∧ stL andK P l = [] := by
  unfold hlsE
  by_cases hn : l = []
  · rw [if_pos hn]
    exact ⟨by simp, by simp, fun P hP => by cases hP⟩
  · rw [if_neg hn]
    have hpos : 0 < l.length := by cases l with | nil => exact absurd rfl hn | cons a t => simp
    have hl := (rectsF_zero.1 (regF_zero.1 h).1).1
    have hc := out_count h hpos
    have hb := pcs_lenB (out_banded h hpos).1
    have hf := flat_filter (hlB l) (pcsL (outL l))
    have hn2 : (pcsL (outL l)).length ≤ (outL l).length := by
      unfold pcsL
      rw [List.length_map]
      exact Nat.le_trans (List.length_filter_le _ _) (by simp)
    have hn3 : (hlsL l).length ≤ (pcsL (outL l)).length := List.length_filter_le _ _
    refine ⟨?_, by omega, fun P hP => ⟨hole_reg h hpos hP, pc_pos (cn_out h hpos) ((mem_hls h hpos).1 hP).1, hole_both h hpos hP⟩⟩
    unfold hlsL
    omega
def fillE (l : List R4) : List R4 := l ++ (hlsE l).flatten
/-- The sum of the areas so far stays small. -/
theorem hls_area {l : List R4} (h : regF l = 0) : 0 ≤ ((hlsE l).map areaL).sum ∧ ((hlsE l).map areaL).sum ≤ 48016000000000000 := by
  obtain ⟨h1, h2, h3⟩ := hls_few h
  rw [← area_flat]
  have hr : ∀ r, r ∈ (hlsE l).flatten → In6 r.x0 ∧ In6 r.y0 ∧ In6 r.x1 ∧ In6 r.y1 ∧ r.x0 < r.x1 ∧ r.y0 < r.y1 := fun r hr => by
    obtain ⟨P, hP, hr⟩ := List.mem_flatten.1 hr
    exact (rectsF_zero.1 (regF_zero.1 (h3 P hP).1).1).2 r hr
  obtain ⟨a1, a2⟩ := area_bound hr
  refine ⟨a1, ?_⟩
  have : ((hlsE l).flatten.length : Int) * 4000000000000 ≤ 12004 * 4000000000000 := Int.mul_le_mul_of_nonneg_right (by omega) (by omega)
  omega
theorem fillE_F {l : List R4} (h : regF l = 0) : rgF (fillE l) = 0 ∨ rgF (fillE l) = 2 := by
  unfold fillE hlsE
  by_cases hn : l = []
  · subst hn
    exact .inl rfl
  · rw [if_neg hn]
    exact fill_F h (by cases l with | nil => exact absurd rfl hn | cons a t => simp)
theorem fillE_ok {l : List R4} (h : regF l = 0) (hF : rgF (fillE l) = 0) : regF (rgL (fillE l)) = 0 ∧ hlsE (rgL (fillE l)) = [] ∧ areaL (rgL (fillE l)) = areaL l + ((hlsE l).map areaL).sum := by
  by_cases hn : l = []
  · subst hn
    exact ⟨by decide, by rfl, by rfl⟩
  · have e : hlsE l = hlsL l := if_neg hn
    have e2 : fillE l = fillL l := by unfold fillE fillL; rw [e]
    rw [e2] at hF ⊢
    rw [e]
    obtain ⟨k1, k2, k3, k4⟩ := fill_ok h (by cases l with | nil => exact absurd rfl hn | cons a t => simp) hF
    refine ⟨k1, ?_, k4⟩
    unfold hlsE
    split
    · rfl
    · exact k3
theorem rg_small (l : List R4) : (rgL l).length ≤ 2000 := by
  unfold rgL resL
  split
  · split
    · assumption
    · simp
  · simp
theorem take_sum (f : List R4 → Int) (L : List (List R4)) (k : Nat) (h : k < L.length) : ((L.take (k + 1)).map f).sum = ((L.take k).map f).sum + f L[k] := by
  rw [← List.take_append_getElem h, List.map_append, List.sum_append]
  simp
theorem take_flat (L : List (List R4)) (k : Nat) (h : k < L.length) : (L.take (k + 1)).flatten = (L.take k).flatten ++ L[k] := by
  rw [← List.take_append_getElem h, List.flatten_append]
  simp
theorem sum_take_le {f : List R4 → Int} : ∀ {L : List (List R4)}, (∀ P, P ∈ L → 0 ≤ f P) → ∀ k, 0 ≤ ((L.take k).map f).sum ∧ ((L.take k).map f).sum ≤ (L.map f).sum
  | [], _, k => by simp
  | P :: L, h, k => by
    have hp := h P (by simp)
    have hL : ∀ Q, Q ∈ L → 0 ≤ f Q := fun Q hQ => h Q (List.mem_cons_of_mem _ hQ)
    have h0 := sum_take_le hL L.length
    rw [List.take_length] at h0
    cases k with
    | zero => simp only [List.take_zero, List.map_nil, List.sum_nil, List.map_cons, List.sum_cons]; omega
    | succ k =>
      have := sum_take_le hL k
      simp only [List.take_succ_cons, List.map_cons, List.sum_cons]
      omega
theorem flat_take_le (L : List (List R4)) (k : Nat) : (L.take k).flatten.length ≤ L.flatten.length := by
  conv => rhs; rw [← List.take_append_drop k L, List.flatten_append, List.length_append]
  omega
end Go.Proofs.Ytjcbngpgmgeanaa
/- slices.Clone and slices.Reverse of rectangles, whatever the world. -/
namespace Go.Proofs.Ytjcbngpgmgeanaa
open Go.RowKit
open Reg (R4)
set_option linter.unusedSimpArgs false
set_option linter.unusedVariables false

theorem rd_cells {w : World} {A : Option Addr} {l : List R4} {ad : Addr} (h : Rd w A l) (hA : A = some ad) : ∀ j u, (cR l)[j]? = some u → w.cell? (ad.add j) = some u := by
  intro t u hu
  have ht : t < l.length * 4 := by rw [← cR_len]; exact (List.getElem?_eq_some_iff.1 hu).1
  obtain ⟨b, off, e, hlt, hc⟩ := h (by omega)
  rw [hA] at e
  cases e
  have e : (⟨b, off, none⟩ : Addr).add t = ⟨b, off + t, none⟩ := by unfold Addr.add; split <;> simp_all
  rw [e]
  have hq : t / 4 < l.length := by omega
  have hi : l[t / 4]? = some l[t / 4] := List.getElem?_eq_getElem hq
  obtain ⟨a0, a1, a2, a3⟩ := hc _ _ hi
  obtain ⟨c0, c1, c2, c3⟩ := cR_at hi
  have hm : t % 4 < 4 := Nat.mod_lt _ (by decide)
  have hd : t = t / 4 * 4 + t % 4 := by omega
  generalize t / 4 = q at *
  generalize t % 4 = m at *
  subst hd
  rw [← hu]
  match m, hm with
  | 0, _ => exact a0.trans c0.symm
  | 1, _ => exact a1.trans c1.symm
  | 2, _ => exact a2.trans c2.symm
  | 3, _ => exact a3.trans c3.symm
theorem cR_one (l : List R4) : ∀ u ∈ cR l, u.oneCell' = true := by
  intro u hu
  simp only [cR, List.mem_flatMap] at hu
  obtain ⟨e, _, hu⟩ := hu
  simp at hu
  rcases hu with rfl | rfl | rfl | rfl <;> rfl

set_option maxRecDepth 100000 in
set_option maxHeartbeats 1000000 in
theorem clone_any (A : Option Addr) (l : List R4) (c : Nat) (w : World) (hl : l.length ≤ 1000000) (h : Rd w A l) :
    Calls Try.prog 14 #[.slice A l.length c] w fun e w' => ∃ v, e = .returned v ∧ w'.ownsRow w.heap.size 30 4 v l.length (cR l) ∧ Below w.heap.size w w' := by
  obtain ⟨i0, hi0, hz0, hz1, hz2⟩ := info_parts infoR
  cases A with
  | none =>
    have hl0 : l = [] := by
      cases l with
      | nil => rfl
      | cons r t => obtain ⟨b, off, e, _⟩ := h (by simp); cases e
    subst hl0
    have heq : ∀ n c W, (binOp .eql 22 (.slice none n c) (.slice none 0 0)).run Try.prog W = .ok (.bool true) W := fun n c W => Lib.run_eql_slice_nil W _ _ none n c 0 0 Try.underlying22
    go_enter Try.func14, Try.ntmps14
    go_wp2_with fail
    go_ret
    exact ⟨_, rfl, own_nilR _ _ _ _, Below.refl _ _⟩
  | some ad =>
    have H0 := Lib.hid h
    clear h
    have heq : ∀ n c W, (binOp .eql 22 (.slice (some ad) n c) (.slice none 0 0)).run Try.prog W = .ok (.bool false) W := fun n c W => Lib.run_eql_slice_nil W _ _ (some ad) n c 0 0 Try.underlying22
    go_enter Try.func14, Try.ntmps14
    have HX := Lib.hid (show (w.alloc (.cells #[] 30)).ownsRow w.heap.size 30 4 (.slice (some ⟨w.heap.size, 0, none⟩) 0 0) 0 [] from own_mk (cur := #[]) (Nat.le_refl _) (by show (w.heap.push _)[w.heap.size]? = some _; exact Array.getElem?_push_size) (Nat.le_refl _) (Nat.zero_le _) rfl rfl)
    have HN := Lib.hid (fun (W : World) hb => rd_cells (H0.out.below (w' := W) hb) rfl)
    go_wp2_with (first | (at_builtin; refine wpList_append_own _ rfl (.tmp 5) (.tmp 6) 22 rfl w.heap.size 30 i0 (.agg #[.int .i64 0, .int .i64 0, .int .i64 0, .int .i64 0]) 4 32 Try.underlying22 hi0 hz0 hz1 hz2 rfl (by decide) (.slice (some ⟨w.heap.size, 0, none⟩) 0 0) 0 [] rfl HX.out ad l.length c (cR l) rfl ?nl ?nw ?o2 ?q4 ?q5 ?b2 ?_; (case nl => exact cR_len l); (case nw => exact HN.out _ (by (repeat' (first | (with_reducible exact Below.refl _ _) | (with_reducible assumption) | (with_reducible refine Below.alloc ?_ ?_ _) | (with_reducible refine Below.drew ?_) | (with_reducible refine below_drewN ?_ _) | (with_reducible refine Below.setCell ?_ ?_ _) | (with_reducible exact Nat.le_refl _) | omega | (simp only [World.size_alloc, World.size_setCell, World.size_drew]; omega) | (simp; omega) | (simp; done))))); (case o2 => exact cR_one l); (case q4 => simp only [maxLen]; omega); (case q5 => omega); (case b2 => simp); intro v2 w2 hown2 hg2 hnil2; have HO2 := Lib.hid hown2; have BB := Lib.hid (((Below.refl w.heap.size w).alloc (Nat.le_refl _) (.cells #[] 30)).trans (below_gb hg2 (by simp) (fun x hx => by simp [Value.ownBlock] at hx; omega))); clear hown2 hg2 hnil2))
    go_ret
    refine ⟨v2, rfl, ?_, BB.out⟩
    have h := HO2.out
    rwa [Nat.zero_add, List.nil_append] at h

/-! ## The reversal -/
/-- i elements from either end are exchanged. -/
def RevAt (l m : List R4) (i : Nat) : Prop := m.length = l.length ∧ ∀ t, t < l.length → m[t]? = if t < i ∨ l.length - i ≤ t then l[l.length - 1 - t]? else l[t]?
theorem RevAt.start (l : List R4) : RevAt l l 0 := ⟨rfl, fun t ht => by rw [if_neg (by omega)]⟩
theorem RevAt.step {l m : List R4} {i j : Nat} {r s : R4} (h : RevAt l m i) (hj : j + i + 1 = l.length) (hij : i < j) (hr : m[i]? = some r) (hs : m[j]? = some s) : RevAt l ((m.set i s).set j r) (i + 1) := by
  obtain ⟨h1, h2⟩ := h
  have e1 := h2 i (by omega)
  have e2 := h2 j (by omega)
  rw [if_neg (by omega), hr] at e1
  rw [if_neg (by omega), hs] at e2
  refine ⟨by simpa using h1, fun t ht => ?_⟩
  simp only [List.getElem?_set, List.length_set]
  by_cases htj : j = t
  · subst htj
    rw [if_pos rfl, if_pos (by omega), if_pos (by omega), show l.length - 1 - j = i from by omega]
    exact e1
  · rw [if_neg htj]
    by_cases hti : i = t
    · subst hti
      rw [if_pos rfl, if_pos (by omega), if_pos (by omega), show l.length - 1 - i = j from by omega]
      exact e2
    · rw [if_neg hti, h2 t ht]
      by_cases hin : t < i ∨ l.length - i ≤ t
      · rw [if_pos hin, if_pos (by omega)]
      · rw [if_neg hin, if_neg (by omega)]
theorem RevAt.done {l m : List R4} {i : Nat} (h : RevAt l m i) (hi : l.length ≤ 2 * i + 1) : m = l.reverse := by
  obtain ⟨h1, h2⟩ := h
  apply List.ext_getElem?
  intro t
  by_cases ht : t < l.length
  · rw [h2 t ht, List.getElem?_reverse ht]
    split
    · rfl
    · rw [show l.length - 1 - t = t from by omega]
  · rw [List.getElem?_eq_none (by omega), List.getElem?_eq_none (by simp; omega)]
theorem cR_put : ∀ (m : List R4) (i : Nat) (s : R4), i < m.length → ((((cR m).set (i * 4) (.int .i64 s.x0)).set (i * 4 + 1) (.int .i64 s.y0)).set (i * 4 + 2) (.int .i64 s.x1)).set (i * 4 + 3) (.int .i64 s.y1) = cR (m.set i s)
  | [], _, _, h => by simp at h
  | a :: m, 0, s, _ => rfl
  | a :: m, i + 1, s, h => by
    have := cR_put m i s (by simpa using h)
    simp only [List.set_cons_succ]
    have e : ∀ x : R4, cR (a :: m) = [Value.int .i64 a.x0, .int .i64 a.y0, .int .i64 a.x1, .int .i64 a.y1] ++ cR m := fun _ => rfl
    have e2 : cR (a :: m.set i s) = [Value.int .i64 a.x0, .int .i64 a.y0, .int .i64 a.x1, .int .i64 a.y1] ++ cR (m.set i s) := rfl
    rw [e2, ← this, e s]
    have k : ∀ (xs : List Value) (j : Nat) (v : Value), ([Value.int .i64 a.x0, .int .i64 a.y0, .int .i64 a.x1, .int .i64 a.y1] ++ xs).set (4 + j) v = [Value.int .i64 a.x0, .int .i64 a.y0, .int .i64 a.x1, .int .i64 a.y1] ++ xs.set j v := fun xs j v => by
      rw [List.set_append_right _ _ (by simp)]
      simp
    rw [show (i + 1) * 4 = 4 + i * 4 from by omega, k, show 4 + i * 4 + 1 = 4 + (i * 4 + 1) from by omega, k, show 4 + i * 4 + 2 = 4 + (i * 4 + 2) from by omega, k, show 4 + i * 4 + 3 = 4 + (i * 4 + 3) from by omega, k]
theorem own_put4 {w : World} {base g cap : Nat} {m : List R4} (h : w.ownsRow base 30 4 (.slice (some ⟨g, 0, none⟩) m.length cap) m.length (cR m)) {i : Nat} (hi : i < m.length) (s : R4) :
    ((((w.setCell ⟨g, i * 4, none⟩ (.int .i64 s.x0)).setCell ⟨g, i * 4 + 1, none⟩ (.int .i64 s.y0)).setCell ⟨g, i * 4 + 2, none⟩ (.int .i64 s.x1)).setCell ⟨g, i * 4 + 3, none⟩ (.int .i64 s.y1)).ownsRow base 30 4 (.slice (some ⟨g, 0, none⟩) (m.set i s).length cap) (m.set i s).length (cR (m.set i s)) := by
  have h1 := own_setC (own_setC (own_setC (own_setC h (j := i * 4) (by omega) (.int .i64 s.x0)) (j := i * 4 + 1) (by omega) (.int .i64 s.y0)) (j := i * 4 + 2) (by omega) (.int .i64 s.x1)) (j := i * 4 + 3) (by omega) (.int .i64 s.y1)
  rw [cR_put m i s hi] at h1
  rw [List.length_set]
  exact h1

end Go.Proofs.Ytjcbngpgmgeanaa
/- Rectangles put behind a row of one's own. -/
namespace Go.Proofs.Ytjcbngpgmgeanaa
open Go.RowKit
open Reg (R4)
set_option linter.unusedSimpArgs false
set_option linter.unusedVariables false

/-- Rectangles that came in are put behind a row of one's own, be there some or none. -/
theorem wpList_put_rects {ops : Array Oper} {rest : List Oper} {o : Oper} {a : Act} {Q : Exit → Act → World → Prop} {w : World} (hgd : o.guard = none) (s x : Operand)
    (ho : o.op = .call { callee := .builtin .append, args := #[s, x], argTypes := #[22, 22] })
    (base : Nat) (v : Value) (n : Nat) (xs : List Value) (hs : a.eval s = v) (hown : w.ownsRow base 30 4 v n xs)
    (A : Option Addr) (l : List R4) (c : Nat) (hx : a.eval x = .slice A l.length c) (hA : A = none → c = 0) (h : Rd w A l) (hn : n + l.length ≤ 2100000000) (hbase : base ≤ w.heap.size)
    (K : ∀ v' w', w'.ownsRow base 30 4 v' (n + l.length) (xs ++ cR l) → w.grownBy w' v.ownBlock → wpList Try.prog ops Q rest (a.put o.dst v') w') : wpList Try.prog ops Q (o :: rest) a w := by
  obtain ⟨i0, hi, hz0, hz1, hz2⟩ := info_parts infoR
  cases A with
  | none =>
    have hl0 : l = [] := by
      cases l with
      | nil => rfl
      | cons r t => obtain ⟨b, off, e, _⟩ := h (by simp); cases e
    subst hl0
    rw [hA rfl] at hx
    exact wpList_append_own_none hgd s x 22 ho base 30 i0 4 Try.underlying22 hi v n xs hs hown hx (K v w (by simpa [cR] using hown) (gb_refl _ _))
  | some ad =>
    exact wpList_append_own w hgd s x 22 ho base 30 i0 (.agg #[.int .i64 0, .int .i64 0, .int .i64 0, .int .i64 0]) 4 32 Try.underlying22 hi hz0 hz1 hz2 rfl (by decide) v n xs hs hown ad l.length c (cR l) hx (cR_len l) (rd_cells h rfl) (cR_one l) (by simp only [maxLen]; omega) (by omega) hbase fun v' w' h1 h2 _ => K v' w' h1 h2

end Go.Proofs.Ytjcbngpgmgeanaa

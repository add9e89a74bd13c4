/- The reference's told: the rectangles of bands, whatever the world. -/
import Derived.Test.YtmcbjaefnhfopaaGreatRefF
import Derived.Deep.AppendLies
namespace Go.Proofs.YtmcbjaefnhfopaaGreat
open Go.RowKit
open Reg (R4 Span Band)
set_option linter.unusedSimpArgs false
set_option linter.unusedVariables false

/-- The cells of rectangles. -/
def cR (l : List R4) : List Value := l.flatMap fun r => [.int .i64 r.x0, .int .i64 r.y0, .int .i64 r.x1, .int .i64 r.y1]
theorem cR_len (l : List R4) : (cR l).length = l.length * 4 := by induction l <;> simp [cR] at *; omega
theorem cR_append (a b : List R4) : cR (a ++ b) = cR a ++ cR b := by simp [cR]
theorem cR_at {l : List R4} : ∀ {i : Nat} {r : R4}, l[i]? = some r → (cR l)[i * 4]? = some (.int .i64 r.x0) ∧ (cR l)[i * 4 + 1]? = some (.int .i64 r.y0) ∧ (cR l)[i * 4 + 2]? = some (.int .i64 r.x1) ∧ (cR l)[i * 4 + 3]? = some (.int .i64 r.y1) := by
  induction l with
  | nil => intro i s h; simp at h
  | cons a l ih =>
    intro i s h
    cases i with
    | zero => simp at h; subst h; exact ⟨rfl, rfl, rfl, rfl⟩
    | succ i =>
      simp at h
      have := ih h
      simp only [cR, List.flatMap_cons] at this ⊢
      rw [show (i + 1) * 4 = i * 4 + 1 + 1 + 1 + 1 from by omega]
      exact this
theorem rd_own {w : World} {base : Nat} {v : Value} {l : List R4} (h : w.ownsRow base 28 4 v l.length (cR l)) : ∃ A c, v = .slice A l.length c ∧ l.length ≤ c ∧ c ≤ maxLen ∧ Rd w A l ∧ (∀ g, v.ownBlock = some g → base ≤ g) := by
  obtain ⟨A, c, rfl, h1, h2, h3⟩ := own_cells h
  refine ⟨A, c, rfl, h1, h2, fun hpos => ?_, fun g hg => (h.lt g hg).1⟩
  obtain ⟨g, rfl, hg, hlt, hc⟩ := h3 hpos
  refine ⟨g, 0, rfl, hlt, fun i r hi => ?_⟩
  rw [Nat.zero_add]
  obtain ⟨a0, a1, a2, a3⟩ := cR_at hi
  exact ⟨hc _ _ a0, hc _ _ a1, hc _ _ a2, hc _ _ a3⟩
/-- A slice of bands reads as a list. -/
def RdB (w : World) (v : Value) (bs : List Band) : Prop :=
  ∃ A c, v = .slice A bs.length c ∧ bs.length ≤ c ∧ c ≤ maxLen ∧ (0 < bs.length → ∃ g, A = some ⟨g, 0, none⟩ ∧ g < w.heap.size ∧ ∀ i b, bs[i]? = some b →
    ∃ sv, w.cell? ⟨g, i * 3, none⟩ = some (.int .i64 b.lo) ∧ w.cell? ⟨g, i * 3 + 1, none⟩ = some (.int .i64 b.hi) ∧ w.cell? ⟨g, i * 3 + 2, none⟩ = some sv ∧ IsS w sv b.sp)
theorem bandVals_at {ps : List (Band × Value)} : ∀ {i : Nat} {p : Band × Value}, ps[i]? = some p → (bandVals ps)[i * 3]? = some (.int .i64 p.1.lo) ∧ (bandVals ps)[i * 3 + 1]? = some (.int .i64 p.1.hi) ∧ (bandVals ps)[i * 3 + 2]? = some p.2 := by
  induction ps with
  | nil => intro i s h; simp at h
  | cons a l ih =>
    intro i s h
    cases i with
    | zero => simp at h; subst h; exact ⟨rfl, rfl, rfl⟩
    | succ i =>
      simp at h
      have := ih h
      simp only [bandVals, List.flatMap_cons] at this ⊢
      rw [show (i + 1) * 3 = i * 3 + 1 + 1 + 1 from by omega]
      exact this
theorem IsB.read {w : World} {B : Nat} {v : Value} {bs : List Band} (h : IsB w B v bs) : RdB w v bs := by
  obtain ⟨ps, rfl, h2, h3⟩ := h
  obtain ⟨A, c, rfl, k1, k2, k3⟩ := own_cells h2
  refine ⟨A, c, by simp, by simpa using k1, k2, fun hpos => ?_⟩
  obtain ⟨g, rfl, hg, hlt, hc⟩ := k3 (by simpa using hpos)
  refine ⟨g, rfl, hlt, fun i b hi => ?_⟩
  rw [List.getElem?_map] at hi
  obtain ⟨p, hp, rfl⟩ := Option.map_eq_some_iff.1 hi
  obtain ⟨a0, a1, a2⟩ := bandVals_at hp
  exact ⟨p.2, hc _ _ a0, hc _ _ a1, hc _ _ a2, (h3 p (List.mem_of_getElem? hp)).1⟩
theorem RdB.below {w w' : World} {v : Value} {bs : List Band} (h : RdB w v bs) (hb : Below w.heap.size w w') : RdB w' v bs := by
  obtain ⟨A, c, rfl, h1, h2, h3⟩ := h
  refine ⟨A, c, rfl, h1, h2, fun hpos => ?_⟩
  obtain ⟨g, rfl, hlt, hc⟩ := h3 hpos
  refine ⟨g, rfl, Nat.lt_of_lt_of_le hlt hb.size, fun i b hi => ?_⟩
  obtain ⟨sv, a0, a1, a2, a3⟩ := hc i b hi
  exact ⟨sv, ((bcell hb).1 _ _ hlt).trans a0, ((bcell hb).1 _ _ hlt).trans a1, ((bcell hb).1 _ _ hlt).trans a2, a3.below hb⟩
theorem infoR : (Tryz.prog.info? 28).map (fun i => (i.zero, i.size, i.bytes)) = some (some (.agg #[.int .i64 0, .int .i64 0, .int .i64 0, .int .i64 0]), 4, 32) := by kernel_rfl
theorem four_new (W : World) (x y z u : Value) (t : TypeId) : ∀ j v, [x, y, z, u][j]? = some v → (W.alloc (.cells #[x, y, z, u] t)).cell? ((⟨W.heap.size, 0, none⟩ : Addr).add j) = some v := by
  intro j u hj
  match j, hj with
  | 0, hj => simp at hj; subst hj; simp [Addr.add]
  | 1, hj => simp at hj; subst hj; simp [Addr.add]
  | 2, hj => simp at hj; subst hj; simp [Addr.add]
  | 3, hj => simp at hj; subst hj; simp [Addr.add]
  | j + 4, hj => simp at hj
theorem own_noneC {w : World} {base n c size : Nat} {e : TypeId} {xs : List Value} (h : w.ownsRow base e size (.slice none n c) n xs) : c = 0 := by
  rcases h.2 with ⟨h1, _⟩ | ⟨g, cap, cur, h1, _⟩
  · injection h1
  · cases h1
/-- A function that gives a list of rectangles of its own. -/
def GotR (w : World) (l : List R4) (e : Ending) (w' : World) : Prop := ∃ A c, e = .returned (.slice A l.length c) ∧ l.length ≤ c ∧ c ≤ maxLen ∧ Rd w' A l ∧ ((∀ a, A = some a → w.heap.size ≤ a.block) ∧ (A = none → c = 0)) ∧ Below w.heap.size w w'
theorem told_snoc {bs : List Band} {k : Nat} {b : Band} (h : bs[k]? = some b) : Reg.told (bs.take (k + 1)) = Reg.told (bs.take k) ++ Reg.rectsOf b := by
  have hlt := (List.getElem?_eq_some_iff.1 h).1
  rw [List.take_succ_eq_append_getElem hlt]
  rw [List.getElem?_eq_getElem hlt] at h
  injection h with h
  rw [h]
  simp [Reg.told]
theorem rectsOf_snoc {b : Band} {j : Nat} {s : Span} (h : b.sp[j]? = some s) : (Reg.rectsOf b).take (j + 1) = (Reg.rectsOf b).take j ++ [⟨s.1, b.lo, s.2, b.hi⟩] := by
  have hlt := (List.getElem?_eq_some_iff.1 h).1
  simp only [Reg.rectsOf, ← List.map_take]
  rw [List.take_succ_eq_append_getElem hlt]
  rw [List.getElem?_eq_getElem hlt] at h
  injection h with h
  rw [h]
  simp
theorem told_len {bs : List Band} {m : Nat} (h : ∀ c, c ∈ bs → c.sp.length ≤ m) : (Reg.told bs).length ≤ bs.length * m := by
  induction bs with
  | nil => simp [Reg.told]
  | cons b bs ih =>
    have h1 := ih (fun c hc => h c (List.mem_cons_of_mem _ hc))
    have h2 := h b List.mem_cons_self
    simp only [Reg.told, List.flatMap_cons, List.length_append, Reg.rectsOf, List.length_map, List.length_cons] at h1 ⊢
    rw [Nat.succ_mul]
    omega
theorem told_take_le (bs : List Band) (k : Nat) : (Reg.told (bs.take k)).length ≤ (Reg.told bs).length := by
  conv => rhs; rw [← List.take_append_drop k bs]
  simp only [Reg.told, List.flatMap_append, List.length_append]
  omega

set_option maxRecDepth 100000 in
set_option maxHeartbeats 1000000 in
theorem told_any (v : Value) (bs : List Band) (w : World) (h : RdB w v bs) (hmany : bs.length ≤ 1000000) (hlen : ∀ c, c ∈ bs → c.sp.length ≤ 1000000) :
    Calls Tryz.prog 66 #[v] w (GotR w (Reg.told bs)) := by
  obtain ⟨i0, hi, hz0, hz1, hz2⟩ := info_parts infoR
  have H0 := Lib.hid h
  obtain ⟨A, cap, rfl, hbc, hcm, _⟩ := h
  have hbig := told_len hlen
  have hcm' : cap ≤ 9223372036854775807 := hcm
  clear hcm
  go_enter Tryz.func66, Tryz.ntmps66
  go_wp2_with fail
  go_loopw [3, 4] (fun v3 v4 wr => ∃ k : Nat, k ≤ bs.length ∧ v4 = .int .i64 k ∧ wr.ownsRow w.heap.size 28 4 v3 (Reg.told (bs.take k)).length (cR (Reg.told (bs.take k))) ∧ Below w.heap.size w wr) (fun _ v4 _ => bs.length - (intOf v4).toNat)
  case atStart => exact ⟨0, Nat.zero_le _, rfl, own_nil, by (repeat' (first | (with_reducible exact Below.refl _ _) | (with_reducible assumption) | (with_reducible refine Below.alloc ?_ ?_ _) | (with_reducible refine Below.drew ?_) | (with_reducible refine below_drewN ?_ _) | (with_reducible refine Below.setCell ?_ ?_ _) | (with_reducible exact Nat.le_refl _) | omega | (simp only [World.size_alloc, World.size_setCell, World.size_drew]; omega) | (simp; omega) | (simp; done)))⟩
  case round =>
    obtain ⟨k, hk, rfl, hown, hbw⟩ := hrel
    have zw := hbw.size
    have HO := Lib.hid hown
    clear hown
    have hkz : (0 : Int) ≤ (k : Int) := by omega
    by_cases hlt : k < bs.length
    · have hib : bs[k]? = some bs[k] := List.getElem?_eq_getElem hlt
      have hklt : (k : Int) < (bs.length : Int) := by omega
      have HB1 := Lib.hid (told_snoc hib)
      have hbl := hlen _ (List.getElem_mem hlt)
      have hbig1 : (Reg.told (bs.take (k + 1))).length ≤ (Reg.told bs).length := told_take_le bs (k + 1)
      rw [HB1.out, List.length_append] at hbig1
      have hrl : (Reg.rectsOf bs[k]).length = bs[k].sp.length := by simp [Reg.rectsOf]
      obtain ⟨A', c', e, _, _, hcell⟩ := H0.out
      cases e
      obtain ⟨g, rfl, hgl, hcs⟩ := hcell (by omega)
      obtain ⟨sv, c0, c1, c2, hS⟩ := hcs k _ hib
      clear hcs hib hcell
      generalize bs[k] = b at *
      have HS := Lib.hid hS
      have K0 := Lib.hid c0
      have K1 := Lib.hid c1
      have K2 := Lib.hid c2
      clear c0 c1 c2
      rcases hS with ⟨hsp, rfl⟩ | ⟨hpos, sb, so, sc, rfl, s1, s2, s3, s4⟩
      · have d2 : wr.cell? ⟨g, k * 3 + 2, none⟩ = _ := ((bcell hbw).1 _ _ hgl).trans K2.out
        go_wp2_with fail
        refine wp_loop_rounds 1 ?_
        rw [rounds_succ]
        go_wp2_with fail
        go_roundw
        case rel => exact ⟨k + 1, by omega, by go_num, by rw [HB1.out, show Reg.rectsOf b = [] from by simp [Reg.rectsOf, hsp], List.append_nil]; exact HO.out, by (repeat' (first | (with_reducible exact Below.refl _ _) | (with_reducible assumption) | (with_reducible refine Below.alloc ?_ ?_ _) | (with_reducible refine Below.drew ?_) | (with_reducible refine below_drewN ?_ _) | (with_reducible refine Below.setCell ?_ ?_ _) | (with_reducible exact Nat.le_refl _) | omega | (simp only [World.size_alloc, World.size_setCell, World.size_drew]; omega) | (simp; omega) | (simp; done)))⟩
        case measure => simp [intOf]; omega
      · have K4 := Lib.hid s4
        clear s4
        have d2 : wr.cell? ⟨g, k * 3 + 2, none⟩ = _ := ((bcell hbw).1 _ _ hgl).trans K2.out
        go_wp2_with fail
        go_loopw [3, 5] (fun v3 v5 wr => ∃ j : Nat, j ≤ b.sp.length ∧ v5 = .int .i64 j ∧ wr.ownsRow w.heap.size 28 4 v3 (Reg.told (bs.take k) ++ (Reg.rectsOf b).take j).length (cR (Reg.told (bs.take k) ++ (Reg.rectsOf b).take j)) ∧ Below w.heap.size w wr) (fun _ v5 _ => b.sp.length - (intOf v5).toNat)
        case atStart => exact ⟨0, Nat.zero_le _, rfl, by simpa using HO.out, by (repeat' (first | (with_reducible exact Below.refl _ _) | (with_reducible assumption) | (with_reducible refine Below.alloc ?_ ?_ _) | (with_reducible refine Below.drew ?_) | (with_reducible refine below_drewN ?_ _) | (with_reducible refine Below.setCell ?_ ?_ _) | (with_reducible exact Nat.le_refl _) | omega | (simp only [World.size_alloc, World.size_setCell, World.size_drew]; omega) | (simp; omega) | (simp; done)))⟩
        case round =>
          obtain ⟨j, hj, rfl, hown, hbi⟩ := hrel
          have zi := hbi.size
          have HO1 := Lib.hid hown
          clear hown
          have hjz : (0 : Int) ≤ (j : Int) := by omega
          have e0 : wr.cell? ⟨g, k * 3, none⟩ = _ := ((bcell hbi).1 _ _ hgl).trans K0.out
          have e1 : wr.cell? ⟨g, k * 3 + 1, none⟩ = _ := ((bcell hbi).1 _ _ hgl).trans K1.out
          have e2 : wr.cell? ⟨g, k * 3 + 2, none⟩ = _ := ((bcell hbi).1 _ _ hgl).trans K2.out
          by_cases hjlt : j < b.sp.length
          · have his : b.sp[j]? = some b.sp[j] := List.getElem?_eq_getElem hjlt
            have hjl : (j : Int) < (b.sp.length : Int) := by omega
            have HB2 := Lib.hid (rectsOf_snoc his)
            have F0 := Lib.hid (K4.out j _ his)
            have f0 := ((bcell hbi).1 _ _ s3).trans (K4.out j _ his).1
            have f1 := ((bcell hbi).1 _ _ s3).trans (K4.out j _ his).2
            have htl : ((Reg.rectsOf b).take j).length = j := by rw [List.length_take]; omega
            clear his
            generalize b.sp[j] = s at *
            have hnx : Reg.told (bs.take k) ++ (Reg.rectsOf b).take (j + 1) = (Reg.told (bs.take k) ++ (Reg.rectsOf b).take j) ++ [⟨s.1, b.lo, s.2, b.hi⟩] := by rw [HB2.out, List.append_assoc]
            have HNX := Lib.hid hnx
            have hll : (Reg.told (bs.take k) ++ (Reg.rectsOf b).take j).length ≤ 1000000000000 := by
              have h1 : bs.length * 1000000 ≤ 1000000 * 1000000 := Nat.mul_le_mul_right _ hmany
              rw [List.length_append, htl]
              omega
            clear hnx
            generalize Reg.told (bs.take k) ++ (Reg.rectsOf b).take j = acc at *
            go_wp2_with fail
            go_region_held3 (fun w' => w'.cell? ⟨g, k * 3, none⟩ = some (.int .i64 b.lo) ∧ w'.cell? ⟨g, k * 3 + 1, none⟩ = some (.int .i64 b.hi) ∧ w'.cell? ⟨g, k * 3 + 2, none⟩ = some (.slice (some ⟨sb, so, none⟩) b.sp.length sc) ∧ w'.cell? ⟨sb, so + j * 2, none⟩ = some (.int .i64 s.1) ∧ w'.cell? ⟨sb, so + j * 2 + 1, none⟩ = some (.int .i64 s.2)) (go_keep)
              (first | (refine step_append_lies _ rfl (.tmp 22) (.tmp 52) 22 rfl w.heap.size 28 i0 (.agg #[.int .i64 0, .int .i64 0, .int .i64 0, .int .i64 0]) 4 32 Tryz.underlying22 hi hz0 hz1 hz2 rfl (by decide) u3 acc.length (cR acc) rfl (ownsRow_below' HO1.out (by (repeat' (first | (with_reducible exact Below.refl _ _) | (with_reducible assumption) | (with_reducible refine Below.alloc ?_ ?_ _) | (with_reducible refine Below.drew ?_) | (with_reducible refine below_drewN ?_ _) | (with_reducible refine Below.setCell ?_ ?_ _) | (with_reducible exact Nat.le_refl _) | omega | (simp only [World.size_alloc, World.size_setCell, World.size_drew]; omega) | (simp; omega) | (simp; done))))) ⟨wr.heap.size, 0, none⟩ 1 1 [.int .i64 s.1, .int .i64 b.lo, .int .i64 s.2, .int .i64 b.hi] rfl rfl (four_new wr.drew _ _ _ _ _) (by simp [Value.oneCell']) (by decide) (by simp only [maxLen]; omega) (by omega) (by (first | (with_reducible exact Nat.le_refl _) | (with_reducible assumption) | omega | (simp only [World.size_alloc, World.size_setCell, World.size_drew]; omega) | (simp; omega) | (simp; done))) _ rfl ?_; intro g5 cap5 w5 hown5 hg5 hat5 hlt5; have HO5 := Lib.hid hown5; have B5 := below_app (B := w.heap.size) (w0 := w) (by (repeat' (first | (with_reducible exact Below.refl _ _) | (with_reducible assumption) | (with_reducible refine Below.alloc ?_ ?_ _) | (with_reducible refine Below.drew ?_) | (with_reducible refine below_drewN ?_ _) | (with_reducible refine Below.setCell ?_ ?_ _) | (with_reducible exact Nat.le_refl _) | omega | (simp only [World.size_alloc, World.size_setCell, World.size_drew]; omega) | (simp; omega) | (simp; done)))) (ownsRow_below' HO1.out (by (repeat' (first | (with_reducible exact Below.refl _ _) | (with_reducible assumption) | (with_reducible refine Below.alloc ?_ ?_ _) | (with_reducible refine Below.drew ?_) | (with_reducible refine below_drewN ?_ _) | (with_reducible refine Below.setCell ?_ ?_ _) | (with_reducible exact Nat.le_refl _) | omega | (simp only [World.size_alloc, World.size_setCell, World.size_drew]; omega) | (simp; omega) | (simp; done))))) hg5 (Nat.le_refl _) (by (first | (with_reducible exact Nat.le_refl _) | (with_reducible assumption) | omega | (simp only [World.size_alloc, World.size_setCell, World.size_drew]; omega) | (simp; omega) | (simp; done))); have y0 := ((bcell B5).1 _ _ hgl).trans K0.out; have y1 := ((bcell B5).1 _ _ hgl).trans K1.out; have y2 := ((bcell B5).1 _ _ hgl).trans K2.out; have y3 := ((bcell B5).1 _ _ s3).trans F0.out.1; have y4 := ((bcell B5).1 _ _ s3).trans F0.out.2; clear hown5 hg5 hat5))
            go_wp2_with fail
            go_roundw
            case rel => exact ⟨j + 1, by omega, by go_num, by rw [HNX.out, List.length_append, cR_append]; exact HO5.out, B5⟩
            case measure => simp [intOf]; omega
          · obtain rfl : j = b.sp.length := by omega
            have hlast : (Reg.rectsOf b).take b.sp.length = Reg.rectsOf b := List.take_of_length_le (by omega)
            rw [hlast] at HO1
            go_wp2_with fail
            go_roundw
            case rel => exact ⟨k + 1, by omega, by go_num, by rw [HB1.out]; exact HO1.out, by (repeat' (first | (with_reducible exact Below.refl _ _) | (with_reducible assumption) | (with_reducible refine Below.alloc ?_ ?_ _) | (with_reducible refine Below.drew ?_) | (with_reducible refine below_drewN ?_ _) | (with_reducible refine Below.setCell ?_ ?_ _) | (with_reducible exact Nat.le_refl _) | omega | (simp only [World.size_alloc, World.size_setCell, World.size_drew]; omega) | (simp; omega) | (simp; done)))⟩
            case measure => simp [intOf]; omega
    · obtain rfl : k = bs.length := by omega
      rw [List.take_length] at HO
      go_wp2_with fail
      go_ret
      obtain ⟨A1, c1, rfl, h1, h2, h3, h4⟩ := rd_own HO.out
      exact ⟨A1, c1, rfl, h1, h2, h3, ⟨fun a ha => h4 _ (by rw [ha]; rfl), fun e => by subst e; exact own_noneC HO.out⟩, hbw⟩
end Go.Proofs.YtmcbjaefnhfopaaGreat

/- StackNearestMatchesSpec, walked: both answer alike. -/
import Derived.Test.YtdlglnkhhbkndaaRNear
import Derived.Test.YtdlglnkhhbkndaaSAwake
import Derived.Test.YtdlglnkhhbkndaaLaid
namespace Go.Proofs.Ytdlglnkhhbkndaa
open Go.RowKit Go.Maps
set_option linter.unusedSimpArgs false
set_option linter.unusedVariables false
set_option maxRecDepth 100000

theorem getD_int9 {w : World} {g : Nat} {zs : List Int} (h : ∀ (j : Nat) (u : Value), (zs.map (Value.int .i64))[j]? = some u → w.cell? ⟨g, j, none⟩ = some u) : ∀ j, j < zs.length → w.cell? ⟨g, 0 + j, none⟩ = some (.int .i64 (zs.getD j 0)) := by
  intro j hj
  rw [Nat.zero_add]
  refine h _ _ ?_
  rw [List.getElem?_map, List.getD_eq_getElem?_getD, List.getElem?_eq_getElem hj]
  rfl
theorem equal_int9 {w : World} {B1 B2 : Nat} {v1 v2 : Value} {zs : List Int} (h1 : w.ownsRow B1 3 1 v1 zs.length (zs.map (Value.int .i64))) (h2 : w.ownsRow B2 3 1 v2 zs.length (zs.map (Value.int .i64))) :
    Calls Try.prog 34 #[v1, v2] w fun e w' => e = .returned (.bool true) ∧ Below w.heap.size w w' := by
  obtain ⟨A1, c1, rfl, u1, u2, u3⟩ := own_cells h1
  obtain ⟨A2, c2, rfl, y1, y2, y3⟩ := own_cells h2
  have hn : zs.length ≤ 9223372036854775807 := Nat.le_trans u1 u2
  by_cases h0 : zs.length = 0
  · have := Try.slices_Equal_int_empty A1 A2 c1 0 c2 w (by omega)
    rw [h0]
    exact this.mono fun e w' ⟨h, hw⟩ => ⟨h, by rw [hw]; exact Below.refl _ _⟩
  · obtain ⟨g1, rfl, _, _, k1⟩ := u3 (by omega)
    obtain ⟨g2, rfl, _, _, k2⟩ := y3 (by omega)
    refine (Try.slices_Equal_int g1 0 zs.length c1 g2 0 zs.length c2 zs zs w (Nat.le_refl _) (Nat.le_refl _) hn hn (getD_int9 k1) (getD_int9 k2)).mono fun e w' ⟨h, q, hw⟩ => ⟨by rw [h]; simp, by rw [hw]; exact below_drewN (Below.refl _ _) q⟩
theorem ones_ints (ns : List Nat) : ns.map oneN = (ns.map fun n : Nat => (n : Int) + 1).map (Value.int .i64) := by rw [List.map_map]; rfl
theorem equal_ones {w : World} {B1 B2 n : Nat} {v1 v2 : Value} {ns : List Nat} (hn : ns.length = n) (h1 : w.ownsRow B1 3 1 v1 n (ns.map oneN)) (h2 : w.ownsRow B2 3 1 v2 n (ns.map oneN)) :
    Calls Try.prog 34 #[v1, v2] w fun e w' => e = .returned (.bool true) ∧ Below w.heap.size w w' := by
  subst hn
  rw [ones_ints] at h1 h2
  have e : ns.length = (ns.map fun k : Nat => (k : Int) + 1).length := (List.length_map _).symm
  rw [e] at h1 h2
  exact equal_int9 h1 h2
theorem equal_none9 (w : World) : Calls Try.prog 34 #[.slice none 0 0, .slice none 0 0] w fun e w' => e = .returned (.bool true) ∧ Below w.heap.size w w' :=
  equal_ones (ns := []) (n := 0) (B1 := w.heap.size) (B2 := w.heap.size) rfl own_nil own_nil
section
variable {A : Option Addr} {l : List Mat} {c : Nat} {A2 : Option Addr} {s : List Lay} {c2 : Nat} {w : World}
set_option maxHeartbeats 1000000 in
theorem rNearest_no (h : StkIn A l A2 s w) (hc2 : s.length ≤ c2) (hc3 : c2 ≤ 140737488355328) (m t : Int) (h0 : stackF l s ≠ 0) :
    Calls Try.prog 33 #[.slice A l.length c, .slice A2 s.length c2, .int .i64 m, .int .i64 t] w fun e w' => e = .returned (.tuple #[.slice none 0 0, .int .i64 0, .int .i64 (stackF l s)]) ∧ Below w.heap.size w w' := by
  have CK := Lib.hid (rCheckStack_any (c := c) A2 s c2 hc2 hc3 h)
  generalize stackF l s = F at *
  have hd1 : (F == 0) = false := by simpa using h0
  have hd2 : (F != 0) = true := by simpa using h0
  clear h h0
  go_enter Try.func33, Try.ntmps33
  go_wp2_with fail
  refine CK.out.mono ?_
  rintro e w1 ⟨rfl, hb⟩
  have B1 := Lib.hid hb
  clear hb
  go_wp2_with fail
  go_ret3
  exact ⟨rfl, B1.out⟩
set_option maxHeartbeats 1000000 in
theorem rNearest_range (h : StkIn A l A2 s w) (hc2 : s.length ≤ c2) (hc3 : c2 ≤ 140737488355328) (m t : Int) (h0 : stackF l s = 0) (hr : ¬ (1 ≤ m ∧ m ≤ 8 ∧ 0 ≤ t ∧ t ≤ 1000000)) :
    Calls Try.prog 33 #[.slice A l.length c, .slice A2 s.length c2, .int .i64 m, .int .i64 t] w fun e w' => e = .returned (.tuple #[.slice none 0 0, .int .i64 0, .int .i64 1]) ∧ Below w.heap.size w w' := by
  have CK := Lib.hid (rCheckStack_any (c := c) A2 s c2 hc2 hc3 h)
  rw [h0] at CK
  clear h h0
  by_cases hm : 1 ≤ m ∧ m ≤ 8
  · have hK1 : (decide ((1 : Int) ≤ m) && decide (m ≤ 8)) = true := by simp; omega
    have hK2 : (decide ((0 : Int) ≤ t) && decide (t ≤ 1000000)) = false := by simp; omega
    have C1 := Lib.hid (fun (W : World) => hK1 ▸ withinR_any m 1 8 W)
    have C2 := Lib.hid (fun (W : World) => hK2 ▸ withinR_any t 0 1000000 W)
    clear hK1 hK2
    go_enter Try.func33, Try.ntmps33
    go_wp2_with fail
    refine CK.out.mono ?_
    rintro e w1 ⟨rfl, hb⟩
    have B1 := Lib.hid hb
    clear hb
    go_wp2_with fail
    refine (C1.out _).mono ?_
    rintro e w2 ⟨rfl, rfl⟩
    go_wp2_with fail
    refine (C2.out _).mono ?_
    rintro e w2 ⟨rfl, rfl⟩
    go_wp2_with fail
    go_ret3
    exact ⟨rfl, B1.out⟩
  · have hK1 : (decide ((1 : Int) ≤ m) && decide (m ≤ 8)) = false := by simp; omega
    have C1 := Lib.hid (fun (W : World) => hK1 ▸ withinR_any m 1 8 W)
    clear hK1
    go_enter Try.func33, Try.ntmps33
    go_wp2_with fail
    refine CK.out.mono ?_
    rintro e w1 ⟨rfl, hb⟩
    have B1 := Lib.hid hb
    clear hb
    go_wp2_with fail
    refine (C1.out _).mono ?_
    rintro e w2 ⟨rfl, rfl⟩
    go_wp2_with fail
    go_ret3
    exact ⟨rfl, B1.out⟩
end
set_option maxHeartbeats 4000000 in
theorem nearMt_walk (A : Option Addr) (l : List Mat) (c : Nat) (A2 : Option Addr) (s : List Lay) (c2 : Nat) (m t : Int) (w : World) (h : StkIn A l A2 s w) (hc2 : s.length ≤ c2) (hc3 : c2 ≤ 140737488355328) (wm : (Lit.int .i64 m).wf = true) (wt : (Lit.int .i64 t).wf = true) :
    Calls Try.prog 7 #[.slice A l.length c, .slice A2 s.length c2, .int .i64 m, .int .i64 t] w fun e w' => e = .returned (.bool true) ∧ Below w.heap.size w w' := by
  have CW := Lib.hid (fun W => awake_any W)
  by_cases h0 : stackF l s = 0
  · by_cases hr : 1 ≤ m ∧ m ≤ 8 ∧ 0 ≤ t ∧ t ≤ 1000000
    · obtain ⟨mm, rfl⟩ : ∃ mm : Nat, m = (mm : Int) := ⟨m.toNat, by omega⟩
      have hm : 1 ≤ mm ∧ mm ≤ 8 := by omega
      have ht : 0 ≤ t ∧ t ≤ 1000000 := by omega
      have C1 := Lib.hid (nearest_yes (c := c) (c2 := c2) h mm t h0 hm ht)
      have C2 := Lib.hid (fun W (hb : Below w.heap.size w W) F Cs b hch hba => rNearest_yes (c := c) (c2 := c2) (w := W) (h.below hb) hc2 hc3 mm t h0 hm ht F Cs b hch hba)
      clear h h0 wm wt hr
      generalize rowsOf l s = R at *
      generalize gluF R = gs at *
      generalize thick R = T at *
      unfold NearRet at C1
      go_enter Try.func7, Try.ntmps7
      go_wp2_with fail
      refine C1.out.mono ?_
      rintro e w1 ⟨vv, ns, b, F, Cs, rfl, ho, hch, hba, hns, hlen, -, -, -, hb⟩
      obtain ⟨Al, cl, rfl, -, -, -⟩ := own_cells ho
      have B1 := Lib.hid hb
      have z1 := hb.size
      have HO1 := Lib.hid ho
      have CR := Lib.hid (C2.out w1 hb F Cs b hch hba)
      rw [← hns] at CR
      have HL := Lib.hid hlen
      clear ho hb hch hba hns hlen C2
      go_wp2_with fail
      refine CR.out.mono ?_
      rintro e w2 ⟨vx, rfl, ho2, hb2⟩
      obtain ⟨Ax, cx, rfl, -, -, -⟩ := own_cells ho2
      have B2 := Lib.hid (B1.out.trans (hb2.mono z1))
      have z2 := B2.out.size
      have CE := Lib.hid (equal_ones HL.out (own_below HO1.out hb2) ho2)
      have m1 : ((T + (b : Int)) == (T + (b : Int))) = true := by simp
      clear ho2 hb2
      go_wp2_with fail
      refine CE.out.mono ?_
      rintro e w3 ⟨rfl, hb3⟩
      have B3 := Lib.hid (B2.out.trans (hb3.mono z2))
      have z3 := B3.out.size
      clear hb3
      go_wp2_with fail
      refine (CW.out _).mono ?_
      rintro e w9 ⟨rfl, hb⟩
      have B9 := Lib.hid (B3.out.trans (hb.mono z3))
      clear hb
      go_wp2_with fail
      go_ret
      exact ⟨rfl, B9.out⟩
    · have C1 := Lib.hid (nearest_range (c := c) (c2 := c2) h m t h0 hr)
      have C2 := Lib.hid (fun W (hb : Below w.heap.size w W) => rNearest_range (c := c) (c2 := c2) (w := W) (h.below hb) hc2 hc3 m t h0 hr)
      clear h h0 hr
      go_enter Try.func7, Try.ntmps7
      go_wp2_with fail
      refine C1.out.mono ?_
      rintro e w1 ⟨rfl, hb⟩
      have B1 := Lib.hid hb
      have z1 := hb.size
      clear hb
      go_wp2_with fail
      refine (C2.out _ B1.out).mono ?_
      rintro e w2 ⟨rfl, hb⟩
      have B2 := Lib.hid (B1.out.trans (hb.mono z1))
      have z2 := B2.out.size
      clear hb
      go_wp2_with fail
      refine (equal_none9 _).mono ?_
      rintro e w3 ⟨rfl, hb⟩
      have B3 := Lib.hid (B2.out.trans (hb.mono z2))
      have z3 := B3.out.size
      clear hb
      go_wp2_with fail
      refine (CW.out _).mono ?_
      rintro e w9 ⟨rfl, hb⟩
      have B9 := Lib.hid (B3.out.trans (hb.mono z3))
      clear hb
      go_wp2_with fail
      go_ret
      exact ⟨rfl, B9.out⟩
  · have C1 := Lib.hid (nearest_no (c := c) (c2 := c2) h m t h0)
    have C2 := Lib.hid (fun W (hb : Below w.heap.size w W) => rNearest_no (c := c) (c2 := c2) (w := W) (h.below hb) hc2 hc3 m t h0)
    generalize stackF l s = F at *
    have hd1 : (F == F) = true := by simp
    clear h h0
    go_enter Try.func7, Try.ntmps7
    go_wp2_with fail
    refine C1.out.mono ?_
    rintro e w1 ⟨rfl, hb⟩
    have B1 := Lib.hid hb
    have z1 := hb.size
    clear hb
    go_wp2_with fail
    refine (C2.out _ B1.out).mono ?_
    rintro e w2 ⟨rfl, hb⟩
    have B2 := Lib.hid (B1.out.trans (hb.mono z1))
    have z2 := B2.out.size
    clear hb
    go_wp2_with fail
    refine (equal_none9 _).mono ?_
    rintro e w3 ⟨rfl, hb⟩
    have B3 := Lib.hid (B2.out.trans (hb.mono z2))
    have z3 := B3.out.size
    clear hb
    go_wp2_with fail
    refine (CW.out _).mono ?_
    rintro e w9 ⟨rfl, hb⟩
    have B9 := Lib.hid (B3.out.trans (hb.mono z3))
    clear hb
    go_wp2_with fail
    go_ret
    exact ⟨rfl, B9.out⟩
end Go.Proofs.Ytdlglnkhhbkndaa

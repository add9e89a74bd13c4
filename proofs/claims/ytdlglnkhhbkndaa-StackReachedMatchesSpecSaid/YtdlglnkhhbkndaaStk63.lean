/- StackReachedMatchesSpec, walked: both answer alike. -/
import Derived.Test.YtdlglnkhhbkndaaSlA
import Derived.Test.YtdlglnkhhbkndaaRcB
import Derived.Test.YtdlglnkhhbkndaaSAwake
import Derived.Test.YtdlglnkhhbkndaaLaid
namespace Go.Proofs.Ytdlglnkhhbkndaa
open Go.RowKit Go.Maps
set_option linter.unusedSimpArgs false
set_option linter.unusedVariables false
set_option maxRecDepth 100000

theorem getD_int8 {w : World} {g : Nat} {zs : List Int} (h : ∀ (j : Nat) (u : Value), (zs.map (Value.int .i64))[j]? = some u → w.cell? ⟨g, j, none⟩ = some u) : ∀ j, j < zs.length → w.cell? ⟨g, 0 + j, none⟩ = some (.int .i64 (zs.getD j 0)) := by
  intro j hj
  rw [Nat.zero_add]
  refine h _ _ ?_
  rw [List.getElem?_map, List.getD_eq_getElem?_getD, List.getElem?_eq_getElem hj]
  rfl
theorem equal_int8 {w : World} {B1 B2 : Nat} {v1 v2 : Value} {zs : List Int} (h1 : w.ownsRow B1 3 1 v1 zs.length (zs.map (Value.int .i64))) (h2 : w.ownsRow B2 3 1 v2 zs.length (zs.map (Value.int .i64))) :
    Calls Try.prog 34 #[v1, v2] w fun e w' => e = .returned (.bool true) ∧ Below w.heap.size w w' := by
  obtain ⟨A1, c1, rfl, u1, u2, u3⟩ := own_cells h1
  obtain ⟨A2, c2, rfl, y1, y2, y3⟩ := own_cells h2
  have hn : zs.length ≤ 9223372036854775807 := Nat.le_trans u1 u2
  by_cases h0 : zs.length = 0
  · have := Try.slices_Equal_int_empty A1 A2 c1 0 c2 w (by omega)
    rw [h0]
    exact this.mono fun e w' ⟨h, hw⟩ => ⟨h, by rw [hw]; exact Below.refl _ _⟩
  · obtain ⟨g1, rfl, _, _, k1⟩ := u3 (by omega)
    obtain ⟨g2, rfl, _, _, k2⟩ := y3 (by omega)
    refine (Try.slices_Equal_int g1 0 zs.length c1 g2 0 zs.length c2 zs zs w (Nat.le_refl _) (Nat.le_refl _) hn hn (getD_int8 k1) (getD_int8 k2)).mono fun e w' ⟨h, q, hw⟩ => ⟨by rw [h]; simp, by rw [hw]; exact below_drewN (Below.refl _ _) q⟩
theorem hole_int8 (hs : List Nat) : (hs.map fun k => Value.int .i64 (k : Nat)) = (hs.map fun k : Nat => (k : Int)).map (Value.int .i64) := by rw [List.map_map]; rfl
theorem equal_hole8 {w : World} {B1 B2 : Nat} {v1 v2 : Value} {hs : List Nat} (h1 : w.ownsRow B1 3 1 v1 hs.length (hs.map fun k => Value.int .i64 (k : Nat))) (h2 : w.ownsRow B2 3 1 v2 hs.length (hs.map fun k => Value.int .i64 (k : Nat))) :
    Calls Try.prog 34 #[v1, v2] w fun e w' => e = .returned (.bool true) ∧ Below w.heap.size w w' := by
  rw [hole_int8] at h1 h2
  have e : hs.length = (hs.map fun k : Nat => (k : Int)).length := (List.length_map _).symm
  rw [e] at h1 h2
  exact equal_int8 h1 h2
theorem getD_str8 {w : World} {g : Nat} {zs : List ByteArray} (h : ∀ (j : Nat) (u : Value), (zs.map Value.string)[j]? = some u → w.cell? ⟨g, j, none⟩ = some u) : ∀ j, j < zs.length → w.cell? ⟨g, 0 + j, none⟩ = some (.string (zs.getD j ByteArray.empty)) := by
  intro j hj
  rw [Nat.zero_add]
  refine h _ _ ?_
  rw [List.getElem?_map, List.getD_eq_getElem?_getD, List.getElem?_eq_getElem hj]
  rfl
theorem equal_str8 {w : World} {B1 B2 : Nat} {v1 v2 : Value} {zs : List ByteArray} (h1 : w.ownsRow B1 9 1 v1 zs.length (zs.map Value.string)) (h2 : w.ownsRow B2 9 1 v2 zs.length (zs.map Value.string)) :
    Calls Try.prog 47 #[v1, v2] w fun e w' => e = .returned (.bool true) ∧ Below w.heap.size w w' := by
  obtain ⟨A1, c1, rfl, u1, u2, u3⟩ := own_cells h1
  obtain ⟨A2, c2, rfl, y1, y2, y3⟩ := own_cells h2
  have hn : zs.length ≤ 9223372036854775807 := Nat.le_trans u1 u2
  by_cases h0 : zs.length = 0
  · have := Try.slices_Equal_string_empty A1 A2 c1 0 c2 w (by omega)
    rw [h0]
    exact this.mono fun e w' ⟨h, hw⟩ => ⟨h, by rw [hw]; exact Below.refl _ _⟩
  · obtain ⟨g1, rfl, _, _, k1⟩ := u3 (by omega)
    obtain ⟨g2, rfl, _, _, k2⟩ := y3 (by omega)
    refine (Try.slices_Equal_string g1 0 zs.length c1 g2 0 zs.length c2 zs zs w (Nat.le_refl _) (Nat.le_refl _) hn hn (getD_str8 k1) (getD_str8 k2)).mono fun e w' ⟨h, q, hw⟩ => ⟨by rw [h]; simp, by rw [hw]; exact below_drewN (Below.refl _ _) q⟩
/-- What Reached returns, with all errors. -/
def RchAll (r : List ByteArray × Int) (w : World) (e : Ending) (w' : World) : Prop :=
  ∃ v : Value, e = .returned (.tuple #[v, .int .i64 r.2]) ∧ w'.ownsRow w.heap.size 9 1 v r.1.length (r.1.map Value.string) ∧ Below w.heap.size w w'
def FewAll (r : List Thr × Int) (w : World) (e : Ending) (w' : World) : Prop :=
  ∃ v : Value, e = .returned (.tuple #[v, .int .i64 r.2]) ∧ w'.ownsRow w.heap.size 64 2 v r.1.length (fm thr1 thr2 r.1) ∧ Below w.heap.size w w'
noncomputable def fewF (l : List Mat) (s : List Lay) (t : List Thr) : List Thr × Int := if pressedF l s t = 0 then (fewG l s t t.length t, 0) else ([], pressedF l s t)
section
variable {A : Option Addr} {l : List Mat} {c : Nat} {A2 : Option Addr} {s : List Lay} {c2 : Nat} {w : World}
theorem reached_all (h : StkIn A l A2 s w) (A3 : Option Addr) (t : List Thr) (c3 : Nat) (a : ByteArray) (ha : a.size ≤ maxLen) (hl : t.length ≤ 140737488355328) (hd : RdG 2 Thr.cs w A3 t) :
    Calls Try.prog 45 #[.slice A l.length c, .slice A2 s.length c2, .slice A3 t.length c3, .string a] w (RchAll (reachedF l s t a) w) := by
  by_cases h0 : pressedF l s t = 0
  · cases hp : numI (rowsOf l s) a with
    | none =>
      have e : reachedF l s t a = ([], 9) := by unfold reachedF; rw [if_pos h0, hp]
      rw [e]
      exact (reached_none (c := c) (c2 := c2) h A3 t c3 a ha hl hd h0 hp).mono fun e w' ⟨h1, h2⟩ => ⟨_, h1, own_nil, h2⟩
    | some i =>
      have e : reachedF l s t a = (reachL (rowsOf l s) t i, 0) := by unfold reachedF; rw [if_pos h0, hp]
      rw [e]
      exact (reached_yes (c := c) (c2 := c2) h A3 t c3 a ha hl hd h0 hp).mono fun e w' h1 => h1
  · have e : reachedF l s t a = ([], pressedF l s t) := by unfold reachedF; rw [if_neg h0]
    rw [e]
    exact (reached_bad (c := c) (c2 := c2) h A3 t c3 a hl hd h0).mono fun e w' ⟨h1, h2⟩ => ⟨_, h1, own_nil, h2⟩
theorem rReached_all (h : StkIn A l A2 s w) (hc2 : s.length ≤ c2) (hc3 : c2 ≤ 140737488355328) (A3 : Option Addr) (t : List Thr) (c3 : Nat) (a : ByteArray) (hl : t.length ≤ 140737488355328) (hd : RdG 2 Thr.cs w A3 t) :
    Calls Try.prog 46 #[.slice A l.length c, .slice A2 s.length c2, .slice A3 t.length c3, .string a] w (RchAll (reachedF l s t a) w) := by
  by_cases h0 : pressedF l s t = 0
  · cases hp : numI (rowsOf l s) a with
    | none =>
      have e : reachedF l s t a = ([], 9) := by unfold reachedF; rw [if_pos h0, hp]
      rw [e]
      exact (rReached_none (c := c) h hc2 hc3 A3 t c3 a hl hd h0 hp).mono fun e w' ⟨h1, h2⟩ => ⟨_, h1, own_nil, h2⟩
    | some i =>
      have e : reachedF l s t a = (reachL (rowsOf l s) t i, 0) := by unfold reachedF; rw [if_pos h0, hp]
      rw [e]
      exact (rReached_yes (c := c) h hc2 hc3 A3 t c3 a hl hd h0 hp).mono fun e w' h1 => h1
  · have e : reachedF l s t a = ([], pressedF l s t) := by unfold reachedF; rw [if_neg h0]
    rw [e]
    exact (rReached_bad (c := c) h hc2 hc3 A3 t c3 a hl hd h0).mono fun e w' ⟨h1, h2⟩ => ⟨_, h1, own_nil, h2⟩
theorem fewest_all (h : StkIn A l A2 s w) (A3 : Option Addr) (t : List Thr) (c3 : Nat) (hl : t.length ≤ 140737488355328) (hd : RdG 2 Thr.cs w A3 t) :
    Calls Try.prog 50 #[.slice A l.length c, .slice A2 s.length c2, .slice A3 t.length c3] w (FewAll (fewF l s t) w) := by
  by_cases h0 : pressedF l s t = 0
  · have e : fewF l s t = (fewG l s t t.length t, 0) := by unfold fewF; rw [if_pos h0]
    rw [e]
    exact (fewest_yes (c := c) (c2 := c2) h A3 t c3 hl hd h0).mono fun e w' h1 => h1
  · have e : fewF l s t = ([], pressedF l s t) := by unfold fewF; rw [if_neg h0]
    rw [e]
    exact (fewest_no (c := c) (c2 := c2) h A3 t c3 hl hd h0).mono fun e w' ⟨h1, h2⟩ => ⟨_, h1, own_nil, h2⟩
theorem rFewest_all (h : StkIn A l A2 s w) (hc2 : s.length ≤ c2) (hc3 : c2 ≤ 140737488355328) (A3 : Option Addr) (t : List Thr) (c3 : Nat) (hl : t.length ≤ 140737488355328) (hd : RdG 2 Thr.cs w A3 t) :
    Calls Try.prog 51 #[.slice A l.length c, .slice A2 s.length c2, .slice A3 t.length c3] w (FewAll (fewF l s t) w) := by
  by_cases h0 : pressedF l s t = 0
  · have e : fewF l s t = (fewG l s t t.length t, 0) := by unfold fewF; rw [if_pos h0]
    rw [e]
    exact (rFewest_yes (c := c) h hc2 hc3 A3 t c3 hl hd h0).mono fun e w' h1 => h1
  · have e : fewF l s t = ([], pressedF l s t) := by unfold fewF; rw [if_neg h0]
    rw [e]
    exact (rFewest_no (c := c) h hc2 hc3 A3 t c3 hl hd h0).mono fun e w' ⟨h1, h2⟩ => ⟨_, h1, own_nil, h2⟩
theorem fewF_len (l : List Mat) (s : List Lay) (t : List Thr) : (fewF l s t).1.length ≤ t.length := by
  unfold fewF
  split
  · rename_i h0
    exact (few_inv (m := l) (s := s) (l := t) t.length t h0 rfl).2.2
  · exact Nat.zero_le _
end
set_option maxHeartbeats 4000000 in
theorem reachMt_walk (A : Option Addr) (l : List Mat) (c : Nat) (A2 : Option Addr) (s : List Lay) (c2 : Nat) (A3 : Option Addr) (t : List Thr) (c3 : Nat) (a : ByteArray) (A5 : Option Addr) (zs : List Int) (c5 : Nat) (most : Int) (w : World) (h : StkIn A l A2 s w) (hc2 : s.length ≤ c2) (hcb : c2 ≤ 140737488355328) (hl3 : t.length ≤ c3) (hc3 : c3 ≤ 140737488355328) (hd : RdG 2 Thr.cs w A3 t) (htr : True) (ha : a.size ≤ maxLen) (hl5 : zs.length ≤ c5) (hc5 : c5 ≤ 140737488355328) (hdz : RdG 1 (fun x : Int => [Value.int .i64 x]) w A5 zs) (hzo : ∀ x ∈ zs, (Lit.int .i64 x).wf = true) (wm : (Lit.int .i64 most).wf = true) :
    Calls Try.prog 11 #[.slice A l.length c, .slice A2 s.length c2, .slice A3 t.length c3, .string a, .slice A5 zs.length c5, .int .i64 most] w fun e w' => e = .returned (.bool true) ∧ Below w.heap.size w w' := by
  have CW := Lib.hid (fun W => awake_any W)
  have hl : t.length ≤ 140737488355328 := by omega
  have hzl : zs.length ≤ 140737488355328 := by omega
  have C1 := Lib.hid (reached_all (c := c) (c2 := c2) h A3 t c3 a ha hl hd)
  have C2 := Lib.hid (fun W (hb : Below w.heap.size w W) => rReached_all (c := c) (w := W) (h.below hb) hc2 hcb A3 t c3 a hl (hd.below hb))
  have C3 := Lib.hid (fun W (hb : Below w.heap.size w W) => slim_any (c := c) (c2 := c2) (w := W) (h.below hb) A3 t c3 hl (hd.below hb) A5 zs c5 hzl (hdz.below hb) most)
  have C4 := Lib.hid (fun W (hb : Below w.heap.size w W) => rSlim_any (c := c) (w := W) (h.below hb) hc2 hcb A3 t c3 hl (hd.below hb) A5 zs c5 hzl (hdz.below hb) most)
  have C5 := Lib.hid (fun W (hb : Below w.heap.size w W) => fewest_all (c := c) (c2 := c2) (w := W) (h.below hb) A3 t c3 hl (hd.below hb))
  have C6 := Lib.hid (fun W (hb : Below w.heap.size w W) => rFewest_all (c := c) (w := W) (h.below hb) hc2 hcb A3 t c3 hl (hd.below hb))
  have hfl := fewF_len l s t
  generalize reachedF l s t a = R1 at *
  generalize slimF l s t zs most = R2 at *
  generalize fewF l s t = R3 at *
  have hf3 : R3.1.length ≤ 140737488355328 := by omega
  obtain ⟨X1, F1⟩ := R1
  obtain ⟨X2, F2⟩ := R2
  obtain ⟨X3, F3⟩ := R3
  have m1 : (F1 != F1) = false := by simp
  have m2 : (F2 != F2) = false := by simp
  have m3 : (F3 == F3) = true := by simp
  clear h hd hdz hzo wm hfl
  go_enter Try.func11, Try.ntmps11
  go_wp2_with fail
  refine C1.out.mono ?_
  rintro e w1 ⟨v1, rfl, ho1, hb⟩
  have B1 := Lib.hid hb
  have z1 := hb.size
  have HO1 := Lib.hid ho1
  clear ho1 hb
  go_wp2_with fail
  refine (C2.out _ B1.out).mono ?_
  rintro e w2 ⟨v2, rfl, ho2, hb⟩
  have B2 := Lib.hid (B1.out.trans (hb.mono z1))
  have z2 := B2.out.size
  have CE := Lib.hid (equal_str8 (own_below HO1.out hb) ho2)
  clear ho2 hb
  go_wp2_with fail
  refine CE.out.mono ?_
  rintro e w3 ⟨rfl, hb⟩
  have B3 := Lib.hid (B2.out.trans (hb.mono z2))
  have z3 := B3.out.size
  clear hb
  go_wp2_with fail
  refine (C3.out _ B3.out).mono ?_
  rintro e w4 ⟨v4, rfl, ho4, hb⟩
  have B4 := Lib.hid (B3.out.trans (hb.mono z3))
  have z4 := B4.out.size
  have HO4 := Lib.hid ho4
  clear ho4 hb
  go_wp2_with fail
  refine (C4.out _ B4.out).mono ?_
  rintro e w5 ⟨v5, rfl, ho5, hb⟩
  have B5 := Lib.hid (B4.out.trans (hb.mono z4))
  have z5 := B5.out.size
  have CF := Lib.hid (equal_hole8 (own_below HO4.out hb) ho5)
  clear ho5 hb
  go_wp2_with fail
  refine CF.out.mono ?_
  rintro e w6 ⟨rfl, hb⟩
  have B6 := Lib.hid (B5.out.trans (hb.mono z5))
  have z6 := B6.out.size
  clear hb
  go_wp2_with fail
  refine (C5.out _ B6.out).mono ?_
  rintro e w7 ⟨v7, rfl, ho7, hb⟩
  have B7 := Lib.hid (B6.out.trans (hb.mono z6))
  have z7 := B7.out.size
  obtain ⟨A7, c7, rfl, -, -, hr7⟩ := own_rdT ho7
  have HR7 := Lib.hid hr7
  clear ho7 hb hr7
  go_wp2_with fail
  refine (C6.out _ B7.out).mono ?_
  rintro e w8 ⟨v8, rfl, ho8, hb⟩
  have B8 := Lib.hid (B7.out.trans (hb.mono z7))
  have z8 := B8.out.size
  obtain ⟨A8, c8, rfl, -, -, hr8⟩ := own_rdT ho8
  have CG := Lib.hid (equalThr_any A7 A8 X3 X3 c7 c8 w8 hf3 hf3 (HR7.out.below hb) hr8)
  clear ho8 hb hr8
  go_wp2_with fail
  refine CG.out.mono ?_
  rintro e w9 ⟨G, hG, rfl, hb⟩
  obtain rfl : G = true := hG.2 (by first | rfl | trivial)
  have B9 := Lib.hid (B8.out.trans (hb.mono z8))
  have z9 := B9.out.size
  clear hb hG
  go_wp2_with fail
  refine (CW.out _).mono ?_
  rintro e w10 ⟨rfl, hb⟩
  have B10 := Lib.hid (B9.out.trans (hb.mono z9))
  clear hb
  go_wp2_with fail
  go_ret
  exact ⟨rfl, B10.out⟩
end Go.Proofs.Ytdlglnkhhbkndaa

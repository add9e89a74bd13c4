/- StackChecksMatchSpec and StackDepthsMatchSpec, walked: package stack and the reference answer alike. -/
import Derived.Test.YtnjcahdelcdcfaaRAns
import Derived.Test.YtnjcahdelcdcfaaSAwake
namespace Go.Proofs.Ytnjcahdelcdcfaa
open Go.RowKit
set_option linter.unusedSimpArgs false
set_option linter.unusedVariables false
set_option maxRecDepth 100000

set_option maxHeartbeats 2000000 in
theorem checks_walk (A : Option Addr) (l : List Mat) (c : Nat) (A2 : Option Addr) (s : List Lay) (c2 : Nat) (w : World) (h : StkIn A l A2 s w) (hc2 : s.length ≤ c2) (hc3 : c2 ≤ 140737488355328) :
    Calls Try.prog 3 #[.slice A l.length c, .slice A2 s.length c2] w fun e w' => e = .returned (.bool true) ∧ Below w.heap.size w w' := by
  have HS := Lib.hid h
  have C1 := Lib.hid (fun W h => thickness_law (c := c) (c2 := c2) (l := l) (s := s) (A := A) (A2 := A2) (w := W) h)
  have C2 := Lib.hid (fun W h => rThickness_law (c := c) (c2 := c2) (l := l) (s := s) (A := A) (A2 := A2) (w := W) hc2 hc3 h)
  have hl1 := h.l1
  have hnn := h.n
  have C3 := Lib.hid (fun W h => checkMaterials_any A l c W hl1 h)
  have C4 := Lib.hid (fun W h => rCheckMaterials_any A l c W hl1 hnn h)
  have C5 := Lib.hid (fun W h => checkStack_any (c := c) (c2 := c2) (l := l) (s := s) (A := A) (A2 := A2) (w := W) h)
  have C6 := Lib.hid (fun W h => rCheckStack_any (c := c) (l := l) (A := A) (w := W) A2 s c2 hc2 hc3 h)
  have CW := Lib.hid (fun W => awake_any W)
  generalize stackF l s = F at *
  generalize thickF l s = T at *
  generalize matsF l = M at *
  have f1 : (F == F) = true := by simp
  have f2 : (T == T) = true := by simp
  have f3 : (M == M) = true := by simp
  clear h hnn
  go_enter Try.func3, Try.ntmps3
  go_wp2_with fail
  refine (C1.out _ HS.out).mono ?_
  rintro e w1 ⟨rfl, hb⟩
  have B1 := Lib.hid hb
  clear hb
  go_wp2_with fail
  refine (C2.out _ (HS.out.below B1.out)).mono ?_
  rintro e w2 ⟨rfl, hb⟩
  have B2 := Lib.hid (B1.out.trans (hb.mono B1.out.size))
  clear hb
  go_wp2_with fail
  refine (C3.out _ (HS.out.below B2.out).m).mono ?_
  rintro e w3 ⟨rfl, hb⟩
  have B3 := Lib.hid (B2.out.trans (hb.mono B2.out.size))
  clear hb
  go_wp2_with fail
  refine (C4.out _ (HS.out.below B3.out).m).mono ?_
  rintro e w4 ⟨rfl, hb⟩
  have B4 := Lib.hid (B3.out.trans (hb.mono B3.out.size))
  clear hb
  go_wp2_with fail
  refine (C5.out _ (HS.out.below B4.out)).mono ?_
  rintro e w5 ⟨rfl, hb⟩
  have B5 := Lib.hid (B4.out.trans (hb.mono B4.out.size))
  clear hb
  go_wp2_with fail
  refine (C6.out _ (HS.out.below B5.out)).mono ?_
  rintro e w6 ⟨rfl, hb⟩
  have B6 := Lib.hid (B5.out.trans (hb.mono B5.out.size))
  clear hb
  go_wp2_with fail
  refine (CW.out _).mono ?_
  rintro e w9 ⟨rfl, hb⟩
  have B9 := Lib.hid (B6.out.trans (hb.mono B6.out.size))
  clear hb
  go_wp2_with fail
  go_ret
  exact ⟨rfl, B9.out⟩

set_option maxHeartbeats 2000000 in
theorem depths_walk (A : Option Addr) (l : List Mat) (c : Nat) (A2 : Option Addr) (s : List Lay) (c2 : Nat) (a b : ByteArray) (w : World) (h : StkIn A l A2 s w) (hc2 : s.length ≤ c2) (hc3 : c2 ≤ 140737488355328) (ha : a.size ≤ maxLen) (hb' : b.size ≤ maxLen) :
    Calls Try.prog 4 #[.slice A l.length c, .slice A2 s.length c2, .string a, .string b] w fun e w' => e = .returned (.bool true) ∧ Below w.heap.size w w' := by
  have HS := Lib.hid h
  have C1 := Lib.hid (fun W h => depth_law (c := c) (c2 := c2) (l := l) (s := s) (A := A) (A2 := A2) (w := W) a ha h)
  have C2 := Lib.hid (fun W h => rDepth_law (c := c) (c2 := c2) (l := l) (s := s) (A := A) (A2 := A2) (w := W) a hc2 hc3 h)
  have C3 := Lib.hid (fun W h => apart_law (c := c) (c2 := c2) (l := l) (s := s) (A := A) (A2 := A2) (w := W) a b ha hb' h)
  have C4 := Lib.hid (fun W h => rApart_law (c := c) (c2 := c2) (l := l) (s := s) (A := A) (A2 := A2) (w := W) a b hc2 hc3 h)
  have CW := Lib.hid (fun W => awake_any W)
  generalize depthF l s a = D at *
  generalize apartF l s a b = E at *
  obtain ⟨D1, D2⟩ := D
  obtain ⟨E1, E2⟩ := E
  simp only at C1 C2 C3 C4
  have f1 : (D1 == D1) = true := by simp
  have f2 : (D2 == D2) = true := by simp
  have f3 : (E1 == E1) = true := by simp
  have f4 : (E2 == E2) = true := by simp
  have g1 : (D1 != D1) = false := by simp
  have g2 : (D2 != D2) = false := by simp
  clear h
  go_enter Try.func4, Try.ntmps4
  go_wp2_with fail
  refine (C1.out _ HS.out).mono ?_
  rintro e w1 ⟨rfl, hb⟩
  have B1 := Lib.hid hb
  clear hb
  go_wp2_with fail
  refine (C2.out _ (HS.out.below B1.out)).mono ?_
  rintro e w2 ⟨rfl, hb⟩
  have B2 := Lib.hid (B1.out.trans (hb.mono B1.out.size))
  clear hb
  go_wp2_with fail
  refine (C3.out _ (HS.out.below B2.out)).mono ?_
  rintro e w3 ⟨rfl, hb⟩
  have B3 := Lib.hid (B2.out.trans (hb.mono B2.out.size))
  clear hb
  go_wp2_with fail
  refine (C4.out _ (HS.out.below B3.out)).mono ?_
  rintro e w4 ⟨rfl, hb⟩
  have B4 := Lib.hid (B3.out.trans (hb.mono B3.out.size))
  clear hb
  go_wp2_with fail
  refine (CW.out _).mono ?_
  rintro e w9 ⟨rfl, hb⟩
  have B9 := Lib.hid (B4.out.trans (hb.mono B4.out.size))
  clear hb
  go_wp2_with fail
  go_ret
  exact ⟨rfl, B9.out⟩
end Go.Proofs.Ytnjcahdelcdcfaa

/- StackBowMatchesSpec, walked: Mirrored and Bow are as the reference has them; a mirrored stack bows the contrary way. -/
import Derived.Test.YtnjcahdelcdcfaaRBow
import Derived.Test.YtnjcahdelcdcfaaSAwake
namespace Go.Proofs.Ytnjcahdelcdcfaa
open Go.RowKit
set_option linter.unusedSimpArgs false
set_option linter.unusedVariables false
set_option maxRecDepth 100000

theorem bowGo_bound {S : Int} (hS0 : 0 ≤ S) (hS1 : S ≤ 2000000) : ∀ (R : List Row) (t : Int), RowsOk R → 0 ≤ t → t + thick R ≤ 2000000 → -20000000000000 * (R.length : Int) ≤ bowGo S t R ∧ bowGo S t R ≤ 20000000000000 * (R.length : Int)
  | [], t, _, _, _ => by simp [bowGo]
  | r :: R, t, h, ht, hb => by
    have hx := matF_zero (h r (.head _))
    have hr := thick_bound R fun q hq => h q (.tail _ hq)
    simp only [thick] at hb
    have ih := bowGo_bound hS0 hS1 R (t + r.2.thick) (fun q hq => h q (.tail _ hq)) (by omega) (by omega)
    have hp := mul_small (a := r.2.thick) (b := r.2.grow) (by omega) (by omega) (by omega) (by omega)
    have hq := mul_big (p := r.2.thick * r.2.grow) (d := 2 * t + r.2.thick - S) hp.1 hp.2 (by omega) (by omega)
    simp only [bowGo, List.length_cons]
    omega
theorem bowF_bound {l : List Mat} {s : List Lay} (h : stackF l s = 0) : -9000000000000000000 ≤ bowF l s ∧ bowF l s ≤ 9000000000000000000 := by
  have hok := stackF_rows h
  have hl : (rowsOf l s).length ≤ 60 := by
    rw [rows_eq h, List.length_map]
    exact (stackF_go h).2.1
  have ht := thick_bound _ hok
  have := bowGo_bound (S := thick (rowsOf l s)) (by omega) (by omega) (rowsOf l s) 0 hok (by omega) (by omega)
  unfold bowF
  rw [if_pos h]
  unfold bowR
  omega
theorem StkIn.mirror {A : Option Addr} {l : List Mat} {A2 A3 : Option Addr} {s : List Lay} {w w' : World} (h : StkIn A l A2 s w) (hb : Below w.heap.size w w') (hr : RdG 2 Lay.cs w' A3 s.reverse) : StkIn A l A3 s.reverse w' :=
  ⟨h.l1, by rw [List.length_reverse]; exact h.l2, h.n, fun y hy => h.t y (List.mem_reverse.1 hy), h.m.below hb, hr⟩
set_option maxHeartbeats 4000000 in
theorem bow_walk (A : Option Addr) (l : List Mat) (c : Nat) (A2 : Option Addr) (s : List Lay) (c2 : Nat) (w : World) (h : StkIn A l A2 s w) (hc2 : s.length ≤ c2) (hc3 : c2 ≤ 140737488355328) :
    Calls Try.prog 6 #[.slice A l.length c, .slice A2 s.length c2] w fun e w' => e = .returned (.bool true) ∧ Below w.heap.size w w' := by
  have HS := Lib.hid h
  have hl2 := h.l2
  have C1 := Lib.hid (fun W h => mirrored_law (c := c) (c2 := c2) (l := l) (s := s) (A := A) (A2 := A2) (w := W) h)
  have C2 := Lib.hid (fun W h => rMirrored_law (c := c) (c2 := c2) (l := l) (s := s) (A := A) (A2 := A2) (w := W) hc2 hc3 h)
  have C3 := Lib.hid (fun W h => bow_law (c := c) (c2 := c2) (l := l) (s := s) (A := A) (A2 := A2) (w := W) h)
  have C4 := Lib.hid (fun W h => rBow_law (c := c) (c2 := c2) (l := l) (s := s) (A := A) (A2 := A2) (w := W) hc2 hc3 h)
  have CW := Lib.hid (fun W => awake_any W)
  have hml : (mirF l s).length ≤ 140737488355328 := by
    unfold mirF
    split
    · rw [List.length_reverse]; exact hl2
    · simp
  have CE := Lib.hid (fun A1 A2 c1 c2 W h1 h2 => equalLay_any A1 A2 (mirF l s) (mirF l s) c1 c2 W hml hml h1 h2)
  have HMI := Lib.hid (show stackF l s = 0 → mirF l s = s.reverse from fun h0 => if_pos h0)
  unfold MirPost at C1 C2
  clear h hml
  by_cases h0 : stackF l s = 0
  · obtain ⟨n1, n2⟩ := bowF_bound h0
    have HBM := Lib.hid (bowF_mirror h0)
    have HSR := Lib.hid (stackF_reverse h0).1
    have HOW := Lib.hid (fun (ho : ownS s) => bowF_own h0 ho)
    have CO := Lib.hid (fun W h => ownMirror_any A2 s c2 W hl2 h)
    have C5 := Lib.hid (fun A3 c3 W (h : StkIn A l A3 s.reverse W) => bow_law (c := c) (c2 := c3) (l := l) (s := s.reverse) (A := A) (A2 := A3) (w := W) h)
    rw [HBM.out, HSR.out] at C5
    rw [HMI.out h0] at C1 C2 CE
    simp only [List.length_reverse] at C1 C2 CE C5
    rw [h0] at C1 C2 C3 C4
    generalize bowF l s = G at *
    have f1 : (G == G) = true := by simp
    have f2 : (G != G) = false := by simp
    have f3 : IntKind.i64.wrap (-G) = -G := IntWalk.i64_in _ (by omega)
    have f4 : (-G == -G) = true := by simp
    have f5 : -9223372036854775808 ≤ -G := by omega
    have f6 : -G ≤ 9223372036854775807 := by omega
    clear h0 HMI HBM HSR
    go_enter Try.func6, Try.ntmps6
    go_wp2_with fail
    with_reducible refine (C1.out _ HS.out).mono ?_
    rintro e w1 ⟨Ax, cx, q1, q2, rfl, hr, hb⟩
    have RX := Lib.hid hr
    have B1 := Lib.hid hb
    clear hr hb
    go_wp2_with fail
    with_reducible refine (C2.out _ (HS.out.below B1.out)).mono ?_
    rintro e w2 ⟨Ay, cy, p1, p2, rfl, hr, hb⟩
    have RX2 := Lib.hid (RX.out.below hb)
    have RY := Lib.hid hr
    have B2 := Lib.hid (B1.out.trans (hb.mono B1.out.size))
    clear hr hb
    go_wp2_with fail
    with_reducible refine (CE.out _ _ _ _ _ RX2.out RY.out).mono ?_
    rintro e w3 ⟨E, hE, rfl, hb⟩
    obtain rfl : E = true := hE.2 trivial
    have RX3 := Lib.hid (RX2.out.below hb)
    have B3 := Lib.hid (B2.out.trans (hb.mono B2.out.size))
    clear hb hE
    go_wp2_with fail
    with_reducible refine (C3.out _ (HS.out.below B3.out)).mono ?_
    rintro e w4 ⟨rfl, hb⟩
    have RX4 := Lib.hid (RX3.out.below hb)
    have B4 := Lib.hid (B3.out.trans (hb.mono B3.out.size))
    clear hb
    go_wp2_with fail
    with_reducible refine (C4.out _ (HS.out.below B4.out)).mono ?_
    rintro e w5 ⟨rfl, hb⟩
    have RX5 := Lib.hid (RX4.out.below hb)
    have B5 := Lib.hid (B4.out.trans (hb.mono B4.out.size))
    clear hb
    go_wp2_with fail
    with_reducible refine (CW.out _).mono ?_
    rintro e w6 ⟨rfl, hb⟩
    have RX6 := Lib.hid (RX5.out.below hb)
    have B6 := Lib.hid (B5.out.trans (hb.mono B5.out.size))
    clear hb
    go_wp2_with fail
    with_reducible refine (C5.out _ _ _ (HS.out.mirror B6.out RX6.out)).mono ?_
    rintro e w7 ⟨rfl, hb⟩
    have B7 := Lib.hid (B6.out.trans (hb.mono B6.out.size))
    clear hb
    go_wp2_with fail
    with_reducible refine (CO.out _ (HS.out.y.below B7.out)).mono ?_
    rintro e w8 ⟨O, hO, rfl, hb⟩
    have B8 := Lib.hid (B7.out.trans (hb.mono B7.out.size))
    have HO := Lib.hid hO
    clear hb hO
    cases O with
    | false =>
      go_wp2_with fail
      go_ret
      exact ⟨rfl, B8.out⟩
    | true =>
      have hG0 : (G == 0) = true := by
        have := HOW.out (HO.out rfl)
        simpa using this
      go_wp2_with fail
      go_ret
      exact ⟨rfl, B8.out⟩
  · have hm0 : mirF l s = [] := if_neg h0
    rw [hm0] at C1 C2 CE
    simp only [List.length_nil] at C1 C2 CE
    generalize bowF l s = G at *
    generalize stackF l s = F at *
    have hd1 : (F == 0) = false := by simpa using h0
    have hd2 : (F != 0) = true := by simpa using h0
    have f1 : (G == G) = true := by simp
    have f2 : (G != G) = false := by simp
    have f3 : (F == F) = true := by simp
    have f4 : (F != F) = false := by simp
    clear h0 HMI hm0
    go_enter Try.func6, Try.ntmps6
    go_wp2_with fail
    with_reducible refine (C1.out _ HS.out).mono ?_
    rintro e w1 ⟨Ax, cx, q1, q2, rfl, hr, hb⟩
    have RX := Lib.hid hr
    have B1 := Lib.hid hb
    clear hr hb
    go_wp2_with fail
    with_reducible refine (C2.out _ (HS.out.below B1.out)).mono ?_
    rintro e w2 ⟨Ay, cy, p1, p2, rfl, hr, hb⟩
    have RX2 := Lib.hid (RX.out.below hb)
    have RY := Lib.hid hr
    have B2 := Lib.hid (B1.out.trans (hb.mono B1.out.size))
    clear hr hb
    go_wp2_with fail
    with_reducible refine (CE.out _ _ _ _ _ RX2.out RY.out).mono ?_
    rintro e w3 ⟨E, hE, rfl, hb⟩
    obtain rfl : E = true := hE.2 trivial
    have B3 := Lib.hid (B2.out.trans (hb.mono B2.out.size))
    clear hb hE
    go_wp2_with fail
    with_reducible refine (C3.out _ (HS.out.below B3.out)).mono ?_
    rintro e w4 ⟨rfl, hb⟩
    have B4 := Lib.hid (B3.out.trans (hb.mono B3.out.size))
    clear hb
    go_wp2_with fail
    with_reducible refine (C4.out _ (HS.out.below B4.out)).mono ?_
    rintro e w5 ⟨rfl, hb⟩
    have B5 := Lib.hid (B4.out.trans (hb.mono B4.out.size))
    clear hb
    go_wp2_with fail
    with_reducible refine (CW.out _).mono ?_
    rintro e w6 ⟨rfl, hb⟩
    have B6 := Lib.hid (B5.out.trans (hb.mono B5.out.size))
    clear hb
    go_wp2_with fail
    go_ret
    exact ⟨rfl, B6.out⟩
end Go.Proofs.Ytnjcahdelcdcfaa

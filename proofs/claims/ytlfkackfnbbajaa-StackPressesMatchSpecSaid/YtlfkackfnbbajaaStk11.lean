/- StackPressesMatchSpec, walked: package stack and the reference answer alike. -/
import Derived.Test.YtlfkackfnbbajaaEndA
import Derived.Test.YtlfkackfnbbajaaSAwake
namespace Go.Proofs.Ytlfkackfnbbajaa
open Go.RowKit Go.Maps
set_option linter.unusedSimpArgs false
set_option linter.unusedVariables false
set_option maxRecDepth 100000

theorem stk_coppers {l : List Mat} {s : List Lay} (h : stackF l s = 0) : (cus (rowsOf l s)).length ≤ 1000 := by
  have h1 := cus_few (rowsOf l s) 0
  have h2 : (rowsOf l s).length ≤ 60 := by
    rw [rows_eq h, List.length_map]
    exact (stackF_go h).2.1
  unfold cus
  omega
set_option maxHeartbeats 4000000 in
theorem presses_walk (A : Option Addr) (l : List Mat) (c : Nat) (A2 : Option Addr) (s : List Lay) (c2 : Nat) (A3 : Option Addr) (t : List Thr) (c3 : Nat) (w : World) (h : StkIn A l A2 s w) (hc2 : s.length ≤ c2) (hc2' : c2 ≤ 140737488355328) (hl3 : t.length ≤ c3) (hc3 : c3 ≤ 140737488355328) (hd : RdG 2 Thr.cs w A3 t) (htr : True) :
    Calls Try.prog 9 #[.slice A l.length c, .slice A2 s.length c2, .slice A3 t.length c3] w fun e w' => e = .returned (.bool true) ∧ Below w.heap.size w w' := by
  have CW := Lib.hid (fun W => awake_any W)
  by_cases h0 : pressedF l s t = 0
  · obtain ⟨hs0, ht0, -⟩ := pressed_zero h0
    obtain ⟨ht1, ht2⟩ := thrF_zero ht0
    have h2 := form_two (stackF_form hs0)
    have C1 := Lib.hid (presses_yes (c := c) (c2 := c2) h A3 t c3 (by omega) hd h0)
    have C2 := Lib.hid (fun W (hb : Below w.heap.size w W) => rPresses_yes (c := c) (w := W) (h.below hb) hc2 hc2' A3 t c3 (by omega) (hd.below hb) h0)
    have C30 := fun W (hb : Below w.heap.size w W) => checkSpans_law (c := c) (c2 := c2) (w := W) (h.below hb) A3 t c3 (by omega) (hd.below hb)
    have C40 := fun W (hb : Below w.heap.size w W) => rSpans_any (c := c) (w := W) (h.below hb) hc2 hc2' A3 t c3 (by omega) (hd.below hb)
    rw [h0] at C30 C40
    have C3 := Lib.hid C30
    have C4 := Lib.hid C40
    have C5 := Lib.hid (fun W (hb : Below w.heap.size w W) => cycles_yes (c := c) (c2 := c2) (w := W) (h.below hb) A3 t c3 (by omega) (hd.below hb) h0)
    have C6 := Lib.hid (fun W (hb : Below w.heap.size w W) => rCycles_yes (c := c) (w := W) (h.below hb) hc2 hc2' A3 t c3 (by omega) (hd.below hb) h0)
    have HPS := Lib.hid (fun ho => presses_same (subs_press h2 ht2 ho) ho (pressed_bd h0))
    have HCS := Lib.hid (fun ho => show cycT (cus (rowsOf l s)).length ((subsF (rowsOf l s) t).map Sb.ab) = cycT (cus (rowsOf l s)).length (pressL (rowsOf l s) t) by rw [subs_press h2 ht2 ho, cycT_er])
    have HLN := Lib.hid (fun (S : List Brd) (hS : S.map Brd.ab = pressL (rowsOf l s) t) (ho : OrdL (rowsOf l s) t) => show S.length ≤ 140737488355328 by
      have e1 := congrArg List.length hS
      have e2 := ho.1.length_eq
      have e3 := boards_length (rowsOf l s) t
      have e4 := stk_coppers hs0
      rw [List.length_map] at e1
      omega)
    clear C30 C40 h hd h0 hs0 ht0 ht1 ht2 h2 htr
    generalize rowsOf l s = R at *
    go_enter Try.func9, Try.ntmps9
    go_wp2_with fail
    refine C1.out.mono ?_
    rintro e w1 ⟨v1, S1, rfl, hab1, hord, hat1, hb⟩
    have HORD := Lib.hid hord
    have HAB1 := Lib.hid hab1
    have HAT1 := Lib.hid hat1
    have B1 := Lib.hid hb
    obtain ⟨A7, c7, rfl, -, -, -⟩ := own_cells hat1.o
    have z1 := hb.size
    clear hab1 hord hat1 hb
    go_wp2_with fail
    refine (C2.out _ B1.out).mono ?_
    rintro e w2 ⟨v2, S2, rfl, hab2, hat2, hb⟩
    have HAB2 := Lib.hid hab2
    have HAT2 := Lib.hid hat2
    have B2 := Lib.hid (B1.out.trans (hb.mono z1))
    have K1 := Lib.hid (HAT1.out.old hb)
    obtain ⟨A8, c8, rfl, -, -, -⟩ := own_cells hat2.o
    have z2 := B2.out.size
    clear hab2 hat2 hb
    go_wp2_with fail
    refine (C3.out _ B2.out).mono ?_
    rintro e w3 ⟨rfl, hb⟩
    have B3 := Lib.hid (B2.out.trans (hb.mono z2))
    have L1 := Lib.hid (K1.out.old hb)
    have L2 := Lib.hid (HAT2.out.old hb)
    have z3 := B3.out.size
    clear hb
    go_wp2_with fail
    refine (C4.out _ B3.out).mono ?_
    rintro e w4 ⟨rfl, hb⟩
    have B4 := Lib.hid (B3.out.trans (hb.mono z3))
    have M1 := Lib.hid (L1.out.old hb)
    have M2 := Lib.hid (L2.out.old hb)
    have z4 := B4.out.size
    clear hb
    have CSM := Lib.hid (sameP_any M1.out M2.out (by rw [HAB1.out, HAB2.out, HPS.out HORD.out]) (HLN.out S1 HAB1.out HORD.out))
    go_wp2_with fail
    refine CSM.out.mono ?_
    rintro e w5 ⟨rfl, hb⟩
    have B5 := Lib.hid (B4.out.trans (hb.mono z4))
    have z5 := B5.out.size
    clear hb
    go_wp2_with fail
    refine (C5.out _ B5.out).mono ?_
    rintro e w6 ⟨g6, rfl, ho6, hb⟩
    have HO6 := Lib.hid ho6
    have B6 := Lib.hid (B5.out.trans (hb.mono z5))
    have z6 := B6.out.size
    clear hb ho6
    go_wp2_with fail
    refine (C6.out _ B6.out).mono ?_
    rintro e w7 ⟨g7, rfl, ho7, hb⟩
    have HO7 := Lib.hid ho7
    have HO6' := Lib.hid (own_below HO6.out hb)
    have B7 := Lib.hid (B6.out.trans (hb.mono z6))
    have z7 := B7.out.size
    clear hb ho7
    have CE := Lib.hid (show Calls Try.prog 34 #[.slice (some ⟨g6, 0, none⟩) (cus R).length (cus R).length, .slice (some ⟨g7, 0, none⟩) (cus R).length (cus R).length] w7 (fun e w' => e = .returned (.bool true) ∧ Below w7.heap.size w7 w') by
      have o6 := HO6'.out
      have o7 := HO7.out
      rw [HCS.out HORD.out] at o7
      have e9 : (cus R).length = (cycT (cus R).length (pressL R t)).length := by simp [cycT]
      generalize cycT (cus R).length (pressL R t) = zs at *
      have := equal_ints (zs := zs) (v1 := .slice (some ⟨g6, 0, none⟩) (cus R).length (cus R).length) (v2 := .slice (some ⟨g7, 0, none⟩) (cus R).length (cus R).length) (by rw [← e9]; exact o6) (by rw [← e9]; exact o7)
      exact this)
    go_wp2_with fail
    refine CE.out.mono ?_
    rintro e w8 ⟨rfl, hb⟩
    have B8 := Lib.hid (B7.out.trans (hb.mono z7))
    have z8 := B8.out.size
    clear hb
    go_wp2_with fail
    refine (CW.out _).mono ?_
    rintro e w9 ⟨rfl, hb⟩
    have B9 := Lib.hid (B8.out.trans (hb.mono z8))
    clear hb
    go_wp2_with fail
    go_ret
    exact ⟨rfl, B9.out⟩
  · have C1 := Lib.hid (presses_no (c := c) (c2 := c2) h A3 t c3 (by omega) hd h0)
    have C2 := Lib.hid (fun W (hb : Below w.heap.size w W) => rPresses_no (c := c) (w := W) (h.below hb) hc2 hc2' A3 t c3 (by omega) (hd.below hb) h0)
    have C3 := Lib.hid (fun W (hb : Below w.heap.size w W) => checkSpans_law (c := c) (c2 := c2) (w := W) (h.below hb) A3 t c3 (by omega) (hd.below hb))
    have C4 := Lib.hid (fun W (hb : Below w.heap.size w W) => rSpans_any (c := c) (w := W) (h.below hb) hc2 hc2' A3 t c3 (by omega) (hd.below hb))
    have C5 := Lib.hid (fun W (hb : Below w.heap.size w W) => cycles_no (c := c) (c2 := c2) (w := W) (h.below hb) A3 t c3 (by omega) (hd.below hb) h0)
    have C6 := Lib.hid (fun W (hb : Below w.heap.size w W) => rCycles_no (c := c) (w := W) (h.below hb) hc2 hc2' A3 t c3 (by omega) (hd.below hb) h0)
    have CSM := Lib.hid (fun W => sameP_any (w := W) (B1 := 0) (B2 := 0) (S1 := []) (S2 := []) (v1 := .slice none 0 0) (v2 := .slice none 0 0) ⟨own_nil, fun r hr => by cases hr⟩ ⟨own_nil, fun r hr => by cases hr⟩ rfl (by simp))
    have CE := Lib.hid (fun W => equal_ints (w := W) (B1 := 0) (B2 := 0) (zs := []) (v1 := .slice none 0 0) (v2 := .slice none 0 0) own_nil own_nil)
    generalize pressedF l s t = F at *
    have m1 : (F != F) = false := by simp
    have m2 : (F == F) = true := by simp
    clear h hd h0 htr
    go_enter Try.func9, Try.ntmps9
    go_wp2_with fail
    refine C1.out.mono ?_
    rintro e w1 ⟨rfl, hb⟩
    have B1 := Lib.hid hb
    have z1 := hb.size
    clear hb
    go_wp2_with fail
    refine (C2.out _ B1.out).mono ?_
    rintro e w2 ⟨rfl, hb⟩
    have B2 := Lib.hid (B1.out.trans (hb.mono z1))
    have z2 := B2.out.size
    clear hb
    go_wp2_with fail
    refine (C3.out _ B2.out).mono ?_
    rintro e w3 ⟨rfl, hb⟩
    have B3 := Lib.hid (B2.out.trans (hb.mono z2))
    have z3 := B3.out.size
    clear hb
    go_wp2_with fail
    refine (C4.out _ B3.out).mono ?_
    rintro e w4 ⟨rfl, hb⟩
    have B4 := Lib.hid (B3.out.trans (hb.mono z3))
    have z4 := B4.out.size
    clear hb
    go_wp2_with fail
    refine (CSM.out _).mono ?_
    rintro e w5 ⟨rfl, hb⟩
    have B5 := Lib.hid (B4.out.trans (hb.mono z4))
    have z5 := B5.out.size
    clear hb
    go_wp2_with fail
    refine (C5.out _ B5.out).mono ?_
    rintro e w6 ⟨rfl, hb⟩
    have B6 := Lib.hid (B5.out.trans (hb.mono z5))
    have z6 := B6.out.size
    clear hb
    go_wp2_with fail
    refine (C6.out _ B6.out).mono ?_
    rintro e w7 ⟨rfl, hb⟩
    have B7 := Lib.hid (B6.out.trans (hb.mono z6))
    have z7 := B7.out.size
    clear hb
    go_wp2_with fail
    refine (CE.out _).mono ?_
    rintro e w8 ⟨rfl, hb⟩
    have B8 := Lib.hid (B7.out.trans (hb.mono z7))
    have z8 := B8.out.size
    clear hb
    go_wp2_with fail
    refine (CW.out _).mono ?_
    rintro e w9 ⟨rfl, hb⟩
    have B9 := Lib.hid (B8.out.trans (hb.mono z8))
    clear hb
    go_wp2_with fail
    go_ret
    exact ⟨rfl, B9.out⟩
end Go.Proofs.Ytlfkackfnbbajaa

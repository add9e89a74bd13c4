/- The law SetsMatchSpec: for every two slices of rectangles, Union, Both, Minus and Area of the program answer as those of the reference do. -/
import Derived.Test.YtmcbjaefnhfopaaGreatMixC
import Derived.Test.YtmcbjaefnhfopaaGreatAwake
import Derived.Test.YtmcbjaefnhfopaaGreatOpens
import Derived.Test.YtmcbjaefnhfopaaGreatShapeN
namespace Go.Proofs.YtmcbjaefnhfopaaGreat
open Go.ChangeShapes Go.WideShapes Go.ChangeAt Go.RowKit
open Reg (R4)
set_option linter.unusedSimpArgs false
set_option linter.unusedVariables false

theorem open_none {H : Type} {enc : TypeId × Value → H} {w : World} {base : Nat} {held : Bool} {n c : Nat} {d : DataW H} {p : List MemPlace} (h : DataW.Trod enc Tryz.prog w base (fun _ => true) held 22 (.slice none n c) d p) : c = 0 := by
  obtain ⟨fuel, hf⟩ := h
  rcases DataW.trod_slice Tryz.underlying22 hf with ⟨hcs, hx⟩ | ⟨a, len', cap', elems, rest, n, _, hcs, hx, hb, hl, hm, hlen, hel, hsp, hns⟩
  · simp [Value.cells] at hcs
    exact hcs.2
  · simp [Value.cells] at hcs

set_option maxRecDepth 100000 in
set_option maxHeartbeats 4000000 in
theorem setsMatchSpec_walk (A : Option Addr) (a : List R4) (ca : Nat) (B : Option Addr) (b : List R4) (cb : Nat) (w : World) (la : a.length ≤ ca) (ra : ca ≤ 140737488355328) (h1 : Rd w A a) (na : A = none → ca = 0) (lb : b.length ≤ cb) (rb : cb ≤ 140737488355328) (h2 : Rd w B b) (nb : B = none → cb = 0) :
    Calls Tryz.prog 3 #[.slice A a.length ca, .slice B b.length cb] w fun e w' => e = .returned (.bool true) ∧ Below w.heap.size w w' := by
  have ra' : ca ≤ maxLen := by simp only [maxLen]; omega
  have rb' : cb ≤ maxLen := by simp only [maxLen]; omega
  have Ha0 := Lib.hid h1
  have Hb0 := Lib.hid h2
  have C1 := Lib.hid (fun W h1 h2 => union_any A B a b ca cb W la lb ra' rb' (by omega) (by omega) h1 h2)
  have D1 := Lib.hid (fun W h1 h2 => runion_any A B a b ca cb W la lb ra rb na nb h1 h2)
  have L1 := stL_len orK a b
  have E1 := Lib.hid (fun A1 A2 c1 c2 W h1 h2 => equal_any A1 A2 (stL orK a b) (stL orK a b) c1 c2 W (by omega) (by omega) h1 h2)
  rw [decide_eq_true rfl] at E1
  unfold GotRF at C1
  unfold GotRd at D1
  have C2 := Lib.hid (fun W h1 h2 => bothR_any A B a b ca cb W la lb ra' rb' (by omega) (by omega) h1 h2)
  have D2 := Lib.hid (fun W h1 h2 => rboth_any A B a b ca cb W la lb ra rb na nb h1 h2)
  have L2 := stL_len andK a b
  have E2 := Lib.hid (fun A1 A2 c1 c2 W h1 h2 => equal_any A1 A2 (stL andK a b) (stL andK a b) c1 c2 W (by omega) (by omega) h1 h2)
  rw [decide_eq_true rfl] at E2
  unfold GotRF at C2
  unfold GotRd at D2
  have C3 := Lib.hid (fun W h1 h2 => minus_any A B a b ca cb W la lb ra' rb' (by omega) (by omega) h1 h2)
  have D3 := Lib.hid (fun W h1 h2 => rminus_any A B a b ca cb W la lb ra rb na nb h1 h2)
  have L3 := stL_len notK a b
  have E3 := Lib.hid (fun A1 A2 c1 c2 W h1 h2 => equal_any A1 A2 (stL notK a b) (stL notK a b) c1 c2 W (by omega) (by omega) h1 h2)
  rw [decide_eq_true rfl] at E3
  unfold GotRF at C3
  unfold GotRd at D3
  have CA := Lib.hid (fun W h => area_any A a ca W la ra h)
  have DA := Lib.hid (fun W h => rarea_any A a ca W la ra h)
  have CW := Lib.hid (fun W => awake_any W)
  clear h1 h2 na nb
  generalize stL orK a b = M1 at *
  generalize stF orK a b = F1 at *
  generalize stL andK a b = M2 at *
  generalize stF andK a b = F2 at *
  generalize stL notK a b = M3 at *
  generalize stF notK a b = F3 at *
  generalize areaF a = S at *
  generalize regF a = G at *
  go_enter Tryz.func3, Tryz.ntmps3
  go_wp2_with fail
  refine (C1.out w Ha0.out Hb0.out).mono ?_
  rintro e w1 ⟨v, rfl, ho, hb⟩
  have Ha1 := Lib.hid (Ha0.out.below hb)
  have Hb1 := Lib.hid (Hb0.out.below hb)
  have B1 := Lib.hid hb
  obtain ⟨P1, p1, rfl, -, -, hr, -⟩ := rd_own ho
  have X1 := Lib.hid hr
  clear ho hr hb
  go_wp2_with fail
  refine (D1.out w1 Ha1.out Hb1.out).mono ?_
  rintro e w2 ⟨Q1, q1, rfl, hr, -, -, hb⟩
  have Ha2 := Lib.hid (Ha1.out.below hb)
  have Hb2 := Lib.hid (Hb1.out.below hb)
  have X2 := Lib.hid (X1.out.below hb)
  have B2 := Lib.hid (B1.out.trans (hb.mono B1.out.size))
  have Y2 := Lib.hid hr
  clear hr hb
  go_wp2_with fail
  refine (E1.out P1 Q1 p1 q1 w2 X2.out Y2.out).mono ?_
  rintro e w3 ⟨rfl, hb⟩
  have Ha3 := Lib.hid (Ha2.out.below hb)
  have Hb3 := Lib.hid (Hb2.out.below hb)
  have B3 := Lib.hid (B2.out.trans (hb.mono B2.out.size))
  clear hb
  go_wp2_with fail
  refine (C2.out w3 Ha3.out Hb3.out).mono ?_
  rintro e w4 ⟨v, rfl, ho, hb⟩
  have Ha4 := Lib.hid (Ha3.out.below hb)
  have Hb4 := Lib.hid (Hb3.out.below hb)
  have B4 := Lib.hid (B3.out.trans (hb.mono B3.out.size))
  obtain ⟨P2, p2, rfl, -, -, hr, -⟩ := rd_own ho
  have X4 := Lib.hid hr
  clear ho hr hb
  go_wp2_with fail
  refine (D2.out w4 Ha4.out Hb4.out).mono ?_
  rintro e w5 ⟨Q2, q2, rfl, hr, -, -, hb⟩
  have Ha5 := Lib.hid (Ha4.out.below hb)
  have Hb5 := Lib.hid (Hb4.out.below hb)
  have X5 := Lib.hid (X4.out.below hb)
  have B5 := Lib.hid (B4.out.trans (hb.mono B4.out.size))
  have Y5 := Lib.hid hr
  clear hr hb
  go_wp2_with fail
  refine (E2.out P2 Q2 p2 q2 w5 X5.out Y5.out).mono ?_
  rintro e w6 ⟨rfl, hb⟩
  have Ha6 := Lib.hid (Ha5.out.below hb)
  have Hb6 := Lib.hid (Hb5.out.below hb)
  have B6 := Lib.hid (B5.out.trans (hb.mono B5.out.size))
  clear hb
  go_wp2_with fail
  refine (C3.out w6 Ha6.out Hb6.out).mono ?_
  rintro e w7 ⟨v, rfl, ho, hb⟩
  have Ha7 := Lib.hid (Ha6.out.below hb)
  have Hb7 := Lib.hid (Hb6.out.below hb)
  have B7 := Lib.hid (B6.out.trans (hb.mono B6.out.size))
  obtain ⟨P3, p3, rfl, -, -, hr, -⟩ := rd_own ho
  have X7 := Lib.hid hr
  clear ho hr hb
  go_wp2_with fail
  refine (D3.out w7 Ha7.out Hb7.out).mono ?_
  rintro e w8 ⟨Q3, q3, rfl, hr, -, -, hb⟩
  have Ha8 := Lib.hid (Ha7.out.below hb)
  have Hb8 := Lib.hid (Hb7.out.below hb)
  have X8 := Lib.hid (X7.out.below hb)
  have B8 := Lib.hid (B7.out.trans (hb.mono B7.out.size))
  have Y8 := Lib.hid hr
  clear hr hb
  go_wp2_with fail
  refine (CA.out w8 Ha8.out).mono ?_
  rintro e w9 ⟨rfl, hb⟩
  have Ha9 := Lib.hid (Ha8.out.below hb)
  have X9 := Lib.hid (X8.out.below hb)
  have Y9 := Lib.hid (Y8.out.below hb)
  have B9 := Lib.hid (B8.out.trans (hb.mono B8.out.size))
  clear hb
  go_wp2_with fail
  refine (DA.out w9 Ha9.out).mono ?_
  rintro e w10 ⟨rfl, hb⟩
  have X10 := Lib.hid (X9.out.below hb)
  have Y10 := Lib.hid (Y9.out.below hb)
  have B10 := Lib.hid (B9.out.trans (hb.mono B9.out.size))
  clear hb
  go_wp2_with fail
  refine (E3.out P3 Q3 p3 q3 w10 X10.out Y10.out).mono ?_
  rintro e w11 ⟨rfl, hb⟩
  have B11 := Lib.hid (B10.out.trans (hb.mono B10.out.size))
  clear hb
  go_wp2_with fail
  refine (CW.out w11).mono ?_
  rintro e w12 ⟨rfl, hb⟩
  have B12 := Lib.hid (B11.out.trans (hb.mono B11.out.size))
  clear hb
  go_wp2_with fail
  go_ret
  exact ⟨rfl, B12.out⟩

set_option maxRecDepth 100000 in
theorem setsMatchSpec_lifted (os : Os) (started : os.Started) (H : Type) (enc : TypeId × Value → H) :
    ReturnsInHanded {} Tryz.checked os 3 .any (Rows.setsMatchSpecSpec.pre6 enc Tryz.prog Tryz.f3 Rows.setsMatchSpecRow.domain false) (Rows.setsMatchSpecSpec.post enc Tryz.prog Tryz.f3 false true false false) := by
  refine returnsInHanded_of_change_sized (C := Tryz.checked) own started (by kernel_rfl) Tryz.func3
    (ChangeSpec.witness6 (enc := enc) (C := Tryz.checked) false ⟨#[], #[.slice none 0 0, .slice none 0 0], []⟩ 8 (by kernel_rfl) (by kernel_rfl) (by kernel_rfl) (by kernel_rfl)) ?_
  intro W base args ds gs before hval0 hW hcnd hsz0 _
  have hval : ∀ (j : Nat) t v, Tryz.f3.params[j]? = some t → args[j]? = some v → Value.okWide Tryz.prog W .any base t v := hval0
  have hsz : (DataW.weightsEach Tryz.prog (Tryz.f3.params.toList ++ Rows.setsMatchSpecSpec.plain.varTypes Tryz.prog) (ds ++ gs)).all (· ≤ reachBytes) = true := hsz0
  have hW' := hW
  obtain ⟨p, q, hA0, hV, rfl, hfz, hnd⟩ := hW
  have hA : DataW.TrodAll enc Tryz.prog W 0 (fun _ => true) true Tryz.f3.params.toList args.toList ds p := hA0
  rw [Tryz.params3] at hA hval hsz
  obtain ⟨v0, vs0, d0, ds0, p0, q0, hargs, rfl, rfl, h0, r0⟩ := trodAll_cons hA
  obtain ⟨v1, vs1, d1, ds1, p1, q1, rfl, rfl, rfl, h1, r1⟩ := trodAll_cons r0
  obtain ⟨rfl, rfl, rfl⟩ := trodAll_nil r1
  obtain rfl : args = #[v0, v1] := by cases args; simp_all
  obtain ⟨rfl, rfl⟩ := trodVars_none hV
  have k0 := h0
  have lt0 : ∀ x ∈ p0, x.block < W.heap.size := by obtain ⟨m, hm⟩ := k0; exact DataW.trod_lt m _ _ _ hm
  obtain ⟨A0, l0, c0, rfl, hl0, hr0, hc0⟩ := open_rects (hval 0 22 v0 rfl rfl) h0
  have hb0 := rects_room hsz (j := 0) rfl rfl hc0
  have k1 := h1
  have lt1 : ∀ x ∈ p1, x.block < W.heap.size := by obtain ⟨m, hm⟩ := k1; exact DataW.trod_lt m _ _ _ hm
  obtain ⟨A1, l1, c1, rfl, hl1, hr1, hc1⟩ := open_rects (hval 1 22 v1 rfl rfl) h1
  have hb1 := rects_room hsz (j := 1) rfl rfl hc1
  clear hA0 hval0 hsz0
  refine (setsMatchSpec_walk A0 l0 c0 A1 l1 c1 W hl0 hb0 hr0 (fun e => by subst e; exact open_none h0) hl1 hb1 hr1 (fun e => by subst e; exact open_none h1)).mono fun e W' ⟨he, bel⟩ => ?_
  subst he
  exact ⟨_, rfl, _, _, _, [], _, [], hW', trodAll_mk1 (shut_bool Tryz.underlying4 _), (trodAll_cons_mk (Below.trod laidOut (by kernel_rfl) (of_decide_eq_true (by kernel_rfl)) k0 bel lt0) (trodAll_cons_mk (Below.trod laidOut (by kernel_rfl) (of_decide_eq_true (by kernel_rfl)) k1 bel lt1) trodAll_mk0)), rfl, bel.frame _, fun h => by cases h⟩

set_option maxRecDepth 100000 in
theorem setsMatchSpec_holds : Rows.SetsMatchSpecSaid :=
  OpenClaim.holds_of_wide 3 Tryz.f3 rfl rfl rfl rfl rfl rfl rfl ⟨rfl, rfl, rfl, rfl, rfl⟩ rfl rfl rfl rfl rfl (by kernel_rfl) Tryz.func3 (by kernel_rfl)
    (of_decide_eq_true (by kernel_rfl)) (by unfold Func.isWrapper; rw [if_neg (by decide +kernel)]; exact ⟨rfl, rfl⟩)
    (fun os started H enc _ => setsMatchSpec_lifted os started H enc)
end Go.Proofs.YtmcbjaefnhfopaaGreat

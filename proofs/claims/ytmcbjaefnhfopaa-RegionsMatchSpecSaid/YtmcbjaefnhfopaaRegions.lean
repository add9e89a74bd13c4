/- The law RegionsMatchSpec: for every slice of rectangles, CheckRects, CheckRegion and Region of the program answer as those of the reference do. -/
import Derived.Test.YtmcbjaefnhfopaaSweepL
import Derived.Test.YtmcbjaefnhfopaaAwake
import Derived.Test.YtmcbjaefnhfopaaOpens
namespace Go.Proofs.Ytmcbjaefnhfopaa
open Go.ChangeShapes Go.WideShapes Go.ChangeAt Go.RowKit
open Reg (R4)
set_option linter.unusedSimpArgs false
set_option linter.unusedVariables false

set_option maxRecDepth 100000 in
set_option maxHeartbeats 2000000 in
theorem regions_walk (A : Option Addr) (l : List R4) (c : Nat) (w : World) (hl : l.length ≤ c) (hc : c ≤ 140737488355328) (h : Rd w A l) :
    Calls Try.prog 3 #[.slice A l.length c] w fun e w' => e = .returned (.bool true) ∧ Below w.heap.size w w' := by
  have H0 := Lib.hid h
  clear h
  have C1 := Lib.hid (fun W h => region_any A l c W (by omega) h)
  have C2 := Lib.hid (fun W h => rregion_any A l c W (by omega) h)
  have C3 := Lib.hid (fun W h => checkRects_any A l c W (by omega) h)
  have C4 := Lib.hid (fun W h => rcheckRects_any A l c W (by omega) h)
  have C5 := Lib.hid (fun W h => checkRegion_any A l c W hl hc h)
  have C6 := Lib.hid (fun W h => rcheckRegion_any A l c W hl hc h)
  have C7 := Lib.hid (fun W => awake_any W)
  have hrl : (rgL l).length ≤ 2000 := by
    unfold rgL resL
    split
    · split
      · assumption
      · simp
    · simp
  have C8 := Lib.hid (fun A1 A2 c1 c2 W h1 h2 => equal_any A1 A2 (rgL l) (rgL l) c1 c2 W (by omega) (by omega) h1 h2)
  rw [decide_eq_true rfl] at C8
  unfold GotRF at C1
  unfold GotRd at C2
  generalize rgL l = L at *
  generalize rgF l = F at *
  generalize rectsF l = G at *
  generalize regF l = K at *
  go_enter Try.func3, Try.ntmps3
  go_wp2_with fail
  refine (C1.out w H0.out).mono ?_
  rintro e w1 ⟨v, rfl, ho, hb⟩
  obtain ⟨A1, c1, rfl, -, -, hr1, -⟩ := rd_own ho
  have H1 := Lib.hid (H0.out.below hb)
  have R1 := Lib.hid hr1
  have B1 := Lib.hid hb
  clear ho hr1 hb
  go_wp2_with fail
  refine (C2.out w1 H1.out).mono ?_
  rintro e w2 ⟨A2, c2, rfl, hr2, -, -, hb⟩
  have H2 := Lib.hid (H1.out.below hb)
  have R2 := Lib.hid (R1.out.below hb)
  have Q2 := Lib.hid hr2
  have B2 := Lib.hid (B1.out.trans (hb.mono B1.out.size))
  clear hr2 hb
  go_wp2_with fail
  refine (C3.out w2 H2.out).mono ?_
  rintro e w3 ⟨rfl, hb⟩
  have H3 := Lib.hid (H2.out.below hb)
  have R3 := Lib.hid (R2.out.below hb)
  have Q3 := Lib.hid (Q2.out.below hb)
  have B3 := Lib.hid (B2.out.trans (hb.mono B2.out.size))
  clear hb
  go_wp2_with fail
  refine (C4.out w3 H3.out).mono ?_
  rintro e w4 ⟨rfl, hb⟩
  have H4 := Lib.hid (H3.out.below hb)
  have R4 := Lib.hid (R3.out.below hb)
  have Q4 := Lib.hid (Q3.out.below hb)
  have B4 := Lib.hid (B3.out.trans (hb.mono B3.out.size))
  clear hb
  go_wp2_with fail
  refine (C5.out w4 H4.out).mono ?_
  rintro e w5 ⟨rfl, hb⟩
  have H5 := Lib.hid (H4.out.below hb)
  have R5 := Lib.hid (R4.out.below hb)
  have Q5 := Lib.hid (Q4.out.below hb)
  have B5 := Lib.hid (B4.out.trans (hb.mono B4.out.size))
  clear hb
  go_wp2_with fail
  refine (C6.out w5 H5.out).mono ?_
  rintro e w6 ⟨rfl, hb⟩
  have R6 := Lib.hid (R5.out.below hb)
  have Q6 := Lib.hid (Q5.out.below hb)
  have B6 := Lib.hid (B5.out.trans (hb.mono B5.out.size))
  clear hb
  go_wp2_with fail
  refine (C8.out A1 A2 c1 c2 w6 R6.out Q6.out).mono ?_
  rintro e w7 ⟨rfl, hb⟩
  have B7 := Lib.hid (B6.out.trans (hb.mono B6.out.size))
  clear hb
  go_wp2_with fail
  refine (C7.out w7).mono ?_
  rintro e w8 ⟨rfl, hb⟩
  have B8 := Lib.hid (B7.out.trans (hb.mono B7.out.size))
  clear hb
  go_wp2_with fail
  go_ret
  exact ⟨rfl, B8.out⟩

set_option maxRecDepth 100000 in
theorem regionsMatchSpec_lifted (os : Os) (started : os.Started) (H : Type) (enc : TypeId × Value → H) :
    ReturnsInHanded {} Try.checked os 3 .any (Rows.regionsMatchSpecSpec.pre6 enc Try.prog Try.f3 Rows.regionsMatchSpecRow.domain false) (Rows.regionsMatchSpecSpec.post enc Try.prog Try.f3 false true false false) := by
  refine returnsInHanded_of_change_sized (C := Try.checked) own started (by kernel_rfl) Try.func3
    (ChangeSpec.witness6 (enc := enc) (C := Try.checked) false ⟨#[], #[.slice none 0 0], []⟩ 8 (by kernel_rfl) (by kernel_rfl) (by kernel_rfl) (by kernel_rfl)) ?_
  intro W base args ds gs before hval0 hW hcnd hsz0 _
  have hval : ∀ (j : Nat) t v, Try.f3.params[j]? = some t → args[j]? = some v → Value.okWide Try.prog W .any base t v := hval0
  have hsz : (DataW.weightsEach Try.prog (Try.f3.params.toList ++ Rows.regionsMatchSpecSpec.plain.varTypes Try.prog) (ds ++ gs)).all (· ≤ reachBytes) = true := hsz0
  have hW' := hW
  obtain ⟨p, q, hA0, hV, rfl, hfz, hnd⟩ := hW
  have hA : DataW.TrodAll enc Try.prog W 0 (fun _ => true) true Try.f3.params.toList args.toList ds p := hA0
  rw [Try.params3] at hA hval hsz
  obtain ⟨v0, vs0, d0, ds0, p0, q0, hargs, rfl, rfl, h0, r0⟩ := trodAll_cons hA
  obtain ⟨rfl, rfl, rfl⟩ := trodAll_nil r0
  obtain rfl : args = #[v0] := by cases args; simp_all
  obtain ⟨rfl, rfl⟩ := trodVars_none hV
  have k0 := h0
  have lt0 : ∀ x ∈ p0, x.block < W.heap.size := by obtain ⟨m, hm⟩ := k0; exact DataW.trod_lt m _ _ _ hm
  obtain ⟨A0, l0, c0, rfl, hl0, hr0, hc0⟩ := open_rects (hval 0 22 v0 rfl rfl) h0
  have hb0 := rects_room hsz (j := 0) rfl rfl hc0
  clear hA0 hval0 hsz0
  refine (regions_walk A0 l0 c0 W hl0 hb0 hr0).mono fun e W' ⟨he, bel⟩ => ?_
  subst he
  exact ⟨_, rfl, _, _, _, [], _, [], hW', trodAll_mk1 (shut_bool Try.underlying4 _), (trodAll_cons_mk (Below.trod laidOut (by kernel_rfl) (of_decide_eq_true (by kernel_rfl)) k0 bel lt0) trodAll_mk0), rfl, bel.frame _, fun h => by cases h⟩

set_option maxRecDepth 100000 in
theorem regionsMatchSpec_holds : Rows.RegionsMatchSpecSaid :=
  OpenClaim.holds_of_wide 3 Try.f3 rfl rfl rfl rfl rfl rfl rfl ⟨rfl, rfl, rfl, rfl, rfl⟩ rfl rfl rfl rfl rfl (by kernel_rfl) Try.func3 (by kernel_rfl)
    (of_decide_eq_true (by kernel_rfl)) (by unfold Func.isWrapper; rw [if_neg (by decide +kernel)]; exact ⟨rfl, rfl⟩)
    (fun os started H enc _ => regionsMatchSpec_lifted os started H enc)
end Go.Proofs.Ytmcbjaefnhfopaa

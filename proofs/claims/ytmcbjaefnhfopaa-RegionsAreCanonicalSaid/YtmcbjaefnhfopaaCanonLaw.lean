/- The law RegionsAreCanonical: for every slice of rectangles, the region of them is a right one, its own region, and does not hang on their order. -/
import Derived.Test.YtmcbjaefnhfopaaClone
import Derived.Test.YtmcbjaefnhfopaaShapeM
import Derived.Test.YtmcbjaefnhfopaaAwake
import Derived.Test.YtmcbjaefnhfopaaOpens
namespace Go.Proofs.Ytmcbjaefnhfopaa
open Go.ChangeShapes Go.WideShapes Go.ChangeAt Go.RowKit
open Reg (R4)
set_option linter.unusedSimpArgs false
set_option linter.unusedVariables false

theorem rgL_len (l : List R4) : (rgL l).length ≤ 2000 := by
  unfold rgL resL
  split
  · split
    · assumption
    · simp
  · simp
set_option maxRecDepth 100000 in
set_option maxHeartbeats 2000000 in
theorem canonical_walk (A : Option Addr) (l : List R4) (c : Nat) (w : World) (hl : l.length ≤ c) (hc : c ≤ 140737488355328) (h : Rd w A l) :
    Calls Try.prog 4 #[.slice A l.length c] w fun e w' => e = .returned (.bool true) ∧ Below w.heap.size w w' := by
  have H0 := Lib.hid h
  clear h
  have C7 := Lib.hid (fun W => awake_any W)
  by_cases hF : rgF l = 0
  · obtain ⟨h0, _⟩ := rgF_zero.1 hF
    have h2000 := (good_of_rects h0).2
    obtain ⟨hrv1, hrv2⟩ := rg_reverse hF
    have hreg := rg_reg hF
    obtain ⟨hs1, hs2⟩ := rg_self hreg
    have hXl := rgL_len l
    have C1 := Lib.hid (fun W h => region_any A l c W (by omega) h)
    rw [hF] at C1
    have C2 := Lib.hid (fun W h => clone_any A l c W (by omega) h)
    have C4 := Lib.hid (fun A2 c2 W h => region_any A2 l.reverse c2 W (by rw [List.length_reverse]; omega) h)
    rw [hrv1, hrv2, List.length_reverse] at C4
    have C5 := Lib.hid (fun A1 c1 W h => region_any A1 (rgL l) c1 W (by omega) h)
    rw [hs1, hs2] at C5
    have C8 := Lib.hid (fun A1 A2 c1 c2 W h1 h2 => equal_any A1 A2 (rgL l) (rgL l) c1 c2 W (by omega) (by omega) h1 h2)
    rw [decide_eq_true rfl] at C8
    have C9 := Lib.hid (fun A1 c1 W hl1 (hc1 : c1 ≤ maxLen) h => checkRegion_anyM A1 (rgL l) c1 W hl1 (by simpa [maxLen] using hc1) (by omega) h)
    rw [hreg] at C9
    unfold GotRF at C1 C4 C5
    clear hF h0 hrv1 hrv2 hreg hs1 hs2
    generalize rgL l = X at *
    go_enter Try.func4, Try.ntmps4
    go_wp2_with fail
    refine (C1.out w H0.out).mono ?_
    rintro e w1 ⟨v, rfl, ho, hb⟩
    obtain ⟨A1, c1, rfl, hl1, hc1, hr1, hb1⟩ := rd_own ho
    have H1 := Lib.hid (H0.out.below hb)
    have R1 := Lib.hid hr1
    have B1 := Lib.hid hb
    have z1 := hb.size
    clear ho hr1 hb hb1
    go_wp2_with fail
    refine (C2.out w1 H1.out).mono ?_
    rintro e w2 ⟨v2, rfl, ho2, hb⟩
    have R2 := Lib.hid (R1.out.below hb)
    have B2 := Lib.hid (B1.out.trans (hb.mono z1))
    have z2 := hb.size
    have C3 := Lib.hid (reverse_any w1.heap.size v2 l w2 (by omega) ho2)
    have L2 := Lib.hid (fun x hx => own_lt ho2 (g := x) hx)
    clear ho2 hb
    go_wp2_with fail
    refine C3.out.mono ?_
    rintro e w3 ⟨rfl, ho3, hg3⟩
    have hb : Below w1.heap.size w2 w3 := below_gb hg3 z2 (fun x hx => (L2.out x hx).1)
    have R3 := Lib.hid (show Rd w3 A1 X from fun hpos => by
      obtain ⟨b, off, e, hlt, hcs⟩ := R1.out hpos
      obtain ⟨b', off', e', hlt', hcs'⟩ := R2.out hpos
      rw [e] at e'
      cases e'
      refine ⟨b, off, e, by have := hb.size; omega, fun i r hi => ?_⟩
      obtain ⟨q0, q1, q2, q3⟩ := hcs' i r hi
      exact ⟨(hb.cell (p := ⟨b, _, none⟩) hlt).trans q0, (hb.cell (p := ⟨b, _, none⟩) hlt).trans q1, (hb.cell (p := ⟨b, _, none⟩) hlt).trans q2, (hb.cell (p := ⟨b, _, none⟩) hlt).trans q3⟩)
    have ho3' := ho3
    rw [← List.length_reverse] at ho3'
    obtain ⟨A2, c2, rfl, -, -, hr3, -⟩ := rd_own ho3'
    have Q3 := Lib.hid hr3
    have B3 := Lib.hid (B2.out.trans (hb.mono z1))
    have z3 := hb.size
    rw [List.length_reverse] at *
    clear ho3 ho3' hr3 hb hg3 L2 C3
    go_wp2_with fail
    refine (C4.out A2 c2 w3 Q3.out).mono ?_
    rintro e w4 ⟨v4, rfl, ho4, hb⟩
    obtain ⟨A4, c4, rfl, -, -, hr4, -⟩ := rd_own ho4
    have R4 := Lib.hid (R3.out.below hb)
    have Y4 := Lib.hid hr4
    have B4 := Lib.hid (B3.out.trans (hb.mono B3.out.size))
    clear ho4 hr4 hb
    go_wp2_with fail
    refine (C5.out A1 c1 w4 R4.out).mono ?_
    rintro e w5 ⟨v5, rfl, ho5, hb⟩
    obtain ⟨A5, c5, rfl, -, -, hr5, -⟩ := rd_own ho5
    have R5 := Lib.hid (R4.out.below hb)
    have Y5 := Lib.hid (Y4.out.below hb)
    have Z5 := Lib.hid hr5
    have B5 := Lib.hid (B4.out.trans (hb.mono B4.out.size))
    clear ho5 hr5 hb
    go_wp2_with fail
    refine (C8.out A1 A4 c1 c4 w5 R5.out Y5.out).mono ?_
    rintro e w6 ⟨rfl, hb⟩
    have R6 := Lib.hid (R5.out.below hb)
    have Z6 := Lib.hid (Z5.out.below hb)
    have B6 := Lib.hid (B5.out.trans (hb.mono B5.out.size))
    clear hb
    go_wp2_with fail
    refine (C8.out A1 A5 c1 c5 w6 R6.out Z6.out).mono ?_
    rintro e w7 ⟨rfl, hb⟩
    have R7 := Lib.hid (R6.out.below hb)
    have B7 := Lib.hid (B6.out.trans (hb.mono B6.out.size))
    clear hb
    go_wp2_with fail
    refine (C9.out A1 c1 w7 ?_ ?_ R7.out).mono ?_
    · exact hl1
    · exact hc1
    rintro e w8 ⟨rfl, hb⟩
    have B8 := Lib.hid (B7.out.trans (hb.mono B7.out.size))
    clear hb
    go_wp2_with fail
    refine (C7.out w8).mono ?_
    rintro e w9 ⟨rfl, hb⟩
    have B9 := Lib.hid (B8.out.trans (hb.mono B8.out.size))
    clear hb
    go_wp2_with fail
    go_ret
    exact ⟨rfl, B9.out⟩
  · have e1 := rgL_bad hF
    have C1 := Lib.hid (fun W h => region_any A l c W (by omega) h)
    rw [e1] at C1
    unfold GotRF at C1
    have hd : (rgF l == 0) = false := by simpa using hF
    have hd' : (rgF l != 0) = true := by simpa using hF
    clear e1 hF
    generalize rgF l = F at *
    go_enter Try.func4, Try.ntmps4
    go_wp2_with fail
    refine (C1.out w H0.out).mono ?_
    rintro e w1 ⟨v, rfl, ho, hb⟩
    obtain ⟨A1, c1, rfl, -, -, -, -⟩ := rd_own ho
    have B1 := Lib.hid hb
    clear ho hb
    simp only [List.length_nil]
    go_wp2_with fail
    refine (C7.out w1).mono ?_
    rintro e w9 ⟨rfl, hb⟩
    have B9 := Lib.hid (B1.out.trans (hb.mono B1.out.size))
    clear hb
    go_wp2_with fail
    go_ret
    exact ⟨rfl, B9.out⟩

set_option maxRecDepth 100000 in
theorem regionsAreCanonical_lifted (os : Os) (started : os.Started) (H : Type) (enc : TypeId × Value → H) :
    ReturnsInHanded {} Try.checked os 4 .any (Rows.regionsAreCanonicalSpec.pre6 enc Try.prog Try.f4 Rows.regionsAreCanonicalRow.domain false) (Rows.regionsAreCanonicalSpec.post enc Try.prog Try.f4 false true false false) := by
  refine returnsInHanded_of_change_sized (C := Try.checked) own started (by kernel_rfl) Try.func4
    (ChangeSpec.witness6 (enc := enc) (C := Try.checked) false ⟨#[], #[.slice none 0 0], []⟩ 8 (by kernel_rfl) (by kernel_rfl) (by kernel_rfl) (by kernel_rfl)) ?_
  intro W base args ds gs before hval0 hW hcnd hsz0 _
  have hval : ∀ (j : Nat) t v, Try.f4.params[j]? = some t → args[j]? = some v → Value.okWide Try.prog W .any base t v := hval0
  have hsz : (DataW.weightsEach Try.prog (Try.f4.params.toList ++ Rows.regionsAreCanonicalSpec.plain.varTypes Try.prog) (ds ++ gs)).all (· ≤ reachBytes) = true := hsz0
  have hW' := hW
  obtain ⟨p, q, hA0, hV, rfl, hfz, hnd⟩ := hW
  have hA : DataW.TrodAll enc Try.prog W 0 (fun _ => true) true Try.f4.params.toList args.toList ds p := hA0
  rw [Try.params4] at hA hval hsz
  obtain ⟨v0, vs0, d0, ds0, p0, q0, hargs, rfl, rfl, h0, r0⟩ := trodAll_cons hA
  obtain ⟨rfl, rfl, rfl⟩ := trodAll_nil r0
  obtain rfl : args = #[v0] := by cases args; simp_all
  obtain ⟨rfl, rfl⟩ := trodVars_none hV
  have k0 := h0
  have lt0 : ∀ x ∈ p0, x.block < W.heap.size := by obtain ⟨m, hm⟩ := k0; exact DataW.trod_lt m _ _ _ hm
  obtain ⟨A0, l0, c0, rfl, hl0, hr0, hc0⟩ := open_rects (hval 0 22 v0 rfl rfl) h0
  have hb0 := rects_room hsz (j := 0) rfl rfl hc0
  clear hA0 hval0 hsz0
  refine (canonical_walk A0 l0 c0 W hl0 hb0 hr0).mono fun e W' ⟨he, bel⟩ => ?_
  subst he
  exact ⟨_, rfl, _, _, _, [], _, [], hW', trodAll_mk1 (shut_bool Try.underlying4 _), (trodAll_cons_mk (Below.trod laidOut (by kernel_rfl) (of_decide_eq_true (by kernel_rfl)) k0 bel lt0) trodAll_mk0), rfl, bel.frame _, fun h => by cases h⟩

set_option maxRecDepth 100000 in
theorem regionsAreCanonical_holds : Rows.RegionsAreCanonicalSaid :=
  OpenClaim.holds_of_wide 4 Try.f4 rfl rfl rfl rfl rfl rfl rfl ⟨rfl, rfl, rfl, rfl, rfl⟩ rfl rfl rfl rfl rfl (by kernel_rfl) Try.func4 (by kernel_rfl)
    (of_decide_eq_true (by kernel_rfl)) (by unfold Func.isWrapper; rw [if_neg (by decide +kernel)]; exact ⟨rfl, rfl⟩)
    (fun os started H enc _ => regionsAreCanonical_lifted os started H enc)
end Go.Proofs.Ytmcbjaefnhfopaa

/- The law GapsMatchSpec: for every slice of slices of rectangles and every number, Gaps of the program answers as that of the reference does. -/
import Derived.Test.YtjcbngpgmgeanaaGapI
import Derived.Test.YtjcbngpgmgeanaaAwake
namespace Go.Proofs.Ytjcbngpgmgeanaa
open Go.ChangeShapes Go.WideShapes Go.ChangeAt Go.RowKit
open Reg (R4)
set_option linter.unusedSimpArgs false
set_option linter.unusedVariables false

set_option maxRecDepth 100000 in
set_option maxHeartbeats 2000000 in
theorem gapsMatchSpec_walk (A : Option Addr) (L : List (List R4)) (c : Nat) (hd : Nat → Option Addr × Nat) (below : Int) (w : World) (hl : L.length ≤ c) (hc : c ≤ 140737488355328) (h : RdM w A L hd) :
    Calls Try.prog 5 #[.slice A L.length c, .int .i64 below] w fun e w' => e = .returned (.bool true) ∧ Below w.heap.size w w' := by
  have H0 := Lib.hid h
  have C1 := Lib.hid (fun W h => gaps_any A L c hd below W (by omega) h)
  have C2 := Lib.hid (fun W h => rgaps_any A L c hd below W (by omega) h)
  have C3 := Lib.hid (fun A1 A2 c1 c2 W h0 h1 h2 => equalG_any A1 A2 (gpL L below) c1 c2 W h0 h1 h2)
  have C4 := Lib.hid (fun W => awake_any W)
  clear h
  unfold GotGF at C1 C2
  generalize gpL L below = G at *
  generalize gpF L below = F at *
  go_enter Try.func5, Try.ntmps5
  go_wp2_with fail
  refine (C1.out w H0.out).mono ?_
  rintro e w1 ⟨v, rfl, ho, hb⟩
  obtain ⟨A1, c1, rfl, hl1, hc1, hr1⟩ := rdG_own ho
  have H1 := Lib.hid (H0.out.below hb)
  have R1 := Lib.hid hr1
  have B1 := Lib.hid hb
  clear ho hr1 hb
  go_wp2_with fail
  refine (C2.out w1 H1.out).mono ?_
  rintro e w2 ⟨v, rfl, ho, hb⟩
  obtain ⟨A2, c2, rfl, hl2, hc2, hr2⟩ := rdG_own ho
  have R2 := Lib.hid (R1.out.below hb)
  have Q2 := Lib.hid hr2
  have B2 := Lib.hid (B1.out.trans (hb.mono B1.out.size))
  clear ho hr2 hb
  go_wp2_with fail
  refine (C3.out A1 A2 c1 c2 w2 (by omega) R2.out Q2.out).mono ?_
  rintro e w3 ⟨rfl, hb⟩
  have B3 := Lib.hid (B2.out.trans (hb.mono B2.out.size))
  clear hb
  go_wp2_with fail
  refine (C4.out w3).mono ?_
  rintro e w4 ⟨rfl, hb⟩
  have B4 := Lib.hid (B3.out.trans (hb.mono B3.out.size))
  clear hb
  go_wp2_with fail
  go_ret
  exact ⟨rfl, B4.out⟩

set_option maxRecDepth 100000 in
theorem gapsMatchSpec_lifted (os : Os) (started : os.Started) (H : Type) (enc : TypeId × Value → H) :
    ReturnsInHanded {} Try.checked os 5 .any (Rows.gapsMatchSpecSpec.pre6 enc Try.prog Try.f5 Rows.gapsMatchSpecRow.domain false) (Rows.gapsMatchSpecSpec.post enc Try.prog Try.f5 false true false false) := by
  refine returnsInHanded_of_change_sized (C := Try.checked) own started (by kernel_rfl) Try.func5
    (ChangeSpec.witness6 (enc := enc) (C := Try.checked) false ⟨#[], #[.slice none 0 0, .int .i64 0], []⟩ 8 (by kernel_rfl) (by kernel_rfl) (by kernel_rfl) (by kernel_rfl)) ?_
  intro W base args ds gs before hval0 hW hcnd hsz0 _
  have hval : ∀ (j : Nat) t v, Try.f5.params[j]? = some t → args[j]? = some v → Value.okWide Try.prog W .any base t v := hval0
  have hsz : (DataW.weightsEach Try.prog (Try.f5.params.toList ++ Rows.gapsMatchSpecSpec.plain.varTypes Try.prog) (ds ++ gs)).all (· ≤ reachBytes) = true := hsz0
  have hW' := hW
  obtain ⟨p, q, hA0, hV, rfl, hfz, hnd⟩ := hW
  have hA : DataW.TrodAll enc Try.prog W 0 (fun _ => true) true Try.f5.params.toList args.toList ds p := hA0
  rw [Try.params5] at hA hval hsz
  obtain ⟨v0, vs0, d0, ds0, p0, q0, hargs, rfl, rfl, h0, r0⟩ := trodAll_cons hA
  obtain ⟨v1, vs1, d1, ds1, p1, q1, rfl, rfl, rfl, h1, r1⟩ := trodAll_cons r0
  obtain ⟨rfl, rfl, rfl⟩ := trodAll_nil r1
  obtain rfl : args = #[v0, v1] := by cases args; simp_all
  obtain ⟨rfl, rfl⟩ := trodVars_none hV
  have k0 := h0
  have lt0 : ∀ x ∈ p0, x.block < W.heap.size := by obtain ⟨m, hm⟩ := k0; exact DataW.trod_lt m _ _ _ hm
  obtain ⟨A0, l0, c0, g0, rfl, hl0, hc0, hr0⟩ := open_regions (hval 0 23 v0 rfl rfl) h0 hsz (j := 0) rfl rfl
  have k1 := h1
  have lt1 : ∀ x ∈ p1, x.block < W.heap.size := by obtain ⟨m, hm⟩ := k1; exact DataW.trod_lt m _ _ _ hm
  obtain ⟨x1, rfl, hw1⟩ := open_int h1 (hval 1 3 v1 rfl rfl)
  clear hA0 hval0 hsz0
  refine (gapsMatchSpec_walk A0 l0 c0 g0 x1 W hl0 hc0 hr0).mono fun e W' ⟨he, bel⟩ => ?_
  subst he
  exact ⟨_, rfl, _, _, _, [], _, [], hW', trodAll_mk1 (shut_bool Try.underlying4 _), (trodAll_cons_mk (Below.trod laidOut (by kernel_rfl) (of_decide_eq_true (by kernel_rfl)) k0 bel lt0) (trodAll_cons_mk (Below.trod laidOut (by kernel_rfl) (of_decide_eq_true (by kernel_rfl)) k1 bel lt1) trodAll_mk0)), rfl, bel.frame _, fun h => by cases h⟩

set_option maxRecDepth 100000 in
theorem gapsMatchSpec_holds : Rows.GapsMatchSpecSaid :=
  OpenClaim.holds_of_wide 5 Try.f5 rfl rfl rfl rfl rfl rfl rfl ⟨rfl, rfl, rfl, rfl, rfl⟩ rfl rfl rfl rfl rfl (by kernel_rfl) Try.func5 (by kernel_rfl)
    (of_decide_eq_true (by kernel_rfl)) (by unfold Func.isWrapper; rw [if_neg (by decide +kernel)]; exact ⟨rfl, rfl⟩)
    (fun os started H enc _ => gapsMatchSpec_lifted os started H enc)
end Go.Proofs.Ytjcbngpgmgeanaa

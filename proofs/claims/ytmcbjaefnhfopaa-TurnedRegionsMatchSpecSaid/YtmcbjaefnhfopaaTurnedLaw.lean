/- The law TurnedRegionsMatchSpec: for every slice of rectangles and every turn, TurnedRegion of the program gives the region and the fault that the reference gives. -/
import Derived.Test.YtmcbjaefnhfopaaTurnedR
import Derived.Test.YtmcbjaefnhfopaaAwake
import Derived.Test.YtmcbjaefnhfopaaOpens
namespace Go.Proofs.Ytmcbjaefnhfopaa
open Go.ChangeShapes Go.WideShapes Go.ChangeAt Go.RowKit
open Reg (R4 inR Kept)
set_option linter.unusedSimpArgs false
set_option linter.unusedVariables false

theorem cells_turn : Try.prog.cellsOf 44 = 4 := by kernel_rfl
theorem cells_bool : Try.prog.cellsOf 4 = 1 := by kernel_rfl
section
variable {H : Type} {enc : TypeId × Value → H} {w : World} {base : Nat} {spare : Nat → Bool} {held : Bool} {r : Reach} {b0 : Nat} {v : Value} {d : DataW H} {p : List MemPlace}
set_option maxRecDepth 100000 in
theorem open_turn (hv : Value.okWide Try.prog w r b0 44 v) (h : DataW.Trod enc Try.prog w base spare held 44 v d p) : ∃ (f : Bool) (q a b : Int), v = .agg #[.bool f, .int .i64 q, .int .i64 a, .int .i64 b] := by
  obtain ⟨cs, rfl, hsz⟩ := okWide_struct Try.underlying44 hv
  obtain ⟨l⟩ := cs
  obtain ⟨fuel, hf⟩ := h
  obtain ⟨xs, n, _, hx, hl, hlen, hg⟩ := DataW.trod_struct Try.underlying44 hf
  rw [cells_turn] at hl
  simp only [Value.cells] at hl hg
  match l, hl with
  | [c0, c1, c2, c3], _ =>
    have g0 := hg 0 _ rfl
    have g1 := hg 1 _ rfl
    have g2 := hg 2 _ rfl
    have i0 : 0 < xs.length := by rw [hlen]; decide
    have i1 : 1 < xs.length := by rw [hlen]; decide
    have i2 : 2 < xs.length := by rw [hlen]; decide
    rw [List.getElem?_eq_getElem i0] at g0
    rw [List.getElem?_eq_getElem i1] at g1
    rw [List.getElem?_eq_getElem i2] at g2
    simp [cells_int, cells_bool, cells_point] at g0 g1 g2
    obtain ⟨f, e0, _⟩ := DataW.trod_bool Try.underlying4 g0
    obtain ⟨q, e1, _⟩ := DataW.trod_int Try.underlying3 g1
    obtain ⟨a, b, e2⟩ := point_cells g2
    simp at e0 e1 e2
    obtain ⟨e2, e3⟩ := e2
    subst e0 e1 e2 e3
    exact ⟨f, q, a, b, rfl⟩
end
theorem trL_len (l : List R4) (f : Bool) (q ax ay : Int) : (trL l f q ax ay).length ≤ 2000 := by
  unfold trL resL
  repeat' split
  all_goals first | assumption | simp

set_option maxRecDepth 100000 in
set_option maxHeartbeats 2000000 in
theorem turnedRegions_walk (A : Option Addr) (l : List R4) (c : Nat) (f : Bool) (q ax ay : Int) (w : World) (hl : l.length ≤ c) (rc : c ≤ 140737488355328) (h : Rd w A l) :
    Calls Try.prog 9 #[.slice A l.length c, .agg #[.bool f, .int .i64 q, .int .i64 ax, .int .i64 ay]] w fun e w' => e = .returned (.bool true) ∧ Below w.heap.size w w' := by
  have rc' : c ≤ maxLen := by simp only [maxLen]; omega
  have H0 := Lib.hid h
  have C1 := Lib.hid (fun W h => turned_any A l c f q ax ay W hl rc' (by omega) h)
  have C2 := Lib.hid (fun W h => rturned_any A l c f q ax ay W hl rc h)
  have CW := Lib.hid (fun W => awake_any W)
  have hL := trL_len l f q ax ay
  have CE := Lib.hid (fun A1 A2 c1 c2 W h1 h2 => equal_any A1 A2 (trL l f q ax ay) (trL l f q ax ay) c1 c2 W (by omega) (by omega) h1 h2)
  rw [show decide (trL l f q ax ay = trL l f q ax ay) = true from by simp] at CE
  unfold GotRF at C1
  unfold GotRd at C2
  clear h
  generalize trL l f q ax ay = L at *
  generalize trF l f q ax ay = F at *
  go_enter Try.func9, Try.ntmps9
  go_wp2_with fail
  refine (C1.out _ (H0.out.below (by (repeat' (first | (with_reducible exact Below.refl _ _) | (with_reducible assumption) | (with_reducible refine Below.alloc ?_ ?_ _) | (with_reducible refine Below.drew ?_) | (with_reducible refine below_drewN ?_ _) | (with_reducible refine Below.setCell ?_ ?_ _) | (with_reducible exact Nat.le_refl _) | omega | (simp only [World.size_alloc, World.size_setCell, World.size_drew]; omega) | (simp; omega) | (simp; done)))))).mono ?_
  rintro e w1 ⟨v1, rfl, ho, hb⟩
  obtain ⟨A1, c1, rfl, hl1, hc1, hr1, -⟩ := rd_own ho
  have P1 := Lib.hid ((H0.out.below (by (repeat' (first | (with_reducible exact Below.refl _ _) | (with_reducible assumption) | (with_reducible refine Below.alloc ?_ ?_ _) | (with_reducible refine Below.drew ?_) | (with_reducible refine below_drewN ?_ _) | (with_reducible refine Below.setCell ?_ ?_ _) | (with_reducible exact Nat.le_refl _) | omega | (simp only [World.size_alloc, World.size_setCell, World.size_drew]; omega) | (simp; omega) | (simp; done))))).below hb)
  have R1 := Lib.hid hr1
  obtain ⟨kq, fq⟩ := kp hb (b := w.heap.size) (cs := #[.bool f, .int .i64 q, .int .i64 ax, .int .i64 ay]) (by (first | (with_reducible exact Nat.le_refl _) | (with_reducible assumption) | omega | (simp only [World.size_alloc, World.size_setCell, World.size_drew]; omega) | (simp; omega) | (simp; done))) (fun i => by simp [go_sem]) (fun i => by simp [go_sem])
  have t0 := kq 0
  have t1 := kq 1
  have t2 := kq 2
  have t3 := kq 3
  simp at t0 t1 t2 t3
  have B1 := Lib.hid (up (B := w.heap.size) (w := w) (by (repeat' (first | (with_reducible exact Below.refl _ _) | (with_reducible assumption) | (with_reducible refine Below.alloc ?_ ?_ _) | (with_reducible refine Below.drew ?_) | (with_reducible refine below_drewN ?_ _) | (with_reducible refine Below.setCell ?_ ?_ _) | (with_reducible exact Nat.le_refl _) | omega | (simp only [World.size_alloc, World.size_setCell, World.size_drew]; omega) | (simp; omega) | (simp; done)))) hb (by (first | (with_reducible exact Nat.le_refl _) | (with_reducible assumption) | omega | (simp only [World.size_alloc, World.size_setCell, World.size_drew]; omega) | (simp; omega) | (simp; done))))
  clear ho hr1 hb kq fq
  go_wp2_with fail
  refine (C2.out w1 P1.out).mono ?_
  rintro e w2 ⟨A2, c2, rfl, hr2, -, -, hb⟩
  have R2 := Lib.hid (R1.out.below hb)
  have S2 := Lib.hid hr2
  have B2 := Lib.hid (B1.out.trans (hb.mono B1.out.size))
  clear hr2 hb R1 B1
  go_wp2_with fail
  refine (CE.out A1 A2 c1 c2 w2 R2.out S2.out).mono ?_
  rintro e w3 ⟨rfl, hb⟩
  have B3 := Lib.hid (B2.out.trans (hb.mono B2.out.size))
  clear hb
  go_wp2_with fail
  refine (CW.out _).mono ?_
  rintro e w9 ⟨rfl, hb⟩
  have B9 := Lib.hid (B3.out.trans (hb.mono B3.out.size))
  clear hb
  go_wp2_with fail
  go_ret
  exact ⟨rfl, B9.out⟩

set_option maxRecDepth 100000 in
theorem turnedRegionsMatchSpec_lifted (os : Os) (started : os.Started) (H : Type) (enc : TypeId × Value → H) :
    ReturnsInHanded {} Try.checked os 9 .any (Rows.turnedRegionsMatchSpecSpec.pre6 enc Try.prog Try.f9 Rows.turnedRegionsMatchSpecRow.domain false) (Rows.turnedRegionsMatchSpecSpec.post enc Try.prog Try.f9 false true false false) := by
  refine returnsInHanded_of_change_sized (C := Try.checked) own started (by kernel_rfl) Try.func9
    (ChangeSpec.witness6 (enc := enc) (C := Try.checked) false ⟨#[], #[.slice none 0 0, .agg #[.bool false, .int .i64 0, .int .i64 0, .int .i64 0]], []⟩ 8 (by kernel_rfl) (by kernel_rfl) (by kernel_rfl) (by kernel_rfl)) ?_
  intro W base args ds gs before hval0 hW hcnd hsz0 _
  have hval : ∀ (j : Nat) t v, Try.f9.params[j]? = some t → args[j]? = some v → Value.okWide Try.prog W .any base t v := hval0
  have hsz : (DataW.weightsEach Try.prog (Try.f9.params.toList ++ Rows.turnedRegionsMatchSpecSpec.plain.varTypes Try.prog) (ds ++ gs)).all (· ≤ reachBytes) = true := hsz0
  have hW' := hW
  obtain ⟨p, q, hA0, hV, rfl, hfz, hnd⟩ := hW
  have hA : DataW.TrodAll enc Try.prog W 0 (fun _ => true) true Try.f9.params.toList args.toList ds p := hA0
  rw [Try.params9] at hA hval hsz
  obtain ⟨v0, vs0, d0, ds0, p0, q0, hargs, rfl, rfl, h0, r0⟩ := trodAll_cons hA
  obtain ⟨v1, vs1, d1, ds1, p1, q1, rfl, rfl, rfl, h1, r1⟩ := trodAll_cons r0
  obtain ⟨rfl, rfl, rfl⟩ := trodAll_nil r1
  obtain rfl : args = #[v0, v1] := by cases args; simp_all
  obtain ⟨rfl, rfl⟩ := trodVars_none hV
  have k0 := h0
  have lt0 : ∀ x ∈ p0, x.block < W.heap.size := by obtain ⟨m, hm⟩ := k0; exact DataW.trod_lt m _ _ _ hm
  obtain ⟨A0, l0, c0, rfl, hl0, hr0, hc0⟩ := open_rects (hval 0 22 v0 rfl rfl) h0
  have hb0 := rects_room hsz (j := 0) rfl rfl hc0
  have k1 := h1
  have lt1 : ∀ x ∈ p1, x.block < W.heap.size := by obtain ⟨m, hm⟩ := k1; exact DataW.trod_lt m _ _ _ hm
  obtain ⟨b1, x1, y1, z1, rfl⟩ := open_turn (hval 1 44 v1 rfl rfl) h1
  clear hA0 hval0 hsz0
  refine (turnedRegions_walk A0 l0 c0 b1 x1 y1 z1 W hl0 hb0 hr0).mono fun e W' ⟨he, bel⟩ => ?_
  subst he
  exact ⟨_, rfl, _, _, _, [], _, [], hW', trodAll_mk1 (shut_bool Try.underlying4 _), (trodAll_cons_mk (Below.trod laidOut (by kernel_rfl) (of_decide_eq_true (by kernel_rfl)) k0 bel lt0) (trodAll_cons_mk (Below.trod laidOut (by kernel_rfl) (of_decide_eq_true (by kernel_rfl)) k1 bel lt1) trodAll_mk0)), rfl, bel.frame _, fun h => by cases h⟩

set_option maxRecDepth 100000 in
theorem turnedRegionsMatchSpec_holds : Rows.TurnedRegionsMatchSpecSaid :=
  OpenClaim.holds_of_wide 9 Try.f9 rfl rfl rfl rfl rfl rfl rfl ⟨rfl, rfl, rfl, rfl, rfl⟩ rfl rfl rfl rfl rfl (by kernel_rfl) Try.func9 (by kernel_rfl)
    (of_decide_eq_true (by kernel_rfl)) (by unfold Func.isWrapper; rw [if_neg (by decide +kernel)]; exact ⟨rfl, rfl⟩)
    (fun os started H enc _ => turnedRegionsMatchSpec_lifted os started H enc)
end Go.Proofs.Ytmcbjaefnhfopaa

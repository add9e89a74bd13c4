/- The law SetsByPoints: for every two slices of rectangles and every point, a square is in a union, in both, or in one alone just as it is in the one and the other one. -/
import Derived.Test.YtmcbjaefnhfopaaHas
import Derived.Test.YtmcbjaefnhfopaaAwake
import Derived.Test.YtmcbjaefnhfopaaOpens
namespace Go.Proofs.Ytmcbjaefnhfopaa
open Go.ChangeShapes Go.WideShapes Go.ChangeAt Go.RowKit
open Reg (R4 inR Kept)
set_option linter.unusedSimpArgs false
set_option linter.unusedVariables false

theorem pts_or {a b u : List R4} {x y : Int} (ha : regF a = 0) (hb : regF b = 0) (hu : regF u = 0) (h : ∀ x y, inR u x y ↔ inR a x y ∨ inR b x y) : hasV u x y = (hasV a x y || hasV b x y) := by
  rw [hasV_of ha, hasV_of hb, hasV_of hu]
  have : hasB u x y = (hasB a x y || hasB b x y) := by rw [Bool.eq_iff_iff, Bool.or_eq_true, hasB_iff, hasB_iff, hasB_iff, h]
  rw [this]
  cases okAt x && okAt y <;> simp
theorem pts_and {a b u : List R4} {x y : Int} (ha : regF a = 0) (hb : regF b = 0) (hu : regF u = 0) (h : ∀ x y, inR u x y ↔ inR a x y ∧ inR b x y) : hasV u x y = (hasV a x y && hasV b x y) := by
  rw [hasV_of ha, hasV_of hb, hasV_of hu]
  have : hasB u x y = (hasB a x y && hasB b x y) := by rw [Bool.eq_iff_iff, Bool.and_eq_true, hasB_iff, hasB_iff, hasB_iff, h]
  rw [this]
  cases okAt x && okAt y <;> simp
theorem pts_not {a b u : List R4} {x y : Int} (ha : regF a = 0) (hb : regF b = 0) (hu : regF u = 0) (h : ∀ x y, inR u x y ↔ inR a x y ∧ ¬ inR b x y) : hasV u x y = (hasV a x y && !hasV b x y) := by
  rw [hasV_of ha, hasV_of hb, hasV_of hu]
  have : hasB u x y = (hasB a x y && !hasB b x y) := by
    rw [Bool.eq_iff_iff, Bool.and_eq_true, hasB_iff, hasB_iff, h]
    have : (!hasB b x y) = true ↔ ¬ inR b x y := by rw [← hasB_iff]; cases hasB b x y <;> simp
    rw [this]
  rw [this]
  cases okAt x && okAt y <;> simp

set_option maxRecDepth 100000 in
set_option maxHeartbeats 4000000 in
theorem setsByPoints_walk (A : Option Addr) (a : List R4) (ca : Nat) (B : Option Addr) (b : List R4) (cb : Nat) (x y : Int) (w : World) (la : a.length ≤ ca) (ra : ca ≤ 140737488355328) (h1 : Rd w A a) (lb : b.length ≤ cb) (rb : cb ≤ 140737488355328) (h2 : Rd w B b) :
    Calls Try.prog 6 #[.slice A a.length ca, .slice B b.length cb, .agg #[.int .i64 x, .int .i64 y]] w fun e w' => e = .returned (.bool true) ∧ Below w.heap.size w w' := by
  have ra' : ca ≤ maxLen := by simp only [maxLen]; omega
  have rb' : cb ≤ maxLen := by simp only [maxLen]; omega
  have H1 := Lib.hid h1
  have H2 := Lib.hid h2
  have C1 := Lib.hid (fun W h1 h2 => union_any A B a b ca cb W la lb ra' rb' (by omega) (by omega) h1 h2)
  have C2 := Lib.hid (fun W h1 h2 => bothR_any A B a b ca cb W la lb ra' rb' (by omega) (by omega) h1 h2)
  have C3 := Lib.hid (fun W h1 h2 => minus_any A B a b ca cb W la lb ra' rb' (by omega) (by omega) h1 h2)
  have CA := Lib.hid (fun W h => lhas_any A a ca x y W la ra' (by omega) h)
  have CB := Lib.hid (fun W h => lhas_any B b cb x y W lb rb' (by omega) h)
  have hul := stL_len orK a b
  have hil := stL_len andK a b
  have hmL := stL_len notK a b
  have CU := Lib.hid (fun AU cu W hl hc h => lhas_any AU (stL orK a b) cu x y W hl hc (by omega) h)
  have CI := Lib.hid (fun AU cu W hl hc h => lhas_any AU (stL andK a b) cu x y W hl hc (by omega) h)
  have CM := Lib.hid (fun AU cu W hl hc h => lhas_any AU (stL notK a b) cu x y W hl hc (by omega) h)
  have CW := Lib.hid (fun W => awake_any W)
  unfold GotRF at C1 C2 C3
  have hz : stF orK a b = 0 → stF andK a b = 0 → stF notK a b = 0 → hasV (stL orK a b) x y = (hasV a x y || hasV b x y) ∧ hasV (stL andK a b) x y = (hasV a x y && hasV b x y) ∧ hasV (stL notK a b) x y = (hasV a x y && !hasV b x y) := fun e1 e2 e3 => by
    obtain ⟨f1, f2, -, f3, -, f4⟩ := st_ok rfl e1 (fun x y h => kept_or.1 h)
    obtain ⟨-, -, -, g3, -, g4⟩ := st_ok rfl e2 (fun x y h => .inl (kept_and.1 h).1)
    obtain ⟨-, -, -, k3, -, k4⟩ := st_ok rfl e3 (fun x y h => .inl (kept_not.1 h).1)
    exact ⟨pts_or f1 f2 f3 fun x y => (f4 x y).trans kept_or, pts_and f1 f2 g3 fun x y => (g4 x y).trans kept_and, pts_not f1 f2 k3 fun x y => (k4 x y).trans kept_not⟩
  have HZ := Lib.hid hz
  have hbad : ¬ stF orK a b = 0 → stL orK a b = [] := stL_bad
  have HBAD := Lib.hid hbad
  clear h1 h2 hz hbad
  generalize stL orK a b = U at *
  generalize stF orK a b = fu at *
  generalize stL andK a b = I at *
  generalize stF andK a b = fi at *
  generalize stL notK a b = M at *
  generalize stF notK a b = fm at *
  go_enter Try.func6, Try.ntmps6
  go_wp2_with fail
  refine (C1.out _ (H1.out.below (by (repeat' (first | (with_reducible exact Below.refl _ _) | (with_reducible assumption) | (with_reducible refine Below.alloc ?_ ?_ _) | (with_reducible refine Below.drew ?_) | (with_reducible refine below_drewN ?_ _) | (with_reducible refine Below.setCell ?_ ?_ _) | (with_reducible exact Nat.le_refl _) | omega | (simp only [World.size_alloc, World.size_setCell, World.size_drew]; omega) | (simp; omega) | (simp; done))))) (H2.out.below (by (repeat' (first | (with_reducible exact Below.refl _ _) | (with_reducible assumption) | (with_reducible refine Below.alloc ?_ ?_ _) | (with_reducible refine Below.drew ?_) | (with_reducible refine below_drewN ?_ _) | (with_reducible refine Below.setCell ?_ ?_ _) | (with_reducible exact Nat.le_refl _) | omega | (simp only [World.size_alloc, World.size_setCell, World.size_drew]; omega) | (simp; omega) | (simp; done)))))).mono ?_
  rintro e w1 ⟨v1, rfl, ho, hb⟩
  obtain ⟨A1, c1, rfl, hl1, hc1, hr1, -⟩ := rd_own ho
  have P1 := Lib.hid ((H1.out.below (by (repeat' (first | (with_reducible exact Below.refl _ _) | (with_reducible assumption) | (with_reducible refine Below.alloc ?_ ?_ _) | (with_reducible refine Below.drew ?_) | (with_reducible refine below_drewN ?_ _) | (with_reducible refine Below.setCell ?_ ?_ _) | (with_reducible exact Nat.le_refl _) | omega | (simp only [World.size_alloc, World.size_setCell, World.size_drew]; omega) | (simp; omega) | (simp; done))))).below hb)
  have P2 := Lib.hid ((H2.out.below (by (repeat' (first | (with_reducible exact Below.refl _ _) | (with_reducible assumption) | (with_reducible refine Below.alloc ?_ ?_ _) | (with_reducible refine Below.drew ?_) | (with_reducible refine below_drewN ?_ _) | (with_reducible refine Below.setCell ?_ ?_ _) | (with_reducible exact Nat.le_refl _) | omega | (simp only [World.size_alloc, World.size_setCell, World.size_drew]; omega) | (simp; omega) | (simp; done))))).below hb)
  have R1 := Lib.hid hr1
  obtain ⟨kq, fq⟩ := kp hb (b := w.heap.size) (cs := #[Value.int .i64 x, Value.int .i64 y]) (by (first | (with_reducible exact Nat.le_refl _) | (with_reducible assumption) | omega | (simp only [World.size_alloc, World.size_setCell, World.size_drew]; omega) | (simp; omega) | (simp; done))) (fun i => by simp [go_sem]) (fun i => by simp [go_sem])
  have z1 := hb.size
  (try simp only [World.size_alloc, World.size_setCell, World.size_drew] at z1)
  have B1 := Lib.hid (up (B := w.heap.size) (w := w) (by (repeat' (first | (with_reducible exact Below.refl _ _) | (with_reducible assumption) | (with_reducible refine Below.alloc ?_ ?_ _) | (with_reducible refine Below.drew ?_) | (with_reducible refine below_drewN ?_ _) | (with_reducible refine Below.setCell ?_ ?_ _) | (with_reducible exact Nat.le_refl _) | omega | (simp only [World.size_alloc, World.size_setCell, World.size_drew]; omega) | (simp; omega) | (simp; done)))) hb (by (first | (with_reducible exact Nat.le_refl _) | (with_reducible assumption) | omega | (simp only [World.size_alloc, World.size_setCell, World.size_drew]; omega) | (simp; omega) | (simp; done))))
  clear ho hr1 hb
  go_wp2_with fail
  refine (C2.out w1 P1.out P2.out).mono ?_
  rintro e w2 ⟨v2, rfl, ho, hb⟩
  obtain ⟨A2, c2, rfl, hl2, hc2, hr2, -⟩ := rd_own ho
  have Q1 := Lib.hid (P1.out.below hb)
  have Q2 := Lib.hid (P2.out.below hb)
  have R2 := Lib.hid (R1.out.below hb)
  have S2 := Lib.hid hr2
  obtain ⟨kq2, fq2⟩ := kp hb (b := w.heap.size) (cs := #[Value.int .i64 x, Value.int .i64 y]) (by omega) kq fq
  have z2 := hb.size
  have B2 := Lib.hid (B1.out.trans (hb.mono B1.out.size))
  clear ho hr2 hb kq fq P1 P2 R1 B1
  go_wp2_with fail
  refine (C3.out w2 Q1.out Q2.out).mono ?_
  rintro e w3 ⟨v3, rfl, ho, hb⟩
  obtain ⟨A3, c3, rfl, hl3, hc3, hr3, -⟩ := rd_own ho
  have T1 := Lib.hid (Q1.out.below hb)
  have T2 := Lib.hid (Q2.out.below hb)
  have R3 := Lib.hid (R2.out.below hb)
  have S3 := Lib.hid (S2.out.below hb)
  have V3 := Lib.hid hr3
  obtain ⟨kq3, fq3⟩ := kp hb (b := w.heap.size) (cs := #[Value.int .i64 x, Value.int .i64 y]) (by omega) kq2 fq2
  have z3 := hb.size
  have B3 := Lib.hid (B2.out.trans (hb.mono B2.out.size))
  clear ho hr3 hb kq2 fq2 Q1 Q2 R2 S2 B2
  by_cases hall : fu = 0 ∧ fi = 0 ∧ fm = 0
  · obtain ⟨rfl, rfl, rfl⟩ := hall
    obtain ⟨e1, e2, e3⟩ := HZ.out rfl rfl rfl
    rw [e1] at CU
    rw [e2] at CI
    rw [e3] at CM
    clear e1 e2 e3
    generalize hasV a x y = ha at *
    generalize hasV b x y = hb' at *
    cases ha <;> cases hb'
    all_goals
      go_wp2_with fail
      go_region_held3 (fun w' => w'.cell? ⟨w.heap.size, 0, none⟩ = some (.int .i64 x) ∧ w'.cell? ⟨w.heap.size, 1, none⟩ = some (.int .i64 y)) (go_keep)
        (first | (go_at_call_of 24 (Value.slice A a.length ca); refine (CA.out _ ?ha).mono ?_; (case ha => exact T1.out.below (by (repeat' (first | (with_reducible exact Below.refl _ _) | (with_reducible assumption) | (with_reducible refine Below.alloc ?_ ?_ _) | (with_reducible refine Below.drew ?_) | (with_reducible refine below_drewN ?_ _) | (with_reducible refine Below.setCell ?_ ?_ _) | (with_reducible exact Nat.le_refl _) | omega | (simp only [World.size_alloc, World.size_setCell, World.size_drew]; omega) | (simp; omega) | (simp; done))))); rintro e w4 ⟨rfl, hb⟩; have y0 := ((hb.cell (p := ⟨w.heap.size, 0, none⟩) (by simp; omega)).trans (kq3 0)); have y1 := ((hb.cell (p := ⟨w.heap.size, 1, none⟩) (by simp; omega)).trans (kq3 1)); simp at y0 y1; have Z4 := Lib.hid (show Below w3.heap.size w3 w4 from (Below.refl _ w3).drew.trans (hb.mono (by simp))); clear hb) | (go_at_call_of 24 (Value.slice B b.length cb); refine (CB.out _ ?hb).mono ?_; (case hb => exact (T2.out.below Z4.out).below (by (repeat' (first | (with_reducible exact Below.refl _ _) | (with_reducible assumption) | (with_reducible refine Below.alloc ?_ ?_ _) | (with_reducible refine Below.drew ?_) | (with_reducible refine below_drewN ?_ _) | (with_reducible refine Below.setCell ?_ ?_ _) | (with_reducible exact Nat.le_refl _) | omega | (simp only [World.size_alloc, World.size_setCell, World.size_drew]; omega) | (simp; omega) | (simp; done))))); rintro e w5 ⟨rfl, hb⟩; have y2 := ((hb.cell (p := ⟨w.heap.size, 0, none⟩) (by have := Z4.out.size; simp; omega)).trans y0); have y3 := ((hb.cell (p := ⟨w.heap.size, 1, none⟩) (by have := Z4.out.size; simp; omega)).trans y1); have Z5 := Lib.hid (Z4.out.trans (hb.mono (by have := Z4.out.size; simp; omega))); clear hb))
      have R5 := Lib.hid (R3.out.below Z5.out)
      have S5 := Lib.hid (S3.out.below Z5.out)
      have V5 := Lib.hid (V3.out.below Z5.out)
      have z5 := Z5.out.size
      have B5 := Lib.hid (B3.out.trans (Z5.out.mono B3.out.size))
      clear y0 y1
      go_wp2_with fail
      refine (CU.out A1 c1 w5 hl1 hc1 R5.out).mono ?_
      rintro e w6 ⟨rfl, hb⟩
      have S6 := Lib.hid (S5.out.below hb)
      have V6 := Lib.hid (V5.out.below hb)
      have y4 := (hb.cell (p := ⟨w.heap.size, 0, none⟩) (by simp; omega)).trans y2
      have y5 := (hb.cell (p := ⟨w.heap.size, 1, none⟩) (by simp; omega)).trans y3
      have z6 := hb.size
      have B6 := Lib.hid (B5.out.trans (hb.mono B5.out.size))
      clear hb y2 y3
      go_wp2_with fail
      refine (CI.out A2 c2 w6 hl2 hc2 S6.out).mono ?_
      rintro e w7 ⟨rfl, hb⟩
      have V7 := Lib.hid (V6.out.below hb)
      have y6 := (hb.cell (p := ⟨w.heap.size, 0, none⟩) (by simp; omega)).trans y4
      have y7 := (hb.cell (p := ⟨w.heap.size, 1, none⟩) (by simp; omega)).trans y5
      have z7 := hb.size
      have B7 := Lib.hid (B6.out.trans (hb.mono B6.out.size))
      clear hb y4 y5
      go_wp2_with fail
      refine (CM.out A3 c3 w7 hl3 hc3 V7.out).mono ?_
      rintro e w8 ⟨rfl, hb⟩
      have B8 := Lib.hid (B7.out.trans (hb.mono B7.out.size))
      clear hb y6 y7
      go_wp2_with fail
      refine (CW.out w8).mono ?_
      rintro e w9 ⟨rfl, hb⟩
      have B9 := Lib.hid (B8.out.trans (hb.mono B8.out.size))
      clear hb
      go_wp2_with fail
      go_ret
      exact ⟨rfl, B9.out⟩
  · by_cases h0 : fu = 0
    · subst h0
      have hor : (fi == 0) = false ∨ ((fi == 0) = true ∧ (fm == 0) = false) := by
        cases h : (fi == 0)
        · exact .inl rfl
        · right
          refine ⟨rfl, ?_⟩
          cases h' : (fm == 0)
          · rfl
          · exact absurd ⟨rfl, by simpa using h, by simpa using h'⟩ hall
      have hor' : (fi != 0) = true ∨ ((fi != 0) = false ∧ (fm != 0) = true) := by
        rcases hor with h | ⟨h, h'⟩
        · left; simp [bne, h]
        · right; simp [bne, h, h']
      clear hall
      rcases hor' with h | ⟨h, h'⟩
      all_goals
        go_wp2_with fail
        refine (CW.out w3).mono ?_
        rintro e w9 ⟨rfl, hb⟩
        have B9 := Lib.hid (B3.out.trans (hb.mono B3.out.size))
        clear hb
        go_wp2_with fail
        go_ret
        exact ⟨rfl, B9.out⟩
    · obtain rfl := HBAD.out h0
      have hd : (fu == 0) = false := by simpa using h0
      have hd' : (fu != 0) = true := by simpa using h0
      clear hall h0
      simp only [List.length_nil]
      go_wp2_with fail
      refine (CW.out w3).mono ?_
      rintro e w9 ⟨rfl, hb⟩
      have B9 := Lib.hid (B3.out.trans (hb.mono B3.out.size))
      clear hb
      go_wp2_with fail
      go_ret
      exact ⟨rfl, B9.out⟩

set_option maxRecDepth 100000 in
theorem setsByPoints_lifted (os : Os) (started : os.Started) (H : Type) (enc : TypeId × Value → H) :
    ReturnsInHanded {} Try.checked os 6 .any (Rows.setsByPointsSpec.pre6 enc Try.prog Try.f6 Rows.setsByPointsRow.domain false) (Rows.setsByPointsSpec.post enc Try.prog Try.f6 false true false false) := by
  refine returnsInHanded_of_change_sized (C := Try.checked) own started (by kernel_rfl) Try.func6
    (ChangeSpec.witness6 (enc := enc) (C := Try.checked) false ⟨#[], #[.slice none 0 0, .slice none 0 0, .agg #[.int .i64 0, .int .i64 0]], []⟩ 8 (by kernel_rfl) (by kernel_rfl) (by kernel_rfl) (by kernel_rfl)) ?_
  intro W base args ds gs before hval0 hW hcnd hsz0 _
  have hval : ∀ (j : Nat) t v, Try.f6.params[j]? = some t → args[j]? = some v → Value.okWide Try.prog W .any base t v := hval0
  have hsz : (DataW.weightsEach Try.prog (Try.f6.params.toList ++ Rows.setsByPointsSpec.plain.varTypes Try.prog) (ds ++ gs)).all (· ≤ reachBytes) = true := hsz0
  have hW' := hW
  obtain ⟨p, q, hA0, hV, rfl, hfz, hnd⟩ := hW
  have hA : DataW.TrodAll enc Try.prog W 0 (fun _ => true) true Try.f6.params.toList args.toList ds p := hA0
  rw [Try.params6] at hA hval hsz
  obtain ⟨v0, vs0, d0, ds0, p0, q0, hargs, rfl, rfl, h0, r0⟩ := trodAll_cons hA
  obtain ⟨v1, vs1, d1, ds1, p1, q1, rfl, rfl, rfl, h1, r1⟩ := trodAll_cons r0
  obtain ⟨v2, vs2, d2, ds2, p2, q2, rfl, rfl, rfl, h2, r2⟩ := trodAll_cons r1
  obtain ⟨rfl, rfl, rfl⟩ := trodAll_nil r2
  obtain rfl : args = #[v0, v1, v2] := by cases args; simp_all
  obtain ⟨rfl, rfl⟩ := trodVars_none hV
  have k0 := h0
  have lt0 : ∀ x ∈ p0, x.block < W.heap.size := by obtain ⟨m, hm⟩ := k0; exact DataW.trod_lt m _ _ _ hm
  obtain ⟨A0, l0, c0, rfl, hl0, hr0, hc0⟩ := open_rects (hval 0 22 v0 rfl rfl) h0
  have hb0 := rects_room hsz (j := 0) rfl rfl hc0
  have k1 := h1
  have lt1 : ∀ x ∈ p1, x.block < W.heap.size := by obtain ⟨m, hm⟩ := k1; exact DataW.trod_lt m _ _ _ hm
  obtain ⟨A1, l1, c1, rfl, hl1, hr1, hc1⟩ := open_rects (hval 1 22 v1 rfl rfl) h1
  have hb1 := rects_room hsz (j := 1) rfl rfl hc1
  have k2 := h2
  have lt2 : ∀ x ∈ p2, x.block < W.heap.size := by obtain ⟨m, hm⟩ := k2; exact DataW.trod_lt m _ _ _ hm
  obtain ⟨x2, y2, rfl⟩ := open_point (hval 2 37 v2 rfl rfl) h2
  clear hA0 hval0 hsz0
  refine (setsByPoints_walk A0 l0 c0 A1 l1 c1 x2 y2 W hl0 hb0 hr0 hl1 hb1 hr1).mono fun e W' ⟨he, bel⟩ => ?_
  subst he
  exact ⟨_, rfl, _, _, _, [], _, [], hW', trodAll_mk1 (shut_bool Try.underlying4 _), (trodAll_cons_mk (Below.trod laidOut (by kernel_rfl) (of_decide_eq_true (by kernel_rfl)) k0 bel lt0) (trodAll_cons_mk (Below.trod laidOut (by kernel_rfl) (of_decide_eq_true (by kernel_rfl)) k1 bel lt1) (trodAll_cons_mk (Below.trod laidOut (by kernel_rfl) (of_decide_eq_true (by kernel_rfl)) k2 bel lt2) trodAll_mk0))), rfl, bel.frame _, fun h => by cases h⟩

set_option maxRecDepth 100000 in
theorem setsByPoints_holds : Rows.SetsByPointsSaid :=
  OpenClaim.holds_of_wide 6 Try.f6 rfl rfl rfl rfl rfl rfl rfl ⟨rfl, rfl, rfl, rfl, rfl⟩ rfl rfl rfl rfl rfl (by kernel_rfl) Try.func6 (by kernel_rfl)
    (of_decide_eq_true (by kernel_rfl)) (by unfold Func.isWrapper; rw [if_neg (by decide +kernel)]; exact ⟨rfl, rfl⟩)
    (fun os started H enc _ => setsByPoints_lifted os started H enc)
end Go.Proofs.Ytmcbjaefnhfopaa

/- The law SetsAddUp: for every two slices of rectangles, what is in a alone, and what is in both, make a, and have its area together; the areas of the union and of what is in both are those of a and b. -/
import Derived.Test.YtmcbjaefnhfopaaArea
import Derived.Test.YtmcbjaefnhfopaaAwake
import Derived.Test.YtmcbjaefnhfopaaOpens
namespace Go.Proofs.Ytmcbjaefnhfopaa
open Go.ChangeShapes Go.WideShapes Go.ChangeAt Go.RowKit
open Reg (R4 inR Kept)
set_option linter.unusedSimpArgs false
set_option linter.unusedVariables false

set_option maxRecDepth 100000 in
set_option maxHeartbeats 1000000 in
theorem larea_any (A : Option Addr) (l : List R4) (c : Nat) (w : World) (hr : regF l = 0) (hl : l.length ≤ c) (hc : c ≤ maxLen) (hl2 : l.length ≤ 140737488355328) (h : Rd w A l) :
    Calls Try.prog 23 #[.slice A l.length c] w fun e w' => e = .returned (.int .i64 (areaL l)) ∧ Below w.heap.size w w' := by
  have H0 := Lib.hid h
  have C1 := Lib.hid (area_anyM A l c w hl hc hl2 h)
  have ha : areaF l = areaL l := if_pos hr
  rw [hr, ha] at C1
  clear h hr ha
  generalize areaL l = a at *
  go_enter Try.func23, Try.ntmps23
  go_wp2_with fail
  refine C1.out.mono ?_
  rintro e w1 ⟨rfl, hb⟩
  have B1 := Lib.hid hb
  clear hb
  go_wp2_with fail
  go_ret
  exact ⟨rfl, B1.out⟩
theorem area_small {l : List R4} (h : regF l = 0) : 0 ≤ areaL l ∧ areaL l ≤ 8000000000000000 := by
  obtain ⟨h1, h2⟩ := rectsF_zero.1 (regF_zero.1 h).1
  obtain ⟨a1, a2⟩ := area_bound h2
  refine ⟨a1, ?_⟩
  have : (l.length : Int) * 4000000000000 ≤ 2000 * 4000000000000 := Int.mul_le_mul_of_nonneg_right (by omega) (by omega)
  omega

set_option maxRecDepth 100000 in
set_option maxHeartbeats 4000000 in
theorem setsAddUp_walk (A : Option Addr) (a : List R4) (ca : Nat) (B : Option Addr) (b : List R4) (cb : Nat) (w : World) (la : a.length ≤ ca) (ra : ca ≤ 140737488355328) (h1 : Rd w A a) (lb : b.length ≤ cb) (rb : cb ≤ 140737488355328) (h2 : Rd w B b) :
    Calls Try.prog 5 #[.slice A a.length ca, .slice B b.length cb] w fun e w' => e = .returned (.bool true) ∧ Below w.heap.size w w' := by
  have ra' : ca ≤ maxLen := by simp only [maxLen]; omega
  have rb' : cb ≤ maxLen := by simp only [maxLen]; omega
  have Ha0 := Lib.hid h1
  have Hb0 := Lib.hid h2
  have C1 := Lib.hid (fun W h1 h2 => union_any A B a b ca cb W la lb ra' rb' (by omega) (by omega) h1 h2)
  have C2 := Lib.hid (fun W h1 h2 => bothR_any A B a b ca cb W la lb ra' rb' (by omega) (by omega) h1 h2)
  have C3 := Lib.hid (fun W h1 h2 => minus_any A B a b ca cb W la lb ra' rb' (by omega) (by omega) h1 h2)
  have CW := Lib.hid (fun W => awake_any W)
  unfold GotRF at C1 C2 C3
  have hul := stL_len orK a b
  have hil := stL_len andK a b
  have hmL := stL_len notK a b
  have HBAD := Lib.hid (stL_bad (keep := orK) (a := a) (b := b))
  have hz : stF orK a b = 0 → stF andK a b = 0 → stF notK a b = 0 → (regF a = 0 ∧ regF b = 0 ∧ regF (stL orK a b) = 0 ∧ regF (stL andK a b) = 0 ∧ regF (stL notK a b) = 0) ∧ (stL orK (stL notK a b) (stL andK a b) = a ∧ stF orK (stL notK a b) (stL andK a b) = 0) ∧ (stL andK (stL notK a b) b = [] ∧ stF andK (stL notK a b) b = 0) ∧
      areaL (stL orK a b) + areaL (stL andK a b) = areaL a + areaL b ∧ areaL (stL notK a b) + areaL (stL andK a b) = areaL a := fun e1 e2 e3 => by
    obtain ⟨f1, f2, -, f3, -, f4⟩ := st_ok rfl e1 (fun x y h => kept_or.1 h)
    obtain ⟨-, -, -, g3, -, g4⟩ := st_ok rfl e2 (fun x y h => .inl (kept_and.1 h).1)
    obtain ⟨-, -, -, k3, -, k4⟩ := st_ok rfl e3 (fun x y h => .inl (kept_not.1 h).1)
    have eu : ∀ x y, inR (stL orK a b) x y ↔ inR a x y ∨ inR b x y := fun x y => (f4 x y).trans kept_or
    have ei : ∀ x y, inR (stL andK a b) x y ↔ inR a x y ∧ inR b x y := fun x y => (g4 x y).trans kept_and
    have em : ∀ x y, inR (stL notK a b) x y ↔ inR a x y ∧ ¬ inR b x y := fun x y => (k4 x y).trans kept_not
    refine ⟨⟨f1, f2, f3, g3, k3⟩, st_region rfl k3 g3 f1 fun x y => ?_, st_region rfl k3 f2 reg_nil fun x y => ?_, area_or_and f1 f2 f3 g3 eu ei, area_not_and f1 k3 g3 em ei⟩
    · rw [kept_or, em, ei]
      by_cases h1 : inR a x y <;> by_cases h2 : inR b x y <;> simp [h1, h2]
    · rw [kept_and, em]
      have hn : ¬ inR [] x y := fun ⟨r, hr, _⟩ => by simp at hr
      by_cases h1 : inR a x y <;> by_cases h2 : inR b x y <;> simp [h1, h2, hn]
  have HZ := Lib.hid hz
  clear h1 h2 hz
  generalize hU : stL orK a b = U at *
  generalize hfu : stF orK a b = fu at *
  generalize hI : stL andK a b = I at *
  generalize hfi : stF andK a b = fi at *
  generalize hM : stL notK a b = M at *
  generalize hfm : stF notK a b = fm at *
  clear hU hfu hI hfi hM hfm
  go_enter Try.func5, Try.ntmps5
  go_wp2_with fail
  refine (C1.out w Ha0.out Hb0.out).mono ?_
  rintro e w1 ⟨v, rfl, ho, hb⟩
  obtain ⟨AU, cU, rfl, hlU, hcU, hrU, -⟩ := rd_own ho
  have Ha1 := Lib.hid (Ha0.out.below hb)
  have Hb1 := Lib.hid (Hb0.out.below hb)
  have HU1 := Lib.hid hrU
  have B1 := Lib.hid hb
  clear hb ho hrU
  go_wp2_with fail
  refine (C2.out w1 Ha1.out Hb1.out).mono ?_
  rintro e w2 ⟨v, rfl, ho, hb⟩
  obtain ⟨AI, cI, rfl, hlI, hcI, hrI, -⟩ := rd_own ho
  have Ha2 := Lib.hid (Ha1.out.below hb)
  have Hb2 := Lib.hid (Hb1.out.below hb)
  have HU2 := Lib.hid (HU1.out.below hb)
  have HI2 := Lib.hid hrI
  have B2 := Lib.hid (B1.out.trans (hb.mono B1.out.size))
  clear hb ho hrI Ha1 Hb1 HU1 B1
  go_wp2_with fail
  refine (C3.out w2 Ha2.out Hb2.out).mono ?_
  rintro e w3 ⟨v, rfl, ho, hb⟩
  obtain ⟨AM, cM, rfl, hlM, hcM, hrM, -⟩ := rd_own ho
  have Ha3 := Lib.hid (Ha2.out.below hb)
  have Hb3 := Lib.hid (Hb2.out.below hb)
  have HU3 := Lib.hid (HU2.out.below hb)
  have HI3 := Lib.hid (HI2.out.below hb)
  have HM3 := Lib.hid hrM
  have B3 := Lib.hid (B2.out.trans (hb.mono B2.out.size))
  clear hb ho hrM Ha2 Hb2 HU2 HI2 B2
  by_cases hall : fu = 0 ∧ fi = 0 ∧ fm = 0
  · obtain ⟨rfl, rfl, rfl⟩ := hall
    obtain ⟨⟨za, zb, zu, zi, zm⟩, ⟨x1, x2⟩, ⟨y1, y2⟩, ar1, ar2⟩ := HZ.out rfl rfl rfl
    have C4 := Lib.hid (fun W h1 h2 => union_any AM AI M I cM cI W hlM hlI hcM hcI (by omega) (by omega) h1 h2)
    have C5 := Lib.hid (fun W h1 h2 => bothR_any AM B M b cM cb W hlM lb hcM rb' (by omega) (by omega) h1 h2)
    unfold GotRF at C4 C5
    rw [x1, x2] at C4
    rw [y1, y2] at C5
    have C6 := Lib.hid (fun AX cX W h1 h2 => equal_any AX A a a cX ca W (by omega) (by omega) h1 h2)
    rw [decide_eq_true rfl] at C6
    have Cu := Lib.hid (fun W h => larea_any AU U cU W zu hlU hcU (by omega) h)
    have Ci := Lib.hid (fun W h => larea_any AI I cI W zi hlI hcI (by omega) h)
    have Cm := Lib.hid (fun W h => larea_any AM M cM W zm hlM hcM (by omega) h)
    have Ca := Lib.hid (fun W h => larea_any A a ca W za la ra' (by omega) h)
    have Cb := Lib.hid (fun W h => larea_any B b cb W zb lb rb' (by omega) h)
    have bu := area_small zu
    have bi := area_small zi
    have bm := area_small zm
    have ba := area_small za
    have bb := area_small zb
    clear x1 x2 y1 y2 za zb zu zi zm HZ HBAD C1 C2 C3
    generalize areaL U = nu at *
    generalize areaL I = ni at *
    generalize areaL M = nm at *
    generalize areaL a = na at *
    generalize areaL b = nb at *
    obtain rfl : na = nm + ni := by omega
    obtain rfl : nu = nm + ni + nb - ni := by omega
    go_wp2_with fail
    refine (C4.out w3 HM3.out HI3.out).mono ?_
    rintro e w4 ⟨v, rfl, ho, hb⟩
    obtain ⟨AX, cX, rfl, hlX, hcX, hrX, -⟩ := rd_own ho
    have Ha4 := Lib.hid (Ha3.out.below hb)
    have Hb4 := Lib.hid (Hb3.out.below hb)
    have HU4 := Lib.hid (HU3.out.below hb)
    have HI4 := Lib.hid (HI3.out.below hb)
    have HM4 := Lib.hid (HM3.out.below hb)
    have HX4 := Lib.hid hrX
    have B4 := Lib.hid (B3.out.trans (hb.mono B3.out.size))
    clear hb ho hrX Ha3 Hb3 HU3 HI3 HM3 B3
    go_wp2_with fail
    refine (C5.out w4 HM4.out Hb4.out).mono ?_
    rintro e w5 ⟨v, rfl, ho, hb⟩
    obtain ⟨AY, cY, rfl, hlY, hcY, hrY, -⟩ := rd_own ho
    have Ha5 := Lib.hid (Ha4.out.below hb)
    have Hb5 := Lib.hid (Hb4.out.below hb)
    have HU5 := Lib.hid (HU4.out.below hb)
    have HI5 := Lib.hid (HI4.out.below hb)
    have HM5 := Lib.hid (HM4.out.below hb)
    have HX5 := Lib.hid (HX4.out.below hb)
    have HY5 := Lib.hid hrY
    have B5 := Lib.hid (B4.out.trans (hb.mono B4.out.size))
    clear hb ho hrY Ha4 Hb4 HU4 HI4 HM4 HX4 B4
    simp only [List.length_nil] at *
    go_wp2_with fail
    refine (C6.out AX cX w5 HX5.out Ha5.out).mono ?_
    rintro e w6 ⟨rfl, hb⟩
    have Ha6 := Lib.hid (Ha5.out.below hb)
    have Hb6 := Lib.hid (Hb5.out.below hb)
    have HU6 := Lib.hid (HU5.out.below hb)
    have HI6 := Lib.hid (HI5.out.below hb)
    have HM6 := Lib.hid (HM5.out.below hb)
    have B6 := Lib.hid (B5.out.trans (hb.mono B5.out.size))
    clear hb Ha5 Hb5 HU5 HI5 HM5 HX5 HY5 B5
    go_wp2_with fail
    refine (Cu.out w6 HU6.out).mono ?_
    rintro e w7 ⟨rfl, hb⟩
    have Ha7 := Lib.hid (Ha6.out.below hb)
    have Hb7 := Lib.hid (Hb6.out.below hb)
    have HI7 := Lib.hid (HI6.out.below hb)
    have HM7 := Lib.hid (HM6.out.below hb)
    have B7 := Lib.hid (B6.out.trans (hb.mono B6.out.size))
    clear hb Ha6 Hb6 HU6 HI6 HM6 B6
    go_wp2_with fail
    refine (Ci.out w7 HI7.out).mono ?_
    rintro e w8 ⟨rfl, hb⟩
    have Ha8 := Lib.hid (Ha7.out.below hb)
    have Hb8 := Lib.hid (Hb7.out.below hb)
    have HI8 := Lib.hid (HI7.out.below hb)
    have HM8 := Lib.hid (HM7.out.below hb)
    have B8 := Lib.hid (B7.out.trans (hb.mono B7.out.size))
    clear hb Ha7 Hb7 HI7 HM7 B7
    go_wp2_with fail
    refine (Ca.out w8 Ha8.out).mono ?_
    rintro e w9 ⟨rfl, hb⟩
    have Ha9 := Lib.hid (Ha8.out.below hb)
    have Hb9 := Lib.hid (Hb8.out.below hb)
    have HI9 := Lib.hid (HI8.out.below hb)
    have HM9 := Lib.hid (HM8.out.below hb)
    have B9 := Lib.hid (B8.out.trans (hb.mono B8.out.size))
    clear hb Ha8 Hb8 HI8 HM8 B8
    go_wp2_with fail
    refine (Cb.out w9 Hb9.out).mono ?_
    rintro e w10 ⟨rfl, hb⟩
    have Ha10 := Lib.hid (Ha9.out.below hb)
    have HI10 := Lib.hid (HI9.out.below hb)
    have HM10 := Lib.hid (HM9.out.below hb)
    have B10 := Lib.hid (B9.out.trans (hb.mono B9.out.size))
    clear hb Ha9 Hb9 HI9 HM9 B9
    go_wp2_with fail
    refine (Cm.out w10 HM10.out).mono ?_
    rintro e w11 ⟨rfl, hb⟩
    have Ha11 := Lib.hid (Ha10.out.below hb)
    have HI11 := Lib.hid (HI10.out.below hb)
    have B11 := Lib.hid (B10.out.trans (hb.mono B10.out.size))
    clear hb Ha10 HI10 HM10 B10
    go_wp2_with fail
    refine (Ci.out w11 HI11.out).mono ?_
    rintro e w12 ⟨rfl, hb⟩
    have Ha12 := Lib.hid (Ha11.out.below hb)
    have B12 := Lib.hid (B11.out.trans (hb.mono B11.out.size))
    clear hb Ha11 HI11 B11
    go_wp2_with fail
    refine (Ca.out w12 Ha12.out).mono ?_
    rintro e w13 ⟨rfl, hb⟩
    have B13 := Lib.hid (B12.out.trans (hb.mono B12.out.size))
    clear hb Ha12 B12
    go_wp2_with fail
    refine (CW.out w13).mono ?_
    rintro e w14 ⟨rfl, hb⟩
    have B14 := Lib.hid (B13.out.trans (hb.mono B13.out.size))
    clear hb B13
    go_wp2_with fail
    go_ret
    exact ⟨rfl, B14.out⟩
  · by_cases h0 : fu = 0
    · subst h0
      have hor' : (fi != 0) = true ∨ ((fi != 0) = false ∧ (fm != 0) = true) := by
        cases h : (fi == 0)
        · left; simp [bne, h]
        · right
          refine ⟨by simp [bne, h], ?_⟩
          cases h' : (fm == 0)
          · simp [bne, h']
          · exact absurd ⟨rfl, by simpa using h, by simpa using h'⟩ hall
      clear hall
      rcases hor' with h | ⟨h, h'⟩
      all_goals
        go_wp2_with fail
        refine (CW.out w3).mono ?_
        rintro e w9 ⟨rfl, hb⟩
        have B9 := Lib.hid (B3.out.trans (hb.mono B3.out.size))
        clear hb
        go_wp2_with fail
        go_ret
        exact ⟨rfl, B9.out⟩
    · obtain rfl := HBAD.out h0
      have hd : (fu == 0) = false := by simpa using h0
      have hd' : (fu != 0) = true := by simpa using h0
      clear hall h0
      simp only [List.length_nil]
      go_wp2_with fail
      refine (CW.out w3).mono ?_
      rintro e w9 ⟨rfl, hb⟩
      have B9 := Lib.hid (B3.out.trans (hb.mono B3.out.size))
      clear hb
      go_wp2_with fail
      go_ret
      exact ⟨rfl, B9.out⟩

set_option maxRecDepth 100000 in
theorem setsAddUp_lifted (os : Os) (started : os.Started) (H : Type) (enc : TypeId × Value → H) :
    ReturnsInHanded {} Try.checked os 5 .any (Rows.setsAddUpSpec.pre6 enc Try.prog Try.f5 Rows.setsAddUpRow.domain false) (Rows.setsAddUpSpec.post enc Try.prog Try.f5 false true false false) := by
  refine returnsInHanded_of_change_sized (C := Try.checked) own started (by kernel_rfl) Try.func5
    (ChangeSpec.witness6 (enc := enc) (C := Try.checked) false ⟨#[], #[.slice none 0 0, .slice none 0 0], []⟩ 8 (by kernel_rfl) (by kernel_rfl) (by kernel_rfl) (by kernel_rfl)) ?_
  intro W base args ds gs before hval0 hW hcnd hsz0 _
  have hval : ∀ (j : Nat) t v, Try.f5.params[j]? = some t → args[j]? = some v → Value.okWide Try.prog W .any base t v := hval0
  have hsz : (DataW.weightsEach Try.prog (Try.f5.params.toList ++ Rows.setsAddUpSpec.plain.varTypes Try.prog) (ds ++ gs)).all (· ≤ reachBytes) = true := hsz0
  have hW' := hW
  obtain ⟨p, q, hA0, hV, rfl, hfz, hnd⟩ := hW
  have hA : DataW.TrodAll enc Try.prog W 0 (fun _ => true) true Try.f5.params.toList args.toList ds p := hA0
  rw [Try.params5] at hA hval hsz
  obtain ⟨v0, vs0, d0, ds0, p0, q0, hargs, rfl, rfl, h0, r0⟩ := trodAll_cons hA
  obtain ⟨v1, vs1, d1, ds1, p1, q1, rfl, rfl, rfl, h1, r1⟩ := trodAll_cons r0
  obtain ⟨rfl, rfl, rfl⟩ := trodAll_nil r1
  obtain rfl : args = #[v0, v1] := by cases args; simp_all
  obtain ⟨rfl, rfl⟩ := trodVars_none hV
  have k0 := h0
  have lt0 : ∀ x ∈ p0, x.block < W.heap.size := by obtain ⟨m, hm⟩ := k0; exact DataW.trod_lt m _ _ _ hm
  obtain ⟨A0, l0, c0, rfl, hl0, hr0, hc0⟩ := open_rects (hval 0 22 v0 rfl rfl) h0
  have hb0 := rects_room hsz (j := 0) rfl rfl hc0
  have k1 := h1
  have lt1 : ∀ x ∈ p1, x.block < W.heap.size := by obtain ⟨m, hm⟩ := k1; exact DataW.trod_lt m _ _ _ hm
  obtain ⟨A1, l1, c1, rfl, hl1, hr1, hc1⟩ := open_rects (hval 1 22 v1 rfl rfl) h1
  have hb1 := rects_room hsz (j := 1) rfl rfl hc1
  clear hA0 hval0 hsz0
  refine (setsAddUp_walk A0 l0 c0 A1 l1 c1 W hl0 hb0 hr0 hl1 hb1 hr1).mono fun e W' ⟨he, bel⟩ => ?_
  subst he
  exact ⟨_, rfl, _, _, _, [], _, [], hW', trodAll_mk1 (shut_bool Try.underlying4 _), (trodAll_cons_mk (Below.trod laidOut (by kernel_rfl) (of_decide_eq_true (by kernel_rfl)) k0 bel lt0) (trodAll_cons_mk (Below.trod laidOut (by kernel_rfl) (of_decide_eq_true (by kernel_rfl)) k1 bel lt1) trodAll_mk0)), rfl, bel.frame _, fun h => by cases h⟩

set_option maxRecDepth 100000 in
theorem setsAddUp_holds : Rows.SetsAddUpSaid :=
  OpenClaim.holds_of_wide 5 Try.f5 rfl rfl rfl rfl rfl rfl rfl ⟨rfl, rfl, rfl, rfl, rfl⟩ rfl rfl rfl rfl rfl (by kernel_rfl) Try.func5 (by kernel_rfl)
    (of_decide_eq_true (by kernel_rfl)) (by unfold Func.isWrapper; rw [if_neg (by decide +kernel)]; exact ⟨rfl, rfl⟩)
    (fun os started H enc _ => setsAddUp_lifted os started H enc)
end Go.Proofs.Ytmcbjaefnhfopaa

/- The law TurnedRegionsKeep: for every slice of rectangles and every turn, a turned region has the same area and as many pieces and holes, and turned back it is the region. -/
import Derived.Test.YtjcbngpgmgeanaaTurnU
import Derived.Test.YtjcbngpgmgeanaaPieceD
import Derived.Test.YtjcbngpgmgeanaaAwake
import Derived.Test.YtjcbngpgmgeanaaOpens
namespace Go.Proofs.Ytjcbngpgmgeanaa
open Go.ChangeShapes Go.WideShapes Go.ChangeAt Go.RowKit
open Reg (R4 inR)
set_option linter.unusedSimpArgs false
set_option linter.unusedVariables false

theorem cells_turn : Try.prog.cellsOf 49 = 4 := by kernel_rfl
theorem cells_bool : Try.prog.cellsOf 4 = 1 := by kernel_rfl
section
variable {H : Type} {enc : TypeId × Value → H} {w : World} {base : Nat} {spare : Nat → Bool} {held : Bool} {r : Reach} {b0 : Nat} {v : Value} {d : DataW H} {p : List MemPlace}
set_option maxRecDepth 100000 in
theorem open_turn (hv : Value.okWide Try.prog w r b0 49 v) (h : DataW.Trod enc Try.prog w base spare held 49 v d p) : ∃ (f : Bool) (q a b : Int), v = .agg #[.bool f, .int .i64 q, .int .i64 a, .int .i64 b] := by
  obtain ⟨cs, rfl, hsz⟩ := okWide_struct Try.underlying49 hv
  obtain ⟨l⟩ := cs
  obtain ⟨fuel, hf⟩ := h
  obtain ⟨xs, n, _, hx, hl, hlen, hg⟩ := DataW.trod_struct Try.underlying49 hf
  rw [cells_turn] at hl
  simp only [Value.cells] at hl hg
  match l, hl with
  | [c0, c1, c2, c3], _ =>
    have g0 := hg 0 _ rfl
    have g1 := hg 1 _ rfl
    have g2 := hg 2 _ rfl
    have i0 : 0 < xs.length := by rw [hlen]; decide
    have i1 : 1 < xs.length := by rw [hlen]; decide
    have i2 : 2 < xs.length := by rw [hlen]; decide
    rw [List.getElem?_eq_getElem i0] at g0
    rw [List.getElem?_eq_getElem i1] at g1
    rw [List.getElem?_eq_getElem i2] at g2
    simp [cells_int, cells_bool, cells_point] at g0 g1 g2
    obtain ⟨f, e0, _⟩ := DataW.trod_bool Try.underlying4 g0
    obtain ⟨q, e1, _⟩ := DataW.trod_int Try.underlying3 g1
    obtain ⟨a, b, e2⟩ := point_cells g2
    simp at e0 e1 e2
    obtain ⟨e2, e3⟩ := e2
    subst e0 e1 e2 e3
    exact ⟨f, q, a, b, rfl⟩
end
theorem trL_few (l : List R4) (f : Bool) (q ax ay : Int) : (trL l f q ax ay).length ≤ 2000 := by
  unfold trL resL
  repeat' split
  all_goals first | assumption | simp
theorem trL_bad {l : List R4} {f : Bool} {q ax ay : Int} (h : ¬ trF l f q ax ay = 0) : trL l f q ax ay = [] := by
  unfold trF at h
  unfold trL
  split
  · rename_i h0
    rw [if_pos h0] at h
    split
    · rename_i h1
      rw [if_pos h1] at h
      split
      · rename_i h2
        rw [if_pos h2] at h
        unfold resL
        rw [if_neg (fun k => h (resF_zero.2 k))]
      · rfl
    · rfl
  · rfl

set_option maxRecDepth 100000 in
set_option maxHeartbeats 4000000 in
theorem turnedRegionsKeep_walk (A : Option Addr) (l : List R4) (c : Nat) (f : Bool) (q ax ay : Int) (w : World) (hl : l.length ≤ c) (rc : c ≤ 140737488355328) (h : Rd w A l) :
    Calls Try.prog 7 #[.slice A l.length c, .agg #[.bool f, .int .i64 q, .int .i64 ax, .int .i64 ay]] w fun e w' => e = .returned (.bool true) ∧ Below w.heap.size w w' := by
  have rc' : c ≤ maxLen := by simp only [maxLen]; omega
  have H0 := Lib.hid h
  have C1 := Lib.hid (fun W h => turned_any A l c f q ax ay W hl rc' (by omega) h)
  have CW := Lib.hid (fun W => awake_any W)
  unfold GotRF at C1
  clear h
  by_cases hF : trF l f q ax ay = 0
  · obtain ⟨m1, m2, m3, m4, m5, m6⟩ := turned_keep hF
    obtain ⟨l1, tz, tq, tax, tay, -⟩ := tr_zero hF
    have hm2000 := trL_few l f q ax ay
    have hl2000 := (rectsF_zero.1 (regF_zero.1 l1).1).1
    rw [hF] at C1
    obtain ⟨n, rfl⟩ := Int.eq_ofNat_of_zero_le tq.1
    rw [Int.toNat_natCast] at m2 m3
    have C2 := Lib.hid (fun W => back_any f n ax ay W (by omega) tax tay tz)
    generalize trL l f n ax ay = m at *
    have C3 := Lib.hid (fun A' c' W hl' hc' h => turned_any A' m c' f (bq f n) (bX f n ax ay) (bY f n ax ay) W hl' hc' (by omega) h)
    unfold GotRF at C3
    rw [m2, m3] at C3
    have C4 := Lib.hid (fun W h => pieces_any A l c W hl rc' (by omega) h)
    have C5 := Lib.hid (fun A' c' W hl' hc' h => pieces_any A' m c' W hl' hc' (by omega) h)
    have C6 := Lib.hid (fun W h => holes_any A l c W hl rc' (by omega) h)
    have C7 := Lib.hid (fun A' c' W hl' hc' h => holes_any A' m c' W hl' hc' (by omega) h)
    unfold GotPs pcL at C4 C5
    unfold GotPs hoL at C6 C7
    rw [if_pos l1, l1] at C4 C6
    rw [if_pos m1, m1] at C5 C7
    have CE := Lib.hid (fun A1 c1 W h1 h2 => equal_any A1 A l l c1 c W (by omega) (by omega) h1 h2)
    rw [decide_eq_true rfl] at CE
    have CA := Lib.hid (fun W h => larea_any A l c W l1 hl rc' (by omega) h)
    have CB := Lib.hid (fun A' c' W hl' hc' h => larea_any A' m c' W m1 hl' hc' (by omega) h)
    rw [m4] at CB
    rw [← m5] at C5
    rw [← m6] at C7
    clear m1 m2 m3 m4 m5 m6 l1 tz tq tax tay hF
    generalize bq f n = n' at *
    generalize bX f n ax ay = x' at *
    generalize bY f n ax ay = y' at *
    generalize areaL l = a at *
    generalize (pcsL l).length = np at *
    generalize (hlsE l).length = nh at *
    go_enter Try.func7, Try.ntmps7
    go_wp2_with fail
    refine (C1.out _ (H0.out.below (by (repeat' (first | (with_reducible exact Below.refl _ _) | (with_reducible assumption) | (with_reducible refine Below.alloc ?_ ?_ _) | (with_reducible refine Below.drew ?_) | (with_reducible refine below_drewN ?_ _) | (with_reducible refine Below.setCell ?_ ?_ _) | (with_reducible exact Nat.le_refl _) | omega | (simp only [World.size_alloc, World.size_setCell, World.size_drew]; omega) | (simp; omega) | (simp; done)))))).mono ?_
    rintro e w1 ⟨v1, rfl, ho, hb⟩
    obtain ⟨A1, c1, rfl, hl1, hc1, hr1, -⟩ := rd_own ho
    have P1 := Lib.hid ((H0.out.below (by (repeat' (first | (with_reducible exact Below.refl _ _) | (with_reducible assumption) | (with_reducible refine Below.alloc ?_ ?_ _) | (with_reducible refine Below.drew ?_) | (with_reducible refine below_drewN ?_ _) | (with_reducible refine Below.setCell ?_ ?_ _) | (with_reducible exact Nat.le_refl _) | omega | (simp only [World.size_alloc, World.size_setCell, World.size_drew]; omega) | (simp; omega) | (simp; done))))).below hb)
    have R1 := Lib.hid hr1
    obtain ⟨kq, fq⟩ := kp hb (b := w.heap.size) (cs := #[.bool f, .int .i64 n, .int .i64 ax, .int .i64 ay]) (by (first | (with_reducible exact Nat.le_refl _) | (with_reducible assumption) | omega | (simp only [World.size_alloc, World.size_setCell, World.size_drew]; omega) | (simp; omega) | (simp; done))) (fun i => by simp [go_sem]) (fun i => by simp [go_sem])
    have t0 := kq 0
    have t1 := kq 1
    have t2 := kq 2
    have t3 := kq 3
    simp at t0 t1 t2 t3
    have B1 := Lib.hid (up (B := w.heap.size) (w := w) (by (repeat' (first | (with_reducible exact Below.refl _ _) | (with_reducible assumption) | (with_reducible refine Below.alloc ?_ ?_ _) | (with_reducible refine Below.drew ?_) | (with_reducible refine below_drewN ?_ _) | (with_reducible refine Below.setCell ?_ ?_ _) | (with_reducible exact Nat.le_refl _) | omega | (simp only [World.size_alloc, World.size_setCell, World.size_drew]; omega) | (simp; omega) | (simp; done)))) hb (by (first | (with_reducible exact Nat.le_refl _) | (with_reducible assumption) | omega | (simp only [World.size_alloc, World.size_setCell, World.size_drew]; omega) | (simp; omega) | (simp; done))))
    clear ho hr1 hb kq fq
    go_wp2_with fail
    refine (C2.out w1).mono ?_
    rintro e w2 ⟨rfl, hb⟩
    have P2 := Lib.hid (P1.out.below hb)
    have R2 := Lib.hid (R1.out.below hb)
    have B2 := Lib.hid (B1.out.trans (hb.mono B1.out.size))
    have z2 := B2.out.size
    clear hb P1 R1 B1 t0 t1 t2 t3
    go_wp2_with fail
    refine (C3.out A1 c1 _ hl1 hc1 (R2.out.below (by (repeat' (first | (with_reducible exact Below.refl _ _) | (with_reducible assumption) | (with_reducible refine Below.alloc ?_ ?_ _) | (with_reducible refine Below.drew ?_) | (with_reducible refine below_drewN ?_ _) | (with_reducible refine Below.setCell ?_ ?_ _) | (with_reducible exact Nat.le_refl _) | omega | (simp only [World.size_alloc, World.size_setCell, World.size_drew]; omega) | (simp; omega) | (simp; done)))))).mono ?_
    rintro e w3 ⟨v3, rfl, ho, hb⟩
    obtain ⟨A3, c3, rfl, hl3, hc3, hr3, -⟩ := rd_own ho
    have P3 := Lib.hid ((P2.out.below (by (repeat' (first | (with_reducible exact Below.refl _ _) | (with_reducible assumption) | (with_reducible refine Below.alloc ?_ ?_ _) | (with_reducible refine Below.drew ?_) | (with_reducible refine below_drewN ?_ _) | (with_reducible refine Below.setCell ?_ ?_ _) | (with_reducible exact Nat.le_refl _) | omega | (simp only [World.size_alloc, World.size_setCell, World.size_drew]; omega) | (simp; omega) | (simp; done))))).below hb)
    have R3 := Lib.hid ((R2.out.below (by (repeat' (first | (with_reducible exact Below.refl _ _) | (with_reducible assumption) | (with_reducible refine Below.alloc ?_ ?_ _) | (with_reducible refine Below.drew ?_) | (with_reducible refine below_drewN ?_ _) | (with_reducible refine Below.setCell ?_ ?_ _) | (with_reducible exact Nat.le_refl _) | omega | (simp only [World.size_alloc, World.size_setCell, World.size_drew]; omega) | (simp; omega) | (simp; done))))).below hb)
    have S3 := Lib.hid hr3
    have B3 := Lib.hid (up (B := w.heap.size) (w := w) (B2.out.alloc z2 _) hb (by simp; omega))
    clear ho hr3 hb P2 R2 B2
    go_wp2_with fail
    refine (C4.out w3 P3.out).mono ?_
    rintro e w4 ⟨A4, c4, hd4, rfl, -, -, -, hb⟩
    have P4 := Lib.hid (P3.out.below hb)
    have R4 := Lib.hid (R3.out.below hb)
    have S4 := Lib.hid (S3.out.below hb)
    have B4 := Lib.hid (B3.out.trans (hb.mono B3.out.size))
    clear hb P3 R3 S3 B3
    go_wp2_with fail
    refine (C5.out A1 c1 w4 hl1 hc1 R4.out).mono ?_
    rintro e w5 ⟨A5, c5, hd5, rfl, -, -, -, hb⟩
    have P5 := Lib.hid (P4.out.below hb)
    have R5 := Lib.hid (R4.out.below hb)
    have S5 := Lib.hid (S4.out.below hb)
    have B5 := Lib.hid (B4.out.trans (hb.mono B4.out.size))
    clear hb P4 R4 S4 B4
    go_wp2_with fail
    refine (C6.out w5 P5.out).mono ?_
    rintro e w6 ⟨A6, c6, hd6, rfl, -, -, -, hb⟩
    have P6 := Lib.hid (P5.out.below hb)
    have R6 := Lib.hid (R5.out.below hb)
    have S6 := Lib.hid (S5.out.below hb)
    have B6 := Lib.hid (B5.out.trans (hb.mono B5.out.size))
    clear hb P5 R5 S5 B5
    go_wp2_with fail
    refine (C7.out A1 c1 w6 hl1 hc1 R6.out).mono ?_
    rintro e w7 ⟨A7, c7, hd7, rfl, -, -, -, hb⟩
    have P7 := Lib.hid (P6.out.below hb)
    have R7 := Lib.hid (R6.out.below hb)
    have S7 := Lib.hid (S6.out.below hb)
    have B7 := Lib.hid (B6.out.trans (hb.mono B6.out.size))
    clear hb P6 R6 S6 B6
    go_wp2_with fail
    refine (CE.out A3 c3 w7 S7.out P7.out).mono ?_
    rintro e w8 ⟨rfl, hb⟩
    have P8 := Lib.hid (P7.out.below hb)
    have R8 := Lib.hid (R7.out.below hb)
    have B8 := Lib.hid (B7.out.trans (hb.mono B7.out.size))
    clear hb P7 R7 S7 B7
    go_wp2_with fail
    refine (CB.out A1 c1 w8 hl1 hc1 R8.out).mono ?_
    rintro e w9 ⟨rfl, hb⟩
    have P9 := Lib.hid (P8.out.below hb)
    have B9 := Lib.hid (B8.out.trans (hb.mono B8.out.size))
    clear hb P8 R8 B8
    go_wp2_with fail
    refine (CA.out w9 P9.out).mono ?_
    rintro e w10 ⟨rfl, hb⟩
    have B10 := Lib.hid (B9.out.trans (hb.mono B9.out.size))
    clear hb P9 B9
    go_wp2_with fail
    refine (CW.out _).mono ?_
    rintro e w11 ⟨rfl, hb⟩
    have B11 := Lib.hid (B10.out.trans (hb.mono B10.out.size))
    clear hb
    go_wp2_with fail
    go_ret
    exact ⟨rfl, B11.out⟩
  · have hd1 : (trF l f q ax ay != 0) = true := by simpa using hF
    rw [trL_bad hF] at C1
    clear hF
    generalize trF l f q ax ay = F at *
    simp only [List.length_nil] at C1
    go_enter Try.func7, Try.ntmps7
    go_wp2_with fail
    refine (C1.out _ (H0.out.below (by (repeat' (first | (with_reducible exact Below.refl _ _) | (with_reducible assumption) | (with_reducible refine Below.alloc ?_ ?_ _) | (with_reducible refine Below.drew ?_) | (with_reducible refine below_drewN ?_ _) | (with_reducible refine Below.setCell ?_ ?_ _) | (with_reducible exact Nat.le_refl _) | omega | (simp only [World.size_alloc, World.size_setCell, World.size_drew]; omega) | (simp; omega) | (simp; done)))))).mono ?_
    rintro e w1 ⟨v1, rfl, ho, hb⟩
    obtain ⟨A1, c1, rfl, -, -, -, -⟩ := rd_own (l := []) ho
    have B1 := Lib.hid (up (B := w.heap.size) (w := w) (by (repeat' (first | (with_reducible exact Below.refl _ _) | (with_reducible assumption) | (with_reducible refine Below.alloc ?_ ?_ _) | (with_reducible refine Below.drew ?_) | (with_reducible refine below_drewN ?_ _) | (with_reducible refine Below.setCell ?_ ?_ _) | (with_reducible exact Nat.le_refl _) | omega | (simp only [World.size_alloc, World.size_setCell, World.size_drew]; omega) | (simp; omega) | (simp; done)))) hb (by (first | (with_reducible exact Nat.le_refl _) | (with_reducible assumption) | omega | (simp only [World.size_alloc, World.size_setCell, World.size_drew]; omega) | (simp; omega) | (simp; done))))
    clear ho hb
    simp only [List.length_nil] at *
    go_wp2_with fail
    refine (CW.out _).mono ?_
    rintro e w9 ⟨rfl, hb⟩
    have B9 := Lib.hid (B1.out.trans (hb.mono B1.out.size))
    clear hb
    go_wp2_with fail
    go_ret
    exact ⟨rfl, B9.out⟩

set_option maxRecDepth 100000 in
theorem turnedRegionsKeep_lifted (os : Os) (started : os.Started) (H : Type) (enc : TypeId × Value → H) :
    ReturnsInHanded {} Try.checked os 7 .any (Rows.turnedRegionsKeepSpec.pre6 enc Try.prog Try.f7 Rows.turnedRegionsKeepRow.domain false) (Rows.turnedRegionsKeepSpec.post enc Try.prog Try.f7 false true false false) := by
  refine returnsInHanded_of_change_sized (C := Try.checked) own started (by kernel_rfl) Try.func7
    (ChangeSpec.witness6 (enc := enc) (C := Try.checked) false ⟨#[], #[.slice none 0 0, .agg #[.bool false, .int .i64 0, .int .i64 0, .int .i64 0]], []⟩ 8 (by kernel_rfl) (by kernel_rfl) (by kernel_rfl) (by kernel_rfl)) ?_
  intro W base args ds gs before hval0 hW hcnd hsz0 _
  have hval : ∀ (j : Nat) t v, Try.f7.params[j]? = some t → args[j]? = some v → Value.okWide Try.prog W .any base t v := hval0
  have hsz : (DataW.weightsEach Try.prog (Try.f7.params.toList ++ Rows.turnedRegionsKeepSpec.plain.varTypes Try.prog) (ds ++ gs)).all (· ≤ reachBytes) = true := hsz0
  have hW' := hW
  obtain ⟨p, q, hA0, hV, rfl, hfz, hnd⟩ := hW
  have hA : DataW.TrodAll enc Try.prog W 0 (fun _ => true) true Try.f7.params.toList args.toList ds p := hA0
  rw [Try.params7] at hA hval hsz
  obtain ⟨v0, vs0, d0, ds0, p0, q0, hargs, rfl, rfl, h0, r0⟩ := trodAll_cons hA
  obtain ⟨v1, vs1, d1, ds1, p1, q1, rfl, rfl, rfl, h1, r1⟩ := trodAll_cons r0
  obtain ⟨rfl, rfl, rfl⟩ := trodAll_nil r1
  obtain rfl : args = #[v0, v1] := by cases args; simp_all
  obtain ⟨rfl, rfl⟩ := trodVars_none hV
  have k0 := h0
  have lt0 : ∀ x ∈ p0, x.block < W.heap.size := by obtain ⟨m, hm⟩ := k0; exact DataW.trod_lt m _ _ _ hm
  obtain ⟨A0, l0, c0, rfl, hl0, hr0, hc0⟩ := open_rects (hval 0 22 v0 rfl rfl) h0
  have hb0 := rects_room hsz (j := 0) rfl rfl hc0
  have k1 := h1
  have lt1 : ∀ x ∈ p1, x.block < W.heap.size := by obtain ⟨m, hm⟩ := k1; exact DataW.trod_lt m _ _ _ hm
  obtain ⟨b1, x1, y1, z1, rfl⟩ := open_turn (hval 1 49 v1 rfl rfl) h1
  clear hA0 hval0 hsz0
  refine (turnedRegionsKeep_walk A0 l0 c0 b1 x1 y1 z1 W hl0 hb0 hr0).mono fun e W' ⟨he, bel⟩ => ?_
  subst he
  exact ⟨_, rfl, _, _, _, [], _, [], hW', trodAll_mk1 (shut_bool Try.underlying4 _), (trodAll_cons_mk (Below.trod laidOut (by kernel_rfl) (of_decide_eq_true (by kernel_rfl)) k0 bel lt0) (trodAll_cons_mk (Below.trod laidOut (by kernel_rfl) (of_decide_eq_true (by kernel_rfl)) k1 bel lt1) trodAll_mk0)), rfl, bel.frame _, fun h => by cases h⟩

set_option maxRecDepth 100000 in
theorem turnedRegionsKeep_holds : Rows.TurnedRegionsKeepSaid :=
  OpenClaim.holds_of_wide 7 Try.f7 rfl rfl rfl rfl rfl rfl rfl ⟨rfl, rfl, rfl, rfl, rfl⟩ rfl rfl rfl rfl rfl (by kernel_rfl) Try.func7 (by kernel_rfl)
    (of_decide_eq_true (by kernel_rfl)) (by unfold Func.isWrapper; rw [if_neg (by decide +kernel)]; exact ⟨rfl, rfl⟩)
    (fun os started H enc _ => turnedRegionsKeep_lifted os started H enc)
end Go.Proofs.Ytjcbngpgmgeanaa

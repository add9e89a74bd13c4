/- The law PiecesMakeIt: for every slice of rectangles, all pieces together are the region, each is one piece, and no two touch one another. -/
import Derived.Test.YtjcbngpgmgeanaaPieceC
import Derived.Test.YtjcbngpgmgeanaaPieceD
import Derived.Test.YtjcbngpgmgeanaaAwake
import Derived.Test.YtjcbngpgmgeanaaOpens
namespace Go.Proofs.Ytjcbngpgmgeanaa
open Go.ChangeShapes Go.WideShapes Go.ChangeAt Go.RowKit
open Reg (R4 inR)
set_option linter.unusedSimpArgs false
set_option linter.unusedVariables false

theorem rdO_one {w : World} {A : Option Addr} {P : List R4} {hd : Nat → Option Addr × Nat} (h : RdO w A [P] hd) : ∃ b off, A = some ⟨b, off, none⟩ ∧ b < w.heap.size ∧ w.cell? ⟨b, off, none⟩ = some (.slice (hd 0).1 P.length (hd 0).2) ∧ Rd w (hd 0).1 P ∧ P.length ≤ (hd 0).2 ∧ (hd 0).2 ≤ maxLen := by
  obtain ⟨b, off, e, h1, h2⟩ := h.1 (by simp)
  have := h2 0 P rfl
  exact ⟨b, off, e, h1, this, h.2 0 P rfl⟩

set_option maxRecDepth 100000 in
set_option maxHeartbeats 4000000 in
theorem piecesMakeIt_walk (A : Option Addr) (l : List R4) (c : Nat) (w : World) (hl : l.length ≤ c) (rc : c ≤ 140737488355328) (h : Rd w A l) :
    Calls Try.prog 3 #[.slice A l.length c] w fun e w' => e = .returned (.bool true) ∧ Below w.heap.size w w' := by
  have rc' : c ≤ maxLen := by simp only [maxLen]; omega
  have H0 := Lib.hid h
  have C1 := Lib.hid (fun W h => pieces_any A l c W hl rc' (by omega) h)
  have CW := Lib.hid (fun W => awake_any W)
  unfold GotPs at C1
  clear h
  by_cases hF : regF l = 0
  · have hp : pcL l = pcsL l := if_pos hF
    rw [hp, hF] at C1
    have hself := Lib.hid (fun P hP => pcs_self hF (P := P) hP)
    have hlen2 := pcs_len hF
    obtain ⟨hg, h2000⟩ := good_of_rects (regF_rects hF)
    have hreg := pcs_region hF
    have hpl : (pcsL l).length ≤ l.length := by
      unfold pcsL
      rw [List.length_map]
      exact Nat.le_trans (List.length_filter_le _ _) (by simp)
    have harea := pcs_area hF
    have hsm := area_small hF
    have hnn := Lib.hid (fun k => sum_take_le (f := areaL) (L := pcsL l) (fun P hP => (area_small (pcs_self hF hP).1).1) k)
    have CR := Lib.hid (fun A' (L : List R4) (e : L = (pcsL l).flatten) c' W h => by
      have := region_any A' L c' W (by rw [e]; omega) h
      rw [e, hreg.1, hreg.2, ← e] at this
      exact this)
    have CE := Lib.hid (fun A1 c1 W h1 h2 => equal_any A1 A l l c1 c W (by omega) (by omega) h1 h2)
    rw [decide_eq_true rfl] at CE
    have CA := Lib.hid (fun W h => larea_any A l c W hF hl rc' (by omega) h)
    clear hp hg hreg
    rw [← harea] at hsm CA
    have HAr := Lib.hid harea
    have HLen := Lib.hid hlen2
    clear harea hlen2
    unfold GotRF at CR
    generalize pcsL l = L at *
    have H2000 := Lib.hid h2000
    go_enter Try.func3, Try.ntmps3
    go_wp2_with fail
    refine (C1.out w H0.out).mono ?_
    rintro e w1 ⟨A1, c1, hd, rfl, k1, k2, hR, hb⟩
    have R1 := Lib.hid hR
    have B1 := Lib.hid hb
    have z1 := hb.size
    clear hR hb
    go_wp2_with fail
    go_loopw [5, 6, 7] (fun all n i wr => ∃ (k : Nat), k ≤ L.length ∧ i = .int .i64 k ∧ n = .int .i64 ((L.take k).map areaL).sum ∧ wr.ownsRow w1.heap.size 30 4 all (L.take k).flatten.length (cR (L.take k).flatten) ∧ Below w1.heap.size w1 wr) (fun _ _ i _ => L.length - (intOf i).toNat)
    case atStart => exact ⟨0, Nat.zero_le _, rfl, rfl, own_nilR _ _ _ _, Below.refl _ _⟩
    case round =>
      obtain ⟨k, hk, rfl, rfl, ho, hbw⟩ := hrel
      have zw := hbw.size
      have hkz : (0 : Int) ≤ (k : Int) := by omega
      by_cases hlt : k < L.length
      · obtain ⟨A0, cc0, hov, -, -, -⟩ := own_cells ho
        subst hov
        have HO := Lib.hid ho
        clear ho
        have hklt : (k : Int) < (L.length : Int) := by omega
        have hM := R1.out.below hbw
        obtain ⟨b, off, e, hb, hc⟩ := hM.1 (by omega)
        subst e
        have hi := List.getElem?_eq_getElem hlt
        have c0 := hc k _ hi
        obtain ⟨hrd, lx, lc⟩ := hM.2 k _ hi
        have HRD := Lib.hid hrd
        obtain ⟨s1, s2, s3⟩ := hself.out _ (List.getElem_mem hlt)
        have ts := Lib.hid (take_sum areaL L k hlt)
        have tf := Lib.hid (take_flat L k hlt)
        have n0 := hnn.out k
        have n1 := hnn.out (k + 1)
        have fl := flat_take_le L (k + 1)
        rw [tf.out, List.length_append] at fl
        rw [ts.out] at n1
        clear hc hi hM hrd
        generalize L[k] = P at *
        have xl : P.length ≤ 140737488355328 := by have := HLen.out; have := H2000.out; omega
        have CP := Lib.hid (fun W h => pieces_any (hd k).1 P (hd k).2 W lx lc xl h)
        unfold GotPs pcL at CP
        rw [if_pos s1, s1, s3, List.length_singleton] at CP
        have CQ := Lib.hid (fun A2 c2 W h1 h2 => equal_any A2 (hd k).1 P P c2 (hd k).2 W xl xl h1 h2)
        rw [decide_eq_true rfl] at CQ
        have CB := Lib.hid (fun W h => larea_any (hd k).1 P (hd k).2 W s1 lx lc xl h)
        have HNN := Lib.hid s2
        clear s1 s2 s3
        generalize areaL P = a at *
        generalize ((L.take k).map areaL).sum = s at *
        generalize hG : (L.take k).flatten = G at *
        clear hG
        obtain ⟨w8, rfl⟩ : ∃ w8, w8 = wr := ⟨wr, rfl⟩
        go_wp2_with fail
        refine (CP.out _ HRD.out).mono ?_
        rintro e w2 ⟨A2, c2, hd2, rfl, -, -, hR2, hb2⟩
        obtain ⟨b2, off2, rfl, lb2, d0, hr3, -, -⟩ := rdO_one hR2
        have c2' := ((bcell hb2).1 _ _ hb).trans c0
        have hb' := Nat.lt_of_lt_of_le hb hb2.size
        have HR3 := Lib.hid hr3
        have HRD2 := Lib.hid (HRD.out.below hb2)
        have B2 := Lib.hid hb2
        have z2 := hb2.size
        have RM := Lib.hid (fun W (hq : Below w2.heap.size w2 W) => hr3.below hq)
        have RN := Lib.hid (fun W (hq : Below w2.heap.size w2 W) => HRD2.out.below hq)
        clear hb2 hr3 hR2 c0
        go_wp2_with fail
        go_cut [55] (fun s55 wx => s55 = .bool false ∧ Below w2.heap.size w2 wx)
        case first =>
          go_region_held3 (fun w' => w'.cell? ⟨b2, off2, none⟩ = some (.slice (hd2 0).1 P.length (hd2 0).2) ∧ w'.cell? ⟨b, off + k, none⟩ = some (.slice (hd k).1 P.length (hd k).2)) (first | go_keep | exact ⟨((bcell hb3).1 _ _ lb2).trans d0, ((bcell hb3).1 _ _ hb').trans c2'⟩)
            (first | (go_at_call 10; refine (CQ.out _ _ _ (RM.out _ ?_) (RN.out _ ?_)).mono ?_; (focus ((repeat' (first | (with_reducible exact Below.refl _ _) | (with_reducible assumption) | (with_reducible refine Below.alloc ?_ ?_ _) | (with_reducible refine Below.drew ?_) | (with_reducible refine below_drewN ?_ _) | (with_reducible refine Below.setCell ?_ ?_ _) | (with_reducible exact Nat.le_refl _) | omega | (simp only [World.size_alloc, World.size_setCell, World.size_drew]; omega) | (simp; omega) | (simp; done))); done)); (focus ((repeat' (first | (with_reducible exact Below.refl _ _) | (with_reducible assumption) | (with_reducible refine Below.alloc ?_ ?_ _) | (with_reducible refine Below.drew ?_) | (with_reducible refine below_drewN ?_ _) | (with_reducible refine Below.setCell ?_ ?_ _) | (with_reducible exact Nat.le_refl _) | omega | (simp only [World.size_alloc, World.size_setCell, World.size_drew]; omega) | (simp; omega) | (simp; done))); done)); rintro e w3 ⟨rfl, hb3⟩; have B3 := up (B := w2.heap.size) (w := w2) (by (repeat' (first | (with_reducible exact Below.refl _ _) | (with_reducible assumption) | (with_reducible refine Below.alloc ?_ ?_ _) | (with_reducible refine Below.drew ?_) | (with_reducible refine below_drewN ?_ _) | (with_reducible refine Below.setCell ?_ ?_ _) | (with_reducible exact Nat.le_refl _) | omega | (simp only [World.size_alloc, World.size_setCell, World.size_drew]; omega) | (simp; omega) | (simp; done)))) hb3 (by (first | (with_reducible exact Nat.le_refl _) | (with_reducible assumption) | omega | (simp only [World.size_alloc, World.size_setCell, World.size_drew]; omega) | (simp; omega) | (simp; done)))))
          go_wp2_with fail
          go_meet
          exact ⟨rfl, by (repeat' (first | (with_reducible exact Below.refl _ _) | (with_reducible assumption) | (with_reducible refine Below.alloc ?_ ?_ _) | (with_reducible refine Below.drew ?_) | (with_reducible refine below_drewN ?_ _) | (with_reducible refine Below.setCell ?_ ?_ _) | (with_reducible exact Nat.le_refl _) | omega | (simp only [World.size_alloc, World.size_setCell, World.size_drew]; omega) | (simp; omega) | (simp; done)))⟩
        case rest =>
          obtain ⟨rfl, hcut⟩ := hcut
          have c3 := ((bcell hcut).1 _ _ hb').trans c2'
          have hb3 := Nat.lt_of_lt_of_le hb' hcut.size
          have R3 := Lib.hid (HRD2.out.below hcut)
          have BW := Lib.hid (B2.out.trans (hcut.mono B2.out.size))
          have O3 := Lib.hid (ownsRow_below' HO.out BW.out)
          have z3 := hcut.size
          clear hcut
          go_wp2_with fail
          refine (CB.out wc R3.out).mono ?_
          rintro e w4 ⟨rfl, hb4⟩
          have BW4 := Lib.hid (BW.out.trans (hb4.mono BW.out.size))
          have O4 := Lib.hid (ownsRow_below' O3.out hb4)
          have R4 := Lib.hid (R3.out.below hb4)
          have c4 := ((bcell hb4).1 _ _ hb3).trans c3
          have hb5 := Nat.lt_of_lt_of_le hb3 hb4.size
          have z4 := hb4.size
          have hA : (hd k).1 = none → (hd k).2 = 0 := by
            obtain ⟨b', off', e', _⟩ := HRD.out (List.length_pos_iff.2 HNN.out)
            intro e
            rw [e'] at e
            cases e
          have HA := Lib.hid hA
          have BT := Lib.hid (hbw.trans (BW4.out.mono hbw.size))
          clear hb4 c3 hb3 c2' hb' hA
          go_wp2_with (first | (at_builtin; refine wpList_put_rects rfl (.tmp 63) (.tmp 67) rfl w1.heap.size (.slice A0 G.length cc0) _ _ rfl O4.out (hd k).1 P (hd k).2 rfl HA.out R4.out (by have := HLen.out; have := H2000.out; omega) (by omega) ?_; intro v5 w5 hown5 hg5; have HO5 := Lib.hid hown5; have HG5 := Lib.hid hg5; clear hown5 hg5))
          go_roundw
          case rel =>
            refine ⟨k + 1, by omega, by go_num, by rw [ts.out], ?_, BT.out.grown HG5.out (by omega) (fun j hj => (O4.out.lt j hj).1)⟩
            rw [tf.out, List.length_append, cR_append]
            exact HO5.out
          case measure => simp [intOf]; omega
      · obtain rfl : k = L.length := by omega
        rw [List.take_length] at ho
        rw [List.take_length]
        obtain ⟨A0, cc0, rfl, -, -, hr0, -⟩ := rd_own ho
        have R0 := Lib.hid hr0
        have BW := Lib.hid (B1.out.trans (hbw.mono z1))
        have P0 := Lib.hid (H0.out.below BW.out)
        have CF := CR.out A0 L.flatten rfl
        generalize L.flatten = M at *
        generalize (L.map areaL).sum = S at *
        clear ho hr0 hbw
        go_wp2_with fail
        refine (CF cc0 _ R0.out).mono ?_
        rintro e w3 ⟨v3, rfl, ho, hb⟩
        obtain ⟨A3, c3, rfl, -, -, hr3, -⟩ := rd_own ho
        have R3 := Lib.hid hr3
        have P3 := Lib.hid (P0.out.below hb)
        have B3 := Lib.hid (BW.out.trans (hb.mono BW.out.size))
        clear ho hb hr3
        go_wp2_with fail
        refine (CE.out A3 c3 w3 R3.out P3.out).mono ?_
        rintro e w4 ⟨rfl, hb⟩
        have P4 := Lib.hid (P3.out.below hb)
        have B4 := Lib.hid (B3.out.trans (hb.mono B3.out.size))
        clear hb
        go_wp2_with fail
        refine (CA.out w4 P4.out).mono ?_
        rintro e w5 ⟨rfl, hb⟩
        have B5 := Lib.hid (B4.out.trans (hb.mono B4.out.size))
        clear hb
        go_wp2_with fail
        refine (CW.out _).mono ?_
        rintro e w6 ⟨rfl, hb⟩
        have B6 := Lib.hid (B5.out.trans (hb.mono B5.out.size))
        clear hb
        go_wp2_with fail
        go_ret
        exact ⟨rfl, B6.out⟩
  · have hp : pcL l = [] := if_neg hF
    rw [hp] at C1
    have hd1 : (regF l != 0) = true := by simpa using hF
    clear hF hp
    generalize regF l = F at *
    go_enter Try.func3, Try.ntmps3
    go_wp2_with fail
    refine (C1.out w H0.out).mono ?_
    rintro e w1 ⟨A1, c1, hd, rfl, k1, k2, hR, hb⟩
    have B1 := Lib.hid hb
    clear hR hb
    simp only [List.length_nil] at *
    go_wp2_with fail
    refine (CW.out _).mono ?_
    rintro e w9 ⟨rfl, hb⟩
    have B9 := Lib.hid (B1.out.trans (hb.mono B1.out.size))
    clear hb
    go_wp2_with fail
    go_ret
    exact ⟨rfl, B9.out⟩

set_option maxRecDepth 100000 in
theorem piecesMakeIt_lifted (os : Os) (started : os.Started) (H : Type) (enc : TypeId × Value → H) :
    ReturnsInHanded {} Try.checked os 3 .any (Rows.piecesMakeItSpec.pre6 enc Try.prog Try.f3 Rows.piecesMakeItRow.domain false) (Rows.piecesMakeItSpec.post enc Try.prog Try.f3 false true false false) := by
  refine returnsInHanded_of_change_sized (C := Try.checked) own started (by kernel_rfl) Try.func3
    (ChangeSpec.witness6 (enc := enc) (C := Try.checked) false ⟨#[], #[.slice none 0 0], []⟩ 8 (by kernel_rfl) (by kernel_rfl) (by kernel_rfl) (by kernel_rfl)) ?_
  intro W base args ds gs before hval0 hW hcnd hsz0 _
  have hval : ∀ (j : Nat) t v, Try.f3.params[j]? = some t → args[j]? = some v → Value.okWide Try.prog W .any base t v := hval0
  have hsz : (DataW.weightsEach Try.prog (Try.f3.params.toList ++ Rows.piecesMakeItSpec.plain.varTypes Try.prog) (ds ++ gs)).all (· ≤ reachBytes) = true := hsz0
  have hW' := hW
  obtain ⟨p, q, hA0, hV, rfl, hfz, hnd⟩ := hW
  have hA : DataW.TrodAll enc Try.prog W 0 (fun _ => true) true Try.f3.params.toList args.toList ds p := hA0
  rw [Try.params3] at hA hval hsz
  obtain ⟨v0, vs0, d0, ds0, p0, q0, hargs, rfl, rfl, h0, r0⟩ := trodAll_cons hA
  obtain ⟨rfl, rfl, rfl⟩ := trodAll_nil r0
  obtain rfl : args = #[v0] := by cases args; simp_all
  obtain ⟨rfl, rfl⟩ := trodVars_none hV
  have k0 := h0
  have lt0 : ∀ x ∈ p0, x.block < W.heap.size := by obtain ⟨m, hm⟩ := k0; exact DataW.trod_lt m _ _ _ hm
  obtain ⟨A0, l0, c0, rfl, hl0, hr0, hc0⟩ := open_rects (hval 0 22 v0 rfl rfl) h0
  have hb0 := rects_room hsz (j := 0) rfl rfl hc0
  clear hA0 hval0 hsz0
  refine (piecesMakeIt_walk A0 l0 c0 W hl0 hb0 hr0).mono fun e W' ⟨he, bel⟩ => ?_
  subst he
  exact ⟨_, rfl, _, _, _, [], _, [], hW', trodAll_mk1 (shut_bool Try.underlying4 _), (trodAll_cons_mk (Below.trod laidOut (by kernel_rfl) (of_decide_eq_true (by kernel_rfl)) k0 bel lt0) trodAll_mk0), rfl, bel.frame _, fun h => by cases h⟩

set_option maxRecDepth 100000 in
theorem piecesMakeIt_holds : Rows.PiecesMakeItSaid :=
  OpenClaim.holds_of_wide 3 Try.f3 rfl rfl rfl rfl rfl rfl rfl ⟨rfl, rfl, rfl, rfl, rfl⟩ rfl rfl rfl rfl rfl (by kernel_rfl) Try.func3 (by kernel_rfl)
    (of_decide_eq_true (by kernel_rfl)) (by unfold Func.isWrapper; rw [if_neg (by decide +kernel)]; exact ⟨rfl, rfl⟩)
    (fun os started H enc _ => piecesMakeIt_lifted os started H enc)
end Go.Proofs.Ytjcbngpgmgeanaa

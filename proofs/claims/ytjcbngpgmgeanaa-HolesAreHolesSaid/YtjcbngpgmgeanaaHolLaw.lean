/- The law HolesAreHoles: for every slice of rectangles, a region with all its holes has none, and covers what it covered and these. -/
import Derived.Test.YtjcbngpgmgeanaaPieceD
import Derived.Test.YtjcbngpgmgeanaaAwake
import Derived.Test.YtjcbngpgmgeanaaOpens
namespace Go.Proofs.Ytjcbngpgmgeanaa
open Go.ChangeShapes Go.WideShapes Go.ChangeAt Go.RowKit
open Reg (R4 inR)
set_option linter.unusedSimpArgs false
set_option linter.unusedVariables false

set_option maxRecDepth 100000 in
set_option maxHeartbeats 4000000 in
theorem holesAreHoles_walk (A : Option Addr) (l : List R4) (c : Nat) (w : World) (hl : l.length ≤ c) (rc : c ≤ 140737488355328) (h : Rd w A l) :
    Calls Try.prog 4 #[.slice A l.length c] w fun e w' => e = .returned (.bool true) ∧ Below w.heap.size w w' := by
  have rc' : c ≤ maxLen := by simp only [maxLen]; omega
  have H0 := Lib.hid h
  have C1 := Lib.hid (fun W h => holes_any A l c W hl rc' (by omega) h)
  have CW := Lib.hid (fun W => awake_any W)
  unfold GotPs hoL at C1
  clear h
  by_cases hF : regF l = 0
  · rw [if_pos hF, hF] at C1
    have hl2000 := (rectsF_zero.1 (regF_zero.1 hF).1).1
    have hsm := area_small hF
    obtain ⟨few1, few2, few3⟩ := hls_few hF
    have hsum := hls_area hF
    have hnn := Lib.hid (fun k => sum_take_le (f := areaL) (L := hlsE l) (fun P hP => (area_small (few3 P hP).1).1) k)
    have HP := Lib.hid few3
    have CC := Lib.hid (fun W h => clone_any A l c W (by omega) h)
    have CA := Lib.hid (fun W h => larea_any A l c W hF hl rc' (by omega) h)
    have CR := Lib.hid (fun A' c' W h => region_any A' (fillE l) c' W (by unfold fillE; rw [List.length_append]; omega) h)
    have hz := Lib.hid (fillE_F hF)
    have hok := Lib.hid (fillE_ok hF)
    have hrs := rg_small (fillE l)
    have hfe : fillE l = l ++ ((hlsE l).take (hlsE l).length).flatten := by rw [List.take_length]; rfl
    have HFe := Lib.hid hfe
    have CB := Lib.hid (fun A' P c' (hP : stF andK P l = 0 ∧ stL andK P l = []) W h1 h2 h3 h4 h5 => by
      have := bothR_any A' A P l c' c W h1 hl h2 rc' h3 (by omega) h4 h5
      unfold GotRF at this
      rw [hP.1, hP.2] at this
      exact this)
    have hcl := Lib.hid (cR_append l)
    clear few3 hfe
    unfold GotRF at CR
    have fl := fun k => flat_take_le (hlsE l) k
    have FL := Lib.hid fl
    clear fl
    have hfl : (fillE l).length = l.length + (hlsE l).flatten.length := List.length_append
    have HFl := Lib.hid hfl
    clear hfl
    generalize hlsE l = L at *
    generalize fillE l = M at *
    have hok' := Lib.hid (fun (k : rgF M = 0) => hok.out k)
    generalize rgF M = fm at *
    generalize rgL M = R at *
    have CE := Lib.hid (fun (A' : Option Addr) (c' : Nat) (W : World) (h1 : R.length ≤ c') (h2 : c' ≤ maxLen) (h3 : Rd W A' R) => holes_any A' R c' W h1 h2 (by omega) h3)
    have CX := Lib.hid (fun (k : regF R = 0) (A' : Option Addr) (c' : Nat) (W : World) (h1 : R.length ≤ c') (h2 : c' ≤ maxLen) (h3 : Rd W A' R) => larea_any A' R c' W k h1 h2 (by omega) h3)
    unfold GotPs hoL at CE
    have H2000 := Lib.hid hl2000
    have F1 := Lib.hid few1
    clear few1 hok
    go_enter Try.func4, Try.ntmps4
    go_wp2_with fail
    refine (C1.out w H0.out).mono ?_
    rintro e w1 ⟨A1, c1, hd, rfl, k1, k2, hR, hb⟩
    have R1 := Lib.hid hR
    have P1 := Lib.hid (H0.out.below hb)
    have B1 := Lib.hid hb
    have z1 := hb.size
    clear hR hb
    go_wp2_with fail
    refine (CC.out w1 P1.out).mono ?_
    rintro e w2 ⟨v2, rfl, ho, hb⟩
    have R2 := Lib.hid (R1.out.below hb)
    have P2 := Lib.hid (P1.out.below hb)
    have B2 := Lib.hid hb
    have HO2 := Lib.hid ho
    have z2 := hb.size
    clear ho hb
    go_wp2_with fail
    refine (CA.out w2 P2.out).mono ?_
    rintro e w3 ⟨rfl, hb⟩
    have R3 := Lib.hid (R2.out.below hb)
    have P3 := Lib.hid (P2.out.below hb)
    have B3 := Lib.hid (B2.out.trans (hb.mono B2.out.size))
    have HO3 := Lib.hid (ownsRow_below' HO2.out hb)
    clear hb HO2
    go_wp2_with fail
    go_loopw [5, 6, 7] (fun all n i wr => ∃ (k : Nat), k ≤ L.length ∧ i = .int .i64 k ∧ n = .int .i64 (areaL l + ((L.take k).map areaL).sum) ∧ wr.ownsRow w1.heap.size 30 4 all (l ++ (L.take k).flatten).length (cR (l ++ (L.take k).flatten)) ∧ Below w1.heap.size w1 wr) (fun _ _ i _ => L.length - (intOf i).toNat)
    case atStart => exact ⟨0, Nat.zero_le _, rfl, by simp, by simpa using HO3.out, B3.out⟩
    case round =>
      obtain ⟨k, hk, rfl, rfl, ho, hbw⟩ := hrel
      clear HO3
      have zw := hbw.size
      have hkz : (0 : Int) ≤ (k : Int) := by omega
      by_cases hlt : k < L.length
      · obtain ⟨A0, cc0, hov, -, -, -⟩ := own_cells ho
        subst hov
        have HO := Lib.hid ho
        clear ho
        have hklt : (k : Int) < (L.length : Int) := by omega
        have hM := (R1.out.below hbw)
        have hP2 := Lib.hid (P1.out.below hbw)
        obtain ⟨b, off, e, hb, hc⟩ := hM.1 (by omega)
        subst e
        have hi := List.getElem?_eq_getElem hlt
        have c0 := hc k _ hi
        obtain ⟨hrd, lx, lc⟩ := hM.2 k _ hi
        have HRD := Lib.hid hrd
        obtain ⟨s1, s2, s3⟩ := HP.out _ (List.getElem_mem hlt)
        have ts := Lib.hid (take_sum areaL L k hlt)
        have tf := Lib.hid (take_flat L k hlt)
        have n0 := hnn.out k
        have n1 := hnn.out (k + 1)
        have fl := FL.out (k + 1)
        rw [tf.out, List.length_append] at fl
        rw [ts.out] at n1
        clear hc hi hM hrd
        generalize L[k] = P at *
        have xl : P.length ≤ 140737488355328 := by have := F1.out; omega
        have CQ := Lib.hid (fun W h1 h2 => CB.out (hd k).1 P (hd k).2 s3 W lx lc xl h1 h2)
        have CD := Lib.hid (fun W h => larea_any (hd k).1 P (hd k).2 W s1 lx lc xl h)
        have FLk := Lib.hid fl
        clear s1 s3 fl
        generalize areaL P = a at *
        generalize ((L.take k).map areaL).sum = s at *
        generalize hG : (L.take k).flatten = G at *
        clear hG
        generalize areaL l = al at *
        have hlg : (l ++ G).length = l.length + G.length := List.length_append
        have hcg : cR (l ++ (G ++ P)) = cR (l ++ G) ++ cR P := by rw [← List.append_assoc, cR_append]
        have hcl : (l ++ (G ++ P)).length = (l ++ G).length + P.length := by simp only [List.length_append]; omega
        have HCG := Lib.hid hcg
        have HCL := Lib.hid hcl
        have HLG := Lib.hid hlg
        clear hcg hcl hlg
        generalize l ++ G = LG at *
        obtain ⟨w8, rfl⟩ : ∃ w8, w8 = wr := ⟨wr, rfl⟩
        go_wp2_with fail
        refine (CQ.out _ HRD.out hP2.out).mono ?_
        rintro e w4 ⟨v4, rfl, ho4, hb4⟩
        obtain ⟨A4, c4, rfl, -, -, -, -⟩ := rd_own (l := []) ho4
        have BW4 := Lib.hid hb4
        have O4 := Lib.hid (ownsRow_below' HO.out hb4)
        have R4 := Lib.hid (HRD.out.below hb4)
        have d4 := ((bcell hb4).1 _ _ hb).trans c0
        have hb5 := Nat.lt_of_lt_of_le hb hb4.size
        have z4 := hb4.size
        clear hb4 ho4 c0
        simp only [List.length_nil] at *
        go_wp2_with fail
        refine (CD.out w4 R4.out).mono ?_
        rintro e w5 ⟨rfl, hb5'⟩
        have BW5 := Lib.hid (BW4.out.trans (hb5'.mono BW4.out.size))
        have O5 := Lib.hid (ownsRow_below' O4.out hb5')
        have R5 := Lib.hid (R4.out.below hb5')
        have d5 := ((bcell hb5').1 _ _ hb5).trans d4
        have hb6 := Nat.lt_of_lt_of_le hb5 hb5'.size
        have z5 := hb5'.size
        have hA : (hd k).1 = none → (hd k).2 = 0 := by
          obtain ⟨b', off', e', _⟩ := HRD.out s2
          intro e
          rw [e'] at e
          cases e
        have HA := Lib.hid hA
        have BT := Lib.hid (hbw.trans (BW5.out.mono hbw.size))
        clear hb5' d4 hA hb5
        go_wp2_with (first | (at_builtin; refine wpList_put_rects rfl (.tmp 58) (.tmp 62) rfl w1.heap.size (.slice A0 LG.length cc0) _ _ rfl O5.out (hd k).1 P (hd k).2 rfl HA.out R5.out (by have := F1.out; have := H2000.out; have := HLG.out; have := FLk.out; omega) (by omega) ?_; intro v6 w6 hown6 hg6; have HO6 := Lib.hid hown6; have HG6 := Lib.hid hg6; clear hown6 hg6))
        go_roundw
        case rel =>
          refine ⟨k + 1, by omega, by go_num, ?_, ?_, BT.out.grown HG6.out (by omega) (fun j hj => (O5.out.lt j hj).1)⟩
          · rw [ts.out, Int.add_assoc]
          · rw [tf.out, HCL.out, HCG.out]
            exact HO6.out
        case measure => simp [intOf]; omega
      · obtain rfl : k = L.length := by omega
        rw [← HFe.out] at ho
        rw [List.take_length]
        obtain ⟨A0, cc0, rfl, -, -, hr0, -⟩ := rd_own ho
        have R0 := Lib.hid hr0
        have BW := Lib.hid (B1.out.trans (hbw.mono z1))
        generalize hS : (L.map areaL).sum = S at *
        have hz' := hz.out
        clear ho hr0 hbw
        have hn0 := hnn.out L.length
        by_cases hf0 : fm = 0
        · obtain ⟨r1, r2, r3⟩ := hok'.out hf0
          have CX' := Lib.hid (CX.out r1)
          rw [if_pos r1, r1, r2] at CE
          rw [r3] at CX'
          have hd0 : (fm != 0) = false := by simpa using hf0
          have hd2 : (fm == 0) = true := by simpa using hf0
          subst hf0
          simp only [List.length_nil] at CE
          clear r1 r2 r3 hz' hz CX hok'
          generalize areaL l = al at *
          go_wp2_with fail
          refine (CR.out A0 cc0 _ R0.out).mono ?_
          rintro e w4 ⟨v4, rfl, ho, hb⟩
          obtain ⟨A4, c4, rfl, h41, h42, hr4, -⟩ := rd_own ho
          have R4 := Lib.hid hr4
          have B4 := Lib.hid (BW.out.trans (hb.mono BW.out.size))
          clear ho hb hr4
          go_wp2_with fail
          refine (CE.out A4 c4 w4 h41 h42 R4.out).mono ?_
          rintro e w5 ⟨A5, c5, hd5, rfl, -, -, -, hb⟩
          have R5 := Lib.hid (R4.out.below hb)
          have B5 := Lib.hid (B4.out.trans (hb.mono B4.out.size))
          clear hb
          go_wp2_with fail
          refine (CX'.out A4 c4 w5 h41 h42 R5.out).mono ?_
          rintro e w6 ⟨rfl, hb⟩
          have B6 := Lib.hid (B5.out.trans (hb.mono B5.out.size))
          clear hb
          go_wp2_with fail
          refine (CW.out _).mono ?_
          rintro e w7 ⟨rfl, hb⟩
          have B7 := Lib.hid (B6.out.trans (hb.mono B6.out.size))
          clear hb
          go_wp2_with fail
          go_ret
          exact ⟨rfl, B7.out⟩
        · obtain rfl : fm = 2 := by rcases hz' with e | e; exact absurd e hf0; exact e
          clear hz' hz hok' hf0
          go_wp2_with fail
          refine (CR.out A0 cc0 _ R0.out).mono ?_
          rintro e w4 ⟨v4, rfl, ho, hb⟩
          obtain ⟨A4, c4, rfl, h41, h42, hr4, -⟩ := rd_own ho
          have B4 := Lib.hid (BW.out.trans (hb.mono BW.out.size))
          clear ho hb hr4
          go_wp2_with fail
          refine (CW.out _).mono ?_
          rintro e w7 ⟨rfl, hb⟩
          have B7 := Lib.hid (B4.out.trans (hb.mono B4.out.size))
          clear hb
          go_wp2_with fail
          go_ret
          exact ⟨rfl, B7.out⟩
  · rw [if_neg hF] at C1
    have hd1 : (regF l != 0) = true := by simpa using hF
    clear hF
    generalize regF l = F at *
    go_enter Try.func4, Try.ntmps4
    go_wp2_with fail
    refine (C1.out w H0.out).mono ?_
    rintro e w1 ⟨A1, c1, hd, rfl, k1, k2, hR, hb⟩
    have B1 := Lib.hid hb
    clear hR hb
    simp only [List.length_nil] at *
    go_wp2_with fail
    refine (CW.out _).mono ?_
    rintro e w9 ⟨rfl, hb⟩
    have B9 := Lib.hid (B1.out.trans (hb.mono B1.out.size))
    clear hb
    go_wp2_with fail
    go_ret
    exact ⟨rfl, B9.out⟩

set_option maxRecDepth 100000 in
theorem holesAreHoles_lifted (os : Os) (started : os.Started) (H : Type) (enc : TypeId × Value → H) :
    ReturnsInHanded {} Try.checked os 4 .any (Rows.holesAreHolesSpec.pre6 enc Try.prog Try.f4 Rows.holesAreHolesRow.domain false) (Rows.holesAreHolesSpec.post enc Try.prog Try.f4 false true false false) := by
  refine returnsInHanded_of_change_sized (C := Try.checked) own started (by kernel_rfl) Try.func4
    (ChangeSpec.witness6 (enc := enc) (C := Try.checked) false ⟨#[], #[.slice none 0 0], []⟩ 8 (by kernel_rfl) (by kernel_rfl) (by kernel_rfl) (by kernel_rfl)) ?_
  intro W base args ds gs before hval0 hW hcnd hsz0 _
  have hval : ∀ (j : Nat) t v, Try.f4.params[j]? = some t → args[j]? = some v → Value.okWide Try.prog W .any base t v := hval0
  have hsz : (DataW.weightsEach Try.prog (Try.f4.params.toList ++ Rows.holesAreHolesSpec.plain.varTypes Try.prog) (ds ++ gs)).all (· ≤ reachBytes) = true := hsz0
  have hW' := hW
  obtain ⟨p, q, hA0, hV, rfl, hfz, hnd⟩ := hW
  have hA : DataW.TrodAll enc Try.prog W 0 (fun _ => true) true Try.f4.params.toList args.toList ds p := hA0
  rw [Try.params4] at hA hval hsz
  obtain ⟨v0, vs0, d0, ds0, p0, q0, hargs, rfl, rfl, h0, r0⟩ := trodAll_cons hA
  obtain ⟨rfl, rfl, rfl⟩ := trodAll_nil r0
  obtain rfl : args = #[v0] := by cases args; simp_all
  obtain ⟨rfl, rfl⟩ := trodVars_none hV
  have k0 := h0
  have lt0 : ∀ x ∈ p0, x.block < W.heap.size := by obtain ⟨m, hm⟩ := k0; exact DataW.trod_lt m _ _ _ hm
  obtain ⟨A0, l0, c0, rfl, hl0, hr0, hc0⟩ := open_rects (hval 0 22 v0 rfl rfl) h0
  have hb0 := rects_room hsz (j := 0) rfl rfl hc0
  clear hA0 hval0 hsz0
  refine (holesAreHoles_walk A0 l0 c0 W hl0 hb0 hr0).mono fun e W' ⟨he, bel⟩ => ?_
  subst he
  exact ⟨_, rfl, _, _, _, [], _, [], hW', trodAll_mk1 (shut_bool Try.underlying4 _), (trodAll_cons_mk (Below.trod laidOut (by kernel_rfl) (of_decide_eq_true (by kernel_rfl)) k0 bel lt0) trodAll_mk0), rfl, bel.frame _, fun h => by cases h⟩

set_option maxRecDepth 100000 in
theorem holesAreHoles_holds : Rows.HolesAreHolesSaid :=
  OpenClaim.holds_of_wide 4 Try.f4 rfl rfl rfl rfl rfl rfl rfl ⟨rfl, rfl, rfl, rfl, rfl⟩ rfl rfl rfl rfl rfl (by kernel_rfl) Try.func4 (by kernel_rfl)
    (of_decide_eq_true (by kernel_rfl)) (by unfold Func.isWrapper; rw [if_neg (by decide +kernel)]; exact ⟨rfl, rfl⟩)
    (fun os started H enc _ => holesAreHoles_lifted os started H enc)
end Go.Proofs.Ytjcbngpgmgeanaa

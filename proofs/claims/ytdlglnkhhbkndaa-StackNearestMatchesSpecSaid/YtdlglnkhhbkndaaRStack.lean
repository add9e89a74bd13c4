/- Whether a stack is right: what the reference of chapter 4 says, whatever the world. -/
import Derived.Test.YtdlglnkhhbkndaaRChkB
import Derived.Test.YtdlglnkhhbkndaaRChkC
namespace Go.Proofs.Ytdlglnkhhbkndaa
open Go.RowKit
set_option linter.unusedSimpArgs false
set_option linter.unusedVariables false
set_option maxRecDepth 100000

section
variable {A : Option Addr} {l : List Mat} {c : Nat} {w : World}
theorem checkLayer_any (A2 : Option Addr) (s : List Lay) (c2 : Nat) (i : Nat) (hi' : i < s.length) (hc2 : s.length ≤ c2) (hc3 : c2 ≤ 140737488355328) (hl : l.length ≤ 140737488355328) (hm : ∀ x ∈ l, matF x = 0) (hn : ∀ y ∈ s, y.name.size ≤ maxLen ∧ y.mat.size ≤ maxLen) (h : RdG 4 Mat.cs w A l) (h2 : RdG 2 Lay.cs w A2 s)
    (hg : GoodR ((s.take i).map (rowOf l))) (hf : ∀ y ∈ s.take i, (matOf l y.mat).isSome = true) :
    Calls Try.prog 60 #[.slice A l.length c, .slice A2 s.length c2, .int .i64 (i : Nat)] w fun e w' => e = .returned (.int .i64 (layF l ((s.take i).map (rowOf l)) s[i])) ∧ Below w.heap.size w w' := by
  cases hmo : matOf l s[i].mat with
  | none =>
    have e : layF l ((s.take i).map (rowOf l)) s[i] = 9 := by unfold layF; rw [hmo]
    rw [e]
    exact checkLayer_none A2 s c2 i hi' hc2 hc3 hl hm hn h h2 hmo
  | some x =>
    have hx := hm x (matOf_mem hmo)
    have e : layF l ((s.take i).map (rowOf l)) s[i] = rowF ((s.take i).map (rowOf l)) (s[i].name, x) := by unfold layF; rw [hmo]
    -- what lies above
    have above : i ≠ 0 → ∃ u, matOf l s[i - 1].mat = some u ∧ matF u = 0 ∧ ((s.take i).map (rowOf l)).getLast? = some (s[i - 1].name, u) := by
      intro h0
      have hmem : s[i - 1] ∈ s.take i := List.mem_take_iff_getElem.2 ⟨i - 1, by omega, rfl⟩
      obtain ⟨u, hu⟩ := Option.isSome_iff_exists.1 (hf _ hmem)
      refine ⟨u, hu, hm u (matOf_mem hu), ?_⟩
      rw [List.getLast?_eq_getElem?, List.length_map, List.length_take, Nat.min_eq_left (by omega), List.getElem?_map, List.getElem?_take_of_lt (by omega), List.getElem?_eq_getElem (by omega)]
      simp [rowOf, hu]
    have first : i = 0 → ((s.take i).map (rowOf l)).getLast? = none := by
      intro h0
      subst h0
      rfl
    rw [e]
    by_cases hk : x.kind = 1
    · rw [rowF_cu hk]
      cases hw : wordB s[i].name
      · exact checkLayer_noword A2 s c2 i hi' hc2 hc3 hl hm hn h h2 hmo hk hw
      · rw [if_neg (by decide), ← twice_eq hg hw]
        cases htw : (s.take i).any fun z => decide (z.name = s[i].name)
        · rw [if_neg (by decide)]
          by_cases h0 : i = 0
          · rw [first h0]
            exact checkLayer_cu0 A2 s c2 i hi' hc2 hc3 hl hm hn h h2 hmo hk hw htw h0
          · obtain ⟨u, hu1, hu2, hu3⟩ := above h0
            rw [hu3]
            by_cases hu : u.kind = 1
            · rw [if_neg (by simp [hu])]
              exact checkLayer_cuclash A2 s c2 i hi' hc2 hc3 hl hm hn h h2 hmo hk hw htw h0 hu1 hu
            · rw [if_pos (by simp [hu])]
              exact checkLayer_cumeet A2 s c2 i hi' hc2 hc3 hl hm hn h h2 hmo hk hw htw h0 hu1 hu
        · rw [if_pos rfl]
          exact checkLayer_twice A2 s c2 i hi' hc2 hc3 hl hm hn h h2 hmo hk hw htw
    · rw [rowF_no hk]
      have hk0 : x.kind ≠ 0 := by have := matF_zero hx; omega
      by_cases hw : s[i].name = ByteArray.empty
      · rw [if_neg (by simp [hw])]
        by_cases h0 : i = 0
        · rw [first h0]
          exact checkLayer_first A2 s c2 i hi' hc2 hc3 hl hm hn h h2 hmo hk hk0 hw h0
        · obtain ⟨u, hu1, hu2, hu3⟩ := above h0
          rw [hu3]
          rw [show (if (some (s[i - 1].name, u)).all (fun q : Row => meetB q.2.kind x.kind) then (0 : Int) else 8) = (if meetB u.kind x.kind then 0 else 8) from rfl]
          rcases kind_cases hx with k1 | k2 | k3
          · exact absurd k1 hk
          · rcases kind_cases hu2 with b1 | b2 | b3
            · rw [k2, b1]
              exact checkLayer_m21 A2 s c2 i hi' hc2 hc3 hl hm hn h h2 hmo k2 hw h0 hu1 b1
            · rw [k2, b2]
              exact checkLayer_m22 A2 s c2 i hi' hc2 hc3 hl hm hn h h2 hmo k2 hw h0 hu1 b2
            · rw [k2, b3]
              exact checkLayer_m23 A2 s c2 i hi' hc2 hc3 hl hm hn h h2 hmo k2 hw h0 hu1 b3
          · rcases kind_cases hu2 with b1 | b2 | b3
            · rw [k3, b1]
              exact checkLayer_m31 A2 s c2 i hi' hc2 hc3 hl hm hn h h2 hmo k3 hw h0 hu1 b1
            · rw [k3, b2]
              exact checkLayer_m32 A2 s c2 i hi' hc2 hc3 hl hm hn h h2 hmo k3 hw h0 hu1 b2
            · rw [k3, b3]
              exact checkLayer_m33 A2 s c2 i hi' hc2 hc3 hl hm hn h h2 hmo k3 hw h0 hu1 b3
      · rw [if_pos hw]
        exact checkLayer_named A2 s c2 i hi' hc2 hc3 hl hm hn h h2 hmo hk hk0 hw
theorem rowsGo_pre {m : List Mat} : ∀ (s : List Lay) (R : List Row) (k : Nat) (y : Lay), s[k]? = some y → rowsGo m [] s = rowsGo m R (s.drop k) → layF m R y ≠ 0 → (rowsGo m [] s).1 = layF m R y
  | s, R, k, y, hk, h, h0 => by
    have hlt := (List.getElem?_eq_some_iff.1 hk).1
    have hd : s.drop k = y :: s.drop (k + 1) := by rw [List.drop_eq_getElem_cons hlt, (List.getElem?_eq_some_iff.1 hk).2]
    rw [h, hd]
    unfold layF at *
    cases hx : matOf m y.mat with
    | none => rw [rowsGo_none hx]
    | some x =>
      rw [hx] at h0
      rw [rowsGo_bad hx h0]
theorem rowsGo_step {m : List Mat} {s : List Lay} {R : List Row} {k : Nat} {y : Lay} (hk : s[k]? = some y) (h : rowsGo m [] s = rowsGo m R (s.drop k)) (h0 : layF m R y = 0) :
    ∃ x, matOf m y.mat = some x ∧ rowF R (y.name, x) = 0 ∧ rowOf m y = (y.name, x) ∧ rowsGo m [] s = rowsGo m (R ++ [(y.name, x)]) (s.drop (k + 1)) := by
  have hlt := (List.getElem?_eq_some_iff.1 hk).1
  have hd : s.drop k = y :: s.drop (k + 1) := by rw [List.drop_eq_getElem_cons hlt, (List.getElem?_eq_some_iff.1 hk).2]
  unfold layF at h0
  cases hx : matOf m y.mat with
  | none => rw [hx] at h0; cases h0
  | some x =>
    rw [hx] at h0
    exact ⟨x, rfl, h0, by simp [rowOf, hx], by rw [h, hd, rowsGo_go hx h0]⟩
set_option maxHeartbeats 4000000 in
theorem rCheckStack_any (A2 : Option Addr) (s : List Lay) (c2 : Nat) (hc2 : s.length ≤ c2) (hc3 : c2 ≤ 140737488355328) (hS : StkIn A l A2 s w) :
    Calls Try.prog 19 #[.slice A l.length c, .slice A2 s.length c2] w fun e w' => e = .returned (.int .i64 (stackF l s)) ∧ Below w.heap.size w w' := by
  have HS := Lib.hid hS
  have hl := hS.l1
  have C1 := Lib.hid (fun W h => rCheckMaterials_any A l c W hl hS.n h)
  clear hS
  by_cases h0 : matsF l = 0
  · have HM := Lib.hid h0
    have hmm := matsF_mem h0
    rw [h0] at C1
    clear h0
    by_cases h60 : 60 < s.length
    · have HF := Lib.hid (show stackF l s = 2 by unfold stackF; rw [if_pos HM.out, if_pos h60])
      have hd60 : decide (60 < (s.length : Int)) = true := by simp; omega
      clear hmm
      go_enter Try.func19, Try.ntmps19
      go_wp2_with fail
      refine (C1.out _ HS.out.m).mono ?_
      rintro e w1 ⟨rfl, hb⟩
      have B1 := Lib.hid hb
      clear hb
      go_wp2_with fail
      go_ret
      exact ⟨by rw [HF.out]; rfl, B1.out⟩
    · have HF := Lib.hid (show stackF l s = if (rowsGo l [] s).1 = 0 then (if formB (rowsGo l [] s).2 then 0 else 3) else (rowsGo l [] s).1 by unfold stackF; rw [if_pos HM.out, if_neg h60])
      have hd60 : decide (60 < (s.length : Int)) = false := by simp; omega
      have CL := Lib.hid (fun i hi' W hg hf (hb : Below w.heap.size w W) => checkLayer_any (c := c) (w := W) A2 s c2 i hi' hc2 hc3 hl hmm HS.out.t (HS.out.m.below hb) (HS.out.y.below hb) hg hf)
      have CC := Lib.hid (fun W (hb : Below w.heap.size w W) => rCoppers_any (A := A) (l := l) (c := c) (w := W) A2 s c2 hl (by omega) (HS.out.m.below hb) (HS.out.y.below hb))
      have CI := Lib.hid (fun y W (hb : Below w.heap.size w W) => isCopper_any (A := A) (l := l) (c := c) (w := W) y hl (HS.out.m.below hb))
      clear hmm
      go_enter Try.func19, Try.ntmps19
      go_wp2_with fail
      refine (C1.out _ HS.out.m).mono ?_
      rintro e w1 ⟨rfl, hb⟩
      have B1 := Lib.hid hb
      clear hb
      go_wp2_with fail
      go_loopw [18] (fun t wr => ∃ k : Nat, k ≤ s.length ∧ t = .int .i64 k ∧ rowsGo l [] s = rowsGo l ((s.take k).map (rowOf l)) (s.drop k) ∧ GoodR ((s.take k).map (rowOf l)) ∧ (∀ y ∈ s.take k, (matOf l y.mat).isSome = true) ∧ Below w.heap.size w wr) (fun t _ => s.length - (intOf t).toNat)
      case atStart => exact ⟨0, Nat.zero_le _, rfl, rfl, GoodR.nil, (fun y hy => by cases hy), B1.out⟩
      case round =>
        obtain ⟨k, hk, rfl, hr, hg, hf, hw⟩ := hrel
        have HR := Lib.hid hr
        have HGd := Lib.hid hg
        have HFd := Lib.hid hf
        have HW := Lib.hid hw
        have zw := hw.size
        clear hr hg hf hw
        have hkz : (0 : Int) ≤ (k : Int) := by omega
        by_cases hlt : k < s.length
        · have CK := Lib.hid (CL.out k hlt wr HGd.out HFd.out HW.out)
          have hi : s[k]? = some s[k] := List.getElem?_eq_getElem hlt
          by_cases hF0 : layF l ((s.take k).map (rowOf l)) s[k] = 0
          · obtain ⟨x, q1, q2, q3, q4⟩ := rowsGo_step hi HR.out hF0
            have ht : s.take (k + 1) = s.take k ++ [s[k]] := by rw [List.take_add_one, hi]; rfl
            have HN := Lib.hid (show rowsGo l [] s = rowsGo l ((s.take (k + 1)).map (rowOf l)) (s.drop (k + 1)) by rw [q4, ht, List.map_append, List.map_singleton, q3])
            have HG2 := Lib.hid (show GoodR ((s.take (k + 1)).map (rowOf l)) by rw [ht, List.map_append, List.map_singleton, q3]; exact HGd.out.snoc q2)
            have HF2 := Lib.hid (show ∀ y ∈ s.take (k + 1), (matOf l y.mat).isSome = true by
              intro y hy
              rw [ht] at hy
              rcases List.mem_append.1 hy with hy | hy
              · exact HFd.out y hy
              · rw [List.mem_singleton.1 hy, q1]; rfl)
            rw [hF0] at CK
            clear q1 q2 q3 q4 ht hi hF0
            go_wp2_with fail
            refine CK.out.mono ?_
            rintro e w2 ⟨rfl, hb⟩
            have B2 := Lib.hid (HW.out.trans (hb.mono zw))
            clear hb
            go_wp2_with fail
            go_roundw
            case rel => exact ⟨k + 1, by omega, by go_num, HN.out, HG2.out, HF2.out, B2.out⟩
            case measure => simp [intOf]; omega
          · obtain ⟨F, hFe⟩ : ∃ F, layF l ((s.take k).map (rowOf l)) s[k] = F := ⟨_, rfl⟩
            have HN := Lib.hid (show stackF l s = F by rw [HF.out, rowsGo_pre s _ k _ hi HR.out hF0, if_neg hF0, hFe])
            rw [hFe] at hF0 CK
            have hd1 : (F == 0) = false := by simpa using hF0
            have hd2 : (F != 0) = true := by simpa using hF0
            clear hi hF0 hFe
            go_wp2_with fail
            refine CK.out.mono ?_
            rintro e w2 ⟨rfl, hb⟩
            have B2 := Lib.hid (HW.out.trans (hb.mono zw))
            clear hb
            go_wp2_with fail
            go_ret
            exact ⟨by rw [HN.out]; rfl, B2.out⟩
        · obtain rfl : k = s.length := by omega
          have hRR : (s.take s.length).map (rowOf l) = s.map (rowOf l) := by rw [List.take_length]
          have HE := Lib.hid (show rowsGo l [] s = (0, s.map (rowOf l)) by rw [HR.out, hRR, List.drop_length]; rfl)
          have HN := Lib.hid (show stackF l s = if formB (s.map (rowOf l)) then 0 else 3 by rw [HF.out, HE.out]; rfl)
          have HFB := Lib.hid (show formB (s.map (rowOf l)) = (decide (2 ≤ (cus (s.map (rowOf l))).length) && (s.map (rowOf l)).head?.any isCu && (s.map (rowOf l)).getLast?.any isCu) from rfl)
          have hfew : (cus (s.map (rowOf l))).length ≤ s.length := by
            have := cus_few (s.map (rowOf l)) 0
            rwa [List.length_map] at this
          clear hRR hlt hk
          generalize (cus (s.map (rowOf l))).length = nc at *
          by_cases hnc : nc < 2
          · have HV := Lib.hid (show stackF l s = 3 by rw [HN.out, HFB.out, decide_eq_false (by omega)]; rfl)
            have d1 : decide ((nc : Int) < 2) = true := by simp; omega
            go_wp2_with fail
            refine (CC.out _ HW.out).mono ?_
            rintro e w2 ⟨v, rfl, ho, hb⟩
            have B2 := Lib.hid (HW.out.trans (hb.mono zw))
            obtain ⟨Av, cv, rfl, _, _, _⟩ := own_cells ho
            clear hb ho
            go_wp2_with fail
            go_ret
            exact ⟨by rw [HV.out]; rfl, B2.out⟩
          · have hpos : 0 < s.length := by omega
            have d1 : decide ((nc : Int) < 2) = false := by simp; omega
            have hi0 : s[0]? = some s[0] := List.getElem?_eq_getElem hpos
            have hi1 : s[s.length - 1]? = some s[s.length - 1] := List.getElem?_eq_getElem (by omega)
            have HB := Lib.hid (show formB (s.map (rowOf l)) = (isCu (rowOf l s[0]) && isCu (rowOf l s[s.length - 1])) by
              rw [HFB.out, decide_eq_true (by omega), List.head?_eq_getElem?, List.getLast?_eq_getElem?, List.length_map, List.getElem?_map, List.getElem?_map, hi0, hi1]
              rfl)
            have x4 : IntKind.i64.wrap ((s.length : Int) - 1) = (s.length : Int) - 1 := IntWalk.i64_in _ (by omega)
            have x5 : (0 : Int) ≤ (s.length : Int) - 1 := by omega
            have x6 : (s.length : Int) - 1 < (s.length : Int) := by omega
            have x7 : ((s.length : Int) - 1).toNat = s.length - 1 := by omega
            have x8 : (0 : Int) < (s.length : Int) := by omega
            obtain ⟨b, off, hA2, hblt, hcs⟩ := HS.out.y hpos
            subst hA2
            have g0 := by simpa using hcs 0 _ hi0 0 _ rfl
            have g1 := by simpa using hcs 0 _ hi0 1 _ rfl
            have g2 := by simpa using hcs _ _ hi1 0 _ rfl
            have g3 := hcs _ _ hi1 1 _ rfl
            have CI0 := Lib.hid (CI.out s[0])
            have CI1 := Lib.hid (CI.out s[s.length - 1])
            clear hi0 hi1 hcs HFB
            generalize s[0] = y0 at *
            generalize s[s.length - 1] = y1 at *
            have KEEP := Lib.hid (fun (W : World) (hb : Below w.heap.size w W) => (⟨((bcell hb).1 _ _ hblt).trans g0, ((bcell hb).1 _ _ hblt).trans g1, ((bcell hb).1 _ _ hblt).trans g2, ((bcell hb).1 _ _ hblt).trans g3⟩ : W.cell? ⟨b, off, none⟩ = some (.string y0.name) ∧ W.cell? ⟨b, off + 1, none⟩ = some (.string y0.mat) ∧ W.cell? ⟨b, off + (s.length - 1) * 2, none⟩ = some (.string y1.name) ∧ W.cell? ⟨b, off + (s.length - 1) * 2 + 1, none⟩ = some (.string y1.mat)))
            clear g0 g1 g2 g3
            go_wp2_with fail
            refine (CC.out _ HW.out).mono ?_
            rintro e w2 ⟨v, rfl, ho, hb⟩
            have B2 := Lib.hid (HW.out.trans (hb.mono zw))
            obtain ⟨Av, cv, rfl, _, _, _⟩ := own_cells ho
            clear hb ho
            obtain ⟨k0, k1, k2, k3⟩ := KEEP.out w2 B2.out
            cases hb0 : isCu (rowOf l y0)
            · have HV := Lib.hid (show stackF l s = 3 by rw [HN.out, HB.out, hb0]; rfl)
              rw [hb0] at CI0
              clear hb0
              go_wp2_with fail
              refine (CI0.out _ B2.out).mono ?_
              rintro e w3 ⟨rfl, hb⟩
              have B3 := Lib.hid (B2.out.trans (hb.mono B2.out.size))
              clear hb
              go_wp2_with fail
              go_ret
              exact ⟨by rw [HV.out]; rfl, B3.out⟩
            · rw [hb0] at CI0
              have HB0 := Lib.hid hb0
              clear hb0
              cases hb1 : isCu (rowOf l y1)
              · have HV := Lib.hid (show stackF l s = 3 by rw [HN.out, HB.out, HB0.out, hb1]; rfl)
                rw [hb1] at CI1
                clear hb1
                go_wp2_with fail
                refine (CI0.out _ B2.out).mono ?_
                rintro e w3 ⟨rfl, hb⟩
                have B3 := Lib.hid (B2.out.trans (hb.mono B2.out.size))
                clear hb k0 k1 k2 k3
                obtain ⟨k0, k1, k2, k3⟩ := KEEP.out w3 B3.out
                go_wp2_with fail
                refine (CI1.out _ B3.out).mono ?_
                rintro e w4 ⟨rfl, hb⟩
                have B4 := Lib.hid (B3.out.trans (hb.mono B3.out.size))
                clear hb
                go_wp2_with fail
                go_ret
                exact ⟨by rw [HV.out]; rfl, B4.out⟩
              · have HV := Lib.hid (show stackF l s = 0 by rw [HN.out, HB.out, HB0.out, hb1]; rfl)
                rw [hb1] at CI1
                clear hb1
                go_wp2_with fail
                refine (CI0.out _ B2.out).mono ?_
                rintro e w3 ⟨rfl, hb⟩
                have B3 := Lib.hid (B2.out.trans (hb.mono B2.out.size))
                clear hb k0 k1 k2 k3
                obtain ⟨k0, k1, k2, k3⟩ := KEEP.out w3 B3.out
                go_wp2_with fail
                refine (CI1.out _ B3.out).mono ?_
                rintro e w4 ⟨rfl, hb⟩
                have B4 := Lib.hid (B3.out.trans (hb.mono B3.out.size))
                clear hb
                go_wp2_with fail
                go_ret
                exact ⟨by rw [HV.out]; rfl, B4.out⟩
  · have HF := Lib.hid (show stackF l s = matsF l from if_neg h0)
    generalize matsF l = F at *
    have hd1 : (F == 0) = false := by simpa using h0
    have hd2 : (F != 0) = true := by simpa using h0
    clear h0
    go_enter Try.func19, Try.ntmps19
    go_wp2_with fail
    refine (C1.out _ HS.out.m).mono ?_
    rintro e w1 ⟨rfl, hb⟩
    have B1 := Lib.hid hb
    clear hb
    go_wp2_with fail
    go_ret
    exact ⟨by rw [HF.out]; rfl, B1.out⟩
end
end Go.Proofs.Ytdlglnkhhbkndaa

/- The law StackFewestReachTheSame returns true, whatever the world. -/
import Derived.Test.YtnjcahdelcdcfaaFewW
import Derived.Test.YtnjcahdelcdcfaaSAwake
namespace Go.Proofs.Ytnjcahdelcdcfaa
open Go.RowKit Go.Maps
set_option linter.unusedSimpArgs false
set_option linter.unusedVariables false
set_option maxRecDepth 100000

theorem dn_congr {t u : List Thr} : ∀ i, (∀ k, k < i → jB t k = jB u k) → dnJ t i = dnJ u i
  | 0, _ => rfl
  | i + 1, h => by
    rw [dnJ, dnJ, h i (Nat.lt_succ_self _), dn_congr i fun k hk => h k (by omega)]
theorem up_congr {t u : List Thr} : ∀ f i, (∀ k, i ≤ k → k < i + f → jB t k = jB u k) → upJ t f i = upJ u f i
  | 0, _, _ => rfl
  | f + 1, i, h => by
    rw [upJ, upJ, h i (Nat.le_refl _) (by omega), up_congr f (i + 1) fun k h1 h2 => h k (by omega) (by omega)]
theorem reach_congr {R : List Row} {t u : List Thr} {n i : Nat} (hn : (nms R).length = n + 1) (hi : i < (nms R).length) (h : jT n t = jT n u) : reachL R t i = reachL R u i := by
  have hb : ∀ k, k < n → jB t k = jB u k := by
    intro k hk
    have h1 := jT_get (t := t) hk
    rw [h, jT_get hk] at h1
    exact (Option.some.inj h1).symm
  unfold reachL
  rw [dn_congr i fun k hk => hb k (by omega), up_congr _ i fun k h1 h2 => hb k (by omega)]
theorem getD_cells10 {w : World} {g : Nat} {zs : List ByteArray} (h : ∀ (j : Nat) (u : Value), (zs.map Value.string)[j]? = some u → w.cell? ⟨g, j, none⟩ = some u) : ∀ j, j < zs.length → w.cell? ⟨g, 0 + j, none⟩ = some (.string (zs.getD j ByteArray.empty)) := by
  intro j hj
  rw [Nat.zero_add]
  refine h _ _ ?_
  rw [List.getElem?_map, List.getD_eq_getElem?_getD, List.getElem?_eq_getElem hj]
  rfl
theorem own_strs {w : World} {B : Nat} {v : Value} {zs : List ByteArray} (h : w.ownsRow B 9 1 v zs.length (zs.map Value.string)) (hz : 0 < zs.length) : ∃ g c, v = .slice (some ⟨g, 0, none⟩) zs.length c ∧ zs.length ≤ maxLen ∧ g < w.heap.size ∧ ∀ j, j < zs.length → w.cell? ⟨g, 0 + j, none⟩ = some (.string (zs.getD j ByteArray.empty)) := by
  obtain ⟨A, c, rfl, h1, h2, h3⟩ := own_cells h
  obtain ⟨g, rfl, _, hg, hc⟩ := h3 hz
  exact ⟨g, c, rfl, Nat.le_trans h1 h2, hg, getD_cells10 hc⟩
section
set_option maxHeartbeats 8000000 in
theorem fewest_walk (A : Option Addr) (l : List Mat) (c : Nat) (A2 : Option Addr) (s : List Lay) (c2 : Nat) (A3 : Option Addr) (t : List Thr) (c3 : Nat) (a : ByteArray) (w : World) (h : StkIn A l A2 s w) (hl3 : t.length ≤ c3) (hc3 : c3 ≤ 140737488355328) (hd : RdG 2 Thr.cs w A3 t) (htr : True) (ha : a.size ≤ maxLen) :
    Calls Try.prog 13 #[.slice A l.length c, .slice A2 s.length c2, .slice A3 t.length c3, .string a] w fun e w' => e = .returned (.bool true) ∧ Below w.heap.size w w' := by
  have CW := Lib.hid (fun W => awake_any W)
  by_cases h0 : pressedF l s t = 0
  · obtain ⟨f1, f2, f3⟩ := few_inv (m := l) (s := s) (l := t) t.length t h0 rfl
    obtain ⟨n, hm⟩ : ∃ n, (cus (rowsOf l s)).length = n + 1 := ⟨(cus (rowsOf l s)).length - 1, by have := form_two (stackF_form (pressed_zero h0).1); omega⟩
    rw [hm, Nat.add_sub_cancel] at f2
    have C0 := Lib.hid (fewest_yes (c := c) (c2 := c2) h A3 t c3 (by omega) hd h0)
    generalize fewG l s t t.length t = u at *
    have hnl : (nms (rowsOf l s)).length = n + 1 := by rw [nms_len, hm]
    have HSn := Lib.hid (stack_names (pressed_zero h0).1)
    have HS := Lib.hid h
    have HD := Lib.hid hd
    have CK := Lib.hid (fun W (hS : StkIn A l A2 s W) A4 c4 (hD : RdG 2 Thr.cs W A4 u) => checkSpans_law (c := c) (c2 := c2) hS A4 u c4 (by omega) hD)
    rw [f1] at CK
    cases hp : numI (rowsOf l s) a with
    | some i =>
      have hil := (num_some hp).2
      have hcg := reach_congr hnl hil f2
      have hself : a ∈ reachL (rowsOf l s) t i := reach_self hp
      have C1 := Lib.hid (fun W (hS : StkIn A l A2 s W) (hD : RdG 2 Thr.cs W A3 t) => reached_yes (c := c) (c2 := c2) hS A3 t c3 a ha (by omega) hD h0 hp)
      have C2 := Lib.hid (fun W (hS : StkIn A l A2 s W) A4 c4 (hD : RdG 2 Thr.cs W A4 u) => reached_yes (c := c) (c2 := c2) hS A4 u c4 a ha (by omega) hD f1 hp)
      rw [hcg] at C2
      generalize reachL (rowsOf l s) t i = zs at *
      have hpos : 0 < zs.length := List.length_pos_of_mem hself
      have hful : (u.length : Int) ≤ (t.length : Int) := by omega
      have hnn : ¬ t.length < u.length := by omega
      clear h hd h0 htr hp f1 f2 hm hnl hil hcg hself
      go_enter Try.func13, Try.ntmps13
      go_wp2_with fail
      refine C0.out.mono ?_
      rintro e w1 ⟨v, rfl, ho, hb⟩
      obtain ⟨Au, cu, rfl, -, -, hru⟩ := own_rdT ho
      have B1 := Lib.hid hb
      have HU := Lib.hid hru
      clear hb ho hru
      go_wp2_with fail
      refine (C1.out w1 (HS.out.below B1.out) (HD.out.below B1.out)).mono ?_
      rintro e w2 ⟨v2, rfl, ho2, hb2⟩
      obtain ⟨g2, d2, rfl, m2, l2, hc2⟩ := own_strs ho2 hpos
      have B2 := Lib.hid (B1.out.trans (hb2.mono B1.out.size))
      have HU2 := Lib.hid (HU.out.below hb2)
      have HC2 := Lib.hid hc2
      clear hb2 ho2 hc2
      go_wp2_with fail
      refine (C2.out w2 (HS.out.below B2.out) Au cu HU2.out).mono ?_
      rintro e w3 ⟨v3, rfl, ho3, hb3⟩
      obtain ⟨g3, d3, rfl, m3, l3, hc3'⟩ := own_strs ho3 hpos
      have B3 := Lib.hid (B2.out.trans (hb3.mono B2.out.size))
      have HU3 := Lib.hid (HU2.out.below hb3)
      have hmx : zs.length ≤ 9223372036854775807 := m3
      have CE := Lib.hid (Try.slices_Equal_string g2 0 zs.length d2 g3 0 zs.length d3 zs zs w3 (Nat.le_refl _) (Nat.le_refl _) hmx hmx (fun j hj => (hb3.cell (p := ⟨g2, 0 + j, none⟩) l2).trans (HC2.out j hj)) hc3')
      have CK3 := Lib.hid (fun q => CK.out (w3.drewN q) ((HS.out.below B3.out).below (below_drewN (Below.refl _ _) q)) Au cu (HU3.out.below (below_drewN (Below.refl _ _) q)))
      clear hb3 ho3 hc3'
      go_wp2_with (first
        | (go_at_call 47; refine CE.out.mono ?_; rintro e w4 ⟨rfl, q4, rfl⟩)
        | (go_at_call 40; refine (CK3.out _).mono ?_; rintro e w5 ⟨rfl, hb5⟩; have B5 := Lib.hid ((below_drewN B3.out q4).trans (hb5.mono (below_drewN B3.out q4).size)); clear hb5)
        | (go_at_call 20; refine (CW.out _).mono ?_; rintro e w9 ⟨rfl, hb⟩; have B9 := Lib.hid (B5.out.trans (hb.mono B5.out.size)); clear hb))
      go_ret
      exact ⟨rfl, B9.out⟩
    | none =>
      have C1 := Lib.hid (fun W (hS : StkIn A l A2 s W) (hD : RdG 2 Thr.cs W A3 t) => reached_none (c := c) (c2 := c2) hS A3 t c3 a ha (by omega) hD h0 hp)
      have C2 := Lib.hid (fun W (hS : StkIn A l A2 s W) A4 c4 (hD : RdG 2 Thr.cs W A4 u) => reached_none (c := c) (c2 := c2) hS A4 u c4 a ha (by omega) hD f1 hp)
      have CE := Lib.hid (fun W => Try.slices_Equal_string_empty none none 0 0 0 W (by omega))
      have hful : (u.length : Int) ≤ (t.length : Int) := by omega
      have hnn : ¬ t.length < u.length := by omega
      clear h hd h0 htr hp f1 f2 hm hnl
      go_enter Try.func13, Try.ntmps13
      go_wp2_with fail
      refine C0.out.mono ?_
      rintro e w1 ⟨v, rfl, ho, hb⟩
      obtain ⟨Au, cu, rfl, -, -, hru⟩ := own_rdT ho
      have B1 := Lib.hid hb
      have HU := Lib.hid hru
      clear hb ho hru
      go_wp2_with fail
      refine (C1.out w1 (HS.out.below B1.out) (HD.out.below B1.out)).mono ?_
      rintro e w2 ⟨rfl, hb2⟩
      have B2 := Lib.hid (B1.out.trans (hb2.mono B1.out.size))
      have HU2 := Lib.hid (HU.out.below hb2)
      clear hb2
      go_wp2_with fail
      refine (C2.out w2 (HS.out.below B2.out) Au cu HU2.out).mono ?_
      rintro e w3 ⟨rfl, hb3⟩
      have B3 := Lib.hid (B2.out.trans (hb3.mono B2.out.size))
      have HU3 := Lib.hid (HU2.out.below hb3)
      have CK3 := Lib.hid (CK.out w3 (HS.out.below B3.out) Au cu HU3.out)
      clear hb3
      go_wp2_with (first
        | (go_at_call 47; refine (CE.out _).mono ?_; rintro e w4 ⟨rfl, rfl⟩)
        | (go_at_call 40; refine CK3.out.mono ?_; rintro e w5 ⟨rfl, hb5⟩; have B5 := Lib.hid (B3.out.trans (hb5.mono B3.out.size)); clear hb5)
        | (go_at_call 20; refine (CW.out _).mono ?_; rintro e w9 ⟨rfl, hb⟩; have B9 := Lib.hid (B5.out.trans (hb.mono B5.out.size)); clear hb))
      go_ret
      exact ⟨rfl, B9.out⟩
  · have C1 := Lib.hid (fewest_no (c := c) (c2 := c2) h A3 t c3 (by omega) hd h0)
    generalize pressedF l s t = F at *
    have hd1 : (F == 0) = false := by simpa using h0
    have hd2 : (F != 0) = true := by simpa using h0
    clear h hd h0 htr
    go_enter Try.func13, Try.ntmps13
    go_wp2_with fail
    refine C1.out.mono ?_
    rintro e w1 ⟨rfl, hb⟩
    have B1 := Lib.hid hb
    clear hb
    go_wp2_with (first | (go_at_call 20; refine (CW.out _).mono ?_; rintro e w9 ⟨rfl, hb⟩; have B9 := Lib.hid (B1.out.trans (hb.mono B1.out.size)); clear hb))
    go_ret
    exact ⟨rfl, B9.out⟩
end
end Go.Proofs.Ytnjcahdelcdcfaa

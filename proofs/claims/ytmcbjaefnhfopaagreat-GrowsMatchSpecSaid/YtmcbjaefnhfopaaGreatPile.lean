/- stacked of package shape, whatever the world. -/
import Derived.Test.YtmcbjaefnhfopaaGreatKey
import Derived.Test.YtmcbjaefnhfopaaGreatSweepL
namespace Go.Proofs.YtmcbjaefnhfopaaGreat
open Go.Maps Go.ChangeShapes Go.WideShapes Go.RowKit
open Reg (R4)
set_option linter.unusedSimpArgs false
set_option linter.unusedVariables false

def wfR (j : Roof) : Prop := (Lit.int .i64 j.1).wf = true ∧ (Lit.int .i64 j.2.1).wf = true ∧ (Lit.int .i64 j.2.2).wf = true
/-- A map reads as a function of roofs. -/
def MapF (D : DataW Unit) (f : Roof → Option Nat) : Prop := ∀ j, wfR j → Maps.has D (keyR j) = (f j).isSome ∧ ∀ k, f j = some k → D.atKey (keyR j) (.lit (.int .i64 0)) = .lit (.int .i64 (k : Int))
theorem MapF.put {D : DataW Unit} {f : Roof → Option Nat} (h : MapF D f) (hD : IsMap D) {j : Roof} (hj : wfR j) (k : Nat) : MapF (D.put (keyR j) (.lit (.int .i64 (k : Int)))) (updK f j k) := by
  intro i hi
  by_cases hij : i = j
  · subst hij
    unfold updK
    rw [if_pos rfl]
    have hkl := roof_law.key (keyOf_roof hj.1 hj.2.1 hj.2.2)
    refine ⟨has_put_same hD hkl _, fun k' hk' => ?_⟩
    injection hk' with hk'
    subst hk'
    exact atKey_put_same hD hkl _ _
  · have hne : keyR i ≠ keyR j := fun h => hij (keyR_inj hi hj h)
    unfold updK
    rw [if_neg hij, has_put_other hne, atKey_put_other hne]
    exact h i hi
theorem MapF.nil : MapF (.map []) (fun _ => none) := fun j _ => ⟨rfl, fun k hk => by cases hk⟩
theorem zero_int (w : World) : (zeroValue 3).run Tryz.prog w = .ok (.int .i64 0) w := by kernel_rfl
abbrev OwnM (w : World) (b n : Nat) (D : DataW Unit) : Prop := w.ownsMap Tryz.prog 89 (plainElem (H := Unit) Tryz.prog 3) b n D

theorem wpList_look_some {w : World} {ops : Array Oper} {rest : List Oper} {o : Oper} {a : Act} {Q : Exit → Act → World → Prop} (hg : o.guard = none) (m x : Operand) (hop : o.op = Op.lookup 86 m x true)
    (b n : Nat) (D : DataW Unit) (f : Roof → Option Nat) (hm : a.eval m = .map (some b)) (hown : OwnM w b n D) (M : MapF D f) (p q z : Int) (hw : wfR (p, q, z)) (k : Nat) (hf : f (p, q, z) = some k)
    (hx : a.eval x = .agg #[.int .i64 p, .int .i64 q, .int .i64 z])
    (hK : wpList Tryz.prog ops Q rest (a.put o.dst (.tuple #[.int .i64 (k : Int), .bool true])) w) : wpList Tryz.prog ops Q (o :: rest) a w :=
  wpList_lookup_own_ok_int w hg m x _ hop 89 3 .i64 roof_law Tryz.underlying86 Tryz.underlying3 (zero_int _) b n D hm hown _ (keyR (p, q, z)) hx (keyOf_roof hw.1 hw.2.1 hw.2.2) fun c hat _ => by
    obtain ⟨m1, m2⟩ := M _ hw
    rw [m2 k hf] at hat
    injection hat with hat
    injection hat with _ hat
    rw [m1, hf, ← hat]
    exact hK
theorem wpList_look_none {w : World} {ops : Array Oper} {rest : List Oper} {o : Oper} {a : Act} {Q : Exit → Act → World → Prop} (hg : o.guard = none) (m x : Operand) (hop : o.op = Op.lookup 86 m x true)
    (b n : Nat) (D : DataW Unit) (f : Roof → Option Nat) (hm : a.eval m = .map (some b)) (hown : OwnM w b n D) (M : MapF D f) (p q z : Int) (hw : wfR (p, q, z)) (hf : f (p, q, z) = none)
    (hx : a.eval x = .agg #[.int .i64 p, .int .i64 q, .int .i64 z])
    (hK : ∀ c : Int, wpList Tryz.prog ops Q rest (a.put o.dst (.tuple #[.int .i64 c, .bool false])) w) : wpList Tryz.prog ops Q (o :: rest) a w :=
  wpList_lookup_own_ok_int w hg m x _ hop 89 3 .i64 roof_law Tryz.underlying86 Tryz.underlying3 (zero_int _) b n D hm hown _ (keyR (p, q, z)) hx (keyOf_roof hw.1 hw.2.1 hw.2.2) fun c hat _ => by
    obtain ⟨m1, m2⟩ := M _ hw
    rw [m1, hf]
    exact hK c
theorem wf_nat {k : Nat} (hk : k ≤ 100000000) : (Lit.int .i64 (k : Int)).wf = true := by
  have h1 : IntKind.i64.min = -9223372036854775808 := by decide
  have h2 : IntKind.i64.max = 9223372036854775807 := by decide
  simp [Lit.wf, h1, h2]
  omega
theorem wpList_upd_roof {w : World} {ops : Array Oper} {rest : List Oper} {o : Oper} {a : Act} {Q : Exit → Act → World → Prop} (hg : o.guard = none) (m x v : Operand) (hop : o.op = Op.mapUpdate 86 m x v)
    (b n : Nat) (D : DataW Unit) (f : Roof → Option Nat) (hm : a.eval m = .map (some b)) (hown : OwnM w b n D) (M : MapF D f) (hn : n ≤ 100000000) (p q z : Int) (hw : wfR (p, q, z)) (k : Nat) (hk : k ≤ 100000000)
    (hx : a.eval x = .agg #[.int .i64 p, .int .i64 q, .int .i64 z]) (hv : a.eval v = .int .i64 (k : Int))
    (hK : ∀ w' D', OwnM w' b (n + 1) D' → MapF D' (updK f (p, q, z) k) → w.grownBy w' (some b) → wpList Tryz.prog ops Q rest (a.put o.dst undef) w') : wpList Tryz.prog ops Q (o :: rest) a w :=
  wpList_mapUpdate_own w hg m x v _ hop 89 3 roof_law Tryz.underlying86 _ b n D hm hown (by simp only [maxLen]; omega) _ _ (keyR (p, q, z)) hx hv (keyOf_roof hw.1 hw.2.1 hw.2.2) (.lit (.int .i64 (k : Int))) [] (plainElem_int Tryz.underlying3 (wf_nat hk)) fun w' h1 h2 =>
    hK w' _ h1 (M.put hown.isMap hw k) h2
theorem cR_top {out : List R4} : ∀ {k : Nat} {r : R4}, out[k]? = some r → ∀ y : Int, cR (topAt out k y) = (cR out).set (k * 4 + 3) (.int .i64 y) := by
  induction out with
  | nil => intro k r h; simp at h
  | cons s l ih =>
    intro k r h y
    cases k with
    | zero =>
      rw [topAt_some h]
      simp at h
      subst h
      simp [cR]
    | succ k =>
      simp at h
      have := ih h y
      rw [topAt_some h] at this
      rw [topAt_some (show (s :: l)[k + 1]? = some r from by simpa using h)]
      simp only [List.set_cons_succ, cR, List.flatMap_cons] at this ⊢
      rw [show (k + 1) * 4 + 3 = k * 4 + 3 + 1 + 1 + 1 + 1 from by omega]
      simp only [List.cons_append, List.nil_append, List.set_cons_succ]
      rw [this]
theorem topAt_len (out : List R4) (k : Nat) (y : Int) : (topAt out k y).length = out.length := by unfold topAt; split <;> simp

theorem own_far' {w : World} {base n size b : Nat} {e : TypeId} {v : Value} {xs : List Value} (h : w.ownsRow base e size v n xs) (hb : w.heap.size ≤ b) : some b ≠ v.ownBlock := fun e => by
  have := (h.lt b e.symm).2
  omega
theorem own_far'' {w : World} {base n size b : Nat} {e : TypeId} {v : Value} {xs : List Value} (h : w.ownsRow base e size v n xs) (hb : b < base) : ∀ g, v.ownBlock = some g → some g ≠ some b := fun g hg e => by
  have := (h.lt g hg).1
  injection e with e
  omega
def RoofLt (f : Roof → Option Nat) (n : Nat) : Prop := ∀ j k, f j = some k → k < n
set_option maxRecDepth 100000 in
set_option maxHeartbeats 2000000 in
theorem pile_any (A : Option Addr) (l : List R4) (c : Nat) (w : World) (hl : l.length ≤ 100000000) (hw : ∀ r, r ∈ l → wfR (r.x0, r.x1, r.y0) ∧ wfR (r.x0, r.x1, r.y1)) (h : Rd w A l) :
    Calls Tryz.prog 55 #[.slice A l.length c] w fun e w' => ∃ v, e = .returned v ∧ w'.ownsRow w.heap.size 28 4 v (pileL l).length (cR (pileL l)) ∧ Below w.heap.size w w' := by
  obtain ⟨i0, hi, hz0, hz1, hz2⟩ := info_parts infoR
  have H0 := Lib.hid h
  have HW := Lib.hid hw
  clear h hw
  have hmm := @run_makeMap Tryz.prog
  go_enter Tryz.func55, Tryz.ntmps55
  go_wp2_with fail
  go_loopw [4, 12] (fun v i wr => ∃ (k n : Nat) (out : List R4) (f : Roof → Option Nat) (D : DataW Unit), k ≤ l.length ∧ i = .int .i64 k ∧ OwnM wr w.heap.size n D ∧ n ≤ k ∧ MapF D f ∧ RoofLt f out.length ∧ wr.ownsRow (w.heap.size + 1) 28 4 v out.length (cR out) ∧ out.length ≤ k ∧ pileL l = pileGo out f (l.drop k) ∧ Below w.heap.size w wr ∧ w.heap.size + 1 ≤ wr.heap.size) (fun _ i _ => l.length - (intOf i).toNat)
  case atStart => exact ⟨0, 0, [], fun _ => none, .map [], Nat.zero_le _, rfl, World.ownsMap_made _ _ _ _, Nat.le_refl _, MapF.nil, (fun j k hk => by cases hk), own_nil, Nat.le_refl _, rfl, (Below.refl _ _).alloc (Nat.le_refl _) _, by simp⟩
  case round =>
    obtain ⟨k, n, out, f, D, hk, rfl, hM, hn, hF, hlt0, hown, hol, hf, hbw, hsz⟩ := hrel
    have zw := hbw.size
    have HM := Lib.hid hM
    have HF := Lib.hid hF
    have HL := Lib.hid hlt0
    have HO := Lib.hid hown
    have HP := Lib.hid hf
    obtain ⟨Ao, co, rfl, ho1, ho2, ho3⟩ := own_cells hown
    have HO3 := Lib.hid ho3
    have ho2' : co ≤ 9223372036854775807 := ho2
    clear hM hF hlt0 hown hf ho2 ho3
    have hkz : (0 : Int) ≤ (k : Int) := by omega
    by_cases hlt : k < l.length
    · obtain ⟨b, off, rfl, hblt, hcs⟩ := (H0.out.below hbw) (by omega)
      have hi1 : l[k]? = some l[k] := List.getElem?_eq_getElem hlt
      have hd : l.drop k = l[k] :: l.drop (k + 1) := List.drop_eq_getElem_cons hlt
      obtain ⟨c0, c1, c2, c3⟩ := hcs k _ hi1
      have HD := Lib.hid hd
      have HWR := Lib.hid (HW.out _ (List.getElem_mem hlt))
      clear hi1 hcs hd
      generalize l[k] = r at *
      have hklt : (k : Int) < (l.length : Int) := by omega
      cases hfr : f (r.x0, r.x1, r.y0) with
      | none =>
        have hn' : pileL l = pileGo (out ++ [r]) (updK f (r.x0, r.x1, r.y1) out.length) (l.drop (k + 1)) := by rw [HP.out, HD.out, pileGo, hfr]
        have HN := Lib.hid hn'
        have HFR := Lib.hid hfr
        clear hn' hfr
        go_wp2_with (first
          | (at_lookup; refine wpList_look_none rfl _ _ rfl w.heap.size n D f rfl (HM.out.alloc _) HF.out r.x0 r.x1 r.y0 HWR.out.1 HFR.out rfl ?_; intro cz)
          | (at_builtin; refine wpList_append_own _ rfl (.tmp 37) (.tmp 39) 22 rfl (w.heap.size + 1) 28 i0 (.agg #[.int .i64 0, .int .i64 0, .int .i64 0, .int .i64 0]) 4 32 Tryz.underlying22 hi hz0 hz1 hz2 rfl (by decide) (.slice Ao out.length co) out.length (cR out) rfl ((HO.out.alloc _).alloc _) ⟨wr.heap.size + 1, 0, none⟩ 1 1 [.int .i64 r.x0, .int .i64 r.y0, .int .i64 r.x1, .int .i64 r.y1] rfl rfl ?nw ?o2 ?q4 ?q5 ?b2 ?_; (case nw => exact list_new _ _ (by simp) _ _); (case o2 => simp [Value.oneCell']); (case q4 => simp only [maxLen]; omega); (case q5 => omega); (case b2 => (first | (with_reducible exact Nat.le_refl _) | (with_reducible assumption) | omega | (simp only [World.size_alloc, World.size_setCell, World.size_drew]; omega) | (simp; omega) | (simp; done))); intro v2 w2 hown2 hg2 _; have HO2 := Lib.hid hown2; have B2 := below_app (B := w.heap.size) (w0 := w) (by (repeat' (first | (with_reducible exact Below.refl _ _) | (with_reducible assumption) | (with_reducible refine Below.alloc ?_ ?_ _) | (with_reducible refine Below.drew ?_) | (with_reducible refine below_drewN ?_ _) | (with_reducible refine Below.setCell ?_ ?_ _) | (with_reducible exact Nat.le_refl _) | omega | (simp only [World.size_alloc, World.size_setCell, World.size_drew]; omega) | (simp; omega) | (simp; done)))) ((HO.out.alloc _).alloc _) hg2 (by omega) (by (first | (with_reducible exact Nat.le_refl _) | (with_reducible assumption) | omega | (simp only [World.size_alloc, World.size_setCell, World.size_drew]; omega) | (simp; omega) | (simp; done))); have HM2 := Lib.hid (((HM.out.alloc _).alloc _).kept hg2 (own_far HO.out (by omega))); have hbx := app_box hg2 (g := wr.heap.size) (cs := #[Value.int .i64 r.x0, .int .i64 r.y0, .int .i64 r.x1, .int .i64 r.y1]) (by simp) (own_far' HO.out (by omega)) (fun i => by simp [go_sem]) (fun i => by simp [go_sem]); obtain ⟨hbx, hfz⟩ := hbx; have z2 := hg2.size; (try simp only [World.size_alloc] at z2); clear hown2 hg2)
          | (at_mapUpdate; refine wpList_upd_roof rfl _ _ _ rfl w.heap.size n D f rfl HM2.out HF.out (by omega) r.x0 r.x1 r.y1 HWR.out.2 out.length (by omega) rfl rfl ?_; intro w3 D3 hown3 hF3 hg3; have HM3 := Lib.hid hown3; have HF3 := Lib.hid hF3; have HO3 := Lib.hid (HO2.out.kept hg3 (.inr (fun e => by have := (HO2.out.lt _ e).1; omega))); have B3 := B2.grown hg3 B2.size (fun j hj => by cases hj; exact Nat.le_refl _); have z3 := hg3.size; clear hown3 hF3 hg3))
        go_roundw
        case rel => exact ⟨k + 1, n + 1, out ++ [r], _, D3, by omega, by go_num, HM3.out, by omega, HF3.out, (fun j k' hk' => by
          unfold updK at hk'
          rw [List.length_append, List.length_singleton]
          split at hk'
          · injection hk' with hk'; omega
          · have := HL.out j k' hk'; omega), by rw [List.length_append, cR_append]; exact HO3.out, by simp; omega, HN.out, B3, by omega⟩
        case measure => simp [intOf]; omega
      | some kk =>
        have hkk := HL.out _ _ hfr
        obtain ⟨g, rfl, hg, hgl, -⟩ := HO3.out (by omega)
        have ht : out[kk]? = some out[kk] := List.getElem?_eq_getElem hkk
        have hct := own_cellC HO.out (cR_at ht).2.2.2
        obtain ⟨oc, of⟩ := hct
        have HT := Lib.hid (cR_top ht r.y1)
        clear ht
        generalize out[kk] = t at *
        have hn' : pileL l = pileGo (topAt out kk r.y1) (updK f (r.x0, r.x1, r.y1) kk) (l.drop (k + 1)) := by rw [HP.out, HD.out, pileGo, hfr]
        have HN := Lib.hid hn'
        have HFR := Lib.hid hfr
        clear hn' hfr
        have hkkz : (0 : Int) ≤ (kk : Int) := by omega
        have hkkl : (kk : Int) < (out.length : Int) := by omega
        go_wp2_with (first
          | (at_lookup; refine wpList_look_some rfl _ _ rfl w.heap.size n D f rfl (HM.out.alloc _) HF.out r.x0 r.x1 r.y0 HWR.out.1 kk HFR.out rfl ?_)
          | (at_mapUpdate; refine wpList_upd_roof rfl _ _ _ rfl w.heap.size n D f rfl ?om HF.out (by omega) r.x0 r.x1 r.y1 HWR.out.2 kk (by omega) rfl rfl ?_; (case om => exact World.ownsMap.alloc (World.ownsMap.setCell HM.out (a := ⟨g, kk * 4 + 3, none⟩) (show w.heap.size ≠ g from by omega) _) _); intro w3 D3 hown3 hF3 hg3; have HM3 := Lib.hid hown3; have HF3 := Lib.hid hF3; have HO4 := Lib.hid (((HO.out.stored (kk * 4 + 3) (.int .i64 r.y1)).1.alloc _).kept hg3 (.inr (fun e => by have := (HO.out.lt _ e).1; omega))); have B2 := (hbw.grown (HO.out.stored (kk * 4 + 3) (.int .i64 r.y1)).2 (by omega) (fun j hj => by cases hj; omega)).alloc (by simp; omega) (.cells #[Value.int .i64 r.x0, .int .i64 r.y0, .int .i64 r.x1, .int .i64 r.y1] 28); have z2 := B2.size; have B3 := B2.grown hg3 B2.size (fun j hj => by cases hj; exact Nat.le_refl _); have z3 := hg3.size; (try simp only [World.size_alloc, World.size_setCell] at z3); clear hown3 hF3 hg3))
        go_roundw
        case rel => exact ⟨k + 1, n + 1, topAt out kk r.y1, _, D3, by omega, by go_num, HM3.out, by omega, HF3.out, (fun j k' hk' => by
          unfold updK at hk'
          rw [topAt_len]
          split at hk'
          · injection hk' with hk'; omega
          · exact HL.out j k' hk'), by rw [topAt_len, HT.out]; exact HO4.out, by rw [topAt_len]; omega, HN.out, B3, by omega⟩
        case measure => simp [intOf]; omega
    · obtain rfl : k = l.length := by omega
      have hn' : pileL l = out := by rw [HP.out, List.drop_length]; rfl
      have HN := Lib.hid hn'
      clear hn'
      go_wp2_with fail
      go_ret
      refine ⟨_, rfl, ?_, hbw⟩
      rw [HN.out]
      exact own_mono HO.out (by omega)
end Go.Proofs.YtmcbjaefnhfopaaGreat

/- Several texts in one: RSubP, RSub, RHeld, RSubE, RSubG. -/
import Derived.Test.YtdlglnkhhbkndaaRSubA
import Derived.Test.YtdlglnkhhbkndaaInsS
import Derived.Test.YtdlglnkhhbkndaaBldL
import Derived.Test.YtdlglnkhhbkndaaStkP
import Derived.Test.YtdlglnkhhbkndaaRFn
import Derived.Test.YtdlglnkhhbkndaaSlThr
/- The sub-boards of the reference, as plain lists. -/
namespace Go.Proofs.Ytdlglnkhhbkndaa
open Go.RowKit Go.Maps
set_option linter.unusedSimpArgs false
set_option linter.unusedVariables false
set_option maxRecDepth 100000

structure Sb where
  t : Thr
  c : Bool
abbrev Sb.cs (x : Sb) : List Value := [.int .i64 x.t.a, .int .i64 x.t.b, .bool x.c]
def coresS (R : List Row) : Nat → List Sb
  | 0 => []
  | k + 1 => if coreB R k then coresS R k ++ [(⟨⟨(k : Int) + 1, (k : Int) + 2⟩, true⟩ : Sb)] else coresS R k
def sameT (x y : Thr) : Bool := decide (x.a = y.a) && decide (x.b = y.b)
/-- Where a span is put. -/
def posS (L : List Sb) (m : Nat) (x : Thr) : Nat → Nat
  | 0 => 0
  | k + 1 => if decide (m < k + 1) && (L[k]?.any fun y => earT x y.t) then posS L m x k else k + 1
def addS (m : Nat) (L : List Sb) (x : Thr) : List Sb := if L.any (fun y => sameT y.t x) then L else L.take (posS L m x L.length) ++ (⟨x, false⟩ : Sb) :: L.drop (posS L m x L.length)
def subsF (R : List Row) (l : List Thr) : List Sb := (l ++ [(⟨1, ((cus R).length : Nat)⟩ : Thr)]).foldl (addS (coresS R ((cus R).length - 1)).length) (coresS R ((cus R).length - 1))
theorem posS_le (L : List Sb) (m : Nat) (x : Thr) : ∀ k, posS L m x k ≤ k
  | 0 => Nat.le_refl _
  | k + 1 => by
    rw [posS]
    split
    · exact Nat.le_succ_of_le (posS_le L m x k)
    · exact Nat.le_refl _
theorem insL_subs (L : List Sb) (k : Nat) (x : Sb) : insL (L.flatMap Sb.cs) k x.cs = (L.take k ++ x :: L.drop k).flatMap Sb.cs := by
  have h3 : ∀ (L : List Sb) (k : Nat), (L.take k).flatMap Sb.cs = (L.flatMap Sb.cs).take (k * 3) ∧ (L.drop k).flatMap Sb.cs = (L.flatMap Sb.cs).drop (k * 3) := by
    intro L
    induction L with
    | nil => intro k; simp
    | cons y L ih =>
      intro k
      cases k with
      | zero => simp
      | succ k =>
        obtain ⟨h1, h2⟩ := ih k
        rw [List.take_succ_cons, List.drop_succ_cons, List.flatMap_cons, List.flatMap_cons, h1, h2, show (k + 1) * 3 = k * 3 + 1 + 1 + 1 by omega]
        exact ⟨rfl, rfl⟩
  obtain ⟨h1, h2⟩ := h3 L k
  unfold insL
  rw [List.flatMap_append, List.flatMap_cons, h1, h2, List.append_assoc]
theorem subs_one (L : List Sb) : ∀ u ∈ L.flatMap Sb.cs, u.oneCell' = true := by
  intro u hu
  obtain ⟨x, _, hx⟩ := List.mem_flatMap.1 hu
  simp [Sb.cs] at hx
  rcases hx with rfl | rfl | rfl <;> rfl
theorem addS_len (m : Nat) (L : List Sb) (x : Thr) : (addS m L x).length ≤ L.length + 1 := by
  unfold addS
  split
  · omega
  · rw [List.length_append, List.length_cons, List.length_take, List.length_drop]
    have := posS_le L m x L.length
    omega
theorem coresS_len (R : List Row) : ∀ k, (coresS R k).length ≤ k
  | 0 => Nat.le_refl _
  | k + 1 => by
    have := coresS_len R k
    rw [coresS]
    split
    · rw [List.length_append, List.length_singleton]; omega
    · omega
theorem cusF_has : ∀ (R : List Row) (i j : Nat) (r : Row), R[j]? = some r → isCu r = true → i + j ∈ cusF i R
  | [], _, _, _, h, _ => by simp at h
  | q :: R, i, 0, r, h, hc => by
    simp at h
    subst h
    simp [cusF, hc]
  | q :: R, i, j + 1, r, h, hc => by
    have h' : R[j]? = some r := by simpa using h
    have ih := cusF_has R (i + 1) j r h' hc
    rw [show i + 1 + j = i + (j + 1) by omega] at ih
    cases hq : isCu q
    · simpa [cusF, hq] using ih
    · simp only [cusF, hq, if_true, List.mem_cons]
      exact .inr ih
/-- A core lies between two coppers. -/
theorem core_two {R : List Row} (h : GoodR R) (hf : formB R = true) {i j0 j1 : Nat} (h0 : (cus R)[i]? = some j0) (h1 : (cus R)[i + 1]? = some j1) (hc : coreB R i = true) : j1 = j0 + 2 := by
  obtain ⟨r, hj1, hr, hcB⟩ := above_copper h1
  rw [hc] at hcB
  have hk : r.2.kind = 2 := of_decide_eq_true hcB.symm
  have hlt := cus_mono h0 h1 (Nat.lt_succ_self i)
  obtain ⟨r0, hr0, hcu0, -⟩ := cus_get h0
  have hne : j0 ≠ j1 - 1 := by
    intro e
    rw [e, hr] at hr0
    cases hr0
    unfold isCu at hcu0
    simp [hk] at hcu0
  have hjl := (List.getElem?_eq_some_iff.1 hr).1
  have hq : R[j1 - 2]? = some R[j1 - 2] := List.getElem?_eq_getElem (by omega)
  have hm := h.m (j1 - 2) _ r hq (by rw [show j1 - 2 + 1 = j1 - 1 by omega]; exact hr)
  have hq1 : isCu R[j1 - 2] = true := by
    unfold meetB at hm
    rw [hk] at hm
    unfold isCu
    by_cases e : (R[j1 - 2]).2.kind = 1
    · simp [e]
    · simp [e] at hm
  obtain ⟨m, hm2⟩ := List.getElem?_of_mem (cusF_has R 0 (j1 - 2) _ hq hq1)
  rw [Nat.zero_add] at hm2
  by_cases h3 : m < i
  · have := cus_mono hm2 h0 h3
    omega
  · by_cases h4 : i + 1 < m
    · have := cus_mono h1 hm2 h4
      omega
    · have h5 : m = i ∨ m = i + 1 := by omega
      rcases h5 with rfl | rfl
      · rw [h0] at hm2
        have := Option.some.inj hm2
        omega
      · rw [h1] at hm2
        have := Option.some.inj hm2
        omega
end Go.Proofs.Ytdlglnkhhbkndaa
/- The sub-boards of the reference (subs), whatever the world. -/
namespace Go.Proofs.Ytdlglnkhhbkndaa
open Go.RowKit Go.Maps
set_option linter.unusedSimpArgs false
set_option linter.unusedVariables false
set_option maxRecDepth 100000

theorem two_new (w : World) (a b : Value) (T : TypeId) : ∀ (j : Nat) (u : Value), ([a, b] : List Value)[j]? = some u → (w.alloc (.cells #[a, b] T)).cell? ((⟨w.heap.size, 0, none⟩ : Addr).add j) = some u := by
  intro j u hu
  rw [Addr.add_lit, Nat.zero_add]
  have : (w.alloc (.cells #[a, b] T)).cell? ⟨w.heap.size, j, none⟩ = (#[a, b])[j]? := by simp [go_sem]
  rw [this]
  simpa using hu
theorem three_new (w : World) (a b c : Value) (T : TypeId) : ∀ (j : Nat) (u : Value), ([a, b, c] : List Value)[j]? = some u → (w.alloc (.cells #[a, b, c] T)).cell? ((⟨w.heap.size, 0, none⟩ : Addr).add j) = some u := by
  intro j u hu
  rw [Addr.add_lit, Nat.zero_add]
  have : (w.alloc (.cells #[a, b, c] T)).cell? ⟨w.heap.size, j, none⟩ = (#[a, b, c])[j]? := by simp [go_sem]
  rw [this]
  simpa using hu
theorem coresS_ok (R : List Row) : ∀ k, k ≤ 1000 → ∀ y ∈ coresS R k, okT y.t
  | 0, _ => fun y hy => by cases hy
  | k + 1, hk => by
    rw [coresS]
    split
    · intro y hy
      rcases List.mem_append.1 hy with hy | hy
      · exact coresS_ok R k (by omega) y hy
      · rw [List.mem_singleton.1 hy]
        exact ⟨⟨by show (0 : Int) ≤ (k : Int) + 1; omega, by show (k : Int) + 1 ≤ 1000000; omega⟩, by show (0 : Int) ≤ (k : Int) + 2; omega, by show (k : Int) + 2 ≤ 1000000; omega⟩
    · exact coresS_ok R k (by omega)
theorem addS_ok {m : Nat} {L : List Sb} {x : Thr} (h : ∀ y ∈ L, okT y.t) (hx : okT x) : ∀ y ∈ addS m L x, okT y.t := by
  intro y hy
  unfold addS at hy
  split at hy
  · exact h y hy
  · rcases List.mem_append.1 hy with hy | hy
    · exact h y (List.mem_of_mem_take hy)
    · rcases List.mem_cons.1 hy with rfl | hy
      · exact hx
      · exact h y (List.mem_of_mem_drop hy)
section
variable {A : Option Addr} {l : List Mat} {c : Nat} {A2 : Option Addr} {s : List Lay} {c2 : Nat} {w : World}
set_option maxHeartbeats 8000000 in
theorem subs_any (h : StkIn A l A2 s w) (h0 : stackF l s = 0) (A3 : Option Addr) (t : List Thr) (c3 : Nat) (ht : t.length ≤ 200) (hok : ∀ x ∈ t, okT x) (hd : RdG 2 Thr.cs w A3 t) :
    Calls Try.prog 76 #[.slice A l.length c, .slice A2 s.length c2, .slice A3 t.length c3] w fun e w' => ∃ v, e = .returned v ∧ w'.ownsRow w.heap.size 108 3 v (subsF (rowsOf l s) t).length ((subsF (rowsOf l s) t).flatMap Sb.cs) ∧ Below w.heap.size w w' := by
  have HS := Lib.hid h
  have HD := Lib.hid hd
  have HOK := Lib.hid hok
  have hre := rows_eq h0
  have hsl := (stackF_go h0).2.1
  have HG := Lib.hid (rows_good h0)
  have HF := Lib.hid (stackF_form h0)
  have h2 := form_two (stackF_form h0)
  have HR := Lib.hid hre
  have hf1 := matField1
  obtain ⟨i1, hi1, hy0, hy1, hy2⟩ := info_parts infoSub
  have CC := Lib.hid (rCoppers_any (w := w) (A := A) (l := l) (c := c) A2 s c2 h.l1 (by omega) h.m h.y)
  rw [← hre] at CC
  have CM := Lib.hid (fun n W (hb : Below w.heap.size w W) => materialOf_any A l c n W h.l1 (h.m.below hb))
  have hRl : (rowsOf l s).length = s.length := by rw [hre, List.length_map]
  clear h hd hok h0 hre
  generalize hRR : rowsOf l s = R at *
  have HRR := Lib.hid hRR
  clear hRR
  go_enter Try.func76, Try.ntmps76
  go_wp2_with fail
  refine CC.out.mono ?_
  rintro e w1 ⟨cv, rfl, ho, hb⟩
  obtain ⟨Ac, cc, rfl, u1, u2, u3⟩ := own_cells ho
  obtain ⟨gc, rfl, hgc0, hgc, hcc⟩ := u3 (by omega)
  have HB1 := Lib.hid hb
  have z1 := hb.size
  have HCC := Lib.hid hcc
  have u2' : cc ≤ 9223372036854775807 := u2
  have hcl := cus_few R 0
  obtain ⟨m, hm⟩ : ∃ m, (cus R).length = m + 1 := ⟨(cus R).length - 1, by omega⟩
  have HM := Lib.hid hm
  have hm1000 : m + 1 ≤ 1000 := by unfold cus at hm; omega
  clear ho hb hcc u3 u2 hcl h2
  rw [hm] at u1 ⊢
  clear hm
  go_wp2_with fail
  go_loopw [7, 9] (fun ov iv wr => ∃ k : Nat, k ≤ m ∧ iv = .int .i64 ((k : Int) + 1) ∧ wr.ownsRow w1.heap.size 108 3 ov (coresS R k).length ((coresS R k).flatMap Sb.cs) ∧ Below w1.heap.size w1 wr) (fun _ iv _ => m + 1 - (intOf iv).toNat)
  case atStart => exact ⟨0, Nat.zero_le _, rfl, own_nil, Below.refl _ _⟩
  case round =>
    obtain ⟨k, hk, rfl, ho, hw⟩ := hrel
    have HO := Lib.hid ho
    have HW := Lib.hid hw
    have zw := hw.size
    have hkz : (0 : Int) ≤ (k : Int) := by omega
    clear ho
    by_cases hlt : k < m
    · obtain ⟨j0, hj0⟩ : ∃ j, (cus R)[k]? = some j := ⟨_, List.getElem?_eq_getElem (by rw [HM.out]; omega)⟩
      obtain ⟨j1, hj1⟩ : ∃ j, (cus R)[k + 1]? = some j := ⟨_, List.getElem?_eq_getElem (by rw [HM.out]; omega)⟩
      obtain ⟨r, hj, hr, hcB⟩ := above_copper hj1
      have hjl := cus_lt hj1
      have hj0l := cus_lt hj0
      obtain ⟨e, rfl⟩ : ∃ e, j1 = e + 1 := ⟨j1 - 1, by omega⟩
      rw [Nat.add_sub_cancel] at hr
      have d0 := (hw.cell (p := ⟨gc, k, none⟩) hgc).trans (HCC.out k _ (by rw [List.getElem?_map, hj0]; rfl))
      have d1 := (hw.cell (p := ⟨gc, k + 1, none⟩) hgc).trans (HCC.out (k + 1) _ (by rw [List.getElem?_map, hj1]; rfl))
      have hel : e < s.length := by omega
      have BW := Lib.hid (HB1.out.trans (hw.mono z1))
      obtain ⟨b, off, rfl, hblt, hcs⟩ := (HS.out.y.below BW.out) (by omega)
      have hi : s[e]? = some s[e] := List.getElem?_eq_getElem hel
      have q1 := hcs e _ hi 1 _ rfl
      have hrm : r = rowOf l s[e] := by
        have := hr
        rw [HR.out, List.getElem?_map, hi] at this
        exact (Option.some.inj this).symm
      have hk2 : coreB R k = decide (((matOf l s[e].mat).getD noMat).kind = 2) := by rw [hcB, hrm]; rfl
      have HK2 := Lib.hid hk2
      have HT := Lib.hid (fun hc => core_two HG.out HF.out hj0 hj1 hc)
      have CMY := Lib.hid (fun W (hb : Below w.heap.size w W) => CM.out s[e].mat W hb)
      generalize (matOf l s[e].mat).getD noMat = x at *
      clear hcs hi hrm hk2 hr hcB hj0 hj1 hw
      generalize s[e].mat = ym at *
      have n1 : (0 : Int) ≤ (k : Int) + 1 := by omega
      have n2 : (k : Int) + 1 < ((m + 1 : Nat) : Int) := by omega
      have n2' : (k : Int) + 1 < (m : Int) + 1 := by omega
      have n3 : IntKind.i64.wrap ((k : Int) + 1 - 1) = (k : Int) := (IntWalk.i64_in _ (by omega)).trans (by omega)
      have n4 : IntKind.i64.wrap (k : Int) = (k : Int) := IntWalk.i64_in _ (by omega)
      have n5 : (k : Int) < (m : Int) + 1 := by omega
      have n6 : IntKind.i64.wrap ((e : Int) + 1 - (j0 : Int)) = (e : Int) + 1 - (j0 : Int) := IntWalk.i64_in _ (by omega)
      have n7 : IntKind.i64.wrap ((k : Int) + 1 + 1) = (k : Int) + 1 + 1 := IntWalk.i64_in _ (by omega)
      by_cases hdf : (e : Int) + 1 - (j0 : Int) = 2
      · have hb2 : ((e : Int) + 1 - (j0 : Int) == 2) = true := by simpa using hdf
        have n8 : IntKind.i64.wrap ((e : Int) + 1 - 1) = (e : Int) := (IntWalk.i64_in _ (by omega)).trans (by omega)
        have n9 : IntKind.i64.wrap (e : Int) = (e : Int) := IntWalk.i64_in _ (by omega)
        have n10 : (e : Int) < (s.length : Int) := by omega
        have n11 : (0 : Int) ≤ (e : Int) := by omega
        have HSB := Lib.hid (fun (W : World) (hb : Below wr.heap.size wr W) => show Below wr.heap.size wr W ∧ W.cell? ⟨gc, k, none⟩ = some (.int .i64 (j0 : Nat)) ∧ W.cell? ⟨gc, k + 1, none⟩ = some (.int .i64 ((e + 1 : Nat) : Int)) ∧ W.cell? ⟨b, off + e * 2 + 1, none⟩ = some (.string ym) from ⟨hb, (hb.cell (p := ⟨gc, k, none⟩) (by show gc < wr.heap.size; omega)).trans d0, (hb.cell (p := ⟨gc, k + 1, none⟩) (by show gc < wr.heap.size; omega)).trans d1, (hb.cell (p := ⟨b, off + e * 2 + 1, none⟩) (by show b < wr.heap.size; omega)).trans q1⟩)
        by_cases hx2 : x.kind = 2
        · have hx3 : (x.kind == 2) = true := by simpa using hx2
          have HN := Lib.hid (show coresS R (k + 1) = coresS R k ++ [(⟨⟨(k : Int) + 1, (k : Int) + 2⟩, true⟩ : Sb)] by rw [coresS, HK2.out, decide_eq_true hx2]; rfl)
          clear hx2
          go_wp2_with fail
          go_region_held3 (fun w' => Below wr.heap.size wr w' ∧ w'.cell? ⟨gc, k, none⟩ = some (.int .i64 (j0 : Nat)) ∧ w'.cell? ⟨gc, k + 1, none⟩ = some (.int .i64 ((e + 1 : Nat) : Int)) ∧ w'.cell? ⟨b, off + e * 2 + 1, none⟩ = some (.string ym))
            (first | exact HSB.out _ (below_drewN (Below.refl wr.heap.size wr) 1) | exact HSB.out _ ((below_drewN (Below.refl wr.heap.size wr) 1).trans (hb9.mono (Nat.le_refl _))))
            (first | (go_at_call 68; refine (CMY.out _ (below_drewN BW.out 1)).mono ?_; rintro e w9 ⟨rfl, hb9⟩))
          have B9 := Lib.hid ((below_drewN (Below.refl wr.heap.size wr) 1).trans (hb9.mono (Nat.le_refl _)))
          have z9 := B9.out.size
          have HO9 := Lib.hid (own_below HO.out B9.out)
          obtain ⟨Av, cv9, hv9, -⟩ := own_cells HO9.out
          subst hv9
          have hcl9 := coresS_len R k
          have n12 : IntKind.i64.wrap ((k : Int) + 2) = (k : Int) + 2 := IntWalk.i64_in _ (by omega)
          have n13 : (k : Int) + 1 + 1 = (k : Int) + 2 := by omega
          clear hb9
          go_wp2_with (first
            | (at_builtin; go_loud (refine wpList_append_lies _ rfl (.tmp 52) (.tmp 58) 105 rfl w1.heap.size 108 i1 (.agg #[.int .i64 0, .int .i64 0, .bool false]) 3 24 Try.underlying105 hi1 hy0 hy1 hy2 rfl (by omega) (.slice Av (coresS R k).length cv9) (coresS R k).length ((coresS R k).flatMap Sb.cs) rfl (HO9.out.alloc _) ⟨w9.heap.size, 0, none⟩ 1 1 [.int .i64 ((k : Int) + 1), .int .i64 ((k : Int) + 2), .bool true] rfl rfl (three_new _ _ _ _ _) (by simp [Value.oneCell']) (by omega) (by unfold maxLen; omega) (by omega) (by simp; omega) (w9.heap.size + 1) (by simp) ?_); intro gg cap w5 hown5 hgrow hat5 hlt5; have HO5 := Lib.hid hown5; have HG5 := Lib.hid hgrow; clear hown5 hgrow))
          go_roundw
          case rel =>
            refine ⟨k + 1, by omega, by rw [show ((k + 1 : Nat) : Int) + 1 = (k : Int) + 2 by omega], ?_, below_app ((HW.out.trans (B9.out.mono zw)).alloc (by omega) _) (HO9.out.alloc _) HG5.out (Nat.le_refl _) (by simp; omega)⟩
            rw [HN.out, List.length_append, List.flatMap_append]
            exact HO5.out
          case measure => (simp [intOf] <;> omega)
        · have hx3 : (x.kind == 2) = false := by simpa using hx2
          have HN := Lib.hid (show coresS R (k + 1) = coresS R k by rw [coresS, HK2.out, decide_eq_false hx2]; rfl)
          clear hx2
          go_wp2_with fail
          go_region_held3 (fun w' => Below wr.heap.size wr w' ∧ w'.cell? ⟨gc, k, none⟩ = some (.int .i64 (j0 : Nat)) ∧ w'.cell? ⟨gc, k + 1, none⟩ = some (.int .i64 ((e + 1 : Nat) : Int)) ∧ w'.cell? ⟨b, off + e * 2 + 1, none⟩ = some (.string ym))
            (first | exact HSB.out _ (below_drewN (Below.refl wr.heap.size wr) 1) | exact HSB.out _ ((below_drewN (Below.refl wr.heap.size wr) 1).trans (hb9.mono (Nat.le_refl _))))
            (first | (go_at_call 68; refine (CMY.out _ (below_drewN BW.out 1)).mono ?_; rintro e w9 ⟨rfl, hb9⟩))
          have B9 := Lib.hid ((below_drewN (Below.refl wr.heap.size wr) 1).trans (hb9.mono (Nat.le_refl _)))
          clear hb9
          go_wp2_with fail
          go_roundw
          case rel => exact ⟨k + 1, by omega, by go_num, by rw [HN.out]; exact own_below HO.out B9.out, HW.out.trans (B9.out.mono zw)⟩
          case measure => (simp [intOf] <;> omega)
      · have hb2 : ((e : Int) + 1 - (j0 : Int) == 2) = false := by simpa using hdf
        have HN := Lib.hid (show coresS R (k + 1) = coresS R k by
          have : coreB R k = false := by
            cases hq : coreB R k
            · rfl
            · have := HT.out hq
              omega
          rw [coresS, this]
          rfl)
        go_wp2_with fail
        go_quiet (fail)
        go_wp2_with fail
        go_roundw
        case rel => exact ⟨k + 1, by omega, by go_num, by rw [HN.out]; exact HO.out, below_drewN HW.out _⟩
        case measure => (simp [intOf] <;> omega)
    · obtain rfl : k = m := by omega
      have hcm : coresS R ((cus R).length - 1) = coresS R k := by rw [HM.out, Nat.add_sub_cancel]
      have hclen := coresS_len R k
      obtain ⟨Av, cv9, hv9, v1, v2, v3⟩ := own_cells HO.out
      subst hv9
      have HCM := Lib.hid hcm
      have CL := Lib.hid (cloneThr_any A3 t c3 wr (by omega) (HD.out.below (HB1.out.trans (hw.mono z1))))
      have hw' := hw
      clear hw hcm v3 v2
      obtain ⟨i2, hi2, hx0, hx1, hx2⟩ := info_parts infoThr
      have zw' := hw'.size
      have HW' := Lib.hid hw'
      clear hw'
      go_wp2_with (first
        | (go_at_call 83; refine CL.out.mono ?_; rintro e w5 ⟨v5, rfl, ho5, hb5⟩; obtain ⟨A5, c5, e5, q1, q2, -⟩ := own_cells ho5; subst e5; have HO5 := Lib.hid ho5; have HB5 := Lib.hid hb5; have z5 := hb5.size; clear ho5 hb5)
        | (at_builtin; go_loud (refine wpList_append_lies _ rfl (.tmp 63) (.tmp 67) 52 rfl wr.heap.size 64 i2 (.agg #[.int .i64 0, .int .i64 0]) 2 16 Try.underlying52 hi2 hx0 hx1 hx2 rfl (by omega) (.slice A5 t.length c5) t.length (fm thr1 thr2 t) rfl (HO5.out.alloc _) ⟨w5.heap.size, 0, none⟩ 1 1 [.int .i64 1, .int .i64 ((k : Int) + 1)] rfl rfl (two_new _ _ _ _) (by simp [Value.oneCell']) (by omega) (by unfold maxLen; omega) (by omega) (by simp; omega) (w5.heap.size + 1) (by simp) ?_); intro gu cu w6 hown6 hgrow6 hat6 hlt6; have HO6 := Lib.hid hown6; have HG6 := Lib.hid hgrow6; clear hown6 hgrow6))
      have B6 := Lib.hid (below_app (((HB5.out.alloc z5 (.cells #[.int .i64 1, .int .i64 ((k : Int) + 1)] 64)))) (HO5.out.alloc _) HG6.out (Nat.le_refl _) (by simp; omega))
      obtain ⟨U, hU⟩ : ∃ U : List Thr, U = t ++ [⟨1, ((k + 1 : Nat) : Int)⟩] := ⟨_, rfl⟩
      have hUl : U.length = t.length + 1 := by rw [hU, List.length_append]; rfl
      have hsub : subsF R t = U.foldl (addS (coresS R k).length) (coresS R k) := by
        unfold subsF
        rw [HCM.out, HM.out, ← hU]
      have HU6 := Lib.hid (show w6.ownsRow w1.heap.size 64 2 (.slice (some ⟨gu, 0, none⟩) (t.length + 1) cu) (t.length + 1) (fm thr1 thr2 U) by
        rw [hU, fm_append]
        exact own_lower HO6.out zw')
      have HOKU := Lib.hid (show ∀ x ∈ U, okT x by
        rw [hU]
        intro x hx
        rcases List.mem_append.1 hx with hx | hx
        · exact HOK.out x hx
        · rw [List.mem_singleton.1 hx]
          exact ⟨⟨by show (0 : Int) ≤ 1; omega, by show (1 : Int) ≤ 1000000; omega⟩, by show (0 : Int) ≤ ((k + 1 : Nat) : Int); omega, by show ((k + 1 : Nat) : Int) ≤ 1000000; omega⟩)
      have HSUB := Lib.hid hsub
      have HOut := Lib.hid (own_below HO.out B6.out)
      have hU201 : U.length ≤ 201 := by omega
      have B16 := Lib.hid (HW'.out.trans (B6.out.mono zw'))
      clear hsub HO6 HO5 HO HCM hat6
      have HOKL0 := Lib.hid (coresS_ok R k (by omega))
      obtain ⟨L0, hL0⟩ : ∃ L0, L0 = coresS R k := ⟨_, rfl⟩
      rw [← hL0] at HOKL0
      rw [← hL0] at HSUB
      rw [← hL0] at HOut hclen v1
      rw [← hL0]
      clear hL0
      have hmz : (0 : Int) ≤ (L0.length : Int) := by omega
      have HUL := Lib.hid hUl
      clear hUl
      go_loopw [7, 70] (fun ov iv wx => ∃ (j : Nat) (L : List Sb), j ≤ (t.length + 1) ∧ iv = .int .i64 j ∧ subsF R t = (U.drop j).foldl (addS L0.length) L ∧ L.length ≤ L0.length + j ∧ (∀ y ∈ L, okT y.t) ∧ wx.ownsRow w1.heap.size 108 3 ov L.length (L.flatMap Sb.cs) ∧ wx.ownsRow w1.heap.size 64 2 (.slice (some ⟨gu, 0, none⟩) (t.length + 1) cu) (t.length + 1) (fm thr1 thr2 U) ∧ Below w1.heap.size w1 wx) (fun _ iv _ => (t.length + 1) - (intOf iv).toNat)
      case atStart => exact ⟨0, L0, Nat.zero_le _, rfl, by rw [HSUB.out, List.drop_zero], by omega, HOKL0.out, HOut.out, HU6.out, B16.out⟩
      case round =>
        obtain ⟨j, L, hj, rfl, hfold, hLl, hokL, ho, hu, hw⟩ := hrel
        have HOKL := Lib.hid hokL
        clear hokL
        have HFO := Lib.hid hfold
        have HO := Lib.hid ho
        have HU := Lib.hid hu
        have HW := Lib.hid hw
        have zw := hw.size
        have hjz : (0 : Int) ≤ (j : Int) := by omega
        obtain ⟨Ao, co, hov, o1, o2, o3⟩ := own_cells ho
        subst hov
        have o2' : co ≤ 9223372036854775807 := o2
        have HO3 := Lib.hid o3
        clear hfold hu hw o3
        by_cases hlt : j < (t.length + 1)
        · have hjU : j < U.length := by rw [HUL.out]; exact hlt
          have hltI : (j : Int) < (t.length : Int) + 1 := by omega
          have hltd : decide ((j : Int) < (t.length : Int) + 1) = true := decide_eq_true hltI
          have hxU : U[j]? = some U[j] := List.getElem?_eq_getElem hjU
          obtain ⟨f0, f1⟩ := fm_at (c1 := thr1) (c2 := thr2) hxU
          have g0 := (own_cellC HU.out f0).1
          have g1 := (own_cellC HU.out f1).1
          have lgu := (HU.out.lt gu rfl).2
          have hd : U.drop j = U[j] :: U.drop (j + 1) := List.drop_eq_getElem_cons hjU
          have HD2 := Lib.hid hd
          have hokx := HOKU.out U[j] (List.getElem_mem _)
          clear hxU f0 f1 hd
          generalize U[j] = x at *
          go_wp2_with fail
          obtain ⟨w8, rfl⟩ : ∃ w8, w8 = wr := ⟨wr, rfl⟩
          have HA8 := Lib.hid (HO.out.alloc (.cells #[.int .i64 x.a, .int .i64 x.b] 64))
          have HB8 := Lib.hid (HU.out.alloc (.cells #[.int .i64 x.a, .int .i64 x.b] 64))
          go_loopw [13, 76] (fun kv iv wx => ∃ q : Nat, q ≤ L.length ∧ iv = .int .i64 q ∧ kv = .bool ((L.take q).any fun y => sameT y.t x) ∧ wx.cell? ⟨w8.heap.size, 0, none⟩ = some (.int .i64 x.a) ∧ wx.cell? ⟨w8.heap.size, 1, none⟩ = some (.int .i64 x.b) ∧ Below (w8.heap.size + 1) (w8.alloc (.cells #[.int .i64 x.a, .int .i64 x.b] 64)) wx) (fun _ iv _ => L.length - (intOf iv).toNat)
          case atStart => exact ⟨0, Nat.zero_le _, rfl, by rw [List.take_zero]; rfl, alloc_new_cell w8 _ _ 0 rfl, alloc_new_cell w8 _ _ 1 rfl, Below.refl _ _⟩
          case round =>
            obtain ⟨q, hq, rfl, rfl, x0, x1, hw⟩ := hrel
            have HX := Lib.hid hw
            have zx : w8.heap.size + 1 ≤ wr.heap.size := by simpa using hw.size
            have hqz : (0 : Int) ≤ (q : Int) := by omega
            by_cases hql : q < L.length
            · obtain ⟨go, rfl, hgb, hgo, hco⟩ := HO3.out (by omega)
              have hi : L[q]? = some L[q] := List.getElem?_eq_getElem hql
              have up := fun (o : Nat) (v : Value) (h : w8.cell? ⟨go, o, none⟩ = some v) => (hw.cell (p := ⟨go, o, none⟩) (by show go < w8.heap.size + 1; omega)).trans ((World.cell?_alloc_lt _ _ _ hgo).trans h)
              have c0 := by simpa using up _ _ (hco (q * 3 + 0) _ (flat_at (cs := Sb.cs) (k := 3) (fun _ => rfl) hi (j := 0) rfl))
              have c1 := up _ _ (hco (q * 3 + 1) _ (flat_at (cs := Sb.cs) (k := 3) (fun _ => rfl) hi (j := 1) rfl))
              have c2' := up _ _ (hco (q * 3 + 2) _ (flat_at (cs := Sb.cs) (k := 3) (fun _ => rfl) hi (j := 2) rfl))
              have HTK := Lib.hid (show (L.take (q + 1)).any (fun y => sameT y.t x) = ((L.take q).any (fun y => sameT y.t x) || sameT L[q].t x) by
                rw [List.take_add_one, hi, List.any_append]
                simp)
              have n1 : ¬ w8.heap.size = wr.heap.size := by omega
              have n2 : ¬ wr.heap.size = w8.heap.size := by omega
              have n3 : w8.heap.size < wr.heap.size := by omega
              clear hi up hco hw
              generalize L[q] = y at *
              obtain ⟨⟨ya, yb⟩, yc⟩ := y
              simp only at c0 c1 c2'
              have HSM := Lib.hid (show sameT (⟨ya, yb⟩ : Thr) x = (decide (ya = x.a) && decide (yb = x.b)) from rfl)
              cases hkn : (L.take q).any (fun y => sameT y.t x)
              · rw [hkn] at HTK
                by_cases ha : ya = x.a
                · by_cases hb : yb = x.b
                  · have hT := HTK.out
                    have hS := HSM.out
                    rw [decide_eq_true ha, decide_eq_true hb] at hS
                    have HN := Lib.hid (show (L.take (q + 1)).any (fun y => sameT y.t x) = true by rw [hT]; simp only [hS]; rfl)
                    clear hT hS
                    have d1 : (ya == x.a) = true := by simpa using ha
                    have d2 : (yb == x.b) = true := by simpa using hb
                    go_wp2_with fail
                    go_roundw
                    case rel => exact ⟨q + 1, by omega, by go_num, by rw [HN.out], by simp [go_sem, x0, n1, n2, n3], by simp [go_sem, x1, n1, n2, n3], HX.out.alloc (by simpa using zx) _⟩
                    case measure => (simp [intOf] <;> omega)
                  · have hT := HTK.out
                    have hS := HSM.out
                    rw [decide_eq_false hb, Bool.and_false] at hS
                    have HN := Lib.hid (show (L.take (q + 1)).any (fun y => sameT y.t x) = false by rw [hT]; simp only [hS]; rfl)
                    clear hT hS
                    have d1 : (ya == x.a) = true := by simpa using ha
                    have d2 : (yb == x.b) = false := by simpa using hb
                    go_wp2_with fail
                    go_roundw
                    case rel => exact ⟨q + 1, by omega, by go_num, by rw [HN.out], by simp [go_sem, x0, n1, n2, n3], by simp [go_sem, x1, n1, n2, n3], HX.out.alloc (by simpa using zx) _⟩
                    case measure => (simp [intOf] <;> omega)
                · have hT := HTK.out
                  have hS := HSM.out
                  rw [decide_eq_false ha, Bool.false_and] at hS
                  have HN := Lib.hid (show (L.take (q + 1)).any (fun y => sameT y.t x) = false by rw [hT]; simp only [hS]; rfl)
                  clear hT hS
                  have d1 : (ya == x.a) = false := by simpa using ha
                  go_wp2_with fail
                  go_roundw
                  case rel => exact ⟨q + 1, by omega, by go_num, by rw [HN.out], by simp [go_sem, x0, n1, n2, n3], by simp [go_sem, x1, n1, n2, n3], HX.out.alloc (by simpa using zx) _⟩
                  case measure => (simp [intOf] <;> omega)
              · rw [hkn] at HTK
                have HN := Lib.hid (show (L.take (q + 1)).any (fun y => sameT y.t x) = true by rw [HTK.out, Bool.true_or])
                go_wp2_with fail
                go_roundw
                case rel => exact ⟨q + 1, by omega, by go_num, by rw [HN.out], by simp [go_sem, x0, n1, n2, n3], by simp [go_sem, x1, n1, n2, n3], HX.out.alloc (by simpa using zx) _⟩
                case measure => (simp [intOf] <;> omega)
            · obtain rfl : q = L.length := by omega
              have HOw := Lib.hid (own_below HA8.out (hw.mono (by simp)))
              have HUw := Lib.hid (own_below HB8.out (hw.mono (by simp)))
              have HWw := Lib.hid ((HW.out.alloc zw (.cells #[.int .i64 x.a, .int .i64 x.b] 64)).trans (hw.mono (by omega)))
              have lx : w8.heap.size < wr.heap.size := by omega
              cases hkn : (L.take L.length).any (fun y => sameT y.t x)
              · have HKN := Lib.hid (show L.any (fun y => sameT y.t x) = false by rw [List.take_length] at hkn; exact hkn)
                clear hkn hw
                go_wp2_with fail
                obtain ⟨w7, rfl⟩ : ∃ w7, w7 = wr := ⟨wr, rfl⟩
                go_loopw [16] (fun kv wx => ∃ q : Nat, q ≤ L.length ∧ kv = .int .i64 q ∧ posS L L0.length x L.length = posS L L0.length x q ∧ Below w7.heap.size w7 wx) (fun kv _ => (intOf kv).toNat)
                case atStart => exact ⟨L.length, Nat.le_refl _, rfl, rfl, Below.refl _ _⟩
                case round =>
                  obtain ⟨q, hq, rfl, hp, hw⟩ := hrel
                  have HP := Lib.hid hp
                  have HW7 := Lib.hid hw
                  have z7 := hw.size
                  have y0 := (hw.cell (p := ⟨w8.heap.size, 0, none⟩) lx).trans x0
                  have y1 := (hw.cell (p := ⟨w8.heap.size, 1, none⟩) lx).trans x1
                  clear hp hw
                  by_cases hmp : L0.length < q
                  · obtain ⟨p, rfl⟩ : ∃ p, q = p + 1 := ⟨q - 1, by omega⟩
                    have hpl : p < L.length := by omega
                    have hi : L[p]? = some L[p] := List.getElem?_eq_getElem hpl
                    have HOr := Lib.hid (own_below HOw.out HW7.out)
                    obtain ⟨_, _, e9, _, _, h39⟩ := own_cells HOr.out
                    cases e9
                    obtain ⟨go, rfl, _, hgo, hco⟩ := h39 (by omega)
                    have c0 := by simpa using hco (p * 3 + 0) _ (flat_at (cs := Sb.cs) (k := 3) (fun _ => rfl) hi (j := 0) rfl)
                    have c1 := hco (p * 3 + 1) _ (flat_at (cs := Sb.cs) (k := 3) (fun _ => rfl) hi (j := 1) rfl)
                    have hoky := HOKL.out L[p] (List.getElem_mem hpl)
                    have HPS := Lib.hid (show posS L L0.length x (p + 1) = if earT x L[p].t then posS L L0.length x p else p + 1 by
                      rw [posS, decide_eq_true hmp, Bool.true_and, hi]
                      rfl)
                    have CE := Lib.hid (fun W => earlier_any x L[p].t hokx hoky W)
                    clear hi hco h39 hoky
                    generalize L[p] = y at *
                    obtain ⟨⟨ya, yb⟩, yc⟩ := y
                    simp only at c0 c1
                    have n1 : (L0.length : Int) < (p : Int) + 1 := by omega
                    have n2 : decide ((L0.length : Int) < (p : Int) + 1) = true := decide_eq_true n1
                    have n3 : IntKind.i64.wrap ((p : Int) + 1 - 1) = (p : Int) := (IntWalk.i64_in _ (by omega)).trans (by omega)
                    have n4 : IntKind.i64.wrap (p : Int) = (p : Int) := IntWalk.i64_in _ (by omega)
                    have n5 : (p : Int) + 1 - 1 = (p : Int) := by omega
                    have n6 : (0 : Int) ≤ (p : Int) := by omega
                    have n7 : (p : Int) < (L.length : Int) := by omega
                    have lxw : w8.heap.size < wr.heap.size := by omega
                    have HSB := Lib.hid (fun (W : World) (hb : Below wr.heap.size wr W) => show Below wr.heap.size wr W ∧ W.cell? ⟨w8.heap.size, 0, none⟩ = some (.int .i64 x.a) ∧ W.cell? ⟨w8.heap.size, 1, none⟩ = some (.int .i64 x.b) ∧ W.cell? ⟨go, p * 3, none⟩ = some (.int .i64 ya) ∧ W.cell? ⟨go, p * 3 + 1, none⟩ = some (.int .i64 yb) from ⟨hb, (hb.cell (p := ⟨w8.heap.size, 0, none⟩) lxw).trans y0, (hb.cell (p := ⟨w8.heap.size, 1, none⟩) lxw).trans y1, (hb.cell (p := ⟨go, p * 3, none⟩) hgo).trans c0, (hb.cell (p := ⟨go, p * 3 + 1, none⟩) hgo).trans c1⟩)
                    cases hea : earT x ⟨ya, yb⟩
                    · rw [hea] at CE HPS
                      have HPS1 := Lib.hid (show posS L L0.length x (p + 1) = p + 1 from HPS.out)
                      clear hea
                      go_wp2_with fail
                      go_region_held3 (fun w' => Below wr.heap.size wr w' ∧ w'.cell? ⟨w8.heap.size, 0, none⟩ = some (.int .i64 x.a) ∧ w'.cell? ⟨w8.heap.size, 1, none⟩ = some (.int .i64 x.b) ∧ w'.cell? ⟨go, p * 3, none⟩ = some (.int .i64 ya) ∧ w'.cell? ⟨go, p * 3 + 1, none⟩ = some (.int .i64 yb))
                        (first | exact HSB.out _ (below_drewN (Below.refl wr.heap.size wr) 1) | exact HSB.out _ ((below_drewN (Below.refl wr.heap.size wr) 1).trans (hb9.mono (Nat.le_refl _))))
                        (first | (go_at_call 96; refine (CE.out _).mono ?_; rintro e w9 ⟨rfl, hgw⟩; have hb9 := gw_below (Nat.le_refl _) hgw))
                      have B9 := Lib.hid ((below_drewN (Below.refl wr.heap.size wr) 1).trans (hb9.mono (Nat.le_refl _)))
                      have z9 := B9.out.size
                      clear hb9
                      go_wp2_with fail
                      have HPK := Lib.hid (show posS L L0.length x L.length = (p + 1) by rw [HP.out, HPS1.out])
                      have BWW := Lib.hid (HW7.out.trans (B9.out.mono z7))
                      have zW := BWW.out.size
                      have g0w := (BWW.out.cell (p := ⟨w8.heap.size, 0, none⟩) lx).trans x0
                      have g1w := (BWW.out.cell (p := ⟨w8.heap.size, 1, none⟩) lx).trans x1
                      have CI := Lib.hid (show Calls Try.prog 97 #[.slice (some ⟨go, 0, none⟩) L.length co, .int .i64 ((p : Int) + 1), .slice (some ⟨w9.heap.size, 0, none⟩) 1 1] (w9.alloc (.cells #[.int .i64 x.a, .int .i64 x.b, .bool false] 108)) (fun e w' => ∃ v', e = .returned v' ∧ w'.ownsRow w1.heap.size 108 3 v' (L.length + 1) (insL (L.flatMap Sb.cs) (p + 1) [.int .i64 x.a, .int .i64 x.b, .bool false]) ∧ (w9.alloc (.cells #[.int .i64 x.a, .int .i64 x.b, .bool false] 108)).grownBy w' (Value.slice (some ⟨go, 0, none⟩) L.length co).ownBlock) from insSub_any w1.heap.size L.length (p + 1) w9.heap.size (.slice (some ⟨go, 0, none⟩) L.length co) (L.flatMap Sb.cs) x.a x.b false (w9.alloc (.cells #[.int .i64 x.a, .int .i64 x.b, .bool false] 108)) (by have := posS_le L L0.length x L.length; rw [HPK.out] at this; exact this) (by omega) (by simp; omega) ((own_below HOw.out BWW.out).alloc _) (subs_one L) (MapKept.heap_alloc w9 _).1 (fun e => by have := ((own_below HOw.out BWW.out).lt _ e).2; omega))
                      refine CI.out.mono ?_
                      rintro e w5 ⟨v5, rfl, ho5, hg5⟩
                      have HO5 := Lib.hid ho5
                      have HG5 := Lib.hid hg5
                      clear ho5 hg5
                      go_wp2_with fail
                      go_roundw
                      case rel =>
                        have hA : addS L0.length L x = L.take (p + 1) ++ (⟨x, false⟩ : Sb) :: L.drop (p + 1) := by
                          unfold addS
                          rw [HKN.out, HPK.out]
                          rfl
                        have hAl : (addS L0.length L x).length = L.length + 1 := by
                          have h1 := posS_le L L0.length x L.length
                          rw [HPK.out] at h1
                          rw [hA, List.length_append, List.length_cons, List.length_take, List.length_drop]
                          omega
                        have h6 := HO5.out
                        rw [show ([.int .i64 x.a, .int .i64 x.b, .bool false] : List Value) = Sb.cs ⟨x, false⟩ from rfl, insL_subs, ← hA, ← hAl] at h6
                        have hua := (own_below HUw.out BWW.out).alloc (.cells #[.int .i64 x.a, .int .i64 x.b, .bool false] 108)
                        have hoa := (own_below HOw.out BWW.out).alloc (.cells #[.int .i64 x.a, .int .i64 x.b, .bool false] 108)
                        have h7 := own_grown hua HG5.out (own_types hua hoa (by decide))
                        have h8 := below_app ((HWw.out.trans (BWW.out.mono (by omega))).alloc (by omega) (.cells #[.int .i64 x.a, .int .i64 x.b, .bool false] 108)) hoa HG5.out (Nat.le_refl _) (by simp; omega)
                        have h9 : subsF R t = (U.drop (j + 1)).foldl (addS L0.length) (addS L0.length L x) := by rw [HFO.out, HD2.out, List.foldl_cons]
                        exact ⟨j + 1, addS L0.length L x, by omega, by go_num, h9, by omega, addS_ok HOKL.out hokx, h6, h7, h8⟩
                      case measure => (simp [intOf] <;> omega)
                    · rw [hea] at CE HPS
                      have HPS1 := Lib.hid (show posS L L0.length x (p + 1) = posS L L0.length x p from HPS.out)
                      clear hea
                      go_wp2_with fail
                      go_region_held3 (fun w' => Below wr.heap.size wr w' ∧ w'.cell? ⟨w8.heap.size, 0, none⟩ = some (.int .i64 x.a) ∧ w'.cell? ⟨w8.heap.size, 1, none⟩ = some (.int .i64 x.b) ∧ w'.cell? ⟨go, p * 3, none⟩ = some (.int .i64 ya) ∧ w'.cell? ⟨go, p * 3 + 1, none⟩ = some (.int .i64 yb))
                        (first | exact HSB.out _ (below_drewN (Below.refl wr.heap.size wr) 1) | exact HSB.out _ ((below_drewN (Below.refl wr.heap.size wr) 1).trans (hb9.mono (Nat.le_refl _))))
                        (first | (go_at_call 96; refine (CE.out _).mono ?_; rintro e w9 ⟨rfl, hgw⟩; have hb9 := gw_below (Nat.le_refl _) hgw))
                      have B9 := Lib.hid ((below_drewN (Below.refl wr.heap.size wr) 1).trans (hb9.mono (Nat.le_refl _)))
                      have z9 := B9.out.size
                      clear hb9
                      go_wp2_with fail
                      go_roundw
                      case rel => exact ⟨p, by omega, rfl, by rw [HP.out, HPS1.out], HW7.out.trans (B9.out.mono z7)⟩
                      case measure => (simp [intOf] <;> omega)
                  · have HPS0 := Lib.hid (show posS L L0.length x q = q by
                      cases q with
                      | zero => rfl
                      | succ p => rw [posS, decide_eq_false hmp]; rfl)
                    have n2 : ¬ (L0.length : Int) < (q : Int) := by omega
                    have n3 : decide ((L0.length : Int) < (q : Int)) = false := decide_eq_false n2
                    go_wp2_with fail
                    go_quiet (fail)
                    go_wp2_with fail
                    have HPK := Lib.hid (show posS L L0.length x L.length = q by rw [HP.out, HPS0.out])
                    have BWW := Lib.hid (below_drewN HW7.out nq)
                    have zW := BWW.out.size
                    have g0w := (BWW.out.cell (p := ⟨w8.heap.size, 0, none⟩) lx).trans x0
                    have g1w := (BWW.out.cell (p := ⟨w8.heap.size, 1, none⟩) lx).trans x1
                    have CI := Lib.hid (show Calls Try.prog 97 #[.slice Ao L.length co, .int .i64 (q : Int), .slice (some ⟨wr.heap.size, 0, none⟩) 1 1] ((wr.drewN nq).alloc (.cells #[.int .i64 x.a, .int .i64 x.b, .bool false] 108)) (fun e w' => ∃ v', e = .returned v' ∧ w'.ownsRow w1.heap.size 108 3 v' (L.length + 1) (insL (L.flatMap Sb.cs) q [.int .i64 x.a, .int .i64 x.b, .bool false]) ∧ ((wr.drewN nq).alloc (.cells #[.int .i64 x.a, .int .i64 x.b, .bool false] 108)).grownBy w' (Value.slice Ao L.length co).ownBlock) from insSub_any w1.heap.size L.length q wr.heap.size (.slice Ao L.length co) (L.flatMap Sb.cs) x.a x.b false ((wr.drewN nq).alloc (.cells #[.int .i64 x.a, .int .i64 x.b, .bool false] 108)) (by have := posS_le L L0.length x L.length; rw [HPK.out] at this; exact this) (by omega) (by simp; omega) ((own_below HOw.out BWW.out).alloc _) (subs_one L) (MapKept.heap_alloc (wr.drewN nq) _).1 (fun e => by have := ((own_below HOw.out BWW.out).lt _ e).2; have h9 : (wr.drewN nq).heap.size = wr.heap.size := rfl; omega))
                    refine CI.out.mono ?_
                    rintro e w5 ⟨v5, rfl, ho5, hg5⟩
                    have HO5 := Lib.hid ho5
                    have HG5 := Lib.hid hg5
                    clear ho5 hg5
                    go_wp2_with fail
                    go_roundw
                    case rel =>
                      have hA : addS L0.length L x = L.take q ++ (⟨x, false⟩ : Sb) :: L.drop q := by
                        unfold addS
                        rw [HKN.out, HPK.out]
                        rfl
                      have hAl : (addS L0.length L x).length = L.length + 1 := by
                        have h1 := posS_le L L0.length x L.length
                        rw [HPK.out] at h1
                        rw [hA, List.length_append, List.length_cons, List.length_take, List.length_drop]
                        omega
                      have h6 := HO5.out
                      rw [show ([.int .i64 x.a, .int .i64 x.b, .bool false] : List Value) = Sb.cs ⟨x, false⟩ from rfl, insL_subs, ← hA, ← hAl] at h6
                      have hua := (own_below HUw.out BWW.out).alloc (.cells #[.int .i64 x.a, .int .i64 x.b, .bool false] 108)
                      have hoa := (own_below HOw.out BWW.out).alloc (.cells #[.int .i64 x.a, .int .i64 x.b, .bool false] 108)
                      have h7 := own_grown hua HG5.out (own_types hua hoa (by decide))
                      have h8 := below_app ((HWw.out.trans (BWW.out.mono (by omega))).alloc (by omega) (.cells #[.int .i64 x.a, .int .i64 x.b, .bool false] 108)) hoa HG5.out (Nat.le_refl _) (by simp; omega)
                      have h9 : subsF R t = (U.drop (j + 1)).foldl (addS L0.length) (addS L0.length L x) := by rw [HFO.out, HD2.out, List.foldl_cons]
                      exact ⟨j + 1, addS L0.length L x, by omega, by go_num, h9, by omega, addS_ok HOKL.out hokx, h6, h7, h8⟩
                    case measure => (simp [intOf] <;> omega)
              · have HN := Lib.hid (show addS L0.length L x = L by
                  rw [List.take_length] at hkn
                  unfold addS
                  rw [hkn]
                  rfl)
                clear hkn hw
                go_wp2_with fail
                go_roundw
                case rel => exact ⟨j + 1, L, by omega, by go_num, by rw [HFO.out, HD2.out, List.foldl_cons, HN.out], by omega, HOKL.out, HOw.out, HUw.out, HWw.out⟩
                case measure => (simp [intOf] <;> omega)
        · have HE := Lib.hid (show subsF R t = L by rw [HFO.out, List.drop_of_length_le (by rw [HUL.out]; omega)]; rfl)
          go_wp2_with fail
          go_ret
          refine ⟨_, rfl, ?_, HB1.out.trans (HW.out.mono z1)⟩
          rw [HE.out]
          exact own_lower HO.out z1
end
end Go.Proofs.Ytdlglnkhhbkndaa
/- Whether each copper within a sub-board is held (held of the reference), whatever the world. -/
namespace Go.Proofs.Ytdlglnkhhbkndaa
open Go.RowKit Go.Maps Go.Sort
set_option linter.unusedSimpArgs false
set_option linter.unusedVariables false
set_option maxRecDepth 100000

def hitS (k : Int) (x y : Sb) : Bool := !sameT y.t x.t && inT y.t x.t && (decide (y.t.a ≤ k) && decide (k ≤ y.t.b))
def heldGo (x : Sb) (L : List Sb) : Nat → Int → Bool
  | 0, _ => true
  | n + 1, k => if L.any (hitS k x) then heldGo x L n (k + 1) else false
def heldQ (x : Sb) (L : List Sb) : Bool := heldGo x L (x.t.b - (x.t.a + 1)).toNat (x.t.a + 1)
set_option maxHeartbeats 4000000 in
theorem held_any (x : Sb) (hx : okT x.t) (A : Option Addr) (L : List Sb) (c : Nat) (w : World) (hl : L.length ≤ 140737488355328) (H : RdG 3 Sb.cs w A L) :
    Calls Try.prog 78 #[.slice A L.length c, .agg #[.int .i64 x.t.a, .int .i64 x.t.b, .bool x.c]] w fun e w' => e = .returned (.bool (heldQ x L)) ∧ Below w.heap.size w w' := by
  have HH := Lib.hid H
  have HQ := Lib.hid (show heldQ x L = heldGo x L (x.t.b - (x.t.a + 1)).toNat (x.t.a + 1) from rfl)
  obtain ⟨⟨a1, a2⟩, a3, a4⟩ := hx
  obtain ⟨⟨xa, xb⟩, xc⟩ := x
  simp only at a1 a2 a3 a4 HQ
  have y0 : IntKind.i64.wrap (xa + 1) = xa + 1 := IntWalk.i64_in _ (by omega)
  clear H
  go_enter Try.func78, Try.ntmps78
  go_wp2_with fail
  go_loopw [5] (fun cv wr => ∃ k : Int, cv = .int .i64 k ∧ xa + 1 ≤ k ∧ k ≤ 1000001 ∧ heldQ ⟨⟨xa, xb⟩, xc⟩ L = heldGo ⟨⟨xa, xb⟩, xc⟩ L (xb - k).toNat k ∧ Below (w.heap.size + 1) (w.alloc (.cells #[.int .i64 xa, .int .i64 xb, .bool xc] 108)) wr) (fun cv _ => (xb - intOf cv).toNat)
  case atStart => exact ⟨xa + 1, rfl, Int.le_refl _, by omega, HQ.out, Below.refl _ _⟩
  case round =>
    obtain ⟨k, rfl, hk1, hk2, hf, hw⟩ := hrel
    have HF := Lib.hid hf
    have HW := Lib.hid hw
    have zw : w.heap.size + 1 ≤ wr.heap.size := by simpa using hw.size
    have x0 : wr.cell? ⟨w.heap.size, 0, none⟩ = some (.int .i64 xa) := (hw.cell (p := ⟨w.heap.size, 0, none⟩) (Nat.lt_succ_self _)).trans (alloc_new_cell w _ _ 0 rfl)
    have x1 : wr.cell? ⟨w.heap.size, 1, none⟩ = some (.int .i64 xb) := (hw.cell (p := ⟨w.heap.size, 1, none⟩) (Nat.lt_succ_self _)).trans (alloc_new_cell w _ _ 1 rfl)
    have y1 : IntKind.i64.wrap (k + 1) = k + 1 := IntWalk.i64_in _ (by omega)
    clear hf hw
    by_cases hkb : k < xb
    · have HS := Lib.hid (show heldGo ⟨⟨xa, xb⟩, xc⟩ L (xb - k).toNat k = if L.any (hitS k ⟨⟨xa, xb⟩, xc⟩) then heldGo ⟨⟨xa, xb⟩, xc⟩ L (xb - (k + 1)).toNat (k + 1) else false by
        rw [show (xb - k).toNat = (xb - (k + 1)).toNat + 1 by omega]
        rfl)
      go_wp2_with fail
      obtain ⟨w8, rfl⟩ : ∃ w8, w8 = wr := ⟨wr, rfl⟩
      go_loopw [6, 22] (fun kv iv wx => ∃ q : Nat, q ≤ L.length ∧ iv = .int .i64 q ∧ kv = .bool ((L.take q).any (hitS k ⟨⟨xa, xb⟩, xc⟩)) ∧ Below (w.heap.size + 1) (w.alloc (.cells #[.int .i64 xa, .int .i64 xb, .bool xc] 108)) wx) (fun _ iv _ => L.length - (intOf iv).toNat)
      case atStart => exact ⟨0, Nat.zero_le _, rfl, by rw [List.take_zero]; rfl, HW.out⟩
      case round =>
        obtain ⟨q, hq, rfl, rfl, hw⟩ := hrel
        have HX := Lib.hid hw
        have zx : w.heap.size + 1 ≤ wr.heap.size := by simpa using hw.size
        have hqz : (0 : Int) ≤ (q : Int) := by omega
        have x0 : wr.cell? ⟨w.heap.size, 0, none⟩ = some (.int .i64 xa) := (hw.cell (p := ⟨w.heap.size, 0, none⟩) (Nat.lt_succ_self _)).trans (alloc_new_cell w _ _ 0 rfl)
        have x1 : wr.cell? ⟨w.heap.size, 1, none⟩ = some (.int .i64 xb) := (hw.cell (p := ⟨w.heap.size, 1, none⟩) (Nat.lt_succ_self _)).trans (alloc_new_cell w _ _ 1 rfl)
        have HB := Lib.hid ((Below.refl w.heap.size w).alloc (Nat.le_refl _) (.cells #[.int .i64 xa, .int .i64 xb, .bool xc] 108) |>.trans (hw.mono (Nat.le_succ _)))
        have n1 : ¬ w.heap.size = wr.heap.size := by omega
        have n2 : ¬ wr.heap.size = w.heap.size := by omega
        have n3 : w.heap.size < wr.heap.size := by omega
        by_cases hql : q < L.length
        · obtain ⟨b, off, rfl, hblt, hcs⟩ := (HH.out.below HB.out) (by omega)
          have hi : L[q]? = some L[q] := List.getElem?_eq_getElem hql
          have c0 := by simpa using hcs q _ hi 0 _ rfl
          have c1 := hcs q _ hi 1 _ rfl
          have c2 := hcs q _ hi 2 _ rfl
          have HTK := Lib.hid (show (L.take (q + 1)).any (hitS k ⟨⟨xa, xb⟩, xc⟩) = ((L.take q).any (hitS k ⟨⟨xa, xb⟩, xc⟩) || hitS k ⟨⟨xa, xb⟩, xc⟩ L[q]) by
            rw [List.take_add_one, hi, List.any_append]
            simp)
          clear hi hcs hw
          generalize L[q] = y at *
          obtain ⟨⟨ya, yb⟩, yc⟩ := y
          simp only at c0 c1 c2
          have CI := Lib.hid (fun W => show Calls Try.prog 77 #[.agg #[.int .i64 ya, .int .i64 yb], .agg #[.int .i64 xa, .int .i64 xb]] W (fun e w' => e = .returned (.bool (inT ⟨ya, yb⟩ ⟨xa, xb⟩)) ∧ ∃ q os', w' = grow (W.drewN q) os') from inside_any ⟨ya, yb⟩ ⟨xa, xb⟩ W)
          have CW := Lib.hid (fun W => withinR_any k ya yb W)
          cases hkn : (L.take q).any (hitS k ⟨⟨xa, xb⟩, xc⟩)
          · rw [hkn, Bool.false_or] at HTK
            by_cases hs : ya = xa ∧ yb = xb
            · obtain ⟨rfl, rfl⟩ := hs
              have HN := Lib.hid (show (L.take (q + 1)).any (hitS k ⟨⟨ya, yb⟩, xc⟩) = false by rw [HTK.out]; unfold hitS sameT; simp)
              go_wp2_with fail
              go_roundw
              case rel => exact ⟨q + 1, by omega, by go_num, by rw [HN.out], HX.out.alloc (by simpa using zx) _⟩
              case measure => (simp [intOf] <;> omega)
            · by_cases ha : ya = xa
              · subst ha
                have hb : ¬ yb = xb := fun e => hs ⟨rfl, e⟩
                have hs1 : sameT ⟨ya, yb⟩ ⟨ya, xb⟩ = false := by
                  unfold sameT
                  rw [Bool.eq_false_iff]
                  intro e
                  rw [Bool.and_eq_true] at e
                  exact hs ⟨of_decide_eq_true e.1, of_decide_eq_true e.2⟩
                have hs3 : (yb == xb) = false := by simpa using hb
                clear hs
                cases hin : inT ⟨ya, yb⟩ ⟨ya, xb⟩
                · have HN := Lib.hid (show (L.take (q + 1)).any (hitS k ⟨⟨ya, xb⟩, xc⟩) = false by rw [HTK.out]; unfold hitS; simp only [hs1, hin]; rfl)
                  rw [hin] at CI
                  go_wp2_with (first
                    | (go_at_call 77; refine (CI.out _).mono ?_; rintro e w4 ⟨rfl, hgw⟩; have hb4 := gw_below (B := wr.heap.size + 1) (by simp) hgw; have HB4 := Lib.hid hb4; have z4 : wr.heap.size + 1 ≤ w4.heap.size := (by simpa using hb4.size); have e0 : w4.cell? ⟨wr.heap.size, 0, none⟩ = some (.int .i64 ya) := (hb4.cell (p := ⟨wr.heap.size, 0, none⟩) (Nat.lt_succ_self _)).trans (alloc_new_cell wr _ _ 0 rfl); have e1 : w4.cell? ⟨wr.heap.size, 1, none⟩ = some (.int .i64 yb) := (hb4.cell (p := ⟨wr.heap.size, 1, none⟩) (Nat.lt_succ_self _)).trans (alloc_new_cell wr _ _ 1 rfl); clear hb4 hgw))
                  go_roundw
                  case rel => exact ⟨q + 1, by omega, by go_num, by rw [HN.out], (HX.out.alloc (by simpa using zx) _).trans (HB4.out.mono (by omega))⟩
                  case measure => (simp [intOf] <;> omega)
                · have HN := Lib.hid (show (L.take (q + 1)).any (hitS k ⟨⟨ya, xb⟩, xc⟩) = (decide (ya ≤ k) && decide (k ≤ yb)) by rw [HTK.out]; unfold hitS; simp only [hs1, hin]; rfl)
                  rw [hin] at CI
                  go_wp2_with (first
                    | (go_at_call 77; refine (CI.out _).mono ?_; rintro e w4 ⟨rfl, hgw⟩; have hb4 := gw_below (B := wr.heap.size + 1) (by simp) hgw; have HB4 := Lib.hid hb4; have z4 : wr.heap.size + 1 ≤ w4.heap.size := (by simpa using hb4.size); have e0 : w4.cell? ⟨wr.heap.size, 0, none⟩ = some (.int .i64 ya) := (hb4.cell (p := ⟨wr.heap.size, 0, none⟩) (Nat.lt_succ_self _)).trans (alloc_new_cell wr _ _ 0 rfl); have e1 : w4.cell? ⟨wr.heap.size, 1, none⟩ = some (.int .i64 yb) := (hb4.cell (p := ⟨wr.heap.size, 1, none⟩) (Nat.lt_succ_self _)).trans (alloc_new_cell wr _ _ 1 rfl); clear hb4 hgw)
                    | (go_at_call 59; refine (CW.out _).mono ?_; rintro e w6 ⟨rfl, rfl⟩))
                  go_roundw
                  case rel => exact ⟨q + 1, by omega, by go_num, by rw [HN.out], (HX.out.alloc (by simpa using zx) _).trans (HB4.out.mono (by omega))⟩
                  case measure => (simp [intOf] <;> omega)
              · have hs1 : sameT ⟨ya, yb⟩ ⟨xa, xb⟩ = false := by
                  unfold sameT
                  rw [Bool.eq_false_iff]
                  intro e
                  rw [Bool.and_eq_true] at e
                  exact hs ⟨of_decide_eq_true e.1, of_decide_eq_true e.2⟩
                have hs3 : (ya == xa) = false := by simpa using ha
                clear hs
                cases hin : inT ⟨ya, yb⟩ ⟨xa, xb⟩
                · have HN := Lib.hid (show (L.take (q + 1)).any (hitS k ⟨⟨xa, xb⟩, xc⟩) = false by rw [HTK.out]; unfold hitS; simp only [hs1, hin]; rfl)
                  rw [hin] at CI
                  go_wp2_with (first
                    | (go_at_call 77; refine (CI.out _).mono ?_; rintro e w4 ⟨rfl, hgw⟩; have hb4 := gw_below (B := wr.heap.size + 1) (by simp) hgw; have HB4 := Lib.hid hb4; have z4 : wr.heap.size + 1 ≤ w4.heap.size := (by simpa using hb4.size); have e0 : w4.cell? ⟨wr.heap.size, 0, none⟩ = some (.int .i64 ya) := (hb4.cell (p := ⟨wr.heap.size, 0, none⟩) (Nat.lt_succ_self _)).trans (alloc_new_cell wr _ _ 0 rfl); have e1 : w4.cell? ⟨wr.heap.size, 1, none⟩ = some (.int .i64 yb) := (hb4.cell (p := ⟨wr.heap.size, 1, none⟩) (Nat.lt_succ_self _)).trans (alloc_new_cell wr _ _ 1 rfl); clear hb4 hgw))
                  go_roundw
                  case rel => exact ⟨q + 1, by omega, by go_num, by rw [HN.out], (HX.out.alloc (by simpa using zx) _).trans (HB4.out.mono (by omega))⟩
                  case measure => (simp [intOf] <;> omega)
                · have HN := Lib.hid (show (L.take (q + 1)).any (hitS k ⟨⟨xa, xb⟩, xc⟩) = (decide (ya ≤ k) && decide (k ≤ yb)) by rw [HTK.out]; unfold hitS; simp only [hs1, hin]; rfl)
                  rw [hin] at CI
                  go_wp2_with (first
                    | (go_at_call 77; refine (CI.out _).mono ?_; rintro e w4 ⟨rfl, hgw⟩; have hb4 := gw_below (B := wr.heap.size + 1) (by simp) hgw; have HB4 := Lib.hid hb4; have z4 : wr.heap.size + 1 ≤ w4.heap.size := (by simpa using hb4.size); have e0 : w4.cell? ⟨wr.heap.size, 0, none⟩ = some (.int .i64 ya) := (hb4.cell (p := ⟨wr.heap.size, 0, none⟩) (Nat.lt_succ_self _)).trans (alloc_new_cell wr _ _ 0 rfl); have e1 : w4.cell? ⟨wr.heap.size, 1, none⟩ = some (.int .i64 yb) := (hb4.cell (p := ⟨wr.heap.size, 1, none⟩) (Nat.lt_succ_self _)).trans (alloc_new_cell wr _ _ 1 rfl); clear hb4 hgw)
                    | (go_at_call 59; refine (CW.out _).mono ?_; rintro e w6 ⟨rfl, rfl⟩))
                  go_roundw
                  case rel => exact ⟨q + 1, by omega, by go_num, by rw [HN.out], (HX.out.alloc (by simpa using zx) _).trans (HB4.out.mono (by omega))⟩
                  case measure => (simp [intOf] <;> omega)
          · rw [hkn, Bool.true_or] at HTK
            go_wp2_with fail
            go_roundw
            case rel => exact ⟨q + 1, by omega, by go_num, by rw [HTK.out], HX.out.alloc (by simpa using zx) _⟩
            case measure => (simp [intOf] <;> omega)
        · obtain rfl : q = L.length := by omega
          have HLK := Lib.hid (show (L.take L.length).any (hitS k ⟨⟨xa, xb⟩, xc⟩) = L.any (hitS k ⟨⟨xa, xb⟩, xc⟩) by rw [List.take_length])
          cases hkn : (L.take L.length).any (hitS k ⟨⟨xa, xb⟩, xc⟩)
          · have HE := Lib.hid (show heldQ ⟨⟨xa, xb⟩, xc⟩ L = false by rw [HF.out, HS.out, ← HLK.out, hkn]; rfl)
            clear hkn hw
            go_wp2_with fail
            go_ret
            exact ⟨by rw [HE.out]; rfl, HB.out⟩
          · have HE := Lib.hid (show heldQ ⟨⟨xa, xb⟩, xc⟩ L = heldGo ⟨⟨xa, xb⟩, xc⟩ L (xb - (k + 1)).toNat (k + 1) by rw [HF.out, HS.out, ← HLK.out, hkn, if_pos rfl])
            clear hkn hw
            go_wp2_with fail
            go_roundw
            case rel => exact ⟨k + 1, rfl, by omega, by omega, HE.out, HX.out⟩
            case measure => (simp [intOf] <;> omega)
    · have HE := Lib.hid (show heldQ ⟨⟨xa, xb⟩, xc⟩ L = true by
        rw [HF.out, show (xb - k).toNat = 0 by omega]
        rfl)
      go_wp2_with fail
      go_ret
      exact ⟨by rw [HE.out]; rfl, (Below.refl w.heap.size w).alloc (Nat.le_refl _) _ |>.trans (HW.out.mono (Nat.le_succ _))⟩
end Go.Proofs.Ytdlglnkhhbkndaa
/- The sub-boards of the reference are those of the package, as plain lists. -/
namespace Go.Proofs.Ytdlglnkhhbkndaa
open Go.RowKit Go.Maps
set_option linter.unusedSimpArgs false
set_option linter.unusedVariables false
set_option maxRecDepth 100000

def Sb.ab (y : Sb) : AB := ⟨y.t.a, y.t.b, y.c, []⟩
def AB.er (y : AB) : AB := ⟨y.a, y.b, y.core, []⟩
theorem coresF_low (R : List Row) : ∀ k, ∀ y ∈ coresF R k, y.a ≤ k ∧ y.hs = []
  | 0 => fun y hy => by cases hy
  | k + 1 => by
    have ih := coresF_low R k
    have hno : (coresF R k).any (keyB ((k + 1 : Nat) : Int) ((k + 2 : Nat) : Int)) = false := by
      cases h : (coresF R k).any (keyB ((k + 1 : Nat) : Int) ((k + 2 : Nat) : Int))
      · rfl
      · rw [List.any_eq_true] at h
        obtain ⟨y, hy, hk⟩ := h
        unfold keyB at hk
        rw [Bool.and_eq_true] at hk
        have := of_decide_eq_true hk.1
        have := (ih y hy).1
        omega
    rw [coresF]
    split
    · rw [upd_new hno]
      intro y hy
      rcases List.mem_append.1 hy with hy | hy
      · have := ih y hy
        exact ⟨by omega, this.2⟩
      · rw [List.mem_singleton.1 hy]
        exact ⟨Int.le_refl _, rfl⟩
    · intro y hy
      have := ih y hy
      exact ⟨by omega, this.2⟩
theorem cores_same (R : List Row) : ∀ k, (coresS R k).map Sb.ab = (coresF R k).map AB.er
  | 0 => rfl
  | k + 1 => by
    have ih := cores_same R k
    rw [coresS, coresF]
    split
    · have hno : (coresF R k).any (keyB ((k + 1 : Nat) : Int) ((k + 2 : Nat) : Int)) = false := by
        cases h : (coresF R k).any (keyB ((k + 1 : Nat) : Int) ((k + 2 : Nat) : Int))
        · rfl
        · rw [List.any_eq_true] at h
          obtain ⟨y, hy, hk⟩ := h
          unfold keyB at hk
          rw [Bool.and_eq_true] at hk
          have := of_decide_eq_true hk.1
          have := (coresF_low R k y hy).1
          omega
      rw [upd_new hno, List.map_append, List.map_append, ih]
      rfl
    · exact ih
theorem any_same {L : List Sb} {M : List AB} {x : Thr} (h : (L.map Sb.ab).Perm (M.map AB.er)) : L.any (fun y => sameT y.t x) = M.any (keyB x.a x.b) := by
  have h1 : L.any (fun y => sameT y.t x) = (L.map Sb.ab).any (keyB x.a x.b) := by rw [any_map]; rfl
  have h2 : M.any (keyB x.a x.b) = (M.map AB.er).any (keyB x.a x.b) := by rw [any_map]; rfl
  rw [h1, h2]
  exact h.any_eq
theorem upd_er {a b : Int} {g : AB → AB} (hg : ∀ y, (g y).er = y.er) {M : List AB} (h : M.any (keyB a b) = true) : (upd a b g M).map AB.er = M.map AB.er := by
  unfold upd
  rw [h]
  simp only [if_true, List.map_map]
  refine List.map_congr_left fun y _ => ?_
  show (if keyB a b y then g y else y).er = y.er
  split
  · exact hg y
  · rfl
theorem add_same {m : Nat} {L : List Sb} {M : List AB} {x : Thr} {g : AB → AB} (hg : ∀ y, (g y).er = y.er) (h : (L.map Sb.ab).Perm (M.map AB.er)) : ((addS m L x).map Sb.ab).Perm ((upd x.a x.b g M).map AB.er) := by
  have ha := any_same (x := x) h
  unfold addS
  cases hq : M.any (keyB x.a x.b)
  · rw [ha, hq]
    simp only [Bool.false_eq_true, if_false]
    rw [upd_new hq, List.map_append, List.map_append, List.map_cons]
    have e1 : [g ⟨x.a, x.b, false, []⟩].map AB.er = [Sb.ab ⟨x, false⟩] := by
      rw [List.map_singleton, hg]
      rfl
    rw [e1]
    refine List.perm_middle.trans ?_
    refine ((List.Perm.cons _ ?_).trans (List.perm_append_singleton _ _).symm)
    rw [← List.map_append, List.take_append_drop]
    exact h
  · rw [ha, hq, if_pos rfl, upd_er hg hq]
    exact h
theorem spans_same {R : List Row} {m : Nat} {t : List Thr} {L0 : List Sb} {M0 : List AB} (h : (L0.map Sb.ab).Perm (M0.map AB.er)) : ∀ k, k ≤ t.length → (((t.take k).foldl (addS m) L0).map Sb.ab).Perm ((spansF t M0 k).map AB.er)
  | 0, _ => by rw [List.take_zero]; exact h
  | k + 1, hk => by
    have hi : t[k]? = some t[k] := List.getElem?_eq_getElem (by omega)
    have ih := spans_same (R := R) (m := m) (t := t) h k (by omega)
    rw [List.take_add_one, hi, List.foldl_append, spansF, hi]
    exact add_same (fun y => rfl) ih
/-- The same sub-boards, in some order. -/
theorem subs_perm (R : List Row) (t : List Thr) : ((subsF R t).map Sb.ab).Perm ((boardsF R t).map AB.er) := by
  unfold subsF boardsF
  rw [List.foldl_append]
  have h := spans_same (R := R) (m := (coresS R ((cus R).length - 1)).length) (t := t) (L0 := coresS R ((cus R).length - 1)) (M0 := coresF R ((cus R).length - 1)) (by rw [cores_same]) t.length (Nat.le_refl _)
  rw [List.take_length] at h
  exact add_same (x := ⟨1, ((cus R).length : Nat)⟩) (fun y => rfl) h
def rS (x y : Sb) : Prop := rAB x.ab y.ab
theorem turn_sb (y : Sb) : turnA y.ab = if y.c then 0 else y.t.b - y.t.a := rfl
theorem rAB_trans {x y z : AB} (h1 : rAB x y) (h2 : rAB y z) : rAB x z := by
  unfold rAB at *
  omega
structure SortS (m : Nat) (L : List Sb) : Prop where
  len : m ≤ L.length
  lo : ∀ i y, i < m → L[i]? = some y → y.c = true
  hi : ∀ i y, m ≤ i → L[i]? = some y → y.c = false
  pw : L.Pairwise rS
theorem pos_spec {L : List Sb} {m : Nat} {x : Thr} : ∀ k, m ≤ k → k ≤ L.length → m ≤ posS L m x k ∧ (∀ i y, posS L m x k ≤ i → i < k → L[i]? = some y → earT x y.t = true) ∧ (posS L m x k = m ∨ ∃ y, 0 < posS L m x k ∧ L[posS L m x k - 1]? = some y ∧ earT x y.t = false)
  | 0, h, _ => by
    rw [posS]
    exact ⟨h, fun i y h1 h2 => by omega, .inl (by omega)⟩
  | k + 1, h, hk => by
    have hi : L[k]? = some L[k] := List.getElem?_eq_getElem (by omega)
    rw [posS, hi]
    by_cases hm : m < k + 1
    · cases he : earT x L[k].t
      · have : (decide (m < k + 1) && (some L[k]).any fun y => earT x y.t) = false := by simp [he]
        rw [this, if_neg (by decide)]
        exact ⟨h, fun i y h1 h2 => by omega, .inr ⟨L[k], by omega, by rw [Nat.add_sub_cancel]; exact hi, he⟩⟩
      · have : (decide (m < k + 1) && (some L[k]).any fun y => earT x y.t) = true := by simp [he, hm]
        rw [this, if_pos rfl]
        obtain ⟨h1, h2, h3⟩ := pos_spec (L := L) (m := m) (x := x) k (by omega) (by omega)
        refine ⟨h1, fun i y h4 h5 h6 => ?_, h3⟩
        by_cases e : i = k
        · subst e
          rw [hi] at h6
          cases h6
          exact he
        · exact h2 i y h4 (by omega) h6
    · have : (decide (m < k + 1) && (some L[k]).any fun y => earT x y.t) = false := by simp [hm]
      rw [this, if_neg (by decide)]
      exact ⟨h, fun i y h1 h2 => by omega, .inl (by omega)⟩
theorem add_sort {m : Nat} {L : List Sb} {x : Thr} (h : SortS m L) (hx : x.a < x.b) : SortS m (addS m L x) := by
  unfold addS
  split
  · exact h
  · obtain ⟨p1, p2, p3⟩ := pos_spec (x := x) L.length h.len (Nat.le_refl _)
    have p4 := posS_le L m x L.length
    generalize posS L m x L.length = p at *
    have hlt : (L.take p).length = p := by rw [List.length_take]; omega
    have hg1 : ∀ i, i < p → (L.take p ++ (⟨x, false⟩ : Sb) :: L.drop p)[i]? = L[i]? := by
      intro i hi
      rw [List.getElem?_append_left (by omega), List.getElem?_take_of_lt hi]
    refine ⟨by rw [List.length_append, List.length_cons, List.length_drop, hlt]; omega, fun i y hi hy => ?_, fun i y hi hy => ?_, ?_⟩
    · rw [hg1 i (by omega)] at hy
      exact h.lo i y hi hy
    · by_cases hip : i < p
      · rw [hg1 i hip] at hy
        exact h.hi i y hi hy
      · rw [List.getElem?_append_right (by omega), hlt] at hy
        by_cases e : i = p
        · subst e
          rw [Nat.sub_self] at hy
          simp at hy
          rw [← hy]
        · rw [show i - p = (i - p - 1) + 1 by omega, List.getElem?_cons_succ, List.getElem?_drop] at hy
          exact h.hi _ y (by omega) hy
    · have hpw := h.pw
      rw [← List.take_append_drop p L] at hpw
      obtain ⟨q1, q2, q3⟩ := List.pairwise_append.1 hpw
      have tx : turnA (Sb.ab ⟨x, false⟩) = x.b - x.a := rfl
      refine List.pairwise_append.2 ⟨q1, List.pairwise_cons.2 ⟨fun y hy => ?_, q2⟩, fun z hz y hy => ?_⟩
      · obtain ⟨j, hj⟩ := List.getElem?_of_mem hy
        rw [List.getElem?_drop] at hj
        have hjl := (List.getElem?_eq_some_iff.1 hj).1
        have he := p2 (p + j) y (by omega) hjl hj
        have hc := h.hi (p + j) y (by omega) hj
        have ty := turn_sb y
        rw [hc] at ty
        simp only [Bool.false_eq_true, if_false] at ty
        unfold earT longT at he
        show rAB (Sb.ab ⟨x, false⟩) y.ab
        unfold rAB
        rw [tx, ty]
        show _ ∨ _ ∧ x.a ≤ y.t.a
        split at he
        · have := of_decide_eq_true he
          omega
        · have := of_decide_eq_true he
          omega
      · rcases List.mem_cons.1 hy with rfl | hy
        · obtain ⟨j, hj⟩ := List.getElem?_of_mem hz
          have hjp : j < p := by have := (List.getElem?_eq_some_iff.1 hj).1; omega
          rw [List.getElem?_take_of_lt hjp] at hj
          show rAB z.ab (Sb.ab ⟨x, false⟩)
          have tz := turn_sb z
          by_cases hjm : j < m
          · rw [h.lo j z hjm hj] at tz
            simp only [if_true] at tz
            unfold rAB
            rw [tx, tz]
            omega
          · rcases p3 with p3 | ⟨y, p5, p6, p7⟩
            · omega
            · have hyx : rAB y.ab (Sb.ab ⟨x, false⟩) := by
                have ty := turn_sb y
                rw [h.hi (p - 1) y (by omega) p6] at ty
                simp only [Bool.false_eq_true, if_false] at ty
                unfold earT longT at p7
                unfold rAB
                rw [tx, ty]
                show _ ∨ _ ∧ y.t.a ≤ x.a
                split at p7
                · have := of_decide_eq_false p7
                  omega
                · have := of_decide_eq_false p7
                  omega
              by_cases e : j = p - 1
              · subst e
                rw [p6] at hj
                cases hj
                exact hyx
              · obtain ⟨j1, rfl⟩ := List.getElem?_eq_some_iff.1 hj
                obtain ⟨p8, rfl⟩ := List.getElem?_eq_some_iff.1 p6
                exact rAB_trans (List.pairwise_iff_getElem.1 h.pw j (p - 1) j1 p8 (by omega)) hyx
        · exact q3 z hz y hy
theorem cores_sort (R : List Row) : ∀ k, (coresS R k).Pairwise rS ∧ ∀ y ∈ coresS R k, y.c = true ∧ y.t.a ≤ k
  | 0 => ⟨List.Pairwise.nil, fun y hy => by cases hy⟩
  | k + 1 => by
    obtain ⟨h1, h2⟩ := cores_sort R k
    rw [coresS]
    split
    · refine ⟨List.pairwise_append.2 ⟨h1, List.pairwise_singleton _ _, fun z hz y hy => ?_⟩, fun y hy => ?_⟩
      · rw [List.mem_singleton.1 hy]
        obtain ⟨c1, c2⟩ := h2 z hz
        have tz := turn_sb z
        rw [c1] at tz
        simp only [if_true] at tz
        show rAB z.ab _
        unfold rAB
        rw [tz]
        refine .inr ⟨rfl, ?_⟩
        show z.t.a ≤ (k : Int) + 1
        omega
      · rcases List.mem_append.1 hy with hy | hy
        · have := h2 y hy
          exact ⟨this.1, by omega⟩
        · rw [List.mem_singleton.1 hy]
          exact ⟨rfl, by show (k : Int) + 1 ≤ ((k + 1 : Nat) : Int); omega⟩
    · exact ⟨h1, fun y hy => by have := h2 y hy; exact ⟨this.1, by omega⟩⟩
theorem fold_sort {m : Nat} : ∀ (U : List Thr) (L : List Sb), (∀ x ∈ U, x.a < x.b) → SortS m L → SortS m (U.foldl (addS m) L)
  | [], _, _, h => h
  | x :: U, L, hu, h => by
    rw [List.foldl_cons]
    exact fold_sort U _ (fun y hy => hu y (List.mem_cons_of_mem _ hy)) (add_sort h (hu x (List.mem_cons_self ..)))
theorem subs_sort {R : List Row} {t : List Thr} (h2 : 2 ≤ (cus R).length) (ht : ∀ x ∈ t, x.a < x.b) : (subsF R t).Pairwise rS := by
  obtain ⟨h3, h4⟩ := cores_sort R ((cus R).length - 1)
  refine (fold_sort _ _ (fun x hx => ?_) ⟨Nat.le_refl _, fun i y _ hy => (h4 y (List.mem_of_getElem? hy)).1, fun i y hi hy => ?_, h3⟩).pw
  · rcases List.mem_append.1 hx with hx | hx
    · exact ht x hx
    · rw [List.mem_singleton.1 hx]
      show (1 : Int) < ((cus R).length : Nat)
      omega
  · have := (List.getElem?_eq_some_iff.1 hy).1
    omega
/-- The reference's sub-boards are the package's, in the same order. -/
theorem subs_press {R : List Row} {t : List Thr} (h2 : 2 ≤ (cus R).length) (ht : ∀ x ∈ t, 1 ≤ x.a ∧ x.a < x.b ∧ x.b ≤ ((cus R).length : Int)) (ho : OrdL R t) : (subsF R t).map Sb.ab = (pressL R t).map AB.er := by
  have hb := boards_bd h2 ht
  have hp : ((subsF R t).map Sb.ab).Perm ((pressL R t).map AB.er) := (subs_perm R t).trans (ho.1.map _).symm
  refine sort_one hp (List.pairwise_map.2 (subs_sort h2 fun x hx => (ht x hx).2.1)) (List.pairwise_map.2 (ho.2.imp fun h => h)) fun x hx y hy h3 h4 => ?_
  obtain ⟨x0, hx0, rfl⟩ := List.mem_map.1 (hp.subset hx)
  obtain ⟨y0, hy0, rfl⟩ := List.mem_map.1 (hp.subset hy)
  rw [bd_anti hb x0 (ho.1.subset hx0) y0 (ho.1.subset hy0) h3 h4]
end Go.Proofs.Ytdlglnkhhbkndaa
/- The faults of spans, on both sides, as plain lists. -/
namespace Go.Proofs.Ytdlglnkhhbkndaa
open Go.RowKit Go.Maps
set_option linter.unusedSimpArgs false
set_option linter.unusedVariables false
set_option maxRecDepth 100000

def Sb.bq (y : Sb) : Bq := y.ab.bq
theorem hold_hit (k : Int) (x z : Sb) : holdQ z.bq x.bq k = hitS k x z := by
  have e1 : holdQ z.bq x.bq k = (decide (z.t.b - z.t.a < x.t.b - x.t.a) && (decide (x.t.a ≤ z.t.a) && decide (z.t.b ≤ x.t.b)) && decide (z.t.a ≤ k) && decide (k ≤ z.t.b)) := rfl
  have e2 : hitS k x z = (!(decide (z.t.a = x.t.a) && decide (z.t.b = x.t.b)) && (decide (x.t.a ≤ z.t.a) && decide (z.t.b ≤ x.t.b)) && (decide (z.t.a ≤ k) && decide (k ≤ z.t.b))) := rfl
  rw [e1, e2]
  by_cases h1 : x.t.a ≤ z.t.a
  · by_cases h2 : z.t.b ≤ x.t.b
    · have h3 : decide (z.t.b - z.t.a < x.t.b - x.t.a) = !(decide (z.t.a = x.t.a) && decide (z.t.b = x.t.b)) := by
        by_cases h4 : z.t.a = x.t.a
        · by_cases h5 : z.t.b = x.t.b
          · rw [decide_eq_false (by omega), decide_eq_true h4, decide_eq_true h5]
            rfl
          · rw [decide_eq_true (by omega), decide_eq_true h4, decide_eq_false h5]
            rfl
        · rw [decide_eq_true (by omega), decide_eq_false h4]
          rfl
      rw [h3, Bool.and_assoc]
    · rw [decide_eq_false h2]
      simp
  · rw [decide_eq_false h1]
    simp
theorem loose_go (x : Sb) (L : List Sb) : ∀ n k, looseGo x.bq (L.map Sb.bq) n k = !heldGo x L n k
  | 0, _ => rfl
  | n + 1, k => by
    have ih := loose_go x L n (k + 1)
    have ha : (L.map Sb.bq).any (fun z => holdQ z x.bq k) = L.any (hitS k x) := by
      rw [any_map]
      congr 1
      funext z
      exact hold_hit k x z
    rw [looseGo, heldGo, ha]
    split
    · exact ih
    · rfl
theorem loose_held (x : Sb) (L : List Sb) : looseQ x.bq (L.map Sb.bq) = !heldQ x L := loose_go x L _ _
/-- The faults of sub-boards by the reference's words. -/
def madeS (L : List Sb) : Int := if pairF [] (L.map Sb.bq) then 12 else if L.any (fun x => !x.c && !heldQ x L) then 11 else 0
theorem made_subs {L : List Sb} (hc : ∀ x ∈ L, x.c = true → x.t.b = x.t.a + 1) : madeF (L.map Sb.bq) = madeS L := by
  unfold madeF madeS
  congr 2
  rw [any_map]
  have : ∀ M : List Sb, (∀ x ∈ M, x.c = true → x.t.b = x.t.a + 1) → (M.any fun x => looseQ x.bq (L.map Sb.bq)) = M.any fun x => !x.c && !heldQ x L := by
    intro M
    induction M with
    | nil => intro _; rfl
    | cons x M ih =>
      intro hM
      rw [List.any_cons, List.any_cons, ih (fun y hy => hM y (List.mem_cons_of_mem _ hy)), loose_held]
      congr 1
      cases hx : x.c
      · rfl
      · have h1 := hM x (List.mem_cons_self ..) hx
        have h2 : heldQ x L = true := by
          unfold heldQ
          rw [show (x.t.b - (x.t.a + 1)).toNat = 0 by omega]
          rfl
        rw [h2]
        rfl
  rw [this L hc]
/-- The faults of spans are the same on both sides. -/
theorem made_press {R : List Row} {t : List Thr} (h2 : 2 ≤ (cus R).length) (ht : ∀ x ∈ t, 1 ≤ x.a ∧ x.a < x.b ∧ x.b ≤ ((cus R).length : Int)) (ho : OrdL R t) : madeF ((pressL R t).map AB.bq) = madeS (subsF R t) := by
  have he := subs_press h2 ht ho
  have hb := boards_bd h2 ht
  have h1 : (pressL R t).map AB.bq = (subsF R t).map Sb.bq := by
    have := congrArg (List.map AB.bq) he
    rw [List.map_map, List.map_map] at this
    exact this.symm
  rw [h1]
  refine made_subs fun x hx hc => ?_
  have hm : x.ab ∈ (pressL R t).map AB.er := by
    rw [← he]
    exact List.mem_map.2 ⟨x, hx, rfl⟩
  obtain ⟨y, hy, hy2⟩ := List.mem_map.1 hm
  have h3 := hb.core y (ho.1.subset hy)
  have e1 : y.a = x.t.a := congrArg AB.a hy2
  have e2 : y.b = x.t.b := congrArg AB.b hy2
  have e3 : y.core = x.c := congrArg AB.core hy2
  rw [← e1, ← e2]
  exact h3 (by rw [e3]; exact hc)
/-- There is an order of pressing, whatever the spans. -/
theorem ord_any {R : List Row} {t : List Thr} (h2 : 2 ≤ (cus R).length) (ht : ∀ x ∈ t, 1 ≤ x.a ∧ x.a < x.b ∧ x.b ≤ ((cus R).length : Int)) : OrdL R t := by
  obtain ⟨S, h1, h3⟩ := perm_map_back (subs_perm R t) (boardsF R t) rfl
  have hs : S.Pairwise rAB := by
    have h4 : ((subsF R t).map Sb.ab).Pairwise rAB := List.pairwise_map.2 (subs_sort h2 fun x hx => (ht x hx).2.1)
    rw [← h3] at h4
    exact (List.pairwise_map.1 h4).imp fun h => h
  unfold OrdL pressL
  have hex : ∃ S : List AB, S.Perm (boardsF R t) ∧ S.Pairwise rAB := ⟨S, h1, hs⟩
  rw [dif_pos hex]
  exact hex.choose_spec
/-- The fault of spans, in the reference's words. -/
theorem pressed_ref {m : List Mat} {s : List Lay} {t : List Thr} : pressedF m s t = if stackF m s = 0 then (if thrF (cus (rowsOf m s)).length t = 0 then madeS (subsF (rowsOf m s) t) else thrF (cus (rowsOf m s)).length t) else stackF m s := by
  unfold pressedF
  by_cases h0 : stackF m s = 0
  · rw [if_pos h0, if_pos h0]
    by_cases h1 : thrF (cus (rowsOf m s)).length t = 0
    · rw [if_pos h1, if_pos h1]
      have h2 := form_two (stackF_form h0)
      have ht := (thrF_zero h1).2
      exact made_press h2 ht (ord_any h2 ht)
    · rw [if_neg h1, if_neg h1]
  · rw [if_neg h0, if_neg h0]
end Go.Proofs.Ytdlglnkhhbkndaa

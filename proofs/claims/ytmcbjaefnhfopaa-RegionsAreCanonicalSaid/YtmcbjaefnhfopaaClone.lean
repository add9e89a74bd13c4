/- slices.Clone and slices.Reverse of rectangles, whatever the world. -/
import Derived.Test.YtmcbjaefnhfopaaCanon
import Derived.BigRegion
namespace Go.Proofs.Ytmcbjaefnhfopaa
open Go.RowKit
open Reg (R4)
set_option linter.unusedSimpArgs false
set_option linter.unusedVariables false

theorem rd_cells {w : World} {A : Option Addr} {l : List R4} {ad : Addr} (h : Rd w A l) (hA : A = some ad) : ∀ j u, (cR l)[j]? = some u → w.cell? (ad.add j) = some u := by
  intro t u hu
  have ht : t < l.length * 4 := by rw [← cR_len]; exact (List.getElem?_eq_some_iff.1 hu).1
  obtain ⟨b, off, e, hlt, hc⟩ := h (by omega)
  rw [hA] at e
  cases e
  have e : (⟨b, off, none⟩ : Addr).add t = ⟨b, off + t, none⟩ := by unfold Addr.add; split <;> simp_all
  rw [e]
  have hq : t / 4 < l.length := by omega
  have hi : l[t / 4]? = some l[t / 4] := List.getElem?_eq_getElem hq
  obtain ⟨a0, a1, a2, a3⟩ := hc _ _ hi
  obtain ⟨c0, c1, c2, c3⟩ := cR_at hi
  have hm : t % 4 < 4 := Nat.mod_lt _ (by decide)
  have hd : t = t / 4 * 4 + t % 4 := by omega
  generalize t / 4 = q at *
  generalize t % 4 = m at *
  subst hd
  rw [← hu]
  match m, hm with
  | 0, _ => exact a0.trans c0.symm
  | 1, _ => exact a1.trans c1.symm
  | 2, _ => exact a2.trans c2.symm
  | 3, _ => exact a3.trans c3.symm
theorem cR_one (l : List R4) : ∀ u ∈ cR l, u.oneCell' = true := by
  intro u hu
  simp only [cR, List.mem_flatMap] at hu
  obtain ⟨e, _, hu⟩ := hu
  simp at hu
  rcases hu with rfl | rfl | rfl | rfl <;> rfl

set_option maxRecDepth 100000 in
set_option maxHeartbeats 1000000 in
theorem clone_any (A : Option Addr) (l : List R4) (c : Nat) (w : World) (hl : l.length ≤ 1000000) (h : Rd w A l) :
    Calls Try.prog 18 #[.slice A l.length c] w fun e w' => ∃ v, e = .returned v ∧ w'.ownsRow w.heap.size 29 4 v l.length (cR l) ∧ Below w.heap.size w w' := by
  obtain ⟨i0, hi0, hz0, hz1, hz2⟩ := info_parts infoR
  cases A with
  | none =>
    have hl0 : l = [] := by
      cases l with
      | nil => rfl
      | cons r t => obtain ⟨b, off, e, _⟩ := h (by simp); cases e
    subst hl0
    have heq : ∀ n c W, (binOp .eql 22 (.slice none n c) (.slice none 0 0)).run Try.prog W = .ok (.bool true) W := fun n c W => Lib.run_eql_slice_nil W _ _ none n c 0 0 Try.underlying22
    go_enter Try.func18, Try.ntmps18
    go_wp2_with fail
    go_ret
    exact ⟨_, rfl, own_nilR _ _ _ _, Below.refl _ _⟩
  | some ad =>
    have H0 := Lib.hid h
    clear h
    have heq : ∀ n c W, (binOp .eql 22 (.slice (some ad) n c) (.slice none 0 0)).run Try.prog W = .ok (.bool false) W := fun n c W => Lib.run_eql_slice_nil W _ _ (some ad) n c 0 0 Try.underlying22
    go_enter Try.func18, Try.ntmps18
    have HX := Lib.hid (show (w.alloc (.cells #[] 29)).ownsRow w.heap.size 29 4 (.slice (some ⟨w.heap.size, 0, none⟩) 0 0) 0 [] from own_mk (cur := #[]) (Nat.le_refl _) (by show (w.heap.push _)[w.heap.size]? = some _; exact Array.getElem?_push_size) (Nat.le_refl _) (Nat.zero_le _) rfl rfl)
    have HN := Lib.hid (fun (W : World) hb => rd_cells (H0.out.below (w' := W) hb) rfl)
    go_wp2_with (first | (at_builtin; refine wpList_append_own _ rfl (.tmp 5) (.tmp 6) 22 rfl w.heap.size 29 i0 (.agg #[.int .i64 0, .int .i64 0, .int .i64 0, .int .i64 0]) 4 32 Try.underlying22 hi0 hz0 hz1 hz2 rfl (by decide) (.slice (some ⟨w.heap.size, 0, none⟩) 0 0) 0 [] rfl HX.out ad l.length c (cR l) rfl ?nl ?nw ?o2 ?q4 ?q5 ?b2 ?_; (case nl => exact cR_len l); (case nw => exact HN.out _ (by (repeat' (first | (with_reducible exact Below.refl _ _) | (with_reducible assumption) | (with_reducible refine Below.alloc ?_ ?_ _) | (with_reducible refine Below.drew ?_) | (with_reducible refine below_drewN ?_ _) | (with_reducible refine Below.setCell ?_ ?_ _) | (with_reducible exact Nat.le_refl _) | omega | (simp only [World.size_alloc, World.size_setCell, World.size_drew]; omega) | (simp; omega) | (simp; done))))); (case o2 => exact cR_one l); (case q4 => simp only [maxLen]; omega); (case q5 => omega); (case b2 => simp); intro v2 w2 hown2 hg2 hnil2; have HO2 := Lib.hid hown2; have BB := Lib.hid (((Below.refl w.heap.size w).alloc (Nat.le_refl _) (.cells #[] 29)).trans (below_gb hg2 (by simp) (fun x hx => by simp [Value.ownBlock] at hx; omega))); clear hown2 hg2 hnil2))
    go_ret
    refine ⟨v2, rfl, ?_, BB.out⟩
    have h := HO2.out
    rwa [Nat.zero_add, List.nil_append] at h

/-! ## The reversal -/
/-- i elements from either end are exchanged. -/
def RevAt (l m : List R4) (i : Nat) : Prop := m.length = l.length ∧ ∀ t, t < l.length → m[t]? = if t < i ∨ l.length - i ≤ t then l[l.length - 1 - t]? else l[t]?
theorem RevAt.start (l : List R4) : RevAt l l 0 := ⟨rfl, fun t ht => by rw [if_neg (by omega)]⟩
theorem RevAt.step {l m : List R4} {i j : Nat} {r s : R4} (h : RevAt l m i) (hj : j + i + 1 = l.length) (hij : i < j) (hr : m[i]? = some r) (hs : m[j]? = some s) : RevAt l ((m.set i s).set j r) (i + 1) := by
  obtain ⟨h1, h2⟩ := h
  have e1 := h2 i (by omega)
  have e2 := h2 j (by omega)
  rw [if_neg (by omega), hr] at e1
  rw [if_neg (by omega), hs] at e2
  refine ⟨by simpa using h1, fun t ht => ?_⟩
  simp only [List.getElem?_set, List.length_set]
  by_cases htj : j = t
  · subst htj
    rw [if_pos rfl, if_pos (by omega), if_pos (by omega), show l.length - 1 - j = i from by omega]
    exact e1
  · rw [if_neg htj]
    by_cases hti : i = t
    · subst hti
      rw [if_pos rfl, if_pos (by omega), if_pos (by omega), show l.length - 1 - i = j from by omega]
      exact e2
    · rw [if_neg hti, h2 t ht]
      by_cases hin : t < i ∨ l.length - i ≤ t
      · rw [if_pos hin, if_pos (by omega)]
      · rw [if_neg hin, if_neg (by omega)]
theorem RevAt.done {l m : List R4} {i : Nat} (h : RevAt l m i) (hi : l.length ≤ 2 * i + 1) : m = l.reverse := by
  obtain ⟨h1, h2⟩ := h
  apply List.ext_getElem?
  intro t
  by_cases ht : t < l.length
  · rw [h2 t ht, List.getElem?_reverse ht]
    split
    · rfl
    · rw [show l.length - 1 - t = t from by omega]
  · rw [List.getElem?_eq_none (by omega), List.getElem?_eq_none (by simp; omega)]
theorem cR_put : ∀ (m : List R4) (i : Nat) (s : R4), i < m.length → ((((cR m).set (i * 4) (.int .i64 s.x0)).set (i * 4 + 1) (.int .i64 s.y0)).set (i * 4 + 2) (.int .i64 s.x1)).set (i * 4 + 3) (.int .i64 s.y1) = cR (m.set i s)
  | [], _, _, h => by simp at h
  | a :: m, 0, s, _ => rfl
  | a :: m, i + 1, s, h => by
    have := cR_put m i s (by simpa using h)
    simp only [List.set_cons_succ]
    have e : ∀ x : R4, cR (a :: m) = [Value.int .i64 a.x0, .int .i64 a.y0, .int .i64 a.x1, .int .i64 a.y1] ++ cR m := fun _ => rfl
    have e2 : cR (a :: m.set i s) = [Value.int .i64 a.x0, .int .i64 a.y0, .int .i64 a.x1, .int .i64 a.y1] ++ cR (m.set i s) := rfl
    rw [e2, ← this, e s]
    have k : ∀ (xs : List Value) (j : Nat) (v : Value), ([Value.int .i64 a.x0, .int .i64 a.y0, .int .i64 a.x1, .int .i64 a.y1] ++ xs).set (4 + j) v = [Value.int .i64 a.x0, .int .i64 a.y0, .int .i64 a.x1, .int .i64 a.y1] ++ xs.set j v := fun xs j v => by
      rw [List.set_append_right _ _ (by simp)]
      simp
    rw [show (i + 1) * 4 = 4 + i * 4 from by omega, k, show 4 + i * 4 + 1 = 4 + (i * 4 + 1) from by omega, k, show 4 + i * 4 + 2 = 4 + (i * 4 + 2) from by omega, k, show 4 + i * 4 + 3 = 4 + (i * 4 + 3) from by omega, k]
theorem own_put4 {w : World} {base g cap : Nat} {m : List R4} (h : w.ownsRow base 29 4 (.slice (some ⟨g, 0, none⟩) m.length cap) m.length (cR m)) {i : Nat} (hi : i < m.length) (s : R4) :
    ((((w.setCell ⟨g, i * 4, none⟩ (.int .i64 s.x0)).setCell ⟨g, i * 4 + 1, none⟩ (.int .i64 s.y0)).setCell ⟨g, i * 4 + 2, none⟩ (.int .i64 s.x1)).setCell ⟨g, i * 4 + 3, none⟩ (.int .i64 s.y1)).ownsRow base 29 4 (.slice (some ⟨g, 0, none⟩) (m.set i s).length cap) (m.set i s).length (cR (m.set i s)) := by
  have h1 := own_setC (own_setC (own_setC (own_setC h (j := i * 4) (by omega) (.int .i64 s.x0)) (j := i * 4 + 1) (by omega) (.int .i64 s.y0)) (j := i * 4 + 2) (by omega) (.int .i64 s.x1)) (j := i * 4 + 3) (by omega) (.int .i64 s.y1)
  rw [cR_put m i s hi] at h1
  rw [List.length_set]
  exact h1

set_option maxRecDepth 100000 in
set_option maxHeartbeats 2000000 in
theorem reverse_any (base : Nat) (v : Value) (l : List R4) (w : World) (hl : l.length ≤ 1000000) (hown : w.ownsRow base 29 4 v l.length (cR l)) :
    Calls Try.prog 19 #[v] w fun e w' => e = .returned (.tuple #[]) ∧ w'.ownsRow base 29 4 v l.length (cR l.reverse) ∧ w.grownBy w' v.ownBlock := by
  rcases own_open hown with ⟨rfl, hn⟩ | ⟨g, cap, cur, rfl, hg1, hb2, hcap, hmax, hsize, htake⟩
  · obtain rfl : l = [] := List.length_eq_zero_iff.1 hn
    clear hn
    go_enter Try.func19, Try.ntmps19
    go_wp2_with fail
    go_loopw [2, 3] (fun i j wr => i = .int .i64 0 ∧ j = .int .i64 (-1) ∧ wr = w) (fun _ _ _ => 0)
    case atStart => exact ⟨rfl, rfl, rfl⟩
    case round =>
      obtain ⟨rfl, rfl, rfl⟩ := hrel
      go_wp2_with fail
      go_end0
      exact ⟨rfl, hown, gb_refl _ _⟩
  · have HO := Lib.hid hown
    clear hown hb2 htake
    go_enter Try.func19, Try.ntmps19
    go_wp2_with fail
    go_loopw [2, 3] (fun vi vj wr => ∃ (i : Nat) (j : Int) (m : List R4), vi = .int .i64 i ∧ vj = .int .i64 j ∧ j + i + 1 = l.length ∧ i ≤ l.length ∧ RevAt l m i ∧ wr.ownsRow base 29 4 (.slice (some ⟨g, 0, none⟩) m.length cap) m.length (cR m) ∧ w.grownBy wr (some g)) (fun vi _ _ => l.length - (intOf vi).toNat)
    case atStart => exact ⟨0, _, l, rfl, rfl, by omega, Nat.zero_le _, RevAt.start l, HO.out, gb_refl _ _⟩
    case round =>
      obtain ⟨i, j, m, rfl, rfl, hji, hil, hre, hok, hgr⟩ := hrel
      have OK := Lib.hid hok
      have RE := Lib.hid hre
      have GR := Lib.hid hgr
      have hml := hre.1
      clear hok hre hgr
      have hiz : (0 : Int) ≤ (i : Int) := by omega
      by_cases hlt : (i : Int) < j
      · obtain ⟨jn, rfl⟩ : ∃ jn : Nat, j = (jn : Int) := ⟨j.toNat, by omega⟩
        have hjz : (0 : Int) ≤ (jn : Int) := by omega
        have hil' : (i : Int) < (l.length : Int) := by omega
        have hjl' : (jn : Int) < (l.length : Int) := by omega
        obtain ⟨r, hr⟩ : ∃ r, m[i]? = some r := ⟨_, List.getElem?_eq_getElem (by omega)⟩
        obtain ⟨s, hs⟩ : ∃ s, m[jn]? = some s := ⟨_, List.getElem?_eq_getElem (by omega)⟩
        obtain ⟨a0, a1, a2, a3⟩ := cR_at hr
        obtain ⟨d0, d1, d2, d3⟩ := cR_at hs
        obtain ⟨a0, f0⟩ := own_cellC OK.out a0
        obtain ⟨a1, f1⟩ := own_cellC OK.out a1
        obtain ⟨a2, f2⟩ := own_cellC OK.out a2
        obtain ⟨a3, f3⟩ := own_cellC OK.out a3
        obtain ⟨d0, g0⟩ := own_cellC OK.out d0
        obtain ⟨d1, g1⟩ := own_cellC OK.out d1
        obtain ⟨d2, g2⟩ := own_cellC OK.out d2
        obtain ⟨d3, g3⟩ := own_cellC OK.out d3
        have HR := Lib.hid hr
        have HS := Lib.hid hs
        have HML := Lib.hid hml
        have P2 := Lib.hid (own_put4 (own_put4 OK.out (i := i) (by omega) s) (i := jn) (by rw [List.length_set]; omega) r)
        have n00 : ¬ i * 4 = jn * 4 := by omega
        have m00 : ¬ jn * 4 = i * 4 := by omega
        have n01 : ¬ i * 4 = jn * 4 + 1 := by omega
        have m01 : ¬ jn * 4 + 1 = i * 4 := by omega
        have n02 : ¬ i * 4 = jn * 4 + 2 := by omega
        have m02 : ¬ jn * 4 + 2 = i * 4 := by omega
        have n03 : ¬ i * 4 = jn * 4 + 3 := by omega
        have m03 : ¬ jn * 4 + 3 = i * 4 := by omega
        have n10 : ¬ i * 4 + 1 = jn * 4 := by omega
        have m10 : ¬ jn * 4 = i * 4 + 1 := by omega
        have n11 : ¬ i * 4 + 1 = jn * 4 + 1 := by omega
        have m11 : ¬ jn * 4 + 1 = i * 4 + 1 := by omega
        have n12 : ¬ i * 4 + 1 = jn * 4 + 2 := by omega
        have m12 : ¬ jn * 4 + 2 = i * 4 + 1 := by omega
        have n13 : ¬ i * 4 + 1 = jn * 4 + 3 := by omega
        have m13 : ¬ jn * 4 + 3 = i * 4 + 1 := by omega
        have n20 : ¬ i * 4 + 2 = jn * 4 := by omega
        have m20 : ¬ jn * 4 = i * 4 + 2 := by omega
        have n21 : ¬ i * 4 + 2 = jn * 4 + 1 := by omega
        have m21 : ¬ jn * 4 + 1 = i * 4 + 2 := by omega
        have n22 : ¬ i * 4 + 2 = jn * 4 + 2 := by omega
        have m22 : ¬ jn * 4 + 2 = i * 4 + 2 := by omega
        have n23 : ¬ i * 4 + 2 = jn * 4 + 3 := by omega
        have m23 : ¬ jn * 4 + 3 = i * 4 + 2 := by omega
        have n30 : ¬ i * 4 + 3 = jn * 4 := by omega
        have m30 : ¬ jn * 4 = i * 4 + 3 := by omega
        have n31 : ¬ i * 4 + 3 = jn * 4 + 1 := by omega
        have m31 : ¬ jn * 4 + 1 = i * 4 + 3 := by omega
        have n32 : ¬ i * 4 + 3 = jn * 4 + 2 := by omega
        have m32 : ¬ jn * 4 + 2 = i * 4 + 3 := by omega
        have n33 : ¬ i * 4 + 3 = jn * 4 + 3 := by omega
        have m33 : ¬ jn * 4 + 3 = i * 4 + 3 := by omega
        clear hr hs hml
        go_wp2_with fail
        go_region
        all_goals
          go_wp2_with fail
          go_roundw
          case rel => exact ⟨i + 1, (jn : Int) - 1, (m.set i s).set jn r, by go_num, by go_num, by omega, by omega, RE.out.step (by omega) (by omega) HR.out HS.out, own_drewC P2.out, gb_drew (gb_set (gb_set (gb_set (gb_set (gb_set (gb_set (gb_set (gb_set GR.out (.inl rfl) _) (.inl rfl) _) (.inl rfl) _) (.inl rfl) _) (.inl rfl) _) (.inl rfl) _) (.inl rfl) _) (.inl rfl) _)⟩
          case measure => simp [intOf]; omega
      · have HD := Lib.hid (RE.out.done (by omega))
        go_wp2_with fail
        go_end0
        have h := OK.out
        rw [HD.out, List.length_reverse] at h
        exact ⟨rfl, h, GR.out⟩
end Go.Proofs.Ytmcbjaefnhfopaa

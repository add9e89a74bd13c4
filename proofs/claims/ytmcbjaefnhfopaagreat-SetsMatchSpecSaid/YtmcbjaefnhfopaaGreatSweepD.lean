/- heightsOf of package shape: all heights of sides, each once, from below to above, whatever the world. -/
import Derived.Test.YtmcbjaefnhfopaaGreatSweepC
import Derived.Test.YtmcbjaefnhfopaaGreatSweepE
namespace Go.Proofs.YtmcbjaefnhfopaaGreat
open Go.RowKit Go.Shelf Go.Lib Go.Sort
open Reg (R4 E5)
set_option linter.unusedSimpArgs false
set_option linter.unusedVariables false

theorem compact_sorted (d : Array Int) (hs : ∀ i j, i < j → j < d.size → d[i]! ≤ d[j]!) : ∀ m, m ≤ d.size →
    (compactUpTo d m).Pairwise (· < ·) ∧ (∀ x, x ∈ compactUpTo d m ↔ ∃ j, j < m ∧ d[j]! = x) ∧ ∀ x, x ∈ compactUpTo d m → x ≤ d[m - 1]!
  | 0, _ => ⟨by simp [compactUpTo], fun x => by simp [compactUpTo], fun x h => by simp [compactUpTo] at h⟩
  | m + 1, hm => by
    obtain ⟨h1, h2, h3⟩ := compact_sorted d hs m (by omega)
    rw [compactUpTo_succ]
    by_cases hk : keeps d m = true
    · rw [if_pos hk]
      have hlt : ∀ x, x ∈ compactUpTo d m → x < d[m]! := by
        intro x hx
        have hx1 := h3 x hx
        obtain ⟨j, hj, _⟩ := (h2 x).1 hx
        have hle := hs (m - 1) m (by omega) (by omega)
        have hne : d[m]! ≠ d[m - 1]! := by
          intro he
          rw [keeps_neg (by omega) he] at hk
          cases hk
        omega
      refine ⟨?_, fun x => ?_, fun x hx => ?_⟩
      · rw [List.pairwise_append]
        exact ⟨h1, by simp, fun x hx y hy => by simp at hy; subst hy; exact hlt x hx⟩
      · rw [List.mem_append, h2]
        constructor
        · rintro (⟨j, hj, e⟩ | hx)
          · exact ⟨j, by omega, e⟩
          · simp at hx; exact ⟨m, by omega, hx.symm⟩
        · rintro ⟨j, hj, e⟩
          by_cases hjm : j = m
          · subst hjm; right; simp [e]
          · exact .inl ⟨j, by omega, e⟩
      · rw [Nat.add_sub_cancel]
        rw [List.mem_append] at hx
        rcases hx with hx | hx
        · have := hlt x hx; omega
        · simp at hx; omega
    · have hk' : keeps d m = false := by simpa using hk
      have hm0 : 0 < m := by
        rcases Nat.eq_zero_or_pos m with h0 | h0
        · subst h0; exact absurd (keeps_lt_one d 0 (by omega)) hk
        · exact h0
      have he : d[m]! = d[m - 1]! := by
        refine Classical.byContradiction fun hne => ?_
        rw [keeps_pos hne] at hk'
        cases hk'
      simp only [hk', Bool.false_eq_true, if_false, List.append_nil]
      refine ⟨h1, fun x => ?_, fun x hx => ?_⟩
      · rw [h2]
        constructor
        · rintro ⟨j, hj, e⟩; exact ⟨j, by omega, e⟩
        · rintro ⟨j, hj, e⟩
          by_cases hjm : j = m
          · subst hjm; exact ⟨j - 1, by omega, by rw [← he]; exact e⟩
          · exact ⟨j, by omega, e⟩
      · rw [Nat.add_sub_cancel, he]; exact h3 x hx

def cI (l : List Int) : List Value := l.map (Value.int .i64)
theorem infoI : (Tryz.prog.info? 3).map (fun i => (i.zero, i.size, i.bytes)) = some (some (.int .i64 0), 1, 8) := by kernel_rfl
theorem own_take {w : World} {base : Nat} {T : TypeId} {size n m cap g : Nat} {xs : List Value} (h : w.ownsRow base T size (.slice (some ⟨g, 0, none⟩) n cap) n xs) (hm : m ≤ n) :
    w.ownsRow base T size (.slice (some ⟨g, 0, none⟩) m cap) m (xs.take (m * size)) := by
  rcases own_open h with ⟨h0, _⟩ | ⟨g', cap', cur, hv, h1, h2, h3, h4, h5, h6⟩
  · cases h0
  · cases hv
    refine own_mk h1 h2 (Nat.le_trans hm h3) h4 h5 ?_
    rw [← h6, List.take_take, Nat.min_eq_left (Nat.mul_le_mul_right _ hm)]
/-- The sort of a row of numbers of the call's own. -/
theorem sortInts_any (base g cap : Nat) (l : List Int) (w : World) (hown : w.ownsRow base 3 1 (.slice (some ⟨g, 0, none⟩) l.length cap) l.length (cI l)) (hsz : l.length < 4611686018427387904) :
    Calls Tryz.prog 90 #[.slice (some ⟨g, 0, none⟩) l.length cap] w fun e w' =>
      e = .returned (.tuple #[]) ∧ w'.ownsRow base 3 1 (.slice (some ⟨g, 0, none⟩) l.length cap) l.length (cI (l.mergeSort fun x y => decide (x ≤ y))) ∧ w.grownBy w' (some g) := by
  rcases own_open hown with ⟨h0, _⟩ | ⟨g', cap', cur, hv, h1, h2, h3, h4, h5, h6⟩
  · cases h0
  · cases hv
    have hH : Holds (Value.int .i64) w g 0 l.toArray := holds_of_blockI h2 (by simpa [cI] using h6)
    refine (AnyM.slices_Sort_int Tryz.sortInts g 0 cap l w hH h2.lt hsz).mono ?_
    rintro e w' ⟨rfl, n, os, rfl⟩
    refine ⟨rfl, ?_, grownBy_sortedI _⟩
    exact ownsRow_sortedI (by simp) h1 h2 h3 h4 h5
theorem compactInts_any (base g cap : Nat) (l : List Int) (w : World) (hown : w.ownsRow base 3 1 (.slice (some ⟨g, 0, none⟩) l.length cap) l.length (cI l)) (hsz : l.length < 4611686018427387904) :
    Calls Tryz.prog 91 #[.slice (some ⟨g, 0, none⟩) l.length cap] w fun e w' =>
      e = .returned (.slice (some ⟨g, 0, none⟩) (compact l).length cap) ∧ w'.ownsRow base 3 1 (.slice (some ⟨g, 0, none⟩) (compact l).length cap) (compact l).length (cI (compact l)) ∧ w.grownBy w' (some g) := by
  rcases own_open hown with ⟨h0, _⟩ | ⟨g', cap', cur, hv, h1, h2, h3, h4, h5, h6⟩
  · cases h0
  · cases hv
    have hH : Holds (Value.int .i64) w g 0 l.toArray := holds_of_blockI h2 (by simpa [cI] using h6)
    have := AnyE.slices_Compact Tryz.compactInts (Value.int .i64) (fun _ => rfl) (EqlAt.intD _ _ _) (NeqAt.intD _ _ _) 0 Tryz.zeroValue3 g 0 cap l.toArray w hH (by simp; omega) (by simpa using h3)
    rw [show l.toArray.size = l.length from by simp] at this
    refine this.mono ?_
    rintro e w' ⟨rfl, q, rfl⟩
    have hle : (compactUpTo l.toArray l.length).length ≤ l.length := by unfold compactUpTo; rw [List.length_map]; exact Nat.le_trans (List.length_filter_le _ _) (by simp)
    have hco : compactUpTo l.toArray l.length = compact l := rfl
    rw [hco] at hle ⊢
    refine ⟨rfl, ?_, by have := grownBy_put (w := w) (g := g) (n := q) (os := #[]) (Value.int .i64) (compact l ++ List.replicate (l.length - (compact l).length) 0).toArray; rwa [grow_empty] at this⟩
    have hp := own_put (w := w) (base := base) (g := g) (cap := cap) (n := q) (k := l.length) (size := 1) (os := #[]) (Value.int .i64) (F := (compact l ++ List.replicate (l.length - (compact l).length) 0).toArray) (xs := (compact l ++ List.replicate (l.length - (compact l).length) 0).map (Value.int .i64)) (by simp) (by simp; omega) h1 h2 h3 h4 h5
    rw [grow_empty] at hp
    have := own_take hp hle
    simpa [cI] using this
theorem sorted_merge (l : List Int) : ∀ i j, i < j → j < (l.mergeSort fun x y => decide (x ≤ y)).toArray.size → (l.mergeSort fun x y => decide (x ≤ y)).toArray[i]! ≤ (l.mergeSort fun x y => decide (x ≤ y)).toArray[j]! := by
  intro i j hij hj
  have hp := List.pairwise_mergeSort (le := fun x y : Int => decide (x ≤ y)) (fun a b c => by simp; omega) (fun a b => by simp; omega) l
  rw [List.pairwise_iff_getElem] at hp
  have hj' : j < (l.mergeSort fun x y => decide (x ≤ y)).length := by simpa using hj
  have := hp i j (by omega) hj' hij
  rw [getElem!_pos _ i (by simp at hj ⊢; omega), getElem!_pos _ j hj]
  simpa using this
def allY (l : List E5) : List Int := l.flatMap fun e => [e.y0, e.y1]
/-- The heights of sides. -/
def heightsE (l : List E5) : List Int := compact ((allY l).mergeSort fun x y => decide (x ≤ y))
theorem heightsE_ok (l : List E5) : (heightsE l).Pairwise (· < ·) ∧ ∀ y, y ∈ heightsE l ↔ ∃ e, e ∈ l ∧ (y = e.y0 ∨ y = e.y1) := by
  obtain ⟨h1, h2, _⟩ := compact_sorted ((allY l).mergeSort fun x y => decide (x ≤ y)).toArray (sorted_merge _) _ (Nat.le_refl _)
  have hs : ((allY l).mergeSort fun x y => decide (x ≤ y)).toArray.size = ((allY l).mergeSort fun x y => decide (x ≤ y)).length := by simp
  rw [hs] at h1 h2
  refine ⟨h1, fun y => (h2 y).trans ?_⟩
  have hm : (∃ j, j < ((allY l).mergeSort fun x y => decide (x ≤ y)).length ∧ ((allY l).mergeSort fun x y => decide (x ≤ y)).toArray[j]! = y) ↔ y ∈ (allY l).mergeSort fun x y => decide (x ≤ y) := by
    constructor
    · rintro ⟨j, hj, e⟩
      rw [getElem!_pos _ j (by simpa using hj)] at e
      rw [← e]
      simp
    · intro hy
      obtain ⟨j, hj, e⟩ := List.getElem_of_mem hy
      refine ⟨j, hj, ?_⟩
      rw [getElem!_pos _ j (by simpa using hj)]
      simpa using e
  rw [hm, List.mem_mergeSort]
  simp [allY]

theorem allY_len (l : List E5) : (allY l).length = 2 * l.length := by
  induction l with
  | nil => rfl
  | cons e l ih => simp only [allY, List.flatMap_cons, List.length_append, List.length_cons, List.length_nil] at *; omega
theorem allY_snoc (l : List E5) (k : Nat) (h : k < l.length) : allY (l.take (k + 1)) = allY (l.take k) ++ [l[k].y0, l[k].y1] := by
  rw [List.take_succ_eq_append_getElem h, allY, List.flatMap_append]
  rfl
theorem cI_append (a b : List Int) : cI (a ++ b) = cI a ++ cI b := by simp [cI]
theorem own_slice {w : World} {base : Nat} {T : TypeId} {size n : Nat} {v : Value} {xs : List Value} (h : w.ownsRow base T size v n xs) (hnn : v ≠ .slice none 0 0) : ∃ g cap, v = .slice (some ⟨g, 0, none⟩) n cap ∧ base ≤ g ∧ n ≤ cap ∧ g < w.heap.size := by
  rcases own_open h with ⟨h0, _⟩ | ⟨g, cap, cur, rfl, h1, h2, h3, h4, h5, h6⟩
  · exact absurd h0 hnn
  · exact ⟨g, cap, rfl, h1, h3, h2.lt⟩

set_option maxRecDepth 100000 in
set_option maxHeartbeats 1000000 in
theorem heightsOf_any (A : Option Addr) (l : List E5) (c : Nat) (w : World) (hl : l.length ≤ 1000000) (h : RdE w A l) :
    Calls Tryz.prog 75 #[.slice A l.length c] w fun e w' => ∃ g cap, e = .returned (.slice (some ⟨g, 0, none⟩) (heightsE l).length cap) ∧ w.heap.size ≤ g ∧ w'.ownsRow w.heap.size 3 1 (.slice (some ⟨g, 0, none⟩) (heightsE l).length cap) (heightsE l).length (cI (heightsE l)) ∧ Below w.heap.size w w' := by
  obtain ⟨i0, hi, hz0, hz1, hz2⟩ := info_parts infoI
  have H0 := Lib.hid h
  have HE := Lib.hid (show heightsE l = compact ((allY l).mergeSort fun x y => decide (x ≤ y)) from rfl)
  have hal := allY_len l
  clear h
  go_enter Tryz.func75, Tryz.ntmps75
  go_wp2_with (first | (at_make; refine wpList_make_own _ rfl (.const (.int .i64 0)) (.tmp 8) 59 rfl w.heap.size 3 i0 (.int .i64 0) 1 Tryz.underlying59 hi hz0 hz1 .i64 .i64 (2 * (l.length : Int)) (2 * l.length) rfl rfl ?m1 ?m2 ?m3 ?m4 ?_; (case m1 => omega); (case m2 => rw [hz2]; omega); (case m3 => simp only [maxLen]; omega); (case m4 => (first | (with_reducible exact Nat.le_refl _) | (with_reducible assumption) | omega | (simp only [World.size_alloc, World.size_setCell, World.size_drew]; omega) | (simp; omega) | (simp; done))); intro w1 hown hg; have HO := Lib.hid hown; have B1 := (Below.refl w.heap.size w).grown hg (Nat.le_refl _) (fun j hj => by cases hj); have z1 := hg.size; clear hown hg))
  go_loopw [3, 12] (fun v3 i wr => ∃ k : Nat, k ≤ l.length ∧ i = .int .i64 k ∧ v3 ≠ .slice none 0 0 ∧ wr.ownsRow w.heap.size 3 1 v3 (2 * k) (cI (allY (l.take k))) ∧ Below w.heap.size w wr) (fun _ i _ => l.length - (intOf i).toNat)
  case atStart => exact ⟨0, Nat.zero_le _, rfl, by simp, HO.out, B1⟩
  case round =>
    obtain ⟨k, hk, rfl, hnn, hown, hbw⟩ := hrel
    have zw := hbw.size
    have HO1 := Lib.hid hown
    have HN := Lib.hid hnn
    clear hown hnn
    have hkz : (0 : Int) ≤ (k : Int) := by omega
    by_cases hlt : k < l.length
    · obtain ⟨b, off, rfl, hblt, hcs⟩ := (H0.out.below hbw) (by omega)
      have hi1 : l[k]? = some l[k] := List.getElem?_eq_getElem hlt
      obtain ⟨c0, c1, c2, c3, c4⟩ := hcs k _ hi1
      have HS := Lib.hid (allY_snoc l k hlt)
      clear hi1 hcs
      generalize l[k] = r at *
      have hklt : (k : Int) < (l.length : Int) := by omega
      go_wp2_with (first | (at_builtin; refine wpList_append_own _ rfl (.tmp 16) (.tmp 21) 59 rfl w.heap.size 3 i0 (.int .i64 0) 1 8 Tryz.underlying59 hi hz0 hz1 hz2 rfl (by decide) u3 (2 * k) (cI (allY (l.take k))) rfl ?o1 ⟨wr.heap.size + 1, 0, none⟩ 2 2 [.int .i64 r.y0, .int .i64 r.y1] rfl rfl ?nw ?o2 ?q4 ?q5 ?b2 ?_; (case o1 => exact ownsRow_below' HO1.out (by (repeat' (first | (with_reducible exact Below.refl _ _) | (with_reducible assumption) | (with_reducible refine Below.alloc ?_ ?_ _) | (with_reducible refine Below.drew ?_) | (with_reducible refine below_drewN ?_ _) | (with_reducible refine Below.setCell ?_ ?_ _) | (with_reducible exact Nat.le_refl _) | omega | (simp only [World.size_alloc, World.size_setCell, World.size_drew]; omega) | (simp; omega) | (simp; done))))); (case nw => exact list_new _ _ (by simp) _ _); (case o2 => simp [Value.oneCell']); (case q4 => simp only [maxLen]; omega); (case q5 => omega); (case b2 => (first | (with_reducible exact Nat.le_refl _) | (with_reducible assumption) | omega | (simp only [World.size_alloc, World.size_setCell, World.size_drew]; omega) | (simp; omega) | (simp; done))); intro v2 w2 hown2 hg2 hnil2; have HG2 := Lib.hid hg2; have HO2 := Lib.hid hown2; have HN2 := Lib.hid hnil2; have B2 := below_app (B := w.heap.size) (w0 := w) (by (repeat' (first | (with_reducible exact Below.refl _ _) | (with_reducible assumption) | (with_reducible refine Below.alloc ?_ ?_ _) | (with_reducible refine Below.drew ?_) | (with_reducible refine below_drewN ?_ _) | (with_reducible refine Below.setCell ?_ ?_ _) | (with_reducible exact Nat.le_refl _) | omega | (simp only [World.size_alloc, World.size_setCell, World.size_drew]; omega) | (simp; omega) | (simp; done)))) (ownsRow_below' HO1.out (by (repeat' (first | (with_reducible exact Below.refl _ _) | (with_reducible assumption) | (with_reducible refine Below.alloc ?_ ?_ _) | (with_reducible refine Below.drew ?_) | (with_reducible refine below_drewN ?_ _) | (with_reducible refine Below.setCell ?_ ?_ _) | (with_reducible exact Nat.le_refl _) | omega | (simp only [World.size_alloc, World.size_setCell, World.size_drew]; omega) | (simp; omega) | (simp; done))))) hg2 (Nat.le_refl _) (by (first | (with_reducible exact Nat.le_refl _) | (with_reducible assumption) | omega | (simp only [World.size_alloc, World.size_setCell, World.size_drew]; omega) | (simp; omega) | (simp; done))); clear hown2 hg2 hnil2))
      go_roundw
      case rel => exact ⟨k + 1, by omega, by go_num, fun e => HN.out (HN2.out.1 e).1, by rw [HS.out, cI_append]; exact HO2.out, B2⟩
      case measure => simp [intOf]; omega
    · obtain rfl : k = l.length := by omega
      rw [List.take_length] at HO1
      obtain ⟨g, cap, rfl, hg1, hg2, hg3⟩ := own_slice HO1.out HN.out
      rw [← hal] at HO1 hg2
      have S1 := Lib.hid (sortInts_any w.heap.size g cap (allY l) wr HO1.out (by omega))
      rw [hal] at S1
      go_wp2_with fail
      refine S1.out.mono ?_
      rintro e w3 ⟨rfl, ho3, hgb3⟩
      have hml : ((allY l).mergeSort fun x y => decide (x ≤ y)).length = 2 * l.length := by rw [List.length_mergeSort, hal]
      have O3 := ho3
      rw [← hml] at O3
      have S2 := Lib.hid (compactInts_any w.heap.size g cap _ w3 O3 (by omega))
      rw [← HE.out, hml] at S2
      have G3 := Lib.hid (hbw.trans (below_gb hgb3 zw (fun j hj => by cases hj; exact hg1)))
      have z3 := hgb3.size
      clear ho3 O3 hgb3 hml S1
      go_wp2_with fail
      refine S2.out.mono ?_
      rintro e w4 ⟨rfl, ho4, hgb4⟩
      have O4 := Lib.hid ho4
      have G4 := Lib.hid (G3.out.trans (below_gb hgb4 (by omega) (fun j hj => by cases hj; exact hg1)))
      clear ho4 hgb4
      go_wp2_with fail
      go_ret
      exact ⟨g, cap, rfl, hg1, O4.out, G4.out⟩
end Go.Proofs.YtmcbjaefnhfopaaGreat

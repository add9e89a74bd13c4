/- slices.Delete of one span, at a slice of its own, whatever the world. -/
import Derived.Test.YtdlglnkhhbkndaaSlThr
import Derived.Lib.SliceRun
import Derived.Deep.RegionLaw
import Derived.Laws.IdiomCopy
import Derived.Deep.Upon
namespace Go.Proofs.Ytdlglnkhhbkndaa
open Go.RowKit Go.Lib
set_option linter.unusedSimpArgs false
set_option linter.unusedVariables false
set_option maxRecDepth 100000

def putL : List Value → Nat → List Value → List Value
  | xs, _, [] => xs
  | xs, o, v :: r => putL (xs.set o v) (o + 1) r
theorem putL_len : ∀ (vs : List Value) (xs : List Value) (o : Nat), (putL xs o vs).length = xs.length
  | [], _, _ => rfl
  | v :: r, xs, o => by rw [putL, putL_len r, List.length_set]
theorem putL_get : ∀ (vs : List Value) (xs : List Value) (o i : Nat), i < xs.length → (putL xs o vs)[i]? = if o ≤ i ∧ i < o + vs.length then vs[i - o]? else xs[i]?
  | [], xs, o, i, h => by rw [putL, if_neg (fun hh => by simp only [List.length_nil] at hh; omega)]
  | v :: r, xs, o, i, h => by
    rw [putL, putL_get r (xs.set o v) (o + 1) i (by rw [List.length_set]; exact h)]
    by_cases h1 : o + 1 ≤ i ∧ i < o + 1 + r.length
    · rw [if_pos h1, if_pos (by simp; omega), show i - o = (i - (o + 1)) + 1 by omega, List.getElem?_cons_succ]
    · rw [if_neg h1, List.getElem?_set]
      by_cases h2 : o = i
      · subst h2
        rw [if_pos rfl, if_pos h, if_pos (by simp), Nat.sub_self]
        rfl
      · rw [if_neg h2, if_neg (by simp; omega)]
theorem own_setCells {base : Nat} {T : TypeId} {size n cap g : Nat} : ∀ (vs : List Value) (o : Nat) (w : World) (xs : List Value), w.ownsRow base T size (.slice (some ⟨g, 0, none⟩) n cap) n xs →
    (w.setCells g o vs).ownsRow base T size (.slice (some ⟨g, 0, none⟩) n cap) n (putL xs o vs)
  | [], _, _, _, h => h
  | v :: r, o, w, xs, h => own_setCells r (o + 1) _ _ (own_setC h v)
theorem own_cut {base : Nat} {T : TypeId} {size n m cap g : Nat} {w : World} {xs : List Value} (h : w.ownsRow base T size (.slice (some ⟨g, 0, none⟩) n cap) n xs) (hm : m ≤ n) : w.ownsRow base T size (.slice (some ⟨g, 0, none⟩) m cap) m (xs.take (m * size)) := by
  rcases own_open h with ⟨h0, _⟩ | ⟨g', cap', cur, e, h1, h2, h3, h4, h5, h6⟩
  · cases h0
  · cases e
    refine own_mk h1 h2 (by omega) h4 h5 ?_
    rw [← h6, List.take_take, Nat.min_eq_left (Nat.mul_le_mul_right _ hm)]
theorem grown_setCells {g : Nat} : ∀ (vs : List Value) (o : Nat) (w0 w : World), w0.grownBy w (some g) → w0.grownBy (w.setCells g o vs) (some g)
  | [], _, _, _, h => h
  | v :: r, o, w0, w, h => grown_setCells r (o + 1) w0 _ (gb_set (p := ⟨g, o, none⟩) h (.inl rfl) v)
theorem zeroThr (w : World) : (zeroValue 64).run Try.prog w = .ok (.agg #[.int .i64 0, .int .i64 0]) w := by kernel_rfl
theorem clear_one (w : World) (ty : TypeId) (b o c : Nat) (h0 : (w.cell? ⟨b, o, none⟩).isSome = true) (h1 : (w.cell? ⟨b, o + 1, none⟩).isSome = true) (f0 : w.frozen? ⟨b, o, none⟩ = false) (f1 : w.frozen? ⟨b, o + 1, none⟩ = false) :
    (Builtin.clear_ #[52] ty #[.slice (some ⟨b, o, none⟩) 1 c]).run Try.prog w = .ok (.tuple #[]) (w.setCells b o [.int .i64 0, .int .i64 0]) := by
  have hst := run_storeCells_cells (P := Try.prog) b o [.int .i64 0, .int .i64 0] 0 w (by
    intro j hj
    match j, hj with
    | 0, _ => simpa using h0
    | 1, _ => simpa using h1
    | j + 2, hj => exact absurd hj (by simp)) (by
    intro j hj
    match j, hj with
    | 0, _ => simpa using f0
    | 1, _ => simpa using f1
    | j + 2, hj => exact absurd hj (by simp)) (by
    intro v hv
    simp at hv
    subst hv
    rfl)
  simp only [Nat.add_zero] at hst
  have hz : (Builtin.zeroCells (Value.agg #[.int .i64 0, .int .i64 0]).cells 1) = #[.int .i64 0, .int .i64 0] := by
    apply Array.ext'
    simp [Builtin.zeroCells, Value.cells, List.range_succ]
  simp [Builtin.clear_, run_underlying Try.underlying52, zeroThr, hz, hst]
theorem fm_drop {α : Type} {c1 c2 : α → Value} (k : Nat) : ∀ l : List α, fm c1 c2 (l.drop k) = (fm c1 c2 l).drop (k * 2) := by
  induction k with
  | zero => intro l; simp
  | succ k ih =>
    intro l
    cases l with
    | nil => simp [fm]
    | cons x l =>
      rw [List.drop_succ_cons, ih]
      simp only [fm, List.flatMap_cons]
      rw [show (k + 1) * 2 = k * 2 + 1 + 1 by omega]
      rfl
/-- What is left in the cells. -/
theorem erase_cells {l : List Thr} {k : Nat} (hk : k < l.length) : (putL (putL (fm thr1 thr2 l) (k * 2) (fm thr1 thr2 (l.drop (k + 1)))) ((k + (l.length - (k + 1))) * 2) [.int .i64 0, .int .i64 0]).take ((l.length - 1) * 2) = fm thr1 thr2 (l.eraseIdx k) := by
  have hle : (l.eraseIdx k).length = l.length - 1 := by rw [List.length_eraseIdx, if_pos hk]
  apply List.ext_getElem?
  intro i
  by_cases hi : i < (l.length - 1) * 2
  · rw [List.getElem?_take_of_lt hi, putL_get _ _ _ _ (by rw [putL_len, fm_len]; omega), if_neg (by simp; omega), putL_get _ _ _ _ (by rw [fm_len]; omega), fm_len, List.length_drop, fm_drop, List.getElem?_drop]
    have he : l.eraseIdx k = l.take k ++ l.drop (k + 1) := List.eraseIdx_eq_take_drop_succ l k
    have hfe : fm thr1 thr2 (l.eraseIdx k) = (fm thr1 thr2 l).take (k * 2) ++ (fm thr1 thr2 l).drop ((k + 1) * 2) := by
      rw [he, fm_append, fm_drop]
      have h2 : fm thr1 thr2 l = fm thr1 thr2 (l.take k) ++ fm thr1 thr2 (l.drop k) := by rw [← fm_append, List.take_append_drop]
      have h3 : (fm thr1 thr2 (l.take k)).length = k * 2 := by rw [fm_len, List.length_take]; omega
      have h4 : (fm thr1 thr2 l).take (k * 2) = fm thr1 thr2 (l.take k) := by rw [h2, List.take_left' h3]
      rw [h4]
    rw [hfe]
    have hlt : ((fm thr1 thr2 l).take (k * 2)).length = k * 2 := by rw [List.length_take, fm_len]; omega
    by_cases h1 : k * 2 ≤ i
    · rw [if_pos (by omega), List.getElem?_append_right (by omega), hlt, List.getElem?_drop]
    · rw [if_neg (by omega), List.getElem?_append_left (by omega), List.getElem?_take_of_lt (by omega)]
  · rw [List.getElem?_eq_none (by rw [List.length_take]; omega), List.getElem?_eq_none (by rw [fm_len, hle]; omega)]
set_option maxHeartbeats 4000000 in
theorem deleteThr_any (base g cap : Nat) (l : List Thr) (k : Nat) (w : World) (hk : k < l.length) (hl : l.length ≤ 1000000) (h : w.ownsRow base 64 2 (.slice (some ⟨g, 0, none⟩) l.length cap) l.length (fm thr1 thr2 l)) :
    Calls Try.prog 84 #[.slice (some ⟨g, 0, none⟩) l.length cap, .int .i64 (k : Nat), .int .i64 ((k : Int) + 1)] w fun e w' => e = .returned (.slice (some ⟨g, 0, none⟩) (l.length - 1) cap) ∧ w'.ownsRow base 64 2 (.slice (some ⟨g, 0, none⟩) (l.length - 1) cap) (l.length - 1) (fm thr1 thr2 (l.eraseIdx k)) ∧ w.grownBy w' (some g) := by
  obtain ⟨i0, hi0, hz0, hz1, hz2⟩ := info_parts infoThr
  obtain ⟨A9, c9, e9, q1, q2, q3⟩ := own_cells h
  cases e9
  obtain ⟨g9, e9, hbg, hgl, hc⟩ := q3 (by omega)
  cases e9
  have q2' : cap ≤ 9223372036854775807 := q2
  obtain ⟨news, hnews⟩ : ∃ news, news = fm thr1 thr2 (l.drop (k + 1)) := ⟨_, rfl⟩
  have hnl : news.length = (l.length - (k + 1)) * 2 := by rw [hnews, fm_len, List.length_drop]
  have hod := own_drewN h 1
  obtain ⟨W1, hW1⟩ : ∃ W1, W1 = w.drew.setCells g (0 + k * 2) news := ⟨_, rfl⟩
  have hst : W1.ownsRow base 64 2 (.slice (some ⟨g, 0, none⟩) l.length cap) l.length (putL (fm thr1 thr2 l) (k * 2) news) := by
    rw [hW1, Nat.zero_add]
    exact own_setCells news (k * 2) w.drew _ h
  have hgr : w.grownBy W1 (some g) := by
    rw [hW1]
    exact grown_setCells news (0 + k * 2) w w.drew (gb_drew (gb_refl w (some g)))
  have hW : Hid (W1 = w.drew.setCells g (0 + k * 2) news) := Lib.hid hW1
  obtain ⟨A, hA, hsrc⟩ : ∃ A : Addr, (if cap = k + 1 then (some ⟨g, 0, none⟩ : Option Addr) else some ⟨g, (k + 1) * 2, none⟩) = some A ∧ Hid (∀ t u, news[t]? = some u → w.drew.cell? (A.add t) = some u) := by
    by_cases hck : cap = k + 1
    · refine ⟨⟨g, 0, none⟩, by simp [hck], Lib.hid (fun t u hu => ?_)⟩
      have := (List.getElem?_eq_some_iff.1 hu).1
      omega
    · refine ⟨⟨g, (k + 1) * 2, none⟩, by simp [hck], Lib.hid (fun t u hu => ?_)⟩
      rw [hnews, fm_drop, List.getElem?_drop] at hu
      rw [Addr.add_lit]
      exact hc _ _ hu
  have s1 : Hid (news.length = (l.length - (k + 1)) * 2) := Lib.hid hnl
  have s2 : Hid (∀ u ∈ news, u.oneCell' = true) := Lib.hid (by rw [hnews]; exact fm_one (fun _ => rfl) (fun _ => rfl) _)
  have s3 : Hid (∀ t, t < news.length → (w.drew.cell? ⟨g, 0 + k * 2 + t, none⟩).isSome = true ∧ w.drew.frozen? ⟨g, 0 + k * 2 + t, none⟩ = false) := Lib.hid (by
    intro t ht
    rw [hnl] at ht
    obtain ⟨v, hv⟩ : ∃ v, (fm thr1 thr2 l)[0 + k * 2 + t]? = some v := ⟨_, List.getElem?_eq_getElem (by rw [fm_len]; omega)⟩
    obtain ⟨r1, r2⟩ := own_cellC (w := w.drew) h hv
    exact ⟨by rw [r1]; rfl, r2⟩)
  have hcl : ∀ ty, (Builtin.clear_ #[52] ty #[.slice (some ⟨g, (k + (l.length - (k + 1))) * 2, none⟩) 1 (cap - (k + (l.length - (k + 1))))]).run Try.prog W1 = .ok (.tuple #[]) (W1.setCells g ((k + (l.length - (k + 1))) * 2) [.int .i64 0, .int .i64 0]) := by
    intro ty
    obtain ⟨v0, e0⟩ : ∃ v, (putL (fm thr1 thr2 l) (k * 2) news)[(k + (l.length - (k + 1))) * 2]? = some v := ⟨_, List.getElem?_eq_getElem (by rw [putL_len, fm_len]; omega)⟩
    obtain ⟨v1, e1⟩ : ∃ v, (putL (fm thr1 thr2 l) (k * 2) news)[(k + (l.length - (k + 1))) * 2 + 1]? = some v := ⟨_, List.getElem?_eq_getElem (by rw [putL_len, fm_len]; omega)⟩
    obtain ⟨r1, r2⟩ := own_cellC hst e0
    obtain ⟨r3, r4⟩ := own_cellC hst e1
    exact clear_one W1 ty g _ _ (by rw [r1]; rfl) (by rw [r3]; rfl) r2 r4
  have HST := Lib.hid hst
  have HGR := Lib.hid hgr
  have HN := Lib.hid hnews
  have e1 : l.length - (k + (l.length - (k + 1))) = 1 := by omega
  have HE2 := Lib.hid (show k + (l.length - (k + 1)) = l.length - 1 by omega)
  have HE := Lib.hid (erase_cells hk)
  have hkz : (0 : Int) ≤ (k : Int) := by omega
  have hkz1 : (0 : Int) ≤ (k : Int) + 1 := by omega
  have hk1 : k + 1 ≤ l.length := by omega
  have hkc : k ≤ cap := by omega
  have hkc1 : k + 1 ≤ cap := by omega
  have hki : (k : Int) ≤ (k : Int) + 1 := by omega
  have hkl : (k : Int) + 1 ≤ (l.length : Int) := by omega
  clear hW1 hst hgr hc h hnl hnews q3 q2
  go_enter Try.func84, Try.ntmps84
  go_wp2_with fail
  go_region_law (refine step_append_room rfl (.tmp 22) (.tmp 25) 52 rfl 64 i0 2 Try.underlying52 hi0 hz1 g 0 k cap (by simp [Act.eval, Act.put]) A (l.length - (k + 1)) (cap - (k + 1)) news (by simp [Act.eval, Act.put]) s1.out hsrc.out s2.out (by omega) s3.out ?_; rw [← hW.out])
  go_wp2_with fail
  go_ret
  refine ⟨by rw [← HE2.out]; rfl, ?_, grown_setCells _ _ _ _ HGR.out⟩
  have h5 := own_cut (m := l.length - 1) (own_setCells [.int .i64 0, .int .i64 0] ((k + (l.length - (k + 1))) * 2) _ _ HST.out) (by omega)
  rw [HN.out, HE.out] at h5
  exact h5
end Go.Proofs.Ytdlglnkhhbkndaa

/- Several texts in one: RchB, RSlm, RRch, RFew. -/
import Derived.Test.YtdlglnkhhbkndaaJnA
import Derived.Test.YtdlglnkhhbkndaaRcA
import Derived.Test.YtdlglnkhhbkndaaSlA
import Derived.Test.YtdlglnkhhbkndaaRSpn
import Derived.Test.YtdlglnkhhbkndaaFeA
/- What coppers reach, as both sides find it: plain lists. -/
namespace Go.Proofs.Ytdlglnkhhbkndaa
open Go.RowKit Go.Maps
set_option linter.unusedSimpArgs false
set_option linter.unusedVariables false

theorem jB_rel {t : List Thr} {s j : Nat} (h : jB t j = true) : Rel t s (j + 1) ↔ Rel t s (j + 2) := by
  unfold jB at h
  obtain ⟨x, hx, ho⟩ := List.any_eq_true.1 h
  unfold onJ at ho
  rw [Bool.and_eq_true, decide_eq_true_eq, decide_eq_true_eq] at ho
  have h1 : inS x (j + 1) := ⟨by omega, by omega⟩
  have h2 : inS x (j + 2) := ⟨by omega, by omega⟩
  exact ⟨fun h => Rel.step h hx h1 h2, fun h => Rel.step h hx h2 h1⟩
theorem span_jB {t : List Thr} {x : Thr} (hx : x ∈ t) {c d j : Nat} (hc : inS x c) (hd : inS x d) (h1 : c ≤ j + 1) (h2 : j + 2 ≤ d) : jB t j = true := by
  unfold jB
  refine List.any_eq_true.2 ⟨x, hx, ?_⟩
  unfold onJ
  rw [Bool.and_eq_true, decide_eq_true_eq, decide_eq_true_eq]
  obtain ⟨h3, h4⟩ := hc
  obtain ⟨h5, h6⟩ := hd
  exact ⟨by omega, by omega⟩
/-- What is joined with a copper lies from one copper to another one. -/
theorem rel_int {t : List Thr} {n i : Nat} (hok : ∀ x ∈ t, 1 ≤ x.a ∧ x.a < x.b ∧ x.b ≤ ((n + 1 : Nat) : Int)) (hi : i ≤ n) (c : Nat) : Rel t (i + 1) c ↔ dnJ t i + 1 ≤ c ∧ c ≤ upJ t (n - i) i + 1 := by
  obtain ⟨d1, d2⟩ := dn_spec t i
  obtain ⟨u1, u2⟩ := up_spec t (n - i) i
  have d3 := dnJ_le t i
  have u3 := upJ_ge t (n - i) i
  refine ⟨fun h => ?_, fun ⟨h1, h2⟩ => ?_⟩
  · induction h with
    | self => omega
    | @step x c d hr hx hc hd ih =>
      have ho := hok x hx
      obtain ⟨e1, e2⟩ := hc
      obtain ⟨e3, e4⟩ := hd
      refine ⟨?_, ?_⟩
      · refine Classical.byContradiction fun hno => ?_
        rcases d2 with d2 | d2
        · omega
        · have := span_jB hx (j := dnJ t i - 1) (c := d) (d := c) ⟨e3, e4⟩ ⟨e1, e2⟩ (by omega) (by omega)
          rw [this] at d2
          cases d2
      · refine Classical.byContradiction fun hno => ?_
        rcases u2 with u2 | u2
        · omega
        · have := span_jB hx (j := upJ t (n - i) i) (c := c) (d := d) ⟨e1, e2⟩ ⟨e3, e4⟩ (by omega) (by omega)
          rw [this] at u2
          cases u2
  · have down : ∀ e m, m + e = i → dnJ t i ≤ m → Rel t (i + 1) (m + 1) := by
      intro e
      induction e with
      | zero => intro m hm _; rw [show m = i by omega]; exact Rel.self
      | succ e ih =>
        intro m hm hd
        exact (jB_rel (d1 m hd (by omega))).2 (ih (m + 1) (by omega) (by omega))
    have up : ∀ e, i + e ≤ upJ t (n - i) i → Rel t (i + 1) (i + e + 1) := by
      intro e
      induction e with
      | zero => intro _; exact Rel.self
      | succ e ih =>
        intro he
        exact (jB_rel (u1 (i + e) (by omega) (by omega))).1 (ih (by omega))
    obtain ⟨m, rfl⟩ : ∃ m, c = m + 1 := ⟨c - 1, by omega⟩
    by_cases hm : m ≤ i
    · exact down (i - m) m (by omega) (by omega)
    · have := up (m - i) (by omega)
      rw [show i + (m - i) = m by omega] at this
      exact this
theorem dn_congr {t u : List Thr} : ∀ {k n : Nat}, k ≤ n → (∀ j, j < n → jB t j = jB u j) → dnJ t k = dnJ u k
  | 0, _, _, _ => rfl
  | k + 1, n, h, hj => by
    rw [dnJ, dnJ, hj k (by omega), dn_congr (k := k) (n := n) (by omega) hj]
theorem up_congr {t u : List Thr} : ∀ {f k n : Nat}, k + f ≤ n → (∀ j, j < n → jB t j = jB u j) → upJ t f k = upJ u f k
  | 0, _, _, _, _ => rfl
  | f + 1, k, n, h, hj => by
    rw [upJ, upJ, hj k (by omega), up_congr (f := f) (k := k + 1) (n := n) (by omega) hj]
theorem sameR_iff {t u : List Thr} {n : Nat} (h1 : ∀ x ∈ t, 1 ≤ x.a ∧ x.a < x.b ∧ x.b ≤ ((n + 1 : Nat) : Int)) (h2 : ∀ x ∈ u, 1 ≤ x.a ∧ x.a < x.b ∧ x.b ≤ ((n + 1 : Nat) : Int)) : SameR t u (n + 1) ↔ jT n u = jT n t := by
  refine ⟨fun h => ?_, fun h s hs1 hs2 c => ?_⟩
  · unfold jT
    refine List.map_congr_left fun j hj => ?_
    rw [List.mem_range] at hj
    have key : ∀ (p q : List Thr), (∀ x ∈ q, 1 ≤ x.a ∧ x.a < x.b ∧ x.b ≤ ((n + 1 : Nat) : Int)) → (∀ c, Rel p (j + 1) c → Rel q (j + 1) c) → jB p j = true → jB q j = true := by
      intro p q hq hr hp
      have r1 : Rel p (j + 1) (j + 2) := (jB_rel hp).1 Rel.self
      have r2 := ((rel_int hq (Nat.le_of_lt hj) _).1 (hr _ r1)).2
      cases hb : jB q j
      · obtain ⟨f, hf⟩ : ∃ f, n - j = f + 1 := ⟨n - j - 1, by omega⟩
        rw [hf, upJ, hb] at r2
        simp only [Bool.false_eq_true, if_false] at r2
        omega
      · rfl
    have hs := h (j + 1) (by omega) (by omega)
    cases ht : jB t j <;> cases hu : jB u j
    · rfl
    · have := key u t h1 (fun c hc => (hs c).2 hc) hu
      rw [ht] at this
      cases this
    · have := key t u h2 (fun c hc => (hs c).1 hc) ht
      rw [hu] at this
      cases this
    · rfl
  · have hj : ∀ j, j < n → jB t j = jB u j := by
      intro j hj
      have e : (jT n u)[j]? = (jT n t)[j]? := by rw [h]
      rw [jT_get hj, jT_get hj] at e
      exact (Option.some.inj e).symm
    obtain ⟨i, rfl⟩ : ∃ i, s = i + 1 := ⟨s - 1, by omega⟩
    rw [rel_int h1 (by omega), rel_int h2 (by omega), dn_congr (k := i) (n := n) (by omega) hj, up_congr (f := n - i) (k := i) (n := n) (by omega) hj]
theorem num_placeG (a : ByteArray) : ∀ (R : List Row) (n : Nat), match (nms R).findIdx? (fun b => decide (b = a)) with | none => placeOf R a = none | some i => ∃ k, placeOf R a = some k ∧ (cusF n R)[i]? = some (k + n)
  | [], n => by simp [nms, placeOf]
  | q :: R, n => by
    have ih := num_placeG a R (n + 1)
    cases hq : isCu q
    · have e1 : nms (q :: R) = nms R := by simp [nms, List.filter_cons, hq]
      have e2 : placeOf (q :: R) a = (placeOf R a).map (· + 1) := by unfold placeOf; rw [List.findIdx?_cons]; simp [hq]
      rw [e1, e2]
      cases hf : (nms R).findIdx? (fun b => decide (b = a)) with
      | none => rw [hf] at ih; simp only at ih ⊢; rw [ih]; rfl
      | some i =>
        rw [hf] at ih
        simp only at ih ⊢
        obtain ⟨k, h1, h2⟩ := ih
        refine ⟨k + 1, by rw [h1]; rfl, ?_⟩
        simp only [cusF, hq, Bool.false_eq_true, if_false]
        rw [h2]
        congr 1
        omega
    · have e1 : nms (q :: R) = q.1 :: nms R := by simp [nms, List.filter_cons, hq]
      by_cases ha : q.1 = a
      · have e2 : placeOf (q :: R) a = some 0 := by unfold placeOf; rw [List.findIdx?_cons]; simp [hq, ha]
        rw [e1, e2, List.findIdx?_cons]
        simp only [ha, decide_true, if_true]
        refine ⟨0, rfl, ?_⟩
        simp [cusF, hq]
      · have e2 : placeOf (q :: R) a = (placeOf R a).map (· + 1) := by unfold placeOf; rw [List.findIdx?_cons]; simp [hq, ha]
        rw [e1, e2, List.findIdx?_cons]
        simp only [ha, decide_false, Bool.false_eq_true, if_false]
        cases hf : (nms R).findIdx? (fun b => decide (b = a)) with
        | none => rw [hf] at ih; simp only [Option.map_none] at ih ⊢; rw [ih]; rfl
        | some i =>
          rw [hf] at ih
          simp only [Option.map_some] at ih ⊢
          obtain ⟨k, h1, h2⟩ := ih
          refine ⟨k + 1, by rw [h1]; rfl, ?_⟩
          simp only [cusF, hq, if_true]
          rw [List.getElem?_cons_succ, h2]
          congr 1
          omega
theorem num_no {R : List Row} {a : ByteArray} (h : numI R a = none) : placeOf R a = none := by
  have := num_placeG a R 0
  unfold numI at h
  rw [h] at this
  exact this
theorem num_yes {R : List Row} {a : ByteArray} {i : Nat} (h : numI R a = some i) : ∃ k, placeOf R a = some k ∧ (cus R)[i]? = some k := by
  have := num_placeG a R 0
  unfold numI at h
  rw [h] at this
  exact this
theorem cusF_lt : ∀ (R : List Row) (n i j k m : Nat), i < j → (cusF n R)[i]? = some k → (cusF n R)[j]? = some m → k < m
  | [], _, _, _, _, _, _, h, _ => by simp [cusF] at h
  | q :: R, n, i, j, k, m, hij, h1, h2 => by
    cases hq : isCu q
    · simp only [cusF, hq, Bool.false_eq_true, if_false] at h1 h2
      exact cusF_lt R (n + 1) i j k m hij h1 h2
    · simp only [cusF, hq, if_true] at h1 h2
      match i, j, hij, h1, h2 with
      | 0, j + 1, _, h1, h2 =>
        simp at h1
        subst h1
        rw [List.getElem?_cons_succ] at h2
        have := (cusF_get R (n + 1) j m h2).1
        omega
      | i + 1, j + 1, hij, h1, h2 =>
        rw [List.getElem?_cons_succ] at h1 h2
        exact cusF_lt R (n + 1) i j k m (by omega) h1 h2
theorem cus_idx {R : List Row} {i k : Nat} (h : (cus R)[i]? = some k) : Lib.idxOf ((cus R).map fun k : Nat => (k : Int)) (k : Nat) = (i : Nat) := by
  have hi := (List.getElem?_eq_some_iff.1 h).1
  have hget : ∀ j, j < (cus R).length → ∃ m, (cus R)[j]? = some m ∧ ((cus R).map fun k : Nat => (k : Int)).getD j 0 = (m : Int) := by
    intro j hj
    refine ⟨_, List.getElem?_eq_getElem hj, ?_⟩
    rw [List.getD_eq_getElem?_getD, List.getElem?_map, List.getElem?_eq_getElem hj]
    rfl
  have := Lib.idxFrom_hit (k : Nat) ((cus R).map fun k : Nat => (k : Int)) i 0 (by rw [List.length_map]; exact hi) (by
    obtain ⟨m, h1, h2⟩ := hget i hi
    rw [h] at h1
    cases h1
    exact h2) (fun j hj => by
    obtain ⟨m, h1, h2⟩ := hget j (by omega)
    rw [h2]
    have := cusF_lt R 0 j i m k hj h1 h
    omega)
  rw [Nat.zero_add] at this
  exact this
/-- The names that have been taken when the first j coppers have been looked at. -/
def upTo (R : List Row) (t : List Thr) (i j : Nat) : List ByteArray := ((nms R).take (min j (upJ t ((nms R).length - 1 - i) i + 1))).drop (dnJ t i)
theorem upTo_zero (R : List Row) (t : List Thr) (i : Nat) : upTo R t i 0 = [] := by simp [upTo]
theorem upTo_end {R : List Row} {t : List Thr} {i : Nat} (hi : i < (nms R).length) : upTo R t i (nms R).length = reachL R t i := by
  have u3 := upJ_ge t ((nms R).length - 1 - i) i
  unfold upTo reachL
  rw [Nat.min_eq_right (by omega), List.drop_take]
theorem upTo_in {R : List Row} {t : List Thr} {i j : Nat} {b : ByteArray} (hb : (nms R)[j]? = some b) (h1 : dnJ t i ≤ j) (h2 : j ≤ upJ t ((nms R).length - 1 - i) i) : upTo R t i (j + 1) = upTo R t i j ++ [b] := by
  have hj := (List.getElem?_eq_some_iff.1 hb).1
  unfold upTo
  rw [Nat.min_eq_left (by omega), Nat.min_eq_left (by omega), List.take_add_one, hb, List.drop_append_of_le_length (by rw [List.length_take]; omega)]
  rfl
theorem upTo_out {R : List Row} {t : List Thr} {i j : Nat} (hj : j < (nms R).length) (h : ¬ (dnJ t i ≤ j ∧ j ≤ upJ t ((nms R).length - 1 - i) i)) : upTo R t i (j + 1) = upTo R t i j := by
  have d3 := dnJ_le t i
  have u3 := upJ_ge t ((nms R).length - 1 - i) i
  unfold upTo
  by_cases h1 : j < dnJ t i
  · rw [Nat.min_eq_left (by omega), Nat.min_eq_left (by omega), List.drop_of_length_le (by rw [List.length_take]; omega), List.drop_of_length_le (by rw [List.length_take]; omega)]
  · rw [Nat.min_eq_right (by omega), Nat.min_eq_right (by omega)]
theorem upTo_len {R : List Row} {t : List Thr} {i j : Nat} : (upTo R t i j).length ≤ (nms R).length := by
  unfold upTo
  rw [List.length_drop, List.length_take]
  omega
end Go.Proofs.Ytdlglnkhhbkndaa
/- Which holes are too deep for their size: the reference of chapter 4 (Slim), whatever the world. -/
namespace Go.Proofs.Ytdlglnkhhbkndaa
open Go.RowKit Go.Maps
set_option linter.unusedSimpArgs false
set_option linter.unusedVariables false
set_option maxRecDepth 100000

theorem rdg_part {α : Type} {size : Nat} {cells : α → List Value} {w : World} {b off : Nat} {L : List α} (h : RdG size cells w (some ⟨b, off, none⟩) L) (lo hi : Nat) : RdG size cells w (some ⟨b, off + lo * size, none⟩) ((L.take hi).drop lo) := by
  intro hpos
  have hL : 0 < L.length := by
    rw [List.length_drop, List.length_take] at hpos
    omega
  obtain ⟨b', off', e, hlt, hc⟩ := h hL
  simp only [Option.some.injEq, Addr.mk.injEq] at e
  obtain ⟨rfl, rfl, -⟩ := e
  refine ⟨b, _, rfl, hlt, fun i x hx j v hv => ?_⟩
  rw [List.getElem?_drop] at hx
  have hlt2 : lo + i < hi := by
    have := (List.getElem?_eq_some_iff.1 hx).1
    rw [List.length_take] at this
    omega
  rw [List.getElem?_take_of_lt hlt2] at hx
  have := hc _ _ hx j v hv
  rwa [show off + lo * size + i * size = off + (lo + i) * size by rw [Nat.add_mul]; omega]
theorem part_thick {R : List Row} {p q : Nat} (hpq : p ≤ q) : thick ((R.take q).drop p) = thick (R.take q) - thick (R.take p) := by
  have e := List.take_append_drop p (R.take q)
  rw [List.take_take, Nat.min_eq_left hpq] at e
  have e2 := thick_append (R.take p) ((R.take q).drop p)
  rw [e] at e2
  omega
theorem szB_dec (z : Int) : (decide ((1 : Int) ≤ z) && decide (z ≤ 2000)) = szB z := rfl
section
variable {A : Option Addr} {l : List Mat} {c : Nat} {A2 : Option Addr} {s : List Lay} {c2 : Nat} {w : World}
set_option maxHeartbeats 8000000 in
theorem rSlim_any (h : StkIn A l A2 s w) (hc2 : s.length ≤ c2) (hc3 : c2 ≤ 140737488355328) (A3 : Option Addr) (t : List Thr) (c3 : Nat) (hl : t.length ≤ 140737488355328) (hd : RdG 2 Thr.cs w A3 t) (A5 : Option Addr) (zs : List Int) (c5 : Nat) (hzl : zs.length ≤ 140737488355328) (hdz : RdG 1 (fun x : Int => [Value.int .i64 x]) w A5 zs) (most : Int) :
    Calls Try.prog 49 #[.slice A l.length c, .slice A2 s.length c2, .slice A3 t.length c3, .slice A5 zs.length c5, .int .i64 most] w (SlmRet (slimF l s t zs most) w) := by
  have CP := Lib.hid (rSpans_any (c := c) h hc2 hc3 A3 t c3 hl hd)
  by_cases h0 : pressedF l s t = 0
  · obtain ⟨i1, hi1, hy0, hy1, hy2⟩ := info_parts infoInt
    rw [h0] at CP
    have HD := Lib.hid hd
    have HDZ := Lib.hid hdz
    by_cases h1 : zs.length = t.length
    · obtain ⟨t1, t2⟩ := thrF_zero (pressed_zero h0).2.1
      have HT2 := Lib.hid t2
      have hst := (pressed_zero h0).1
      have HTH := Lib.hid (rows_thick hst)
      have HS := Lib.hid h
      have hl1 := h.l1
      have hl2 := h.l2
      have hs60 := (stackF_go hst).2.1
      have hmm := matsF_mem (stackF_mats hst)
      have HMM := Lib.hid hmm
      have HRW := Lib.hid (rows_eq hst)
      have hR60 : (rowsOf l s).length ≤ 60 := by rw [rows_eq hst, List.length_map]; exact hs60
      have HRL := Lib.hid (show (rowsOf l s).length = s.length by rw [rows_eq hst, List.length_map])
      have h2c := form_two (stackF_form hst)
      have CC := Lib.hid (fun W (hb : Below w.heap.size w W) => rCoppers_any (c := c) (w := W) A2 s c2 hl1 (by omega) (HS.out.m.below hb) (HS.out.y.below hb))
      rw [← HRW.out] at CC
      have hm1 : ((zs.length : Int) != (t.length : Int)) = false := by simp [h1]
      have HSZ := Lib.hid (fun h2 => slimF_size (most := most) h0 h1 h2)
      have HMO := Lib.hid (fun h2 h3 => slimF_most (most := most) h0 h1 h2 h3)
      have HYE := Lib.hid (fun h2 h3 => slimF_yes (most := most) h0 h1 h2 h3)
      have HZT := Lib.hid h1
      have hzl2 : zs.length ≤ 200 := by omega
      generalize slimF l s t zs most = SF at *
      generalize rowsOf l s = R at *
      clear h hd hdz h0 h1 t2 hst hmm
      go_enter Try.func49, Try.ntmps49
      go_wp2_with fail
      refine CP.out.mono ?_
      rintro e w1 ⟨rfl, hb⟩
      have B1 := Lib.hid hb
      have z1 := hb.size
      clear hb
      go_wp2_with fail
      go_loopw [33] (fun iv wr => ∃ k : Nat, k ≤ zs.length ∧ iv = .int .i64 (k : Nat) ∧ SzTo zs k ∧ w1 = wr) (fun iv _ => zs.length - (intOf iv).toNat)
      case atStart => exact ⟨0, Nat.zero_le _, rfl, szTo_zero _, rfl⟩
      case round =>
        obtain ⟨k, hk, rfl, hsz, rfl⟩ := hrel
        have HZ := Lib.hid hsz
        have hkz : (0 : Int) ≤ (k : Int) := by omega
        clear hsz
        by_cases hlt : k < zs.length
        · obtain ⟨bb, off, rfl, hblt, hcs⟩ := (HDZ.out.below B1.out) (by omega)
          have hi : zs[k]? = some zs[k] := List.getElem?_eq_getElem hlt
          have c0 := by simpa using hcs k _ hi 0 _ rfl
          have HI := Lib.hid hi
          clear hi hcs
          generalize zs[k] = z at *
          have hlt' : (k : Int) < (zs.length : Int) := by omega
          cases hz : szB z
          · have HN := Lib.hid (HSZ.out (sz_no HI.out (by rw [hz]; decide)))
            have CW := Lib.hid (fun (W : World) => ((szB_dec z).trans hz) ▸ withinR_any z 1 2000 W)
            clear hz
            go_wp2_with fail
            refine (CW.out _).mono ?_
            rintro e w2 ⟨rfl, rfl⟩
            go_wp2_with fail
            go_ret2
            rw [HN.out]
            exact slm_none B1.out
          · have HN := Lib.hid (szTo_step HZ.out HI.out hz)
            have CW := Lib.hid (fun (W : World) => ((szB_dec z).trans hz) ▸ withinR_any z 1 2000 W)
            clear hz
            go_wp2_with fail
            refine (CW.out _).mono ?_
            rintro e w2 ⟨rfl, rfl⟩
            go_wp2_with fail
            go_roundw
            case rel => exact ⟨k + 1, by omega, by go_num, HN.out, by first | rfl | trivial⟩
            case measure => (simp [intOf] <;> omega)
        · obtain rfl : k = zs.length := by omega
          have HALL := Lib.hid (szTo_end HZ.out)
          by_cases hmo : 1 ≤ most ∧ most ≤ 1000
          · have HE := Lib.hid (HYE.out HALL.out hmo)
            have hK1 : (decide ((1 : Int) ≤ most) && decide (most ≤ 1000)) = true := by simp; omega
            have CM := Lib.hid (fun (W : World) => hK1 ▸ withinR_any most 1 1000 W)
            clear hK1
            go_wp2_with fail
            refine (CM.out _).mono ?_
            rintro e w2 ⟨rfl, rfl⟩
            go_wp2_with fail
            refine (CC.out _ B1.out).mono ?_
            rintro e w3 ⟨v3, rfl, ho3, hb3⟩
            obtain ⟨Ac, cc, rfl, u1, u2, u3⟩ := own_cells ho3
            obtain ⟨gc, rfl, hgc, hgl, hcc⟩ := u3 (by omega)
            have B3 := Lib.hid (B1.out.trans (hb3.mono z1))
            have z3 := B3.out.size
            have HCC := Lib.hid hcc
            have u2' : cc ≤ 9223372036854775807 := u2
            have hcl : (cus R).length ≤ R.length := cus_few R 0
            obtain ⟨N, hN⟩ : ∃ N, N = (cus R).length := ⟨_, rfl⟩
            rw [← hN]
            have HN := Lib.hid hN
            have hNb : N ≤ 60 := by omega
            clear ho3 hb3 u2 u3 hcc hN
            go_wp2_with fail
            go_loopw [16, 49] (fun ov iv wr => ∃ (j : Nat) (L : List Nat), j ≤ t.length ∧ iv = .int .i64 (j : Nat) ∧ L = slimL R t zs most j ∧ wr.ownsRow w3.heap.size 3 1 ov L.length (L.map fun k => Value.int .i64 (k : Nat)) ∧ Below w3.heap.size w3 wr) (fun _ iv _ => t.length - (intOf iv).toNat)
            case atStart => exact ⟨0, [], Nat.zero_le _, rfl, rfl, own_nil, Below.refl _ _⟩
            case round =>
              obtain ⟨w7, rfl⟩ : ∃ x, x = wr := ⟨wr, rfl⟩
              obtain ⟨j, L, hj, rfl, hL, ho, hw⟩ := hrel
              have HLJ := Lib.hid hL
              have HO := Lib.hid ho
              have HW := Lib.hid hw
              have zw := hw.size
              have hjz : (0 : Int) ≤ (j : Int) := by omega
              have hLl : L.length ≤ 200 := by
                rw [hL]
                exact Nat.le_trans (slim_len _ _ _ _ _) (by omega)
              obtain ⟨Av, cv9, rfl, v1, v2, -⟩ := own_cells ho
              have v2' : cv9 ≤ 9223372036854775807 := v2
              clear hL ho v2
              by_cases hlt : j < t.length
              · obtain ⟨bt, ot, rfl, hbt, hct⟩ := (HD.out.below (B3.out.trans (hw.mono z3))) (by omega)
                have hx : t[j]? = some t[j] := List.getElem?_eq_getElem hlt
                have e0 := by simpa using hct j _ hx 0 _ rfl
                have e1 := hct j _ hx 1 _ rfl
                obtain ⟨h3, h4, h5⟩ := HT2.out _ (List.getElem_mem hlt)
                have hlz : j < zs.length := by rw [HZT.out]; exact hlt
                obtain ⟨bz, oz, rfl, hbz, hcz⟩ := (HDZ.out.below (B3.out.trans (hw.mono z3))) (by omega)
                have hzx : zs[j]? = some zs[j] := List.getElem?_eq_getElem hlz
                have f0 := by simpa using hcz j _ hzx 0 _ rfl
                have hz2 := all_at HALL.out hzx
                have HSB := Lib.hid (slimB_at (R := R) (most := most) hx hzx)
                have HSS := Lib.hid (slim_step R t zs most j)
                clear hx hct hzx hcz
                generalize t[j] = x at *
                generalize zs[j] = z at *
                obtain ⟨ia, hia⟩ : ∃ ia : Nat, x.a = ((ia + 1 : Nat) : Int) := ⟨(x.a - 1).toNat, by omega⟩
                obtain ⟨ib, hib⟩ : ∃ ib : Nat, x.b = ((ib + 1 : Nat) : Int) := ⟨(x.b - 1).toNat, by omega⟩
                have hcl : (cus R).length ≤ R.length := cus_few R 0
                have hp : (cus R)[ia]? = some (cus R)[ia] := List.getElem?_eq_getElem (by omega)
                have hq : (cus R)[ib]? = some (cus R)[ib] := List.getElem?_eq_getElem (by omega)
                have hpq : (cus R)[ia] < (cus R)[ib] := cusF_lt R 0 ia ib _ _ (by omega) hp hq
                have hqs : (cus R)[ib] < s.length := by have := cus_lt hq; rwa [HRL.out] at this
                have HDP := Lib.hid (deep_at hia hib hp hq)
                have g0 := (hw.cell (p := ⟨gc, ia, none⟩) (show gc < w3.heap.size by omega)).trans (HCC.out ia _ (by rw [List.getElem?_map, hp]; rfl))
                have g1 := (hw.cell (p := ⟨gc, ib, none⟩) (show gc < w3.heap.size by omega)).trans (HCC.out ib _ (by rw [List.getElem?_map, hq]; rfl))
                have hk1 := thick_few HTH.out hR60 ((cus R)[ib] + 1)
                have hk2 := thick_few HTH.out hR60 (cus R)[ia]
                have hiaN : ia < N := by have := HN.out; omega
                have hibN : ib < N := by have := HN.out; omega
                obtain ⟨bs, os, hA2, hbs, -⟩ := HS.out.y (by omega)
                subst hA2
                have CT := Lib.hid (fun W (hb : Below w.heap.size w W) => rThick_any (c := c) (w := W) (some ⟨bs, os + (cus R)[ia] * 2, none⟩) ((s.take ((cus R)[ib] + 1)).drop (cus R)[ia]) (c2 - (cus R)[ia]) hl1 HMM.out (by rw [List.length_drop, List.length_take]; omega) (HS.out.m.below hb) (rdg_part (HS.out.y.below hb) (cus R)[ia] ((cus R)[ib] + 1)))
                have hth : thick (((s.take ((cus R)[ib] + 1)).drop (cus R)[ia]).map (rowOf l)) = thick (R.take ((cus R)[ib] + 1)) - thick (R.take (cus R)[ia]) := by
                  rw [List.map_drop, List.map_take, ← HRW.out]
                  exact part_thick (by omega)
                rw [hth, List.length_drop, List.length_take, Nat.min_eq_left (show (cus R)[ib] + 1 ≤ s.length from hqs)] at CT
                clear hp hq hth hw
                generalize thick (R.take ((cus R)[ib] + 1)) = T1 at *
                generalize thick (R.take (cus R)[ia]) = T2 at *
                generalize (cus R)[ia] = pa at *
                generalize (cus R)[ib] = qb at *
                rw [HDP.out] at HSB
                obtain ⟨P, hP⟩ : ∃ P, P = most * z := ⟨_, rfl⟩
                have hPb : 0 ≤ P ∧ P ≤ 2000000 := by
                  rw [hP]
                  exact ⟨Int.mul_nonneg (by omega) (by omega), by have := Int.mul_le_mul (a := most) (b := z) (c := 1000) (d := 2000) hmo.2 hz2.2 (by omega) (by decide); omega⟩
                rw [← hP] at HSB
                have y1 : IntKind.i64.wrap (((ib + 1 : Nat) : Int) - 1) = (ib : Int) := (IntWalk.i64_in _ (by omega)).trans (by omega)
                have y2 : IntKind.i64.wrap (((ia + 1 : Nat) : Int) - 1) = (ia : Int) := (IntWalk.i64_in _ (by omega)).trans (by omega)
                obtain ⟨xa, hxa⟩ : ∃ xa : Int, xa = ((ia + 1 : Nat) : Int) := ⟨_, rfl⟩
                obtain ⟨xb, hxb⟩ : ∃ xb : Int, xb = ((ib + 1 : Nat) : Int) := ⟨_, rfl⟩
                rw [← hxb] at y1
                rw [← hxa] at y2
                rw [hia, ← hxa] at e0
                rw [hib, ← hxb] at e1
                have y4 : IntKind.i64.wrap (10 * (T1 - T2)) = 10 * (T1 - T2) := IntWalk.i64_in _ (by omega)
                have y5 : IntKind.i64.wrap (most * z) = P := (IntWalk.i64_in _ (by rw [← hP]; omega)).trans hP.symm
                have y6 : IntKind.i64.wrap ((qb : Int) + 1) = (qb : Int) + 1 := IntWalk.i64_in _ (by omega)
                have y7 : ((qb : Int) + 1).toNat = qb + 1 := by omega
                have q1 : (0 : Int) ≤ (pa : Int) := by omega
                have q2 : (pa : Int) ≤ (qb : Int) + 1 := by omega
                have q3 : (qb : Int) + 1 ≤ (c2 : Int) := by omega
                have q4 : pa ≤ qb + 1 := by omega
                have q5 : qb + 1 ≤ c2 := by omega
                have q6 : ¬ pa = c2 := by omega
                have q6b : ¬ c2 = pa := by omega
                have q7 : (0 : Int) ≤ (ia : Int) := by omega
                have q8 : (ia : Int) < (N : Int) := by omega
                have q9 : (0 : Int) ≤ (ib : Int) := by omega
                have q10 : (ib : Int) < (N : Int) := by omega
                have hj1 : (j : Int) < (t.length : Int) := by omega
                have hj2 : (j : Int) < (zs.length : Int) := by omega
                have HW8 := Lib.hid (HW.out.alloc zw (.cells #[.int .i64 xa, .int .i64 xb] 64))
                have HO8 := Lib.hid (HO.out.alloc (.cells #[.int .i64 xa, .int .i64 xb] 64))
                have B78 := (Below.refl w7.heap.size w7).alloc (Nat.le_refl _) (.cells #[.int .i64 xa, .int .i64 xb] 64)
                have k8 := anc9 w7 #[.int .i64 xa, .int .i64 xb] 64 0 rfl
                have k9 := anc9 w7 #[.int .i64 xa, .int .i64 xb] 64 1 rfl
                have f8 := (B78.cell (p := ⟨bz, oz + j, none⟩) hbz).trans f0
                have g08 := (B78.cell (p := ⟨gc, ia, none⟩) (show gc < w7.heap.size by omega)).trans g0
                have g18 := (B78.cell (p := ⟨gc, ib, none⟩) (show gc < w7.heap.size by omega)).trans g1
                have sz8 : (w7.alloc (.cells #[.int .i64 xa, .int .i64 xb] 64)).heap.size = w7.heap.size + 1 := by simp
                clear hia hib h3 h4 h5 hP hxa hxb f0 g0 g1 B78
                generalize hw8 : w7.alloc (.cells #[.int .i64 xa, .int .i64 xb] 64) = w8 at *
                have l78 : w7.heap.size < w8.heap.size := by omega
                have lgc : gc < w8.heap.size := by omega
                have lbz : bz < w8.heap.size := by omega
                have z38 : w3.heap.size ≤ w8.heap.size := by omega
                have B8 := Lib.hid (B3.out.trans (HW8.out.mono z3))
                have HSB8 := Lib.hid (fun (W : World) (hb : Below w8.heap.size w8 W) => show Below w8.heap.size w8 W ∧ W.cell? ⟨w7.heap.size, 0, none⟩ = some (.int .i64 xa) ∧ W.cell? ⟨w7.heap.size, 1, none⟩ = some (.int .i64 xb) ∧ W.cell? ⟨gc, ia, none⟩ = some (.int .i64 (pa : Nat)) ∧ W.cell? ⟨gc, ib, none⟩ = some (.int .i64 (qb : Nat)) ∧ W.cell? ⟨bz, oz + j, none⟩ = some (.int .i64 z) from ⟨hb, (hb.cell (p := ⟨w7.heap.size, 0, none⟩) l78).trans k8, (hb.cell (p := ⟨w7.heap.size, 1, none⟩) l78).trans k9, (hb.cell (p := ⟨gc, ia, none⟩) lgc).trans g08, (hb.cell (p := ⟨gc, ib, none⟩) lgc).trans g18, (hb.cell (p := ⟨bz, oz + j, none⟩) lbz).trans f8⟩)
                clear sz8
                by_cases hcmp : P < 10 * (T1 - T2)
                · have d3 : decide (P < 10 * (T1 - T2)) = true := decide_eq_true hcmp
                  have HNX := Lib.hid (show slimL R t zs most (j + 1) = slimL R t zs most j ++ [j] by rw [HSS.out, HSB.out, decide_eq_true hcmp]; rfl)
                  clear hcmp
                  go_wp2_with fail
                  go_region_held3 (fun w' => Below w8.heap.size w8 w' ∧ w'.cell? ⟨w7.heap.size, 0, none⟩ = some (.int .i64 xa) ∧ w'.cell? ⟨w7.heap.size, 1, none⟩ = some (.int .i64 xb) ∧ w'.cell? ⟨gc, ia, none⟩ = some (.int .i64 (pa : Nat)) ∧ w'.cell? ⟨gc, ib, none⟩ = some (.int .i64 (qb : Nat)) ∧ w'.cell? ⟨bz, oz + j, none⟩ = some (.int .i64 z))
                    (first | exact HSB8.out _ (below_drewN (Below.refl w8.heap.size w8) 1) | exact HSB8.out _ ((below_drewN (Below.refl w8.heap.size w8) 1).trans (hb9.mono (Nat.le_refl _))))
                    (first | (go_at_call 56; refine (CT.out _ (below_drewN B8.out 1)).mono ?_; rintro e w9 ⟨rfl, hb9⟩))
                  have B9 := Lib.hid ((below_drewN (Below.refl w8.heap.size w8) 1).trans (hb9.mono (Nat.le_refl _)))
                  have z9 := B9.out.size
                  have HO9 := Lib.hid (own_below HO8.out B9.out)
                  have HW9 := Lib.hid (HW8.out.trans (B9.out.mono z38))
                  clear hb9
                  go_wp2_with (first
                    | (at_builtin; go_loud (refine wpList_append_lies _ rfl (.tmp 79) (.tmp 81) 43 rfl w3.heap.size 3 i1 (.int .i64 0) 1 8 Try.underlying43 hi1 hy0 hy1 hy2 rfl (by omega) (.slice Av L.length cv9) L.length (L.map fun k => Value.int .i64 (k : Nat)) rfl (HO9.out.alloc _) ⟨w9.heap.size, 0, none⟩ 1 1 [.int .i64 (j : Nat)] rfl rfl (one_new _ _ _) (by simp [Value.oneCell']) (by omega) (by unfold maxLen; omega) (by omega) (by simp; omega) (w9.heap.size + 1) (by simp) ?_); intro gg cap w10 hown9 hgrow hat9 hlt9; have HOA := Lib.hid hown9; have HGA := Lib.hid hgrow; clear hown9 hgrow hat9))
                  go_roundw
                  case rel =>
                    refine ⟨j + 1, L ++ [j], by omega, by go_num, by rw [HNX.out, HLJ.out], ?_, below_app (HW9.out.alloc (by omega) _) (HO9.out.alloc _) HGA.out (Nat.le_refl _) (by simp; omega)⟩
                    rw [List.length_append, List.map_append]
                    exact HOA.out
                  case measure => (simp [intOf] <;> omega)
                · have d3 : decide (P < 10 * (T1 - T2)) = false := decide_eq_false hcmp
                  have HNX := Lib.hid (show slimL R t zs most (j + 1) = slimL R t zs most j by rw [HSS.out, HSB.out, decide_eq_false hcmp]; rfl)
                  clear hcmp
                  go_wp2_with fail
                  go_region_held3 (fun w' => Below w8.heap.size w8 w' ∧ w'.cell? ⟨w7.heap.size, 0, none⟩ = some (.int .i64 xa) ∧ w'.cell? ⟨w7.heap.size, 1, none⟩ = some (.int .i64 xb) ∧ w'.cell? ⟨gc, ia, none⟩ = some (.int .i64 (pa : Nat)) ∧ w'.cell? ⟨gc, ib, none⟩ = some (.int .i64 (qb : Nat)) ∧ w'.cell? ⟨bz, oz + j, none⟩ = some (.int .i64 z))
                    (first | exact HSB8.out _ (below_drewN (Below.refl w8.heap.size w8) 1) | exact HSB8.out _ ((below_drewN (Below.refl w8.heap.size w8) 1).trans (hb9.mono (Nat.le_refl _))))
                    (first | (go_at_call 56; refine (CT.out _ (below_drewN B8.out 1)).mono ?_; rintro e w9 ⟨rfl, hb9⟩))
                  have B9 := Lib.hid ((below_drewN (Below.refl w8.heap.size w8) 1).trans (hb9.mono (Nat.le_refl _)))
                  have z9 := B9.out.size
                  have HO9 := Lib.hid (own_below HO8.out B9.out)
                  have HW9 := Lib.hid (HW8.out.trans (B9.out.mono z38))
                  clear hb9
                  go_wp2_with fail
                  go_roundw
                  case rel => exact ⟨j + 1, L, by omega, by go_num, by rw [HNX.out]; exact HLJ.out, HO9.out, HW9.out⟩
                  case measure => (simp [intOf] <;> omega)
              · obtain rfl : j = t.length := by omega
                clear hw
                go_wp2_with fail
                go_ret2
                rw [HE.out]
                unfold SlmRet
                exact ⟨_, rfl, by rw [← HLJ.out]; exact own_lower HO.out z3, B3.out.trans (HW.out.mono z3)⟩
          · have HE := Lib.hid (HMO.out HALL.out hmo)
            have hK1 : (decide ((1 : Int) ≤ most) && decide (most ≤ 1000)) = false := by simp; omega
            have CM := Lib.hid (fun (W : World) => hK1 ▸ withinR_any most 1 1000 W)
            clear hK1
            go_wp2_with fail
            refine (CM.out _).mono ?_
            rintro e w2 ⟨rfl, rfl⟩
            go_wp2_with fail
            go_ret2
            rw [HE.out]
            exact slm_none B1.out
    · have HE := Lib.hid (slimF_len (most := most) h0 h1)
      generalize slimF l s t zs most = SF at *
      have hm1 : ((zs.length : Int) != (t.length : Int)) = true := by rw [bne_iff_ne]; omega
      clear h hd hdz h0 h1
      go_enter Try.func49, Try.ntmps49
      go_wp2_with fail
      refine CP.out.mono ?_
      rintro e w1 ⟨rfl, hb⟩
      have B1 := Lib.hid hb
      clear hb
      go_wp2_with fail
      go_ret2
      rw [HE.out]
      exact slm_none B1.out
  · have HE := Lib.hid (slimF_bad (zs := zs) (most := most) h0)
    generalize slimF l s t zs most = SF at *
    generalize pressedF l s t = F at *
    have hd1 : (F == 0) = false := by simpa using h0
    have hd2 : (F != 0) = true := by simpa using h0
    clear h hd hdz h0
    go_enter Try.func49, Try.ntmps49
    go_wp2_with fail
    refine CP.out.mono ?_
    rintro e w1 ⟨rfl, hb⟩
    have B1 := Lib.hid hb
    clear hb
    go_wp2_with fail
    go_ret2
    rw [HE.out]
    exact slm_none B1.out
end
end Go.Proofs.Ytdlglnkhhbkndaa
/- Which coppers can be joined with one: the reference of chapter 4 (Reached), whatever the world. -/
namespace Go.Proofs.Ytdlglnkhhbkndaa
open Go.RowKit Go.Maps Go.WideAt Go.WideMaps
set_option linter.unusedSimpArgs false
set_option linter.unusedVariables false
set_option maxRecDepth 100000

theorem infoStrR : (Try.prog.info? 9).map (fun i => (i.zero, i.size, i.bytes)) = some (some (.string ByteArray.empty), 1, 16) := by kernel_rfl
theorem placeI_none9 {R : List Row} {a : ByteArray} (h : placeOf R a = none) : placeI R a = -1 := by unfold placeI; rw [h]
theorem placeI_some9 {R : List Row} {a : ByteArray} {i : Nat} (h : placeOf R a = some i) : placeI R a = i := by unfold placeI; rw [h]
section
variable {A : Option Addr} {l : List Mat} {c : Nat} {A2 : Option Addr} {s : List Lay} {c2 : Nat} {w : World}
set_option maxHeartbeats 1000000 in
theorem rReached_bad (h : StkIn A l A2 s w) (hc2 : s.length ≤ c2) (hc3 : c2 ≤ 140737488355328) (A3 : Option Addr) (t : List Thr) (c3 : Nat) (a : ByteArray) (hl : t.length ≤ 140737488355328) (hd : RdG 2 Thr.cs w A3 t) (h0 : pressedF l s t ≠ 0) :
    Calls Try.prog 46 #[.slice A l.length c, .slice A2 s.length c2, .slice A3 t.length c3, .string a] w fun e w' => e = .returned (.tuple #[.slice none 0 0, .int .i64 (pressedF l s t)]) ∧ Below w.heap.size w w' := by
  have CP := Lib.hid (rSpans_any (c := c) h hc2 hc3 A3 t c3 hl hd)
  generalize pressedF l s t = F at *
  have hd1 : (F == 0) = false := by simpa using h0
  have hd2 : (F != 0) = true := by simpa using h0
  clear h hd h0
  go_enter Try.func46, Try.ntmps46
  go_wp2_with fail
  refine CP.out.mono ?_
  rintro e w1 ⟨rfl, hb⟩
  have B1 := Lib.hid hb
  clear hb
  go_wp2_with fail
  go_ret2
  exact ⟨rfl, B1.out⟩
set_option maxHeartbeats 1000000 in
theorem rReached_none (h : StkIn A l A2 s w) (hc2 : s.length ≤ c2) (hc3 : c2 ≤ 140737488355328) (A3 : Option Addr) (t : List Thr) (c3 : Nat) (a : ByteArray) (hl : t.length ≤ 140737488355328) (hd : RdG 2 Thr.cs w A3 t) (h0 : pressedF l s t = 0) (hp : numI (rowsOf l s) a = none) :
    Calls Try.prog 46 #[.slice A l.length c, .slice A2 s.length c2, .slice A3 t.length c3, .string a] w fun e w' => e = .returned (.tuple #[.slice none 0 0, .int .i64 9]) ∧ Below w.heap.size w w' := by
  have CP := Lib.hid (rSpans_any (c := c) h hc2 hc3 A3 t c3 hl hd)
  rw [h0] at CP
  have HS := Lib.hid h
  have hl1 := h.l1
  have hl2 := h.l2
  have CA := Lib.hid (fun W (hb : Below w.heap.size w W) => rPlace_any (c := c) (w := W) A2 s c2 a hl1 hl2 (HS.out.m.below hb) (HS.out.y.below hb))
  rw [← rows_eq (pressed_zero h0).1, placeI_none9 (num_no hp)] at CA
  clear h hd h0 hp
  go_enter Try.func46, Try.ntmps46
  go_wp2_with fail
  refine CP.out.mono ?_
  rintro e w1 ⟨rfl, hb⟩
  have B1 := Lib.hid hb
  have z1 := hb.size
  clear hb
  go_wp2_with fail
  refine (CA.out _ B1.out).mono ?_
  rintro e w2 ⟨rfl, hb⟩
  have B2 := Lib.hid (B1.out.trans (hb.mono z1))
  clear hb
  go_wp2_with fail
  go_ret2
  exact ⟨rfl, B2.out⟩
set_option maxHeartbeats 4000000 in
theorem rReached_yes (h : StkIn A l A2 s w) (hc2 : s.length ≤ c2) (hc3 : c2 ≤ 140737488355328) (A3 : Option Addr) (t : List Thr) (c3 : Nat) (a : ByteArray) (hl : t.length ≤ 140737488355328) (hd : RdG 2 Thr.cs w A3 t) (h0 : pressedF l s t = 0) {i : Nat} (hp : numI (rowsOf l s) a = some i) :
    Calls Try.prog 46 #[.slice A l.length c, .slice A2 s.length c2, .slice A3 t.length c3, .string a] w (RchRet (reachL (rowsOf l s) t i) w) := by
  obtain ⟨i1, hi1, hy0, hy1, hy2⟩ := info_parts infoStrR
  have CP := Lib.hid (rSpans_any (c := c) h hc2 hc3 A3 t c3 hl hd)
  rw [h0] at CP
  have HS := Lib.hid h
  have hl1 := h.l1
  have hl2 := h.l2
  obtain ⟨k, hk, hck⟩ := num_yes hp
  have hs60 := (stackF_go (pressed_zero h0).1).2.1
  have HRW := Lib.hid (rows_eq (pressed_zero h0).1)
  have CA := Lib.hid (fun W (hb : Below w.heap.size w W) => rPlace_any (c := c) (w := W) A2 s c2 a hl1 hl2 (HS.out.m.below hb) (HS.out.y.below hb))
  have CC := Lib.hid (fun W (hb : Below w.heap.size w W) => rCoppers_any (c := c) (w := W) A2 s c2 hl1 (by omega) (HS.out.m.below hb) (HS.out.y.below hb))
  rw [← HRW.out] at CA CC
  rw [placeI_some9 hk] at CA
  obtain ⟨t1, t2⟩ := thrF_zero (pressed_zero h0).2.1
  have hn := cus_few (rowsOf l s) 0
  have hRl : (rowsOf l s).length = s.length := by rw [HRW.out, List.length_map]
  obtain ⟨n, hm⟩ : ∃ n, (cus (rowsOf l s)).length = n + 1 := ⟨(cus (rowsOf l s)).length - 1, by have := (List.getElem?_eq_some_iff.1 hck).1; omega⟩
  have hin : i ≤ n := by have := (List.getElem?_eq_some_iff.1 hck).1; omega
  have HNM := Lib.hid (nms_len (rowsOf l s))
  have HNA := Lib.hid (fun j m (hj : (cus (rowsOf l s))[j]? = some m) => show ∃ y : Lay, s[m]? = some y ∧ (nms (rowsOf l s))[j]? = some y.name from by
    obtain ⟨r, hr, -, hnn⟩ := cus_get hj
    rw [HRW.out, List.getElem?_map] at hr
    obtain ⟨y, hy, rfl⟩ := Option.map_eq_some_iff.1 hr
    exact ⟨y, hy, hnn⟩)
  have HID := Lib.hid (cus_idx hck)
  generalize hR : rowsOf l s = R at *
  have HD := Lib.hid hd
  rw [hm] at t2 hn
  have hNb : n + 1 ≤ 60 := by omega
  have CR := Lib.hid (fun W (hb : Below w.heap.size w W) => reach_any A3 t c3 (n + 1) (i + 1) W (by omega) (by omega) (by omega) t2 (hd.below hb))
  have HREL := Lib.hid (rel_int t2 hin)
  have hiR : i < (nms R).length := by rw [HNM.out, hm]; omega
  have HEND := Lib.hid (upTo_end (t := t) hiR)
  have hnm1 : (nms R).length = n + 1 := by rw [HNM.out, hm]
  have HN1 := Lib.hid hnm1
  have HM := Lib.hid hm
  have y1 : IntKind.i64.wrap ((i : Int) + 1) = (i : Int) + 1 := IntWalk.i64_in _ (by omega)
  have x0 : decide ((k : Int) < 0) = false := by simp
  obtain ⟨N, hN⟩ : ∃ N, N = n + 1 := ⟨_, rfl⟩
  rw [← hN] at HM CR
  obtain ⟨I, hI⟩ : ∃ I, I = i + 1 := ⟨_, rfl⟩
  rw [← hI] at CR
  have y2 : IntKind.i64.wrap ((i : Int) + 1) = (I : Int) := y1.trans (by omega)
  have HN := Lib.hid hN
  have HI := Lib.hid hI
  clear h hd h0 hp hk hck t1 t2 hR hm y1 hN hI hnm1 hRl hiR
  unfold RchRet
  go_enter Try.func46, Try.ntmps46
  go_wp2_with fail
  refine CP.out.mono ?_
  rintro e w1 ⟨rfl, hb⟩
  have B1 := Lib.hid hb
  have z1 := hb.size
  clear hb
  go_wp2_with fail
  refine (CA.out _ B1.out).mono ?_
  rintro e w2 ⟨rfl, hb⟩
  have B2 := Lib.hid (B1.out.trans (hb.mono z1))
  have z2 := B2.out.size
  clear hb
  go_wp2_with fail
  refine (CC.out _ B2.out).mono ?_
  rintro e w3 ⟨v, rfl, ho3, hb3⟩
  rw [HM.out] at ho3
  obtain ⟨Ac, cc, rfl, u1, u2, u3⟩ := own_cells ho3
  obtain ⟨gc, rfl, hgc, hgl, hcc⟩ := u3 (by have := HN.out; omega)
  have B3 := Lib.hid (B2.out.trans (hb3.mono z2))
  have z3 := hb3.size
  have HCC := Lib.hid hcc
  have u2' : cc ≤ 9223372036854775807 := u2
  have CI := Lib.hid (Try.slices_Index_int gc 0 N cc ((cus R).map fun k : Nat => (k : Int)) (k : Nat) w3 (by rw [List.length_map, HM.out]; exact Nat.le_refl _) (by omega) (fun j hj => by
    rw [List.length_map] at hj
    rw [Nat.zero_add]
    refine hcc _ _ ?_
    rw [List.getElem?_map, List.getD_eq_getElem?_getD, List.getElem?_map, List.getElem?_eq_getElem hj]
    rfl))
  rw [List.take_of_length_le (by rw [List.length_map, HM.out]; exact Nat.le_refl _), HID.out] at CI
  clear ho3 hb3 u2 u3 hcc
  go_wp2_with fail
  refine CI.out.mono ?_
  rintro e w4 ⟨rfl, hw4⟩
  obtain rfl := hw4.symm
  go_wp2_with fail
  refine (CR.out _ B3.out).mono ?_
  rintro e w5 ⟨g5, E, rfl, hE, hrl, ho5, hb5⟩
  have B5 := Lib.hid (B3.out.trans (hb5.mono (by omega)))
  have z5 := hb5.size
  have HO5 := Lib.hid ho5
  have HB5 := Lib.hid hb5
  have HRL := Lib.hid hrl
  have HE := Lib.hid hE
  have lg5 := (ho5.lt _ rfl).2
  obtain ⟨N1, hN1⟩ : ∃ x, x = N + 1 := ⟨_, rfl⟩
  rw [← hN1]
  have HN2 := Lib.hid hN1
  have hlE : N1 ≤ 9223372036854775807 := by have := HN.out; omega
  clear ho5 hb5 hrl hE hw4 hN1
  go_wp2_with fail
  go_loopw [14, 43] (fun ov iv wr => ∃ (j : Nat) (zs : List ByteArray), j ≤ N ∧ iv = .int .i64 (j : Nat) ∧ zs = upTo R t i j ∧ wr.ownsRow w5.heap.size 9 1 ov zs.length (zs.map Value.string) ∧ Below w5.heap.size w5 wr) (fun _ iv _ => N - (intOf iv).toNat)
  case atStart => exact ⟨0, [], Nat.zero_le _, rfl, (upTo_zero _ _ _).symm, own_nil, Below.refl _ _⟩
  case round =>
    obtain ⟨j, zs, hj, rfl, hzs, ho, hw⟩ := hrel
    have HZS := Lib.hid hzs
    have HO := Lib.hid ho
    have HW := Lib.hid hw
    have zw := hw.size
    have hjz : (0 : Int) ≤ (j : Int) := by omega
    have hzl : zs.length ≤ 1000 := by
      rw [hzs]
      exact Nat.le_trans upTo_len (by rw [HN1.out]; omega)
    obtain ⟨Av, cv, rfl, v1, v2, -⟩ := own_cells ho
    have v2' : cv ≤ 9223372036854775807 := v2
    clear hzs ho v2
    by_cases hlt : j < N
    · have hjl : j < (cus R).length := by rw [HM.out]; exact hlt
      have hcj : (cus R)[j]? = some (cus R)[j] := List.getElem?_eq_getElem hjl
      obtain ⟨y, hy, hny⟩ := HNA.out j _ hcj
      have k0 := (hw.cell (p := ⟨gc, j, none⟩) (show gc < w5.heap.size by omega)).trans ((HB5.out.cell (p := ⟨gc, j, none⟩) hgl).trans (HCC.out j _ (by rw [List.getElem?_map, hcj]; rfl)))
      obtain ⟨by_, oy, hA2, hyl, hcy⟩ := (HS.out.y.below (B5.out.trans (hw.mono (by omega)))) (by have := (List.getElem?_eq_some_iff.1 hy).1; omega)
      have d0 := by simpa using hcy _ _ hy 0 _ rfl
      have hml := (List.getElem?_eq_some_iff.1 hy).1
      have hEl : j + 1 < E.length := by rw [HE.out]; omega
      have hEl' : j + 1 < N1 := by have := HN2.out; omega
      obtain ⟨f1, -⟩ := own_cellC (j := j + 1) (v := .bool (atB E (j + 1))) (own_below HO5.out hw) (by rw [List.getElem?_map, at_get hEl]; rfl)
      have HIN := Lib.hid (fun (hd1 : atB E (j + 1) = true) => show upTo R t i (j + 1) = upTo R t i j ++ [y.name] from by
        have h1 := (HRL.out (j + 1)).1 hd1
        rw [HI.out] at h1
        have h2 := (HREL.out _).1 h1
        refine upTo_in hny (by omega) ?_
        rw [HN1.out, show n + 1 - 1 - i = n - i by omega]
        omega)
      have HOUT := Lib.hid (fun (hd1 : ¬ atB E (j + 1) = true) => show upTo R t i (j + 1) = upTo R t i j from by
        refine upTo_out (by rw [HN1.out, ← HN.out]; exact hlt) fun h2 => hd1 ?_
        refine (HRL.out (j + 1)).2 ?_
        rw [HI.out]
        refine (HREL.out _).2 ?_
        rw [HN1.out, show n + 1 - 1 - i = n - i by omega] at h2
        omega)
      have hml60 : (cus R)[j] < 60 := Nat.lt_of_lt_of_le hml hs60
      have x1 : (j : Int) < (N : Int) := by omega
      have x2 : IntKind.i64.wrap ((j : Int) + 1) = (j : Int) + 1 := IntWalk.i64_in _ (by omega)
      have x3 : (0 : Int) ≤ (j : Int) + 1 := by omega
      have x4 : (j : Int) + 1 < (N1 : Int) := by omega
      subst hA2
      clear hcj hy hny hcy hw hEl
      generalize (cus R)[j] = m at *
      have x5 : (0 : Int) ≤ (m : Int) := by omega
      have x6 : (m : Int) < (s.length : Int) := Int.ofNat_lt.2 hml
      cases he : atB E (j + 1)
      · rw [he] at f1
        have HNX := Lib.hid (HOUT.out (by rw [he]; decide))
        clear he
        go_wp2_with fail
        go_roundw
        case rel => exact ⟨j + 1, zs, by omega, by go_num, by rw [HNX.out]; exact HZS.out, HO.out, HW.out⟩
        case measure => (simp [intOf] <;> omega)
      · rw [he] at f1
        have HNX := Lib.hid (HIN.out he)
        clear he
        go_wp2_with (first
          | (at_builtin; go_loud (refine wpList_append_lies _ rfl (.tmp 53) (.tmp 59) 65 rfl w5.heap.size 9 i1 (.string ByteArray.empty) 1 16 Try.underlying65 hi1 hy0 hy1 hy2 rfl (by omega) (.slice Av zs.length cv) zs.length (zs.map Value.string) rfl (HO.out.alloc _) ⟨wr.heap.size, 0, none⟩ 1 1 [.string y.name] rfl rfl (one_new _ _ _) (by simp [Value.oneCell']) (by omega) (by unfold maxLen; omega) (by omega) (by simp; omega) (wr.heap.size + 1) (by simp) ?_); intro gg cap w9 hown9 hgrow hat9 hlt9; have HO9 := Lib.hid hown9; have HG9 := Lib.hid hgrow; clear hown9 hgrow hat9))
        go_roundw
        case rel =>
          refine ⟨j + 1, zs ++ [y.name], by omega, by go_num, by rw [HNX.out, HZS.out], ?_, below_app (HW.out.alloc zw _) (HO.out.alloc _) HG9.out (Nat.le_refl _) (by simp; omega)⟩
          rw [List.length_append, List.map_append]
          exact HO9.out
        case measure => (simp [intOf] <;> omega)
    · obtain rfl : j = N := by omega
      have HZE := Lib.hid (show zs = reachL R t i by rw [HZS.out, HN.out, ← HN1.out]; exact HEND.out)
      clear hw
      go_wp2_with fail
      go_ret2
      exact ⟨.slice Av zs.length cv, rfl, by rw [← HZE.out]; exact own_lower HO.out (by omega), B5.out.trans (HW.out.mono (by omega))⟩
end
end Go.Proofs.Ytdlglnkhhbkndaa
/- The spans that are needed: the reference of chapter 4 (Fewest), whatever the world. -/
namespace Go.Proofs.Ytdlglnkhhbkndaa
open Go.RowKit Go.Maps
set_option linter.unusedSimpArgs false
set_option linter.unusedVariables false
set_option maxRecDepth 100000

section
variable {A : Option Addr} {l : List Mat} {c : Nat} {A2 : Option Addr} {s : List Lay} {c2 : Nat} {w : World}
set_option maxHeartbeats 1000000 in
theorem rFewest_no (h : StkIn A l A2 s w) (hc2 : s.length ≤ c2) (hc3 : c2 ≤ 140737488355328) (A3 : Option Addr) (t : List Thr) (c3 : Nat) (hl : t.length ≤ 140737488355328) (hd : RdG 2 Thr.cs w A3 t) (h0 : pressedF l s t ≠ 0) :
    Calls Try.prog 51 #[.slice A l.length c, .slice A2 s.length c2, .slice A3 t.length c3] w fun e w' => e = .returned (.tuple #[.slice none 0 0, .int .i64 (pressedF l s t)]) ∧ Below w.heap.size w w' := by
  have CP := Lib.hid (rSpans_any (c := c) h hc2 hc3 A3 t c3 hl hd)
  generalize pressedF l s t = F at *
  have hd1 : (F == 0) = false := by simpa using h0
  have hd2 : (F != 0) = true := by simpa using h0
  clear h hd h0
  go_enter Try.func51, Try.ntmps51
  go_wp2_with fail
  refine CP.out.mono ?_
  rintro e w1 ⟨rfl, hb⟩
  have B1 := Lib.hid hb
  clear hb
  go_wp2_with fail
  go_ret2
  exact ⟨rfl, B1.out⟩
open Classical in
set_option maxHeartbeats 8000000 in
theorem rFewest_yes (h : StkIn A l A2 s w) (hc2 : s.length ≤ c2) (hc3 : c2 ≤ 140737488355328) (A3 : Option Addr) (t : List Thr) (c3 : Nat) (hl : t.length ≤ 140737488355328) (hd : RdG 2 Thr.cs w A3 t) (h0 : pressedF l s t = 0) :
    Calls Try.prog 51 #[.slice A l.length c, .slice A2 s.length c2, .slice A3 t.length c3] w (FewRet (fewG l s t t.length t) w) := by
  have HS := Lib.hid h
  have HD := Lib.hid hd
  have H0 := Lib.hid h0
  have CP := Lib.hid (rSpans_any (c := c) h hc2 hc3 A3 t c3 hl hd)
  rw [h0] at CP
  obtain ⟨t1, t2⟩ := thrF_zero (pressed_zero h0).2.1
  have HT2 := Lib.hid t2
  have h2 := form_two (stackF_form (pressed_zero h0).1)
  have HTH := Lib.hid (fun (u : List Thr) (hu : pressedF l s u = 0) => thrF_zero (pressed_zero hu).2.1)
  obtain ⟨zs, hzs⟩ : ∃ zs, fewG l s t t.length t = zs := ⟨_, rfl⟩
  rw [hzs]
  have HZ := Lib.hid hzs
  obtain ⟨n, hm⟩ : ∃ n, (cus (rowsOf l s)).length = n + 1 := ⟨(cus (rowsOf l s)).length - 1, by omega⟩
  have HM := Lib.hid hm
  have CKS := Lib.hid (fun W (hb : Below w.heap.size w W) A4 (u : List Thr) c4 (hu : u.length ≤ 140737488355328) (hdu : RdG 2 Thr.cs W A4 u) => rSpans_any (c := c) (h.below hb) hc2 hc3 A4 u c4 hu hdu)
  have hl1 := h.l1
  have hl2 := h.l2
  have hs60 := (stackF_go (pressed_zero h0).1).2.1
  have CCU := Lib.hid (fun W (hb : Below w.heap.size w W) => rCoppers_any (c := c) (w := W) A2 s c2 hl1 (by omega) (HS.out.m.below hb) (HS.out.y.below hb))
  rw [← rows_eq (pressed_zero h0).1, hm] at CCU
  have hn : (cus (rowsOf l s)).length ≤ 1000 := Nat.le_trans (cus_few _ 0) (by rw [rows_eq (pressed_zero h0).1, List.length_map]; omega)
  rw [hm] at hn
  have HT3 := Lib.hid (show ∀ x ∈ t, 1 ≤ x.a ∧ x.a < x.b ∧ x.b ≤ ((n + 1 : Nat) : Int) by rw [← hm]; exact HT2.out)
  have HTH2 := Lib.hid (show ∀ (u : List Thr), pressedF l s u = 0 → u.length ≤ 200 ∧ ∀ x ∈ u, 1 ≤ x.a ∧ x.a < x.b ∧ x.b ≤ ((n + 1 : Nat) : Int) by rw [← hm]; exact HTH.out)
  clear h hd h0 t2 hzs hm h2 HT2 HTH
  obtain ⟨N, hN⟩ : ∃ N, N = n + 1 := ⟨_, rfl⟩
  rw [← hN] at CCU
  have HNN := Lib.hid hN
  have hN1 : N ≤ 1000 := by omega
  clear hN
  unfold FewRet
  go_enter Try.func51, Try.ntmps51
  go_wp2_with fail
  refine CP.out.mono ?_
  rintro e w2 ⟨rfl, hb2⟩
  have B2 := Lib.hid hb2
  have z2 := hb2.size
  have CC := Lib.hid (cloneThr_any A3 t c3 w2 (by omega) (HD.out.below B2.out))
  clear hb2
  go_wp2_with fail
  refine CC.out.mono ?_
  rintro e w3 ⟨v3, rfl, ho3, hb3⟩
  have B3 := Lib.hid (B2.out.trans (hb3.mono (by omega)))
  have z3 := hb3.size
  obtain ⟨Ax, cx, rfl, -, -, -⟩ := own_cells ho3
  have HO3 := Lib.hid ho3
  have HB23 := Lib.hid hb3
  have yl : IntKind.i64.wrap ((t.length : Int) - 1) = (t.length : Int) - 1 := IntWalk.i64_in _ (by omega)
  clear ho3 hb3
  go_wp2_with fail
  go_loopw [9, 10] (fun ov iv wr => ∃ (k : Nat) (o : List Thr), iv = .int .i64 ((k : Int) - 1) ∧ k ≤ o.length ∧ o.length ≤ 200 ∧ fewG l s t k o = fewG l s t t.length t ∧ wr.ownsRow w2.heap.size 64 2 ov o.length (fm thr1 thr2 o) ∧ Below w2.heap.size w2 wr) (fun _ iv _ => (intOf iv + 1).toNat)
  case atStart => exact ⟨t.length, t, rfl, Nat.le_refl _, t1, rfl, HO3.out, HB23.out⟩
  case round =>
    obtain ⟨k, o, rfl, hk, hol, hf, ho, hw⟩ := hrel
    have HF := Lib.hid hf
    have HW := Lib.hid hw
    have zw := hw.size
    have BW := Lib.hid (B2.out.trans (hw.mono (by omega)))
    obtain ⟨Ao, co, rfl, o1, o2, o3⟩ := own_rdT ho
    have HO := Lib.hid ho
    have HRO := Lib.hid o3
    clear hf ho o3
    cases k with
    | zero =>
      have HE := Lib.hid (show o = zs by have := HF.out; rw [HZ.out] at this; exact this)
      go_wp2_with fail
      go_ret2
      exact ⟨_, rfl, by rw [← HE.out]; exact own_lower HO.out (by omega), BW.out⟩
    | succ j =>
      have y0 : ((j + 1 : Nat) : Int) - 1 = (j : Int) := by omega
      have y1 : IntKind.i64.wrap ((j : Int) + 1) = (j : Int) + 1 := IntWalk.i64_in _ (by omega)
      have y2 : (0 : Int) ≤ (j : Int) := by omega
      have y3 : IntKind.i64.wrap ((j : Int) - 1) = (j : Int) - 1 := IntWalk.i64_in _ (by omega)
      have y4 : (j : Int) + 1 - 1 = (j : Int) := by omega
      rw [y0]
      have CL := Lib.hid (cloneThr_any Ao o co wr (by omega) HRO.out)
      clear hw
      go_wp2_with fail
      refine CL.out.mono ?_
      rintro e w4 ⟨v4, rfl, ho4, hb4⟩
      obtain ⟨A4, c4, rfl, -, -, h43⟩ := own_cells ho4
      obtain ⟨g4, rfl, hg4, -, -⟩ := h43 (by omega)
      have CD := Lib.hid (deleteThr_any wr.heap.size g4 c4 o j w4 (by omega) (by omega) ho4)
      have B4 := Lib.hid hb4
      have z4 := hb4.size
      clear ho4 hb4 h43
      go_wp2_with fail
      refine CD.out.mono ?_
      rintro e w5 ⟨rfl, ho5, hg5⟩
      have hE : (o.eraseIdx j).length = o.length - 1 := by rw [List.length_eraseIdx, if_pos (by omega)]
      have B5 := Lib.hid (B4.out.grown hg5 z4 (fun i e => by cases e; exact hg4))
      have z5 := B5.out.size
      have BW5 := Lib.hid (BW.out.trans (B5.out.mono (by omega)))
      have HY := Lib.hid (fun h1 h2 => few_yes (l := t) (out := o) (k := j) HM.out h1 h2)
      have HNO := Lib.hid (fun h1 => few_no (l := t) (out := o) (k := j) HM.out h1)
      rw [← hE] at ho5 ⊢
      have HEL := Lib.hid hE
      have hel : (o.eraseIdx j).length ≤ 200 := by omega
      have hjE : j ≤ (o.eraseIdx j).length := by omega
      generalize o.eraseIdx j = E at *
      obtain ⟨A5, c5, e5, -, -, h53⟩ := own_rdT ho5
      cases e5
      have HE5 := Lib.hid ho5
      have HR5 := Lib.hid h53
      have CK := Lib.hid (CKS.out w5 BW5.out _ E c4 (by omega) h53)
      clear ho5 hg5 h53 hE
      by_cases hp : pressedF l s E = 0
      · obtain ⟨-, hokE⟩ := HTH2.out E hp
        have HP := Lib.hid hp
        rw [hp] at CK
        clear hp
        have HOKE := Lib.hid hokE
        clear hokE
        have CSR := Lib.hid (fun W (hb : Below w5.heap.size w5 W) => sameReach_any A3 t c3 (some ⟨g4, 0, none⟩) E c4 N W (by omega) (by omega) (by omega) (by rw [HNN.out]; exact HT3.out) (by rw [HNN.out]; exact HOKE.out) (HD.out.below (BW5.out.trans (hb.mono (by omega)))) (HR5.out.below hb))
        have HSI := Lib.hid (show SameR t E N ↔ jT n E = jT n t by rw [HNN.out]; exact sameR_iff HT3.out HOKE.out)
        by_cases hj : jT n E = jT n t
        · rw [decide_eq_true (HSI.out.2 hj)] at CSR
          have HN := Lib.hid (HY.out HP.out hj)
          clear hj
          go_wp2_with fail
          refine CK.out.mono ?_
          rintro e w6 ⟨rfl, hb6⟩
          have B6 := Lib.hid (BW5.out.trans (hb6.mono (by omega)))
          have B56 := Lib.hid hb6
          have z6 := hb6.size
          clear hb6
          go_wp2_with fail
          refine (CCU.out _ B6.out).mono ?_
          rintro e w7 ⟨v7, rfl, ho7, hb7⟩
          obtain ⟨A7, c7, rfl, -, -, -⟩ := own_cells ho7
          have B57 := Lib.hid (B56.out.trans (hb7.mono z6))
          have z7 := hb7.size
          clear ho7 hb7
          go_wp2_with fail
          refine (CSR.out _ B57.out).mono ?_
          rintro e w8 ⟨rfl, hb8⟩
          have B58 := Lib.hid (B57.out.trans (hb8.mono (by omega)))
          clear hb8
          go_wp2_with fail
          go_roundw
          case rel => exact ⟨j, E, rfl, by omega, by omega, by rw [← HN.out]; exact HF.out, own_lower (own_below HE5.out B58.out) (by omega), (HW.out.trans (B5.out.mono zw)).trans (B58.out.mono (by omega))⟩
          case measure => (simp [intOf] <;> omega)
        · rw [decide_eq_false (fun e => hj (HSI.out.1 e))] at CSR
          have HN := Lib.hid (HNO.out (fun e => hj e.2))
          clear hj
          go_wp2_with fail
          refine CK.out.mono ?_
          rintro e w6 ⟨rfl, hb6⟩
          have B6 := Lib.hid (BW5.out.trans (hb6.mono (by omega)))
          have B56 := Lib.hid hb6
          have z6 := hb6.size
          clear hb6
          go_wp2_with fail
          refine (CCU.out _ B6.out).mono ?_
          rintro e w7 ⟨v7, rfl, ho7, hb7⟩
          obtain ⟨A7, c7, rfl, -, -, -⟩ := own_cells ho7
          have B57 := Lib.hid (B56.out.trans (hb7.mono z6))
          have z7 := hb7.size
          clear ho7 hb7
          go_wp2_with fail
          refine (CSR.out _ B57.out).mono ?_
          rintro e w8 ⟨rfl, hb8⟩
          have B58 := Lib.hid (B57.out.trans (hb8.mono (by omega)))
          clear hb8
          go_wp2_with fail
          go_roundw
          case rel => exact ⟨j, o, rfl, by omega, hol, by rw [← HN.out]; exact HF.out, own_below HO.out (B5.out.trans (B58.out.mono z5)), (HW.out.trans (B5.out.mono zw)).trans (B58.out.mono (by omega))⟩
          case measure => (simp [intOf] <;> omega)
      · have HN := Lib.hid (show fewG l s t (j + 1) o = fewG l s t j o from HNO.out (fun e => hp e.1))
        generalize pressedF l s E = F at *
        have hd1 : (F == 0) = false := by simpa using hp
        clear hp
        go_wp2_with (first
          | (go_at_call 41; refine CK.out.mono ?_; rintro e w6 ⟨rfl, hb6⟩; have B6 := Lib.hid (B5.out.trans (hb6.mono z5)); clear hb6))
        go_roundw
        case rel => exact ⟨j, o, rfl, by omega, hol, by rw [← HN.out]; exact HF.out, own_below HO.out B6.out, HW.out.trans (B6.out.mono zw)⟩
        case measure => (simp [intOf] <;> omega)
end
end Go.Proofs.Ytdlglnkhhbkndaa

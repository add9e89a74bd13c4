/- slices.Insert of one sub-board, at a slice of its own, whatever the world. -/
import Derived.Test.YtdlglnkhhbkndaaDelT
import Derived.Test.YtdlglnkhhbkndaaPrsd
import Derived.Shelf.Spec.SlicesInsertGrow
import Derived.Deep.AppendLies
namespace Go.Proofs.Ytdlglnkhhbkndaa
open Go.RowKit Go.Lib
set_option linter.unusedSimpArgs false
set_option linter.unusedVariables false
set_option maxRecDepth 100000

theorem infoSub : (Try.prog.info? 108).map (fun i => (i.zero, i.size, i.bytes)) = some (some (.agg #[.int .i64 0, .int .i64 0, .bool false]), 3, 24) := by kernel_rfl
theorem sizeSub (w : World) : (Go.sizeOf 108).run Try.prog w = .ok 3 w := by kernel_rfl
/-- The operation 'copy', at elements of as many cells as one likes. -/
theorem run_copy_k {P : Program} (w : World) (dT sT ty elem : TypeId) (k : Nat) (b o dLen dCap : Nat) (a : Addr) (sLen sCap n : Nat) (cs : List Value)
    (hu : P.underlying dT = some (.slice elem)) (hs : (P.info? elem).map (·.size) = some k) (hnm : Nat.min sLen dLen = n) (hn : cs.length = n * k)
    (hsrc : ∀ j v, cs[j]? = some v → w.cell? (a.add j) = some v) (hc : ∀ j, j < cs.length → (w.cell? ⟨b, o + j, none⟩).isSome = true) (hf : ∀ j, j < cs.length → w.frozen? ⟨b, o + j, none⟩ = false) (h1 : ∀ v ∈ cs, v.oneCell' = true) :
    (Builtin.copy_ #[dT, sT] ty #[.slice (some ⟨b, o, none⟩) dLen dCap, .slice (some a) sLen sCap]).run P w = .ok (goInt n) (w.setCells b o cs) := by
  have hl := run_loadCells_list (P := P) w a cs hsrc
  have hst := run_storeCells_cells (P := P) b o cs 0 w (by simpa using hc) (by simpa using hf) h1
  cases hq : P.info? elem with
  | none => simp [hq] at hs
  | some i =>
    have hi : i.size = k := by simpa [hq] using hs
    simp [Builtin.copy_, run_underlying hu, Builtin.lenOf, Builtin.firstCells, sizeOf, typeInfo, hq, hi, hnm, ← hn, hl, hst]
/-- What an insertion leaves in the cells. -/
def insL (xs : List Value) (k : Nat) (vs : List Value) : List Value := xs.take (k * 3) ++ vs ++ xs.drop (k * 3)
theorem insL_shift {ys xs : List Value} {n k : Nat} {vs : List Value} (hx : xs.length = n * 3) (hv : vs.length = 3) (hk : k ≤ n) (hy : ys.length = (n + 1) * 3) (hyx : ys.take (n * 3) = xs) :
    putL (putL ys ((k + 1) * 3) (xs.drop (k * 3))) (k * 3) vs = insL xs k vs := by
  apply List.ext_getElem?
  intro i
  unfold insL
  by_cases hi : i < (n + 1) * 3
  · rw [putL_get _ _ _ _ (by rw [putL_len, hy]; exact hi), hv]
    have hyi : i < n * 3 → ys[i]? = xs[i]? := by
      intro h
      rw [← hyx, List.getElem?_take_of_lt h]
    by_cases h1 : k * 3 ≤ i ∧ i < k * 3 + 3
    · rw [if_pos h1, List.append_assoc, List.getElem?_append_right (by rw [List.length_take]; omega), List.length_take, hx, Nat.min_eq_left (by omega), List.getElem?_append_left (by rw [hv]; omega)]
    · rw [if_neg h1, putL_get _ _ _ _ (by rw [hy]; exact hi), List.length_drop, hx]
      by_cases h2 : i < k * 3
      · rw [if_neg (by omega), List.append_assoc, List.getElem?_append_left (by rw [List.length_take]; omega), List.getElem?_take_of_lt h2, hyi (by omega)]
      · rw [if_pos (by omega), List.getElem?_append_right (by rw [List.length_append, List.length_take]; omega), List.length_append, List.length_take, hx, hv, Nat.min_eq_left (by omega), List.getElem?_drop, List.getElem?_drop]
        congr 1
        omega
  · rw [List.getElem?_eq_none (by rw [putL_len, putL_len, hy]; omega), List.getElem?_eq_none (by rw [List.length_append, List.length_append, List.length_take, List.length_drop, hx, hv]; omega)]
theorem own_len {w : World} {base n size : Nat} {T : TypeId} {v : Value} {xs : List Value} (h : w.ownsRow base T size v n xs) : xs.length = n * size := h.1
/-- A row that has room, as a longer one. -/
theorem own_more {base : Nat} {T : TypeId} {size n m cap g : Nat} {w : World} {xs : List Value} (h : w.ownsRow base T size (.slice (some ⟨g, 0, none⟩) n cap) n xs) (hnm : n ≤ m) (hm : m ≤ cap) : ∃ ys, w.ownsRow base T size (.slice (some ⟨g, 0, none⟩) m cap) m ys ∧ ys.take (n * size) = xs := by
  rcases own_open h with ⟨h0, _⟩ | ⟨g', cap', cur, e, h1, h2, h3, h4, h5, h6⟩
  · cases h0
  · cases e
    refine ⟨cur.toList.take (m * size), own_mk h1 h2 hm h4 h5 rfl, ?_⟩
    rw [List.take_take, Nat.min_eq_left (Nat.mul_le_mul_right _ hnm), h6]
set_option maxHeartbeats 4000000 in
/-- There is room, and it is not put at the end. -/
theorem insSub_shift (base g n cap k vb : Nat) (xs : List Value) (a b : Int) (q : Bool) (w : World) (hk : k < n) (hroom : n + 1 ≤ cap) (hl : n ≤ 100000) (h : w.ownsRow base 108 3 (.slice (some ⟨g, 0, none⟩) n cap) n xs)
    (h1x : ∀ u ∈ xs, u.oneCell' = true) (hvb : w.heap[vb]? = some (.cells #[.int .i64 a, .int .i64 b, .bool q] 108 (0, 0))) (hne : vb ≠ g) :
    Calls Try.prog 97 #[.slice (some ⟨g, 0, none⟩) n cap, .int .i64 (k : Nat), .slice (some ⟨vb, 0, none⟩) 1 1] w fun e w' => e = .returned (.slice (some ⟨g, 0, none⟩) (n + 1) cap) ∧ w'.ownsRow base 108 3 (.slice (some ⟨g, 0, none⟩) (n + 1) cap) (n + 1) (insL xs k [.int .i64 a, .int .i64 b, .bool q]) ∧ w.grownBy w' (some g) := by
  obtain ⟨A9, c9, e9, q1, q2, q3⟩ := own_cells h
  cases e9
  have q2' : cap ≤ 9223372036854775807 := q2
  obtain ⟨ys, hys, hyx⟩ := own_more h (Nat.le_succ n) hroom
  have hxl := own_len h
  have hyl := own_len hys
  obtain ⟨cur, hcur⟩ : ∃ cur, w.heap[g]? = some (.cells cur 108 (0, 0)) ∧ cur.size = cap * 3 := by
    rcases own_open h with ⟨h0, _⟩ | ⟨g', cap', cur, e, h1, h2, h3, h4, h5, h6⟩
    · cases h0
    · cases e
      exact ⟨cur, h2, h5⟩
  obtain ⟨vs, hvs⟩ : ∃ vs : List Value, vs = [.int .i64 a, .int .i64 b, .bool q] := ⟨_, rfl⟩
  have hvl : vs.length = 3 := by rw [hvs]; rfl
  have hvc : ∀ j u, vs[j]? = some u → w.cell? ⟨vb, j, none⟩ = some u := by
    intro j u hu
    rw [blk_cell hvb, hvs] at *
    simpa using hu
  obtain ⟨W1, hW1⟩ : ∃ W1, W1 = w.drew.setCells g ((k + 1) * 3) (xs.drop (k * 3)) := ⟨_, rfl⟩
  have o1 : W1.ownsRow base 108 3 (.slice (some ⟨g, 0, none⟩) (n + 1) cap) (n + 1) (putL ys ((k + 1) * 3) (xs.drop (k * 3))) := by
    rw [hW1]
    exact own_setCells _ _ w.drew _ hys
  have g1 : w.grownBy W1 (some g) := by
    rw [hW1]
    exact grown_setCells _ _ w w.drew (gb_drew (gb_refl w (some g)))
  have ycell : ∀ (W : World) (zs : List Value), W.ownsRow base 108 3 (.slice (some ⟨g, 0, none⟩) (n + 1) cap) (n + 1) zs → ∀ j, j < (n + 1) * 3 → (W.cell? ⟨g, j, none⟩).isSome = true ∧ W.frozen? ⟨g, j, none⟩ = false := by
    intro W zs hz j hj
    obtain ⟨u, hu⟩ : ∃ u, zs[j]? = some u := ⟨_, List.getElem?_eq_getElem (by rw [own_len hz]; exact hj)⟩
    obtain ⟨r1, r2⟩ := own_cellC hz hu
    exact ⟨by rw [r1]; rfl, r2⟩
  have hsz : (Try.prog.info? 108).map (·.size) = some 3 := by kernel_rfl
  have hcp1 : ∀ ty dl sl dc sc, dl = n - k → sl = n + 1 - k → (Builtin.copy_ #[105, 105] ty #[.slice (some ⟨g, (k + 1) * 3, none⟩) dl dc, .slice (some ⟨g, k * 3, none⟩) sl sc]).run Try.prog w.drew = .ok (goInt (n - k : Nat)) W1 := fun ty dl sl dc sc hdl hsl => by
    subst hdl hsl
    rw [hW1]
    exact run_copy_k w.drew _ _ ty 108 3 g ((k + 1) * 3) (n - k) dc ⟨g, k * 3, none⟩ (n + 1 - k) sc (n - k) (xs.drop (k * 3)) Try.underlying105 hsz (by simp only [Nat.min_def]; split <;> omega) (by rw [List.length_drop, hxl]; omega)
      (fun j u hj => by rw [Addr.add_lit]; rw [List.getElem?_drop] at hj; exact (own_cellC h hj).1)
      (fun j hj => (ycell w _ hys _ (by rw [List.length_drop, hxl] at hj; omega)).1)
      (fun j hj => (ycell w _ hys _ (by rw [List.length_drop, hxl] at hj; omega)).2)
      (fun u hu => h1x u (List.mem_of_mem_drop hu))
  have hcp2 : ∀ ty dl dc, dl = n + 1 - k → (Builtin.copy_ #[105, 105] ty #[.slice (some ⟨g, k * 3, none⟩) dl dc, .slice (some ⟨vb, 0, none⟩) 1 1]).run Try.prog W1 = .ok (goInt 1) (W1.setCells g (k * 3) vs) := fun ty dl dc hdl =>
    run_copy_k W1 _ _ ty 108 3 g (k * 3) dl dc ⟨vb, 0, none⟩ 1 1 1 vs Try.underlying105 hsz (by simp only [Nat.min_def]; split <;> omega) (by rw [hvl])
      (fun j u hj => by
        rw [Addr.add_lit, Nat.zero_add, hW1, World.cell?_setCells_out _ _ _ _ _ (fun e _ => absurd e hne)]
        exact hvc j u hj)
      (fun j hj => (ycell W1 _ o1 _ (by omega)).1) (fun j hj => (ycell W1 _ o1 _ (by omega)).2)
      (fun u hu => by rw [hvs] at hu; simp at hu; rcases hu with rfl | rfl | rfl <;> rfl)
  have hov : ∀ lb cb, (callFunc 108 #[.slice (some ⟨vb, 0, none⟩) 1 1, .slice (some ⟨g, (k + 1) * 3, none⟩) lb cb]).run Try.prog w = .ok (.value (.bool false)) w := fun lb cb => by
    rw [run_callFunc_extern Try.func108 (by kernel_rfl) (by kernel_rfl) (by kernel_rfl) (e := Extern.SlicesOverlaps.overlaps #[105, 105] #[4]) (by kernel_rfl),
      Lib.run_overlaps_apart w 105 4 108 Try.underlying105 3 (fun w => sizeSub w) ⟨vb, 0, none⟩ ⟨g, (k + 1) * 3, none⟩ 1 1 lb cb hne 108 108 3 (cap * 3) (by simp [World.shape?, hvb]) (by simp [World.shape?, hcur.1, hcur.2]) (by omega) (blk_free hvb _) (blk_free hvb _)]
    rfl
  have hfin := own_setCells vs (k * 3) _ _ o1
  rw [hvs, insL_shift (n := n) hxl rfl (by omega) hyl hyx, ← hvs] at hfin
  have HF := Lib.hid hfin
  have HGR := Lib.hid (grown_setCells vs (k * 3) _ _ g1)
  have hw1 : IntKind.i64.wrap ((k : Int) + 1) = (k : Int) + 1 := IntWalk.i64_in _ (by omega)
  have hw2 : IntKind.i64.wrap ((n : Int) + 1) = (n : Int) + 1 := IntWalk.i64_in _ (by omega)
  have hb1 : (0 : Int) ≤ (k : Int) + 1 := by omega
  have hb2 : (0 : Int) ≤ (k : Int) := by omega
  have hb3 : (k : Int) ≤ (n : Int) := by omega
  have hb4 : (k : Int) + 1 ≤ (n : Int) + 1 := by omega
  have hb5 : (n : Int) + 1 ≤ (cap : Int) := by omega
  have hb6 : (0 : Int) ≤ (n : Int) + 1 := by omega
  have hb7 : (k : Int) ≤ (n : Int) + 1 := by omega
  have hb8 : ¬ ((k : Int) = (n : Int)) := by omega
  have hb9 : ¬ (cap : Int) < (n : Int) + 1 := by omega
  have hc1 : ¬ cap = k + 1 := by omega
  have hc2 : ¬ cap = k := by omega
  clear h hys hyx hxl hyl hvb hvc hW1 o1 g1 ycell hfin q3 h1x hcur
  go_enter Try.func97, Try.ntmps97
  go_wp2_with (simp only [hov])
  go_region_law (refine step_copy_runI rfl _ _ 105 105 rfl _ _ (by simp [Act.eval, Act.put]) (by simp [Act.eval, Act.put]) (hcp1 _ _ _ _ _ (by omega) (by omega)) ?_)
  go_wp2_with (at_builtin; refine wpList_copy_runI _ rfl _ _ 105 105 rfl _ _ rfl rfl (hcp2 _ _ _ (by omega)) ?_)
  go_ret
  subst hvs
  exact ⟨rfl, HF.out, HGR.out⟩
theorem insL_grow {R0 xs : List Value} {n k : Nat} {vs : List Value} (hx : xs.length = n * 3) (hv : vs.length = 3) (hk : k ≤ n) (hR : R0.length = (n + 1) * 3) (hRx : R0.take (k * 3) = xs.take (k * 3)) :
    putL (putL R0 (k * 3) vs) ((k + 1) * 3) (xs.drop (k * 3)) = insL xs k vs := by
  apply List.ext_getElem?
  intro i
  unfold insL
  by_cases hi : i < (n + 1) * 3
  · rw [putL_get _ _ _ _ (by rw [putL_len, hR]; exact hi), List.length_drop, hx]
    by_cases h1 : (k + 1) * 3 ≤ i
    · rw [if_pos (by omega), List.getElem?_append_right (by rw [List.length_append, List.length_take]; omega), List.length_append, List.length_take, hx, hv, Nat.min_eq_left (by omega), List.getElem?_drop, List.getElem?_drop]
      congr 1
      omega
    · rw [if_neg (by omega), putL_get _ _ _ _ (by rw [hR]; exact hi), hv]
      by_cases h2 : i < k * 3
      · have : R0[i]? = xs[i]? := by
          rw [← List.getElem?_take_of_lt h2, hRx, List.getElem?_take_of_lt h2]
        rw [if_neg (by omega), List.append_assoc, List.getElem?_append_left (by rw [List.length_take]; omega), List.getElem?_take_of_lt h2, this]
      · rw [if_pos (by omega), List.append_assoc, List.getElem?_append_right (by rw [List.length_take]; omega), List.length_take, hx, Nat.min_eq_left (by omega), List.getElem?_append_left (by rw [hv]; omega)]
  · rw [List.getElem?_eq_none (by rw [putL_len, putL_len, hR]; omega), List.getElem?_eq_none (by rw [List.length_append, List.length_append, List.length_take, List.length_drop, hx, hv]; omega)]
set_option maxHeartbeats 4000000 in
/-- There is no room, and it is not put at the end. -/
theorem insSub_grow (base g n cap k vb : Nat) (xs : List Value) (a b : Int) (q : Bool) (w : World) (hk : k < n) (hroom : cap < n + 1) (hl : n ≤ 100000) (hbase : base ≤ w.heap.size) (h : w.ownsRow base 108 3 (.slice (some ⟨g, 0, none⟩) n cap) n xs)
    (h1x : ∀ u ∈ xs, u.oneCell' = true) (hvb : w.heap[vb]? = some (.cells #[.int .i64 a, .int .i64 b, .bool q] 108 (0, 0))) :
    Calls Try.prog 97 #[.slice (some ⟨g, 0, none⟩) n cap, .int .i64 (k : Nat), .slice (some ⟨vb, 0, none⟩) 1 1] w fun e w' => ∃ G, e = .returned (.slice (some ⟨w.heap.size, 0, none⟩) (n + 1) G) ∧ w'.ownsRow base 108 3 (.slice (some ⟨w.heap.size, 0, none⟩) (n + 1) G) (n + 1) (insL xs k [.int .i64 a, .int .i64 b, .bool q]) ∧ Below w.heap.size w w' := by
  obtain ⟨A9, c9, e9, q1, q2, q3⟩ := own_cells h
  cases e9
  have q2' : cap ≤ 9223372036854775807 := q2
  have hxl := own_len h
  obtain ⟨_, e9, _, hgl, _⟩ := q3 (by omega)
  cases e9
  have hvw := blk_lt hvb
  obtain ⟨i0, hi0, hz0, hzs, hzb⟩ := info_parts infoSub
  obtain ⟨vs, hvs⟩ : ∃ vs : List Value, vs = [.int .i64 a, .int .i64 b, .bool q] := ⟨_, rfl⟩
  have hvl : vs.length = 3 := by rw [hvs]; rfl
  have hvc : ∀ j u, vs[j]? = some u → w.cell? ⟨vb, j, none⟩ = some u := by
    intro j u hu
    rw [blk_cell hvb, hvs] at *
    simpa using hu
  have hsz : (Try.prog.info? 108).map (·.size) = some 3 := by kernel_rfl
  have hkk : (n : Int) + 1 - (k : Int) = ((n + 1 - k : Nat) : Int) := by omega
  have hik : k + (n + 1 - k) = n + 1 := by omega
  have hold : (Builtin.firstCells i0.size k (.slice (some ⟨g, 0, none⟩) k cap)).run Try.prog w.drew = .ok (xs.take (k * 3)).toArray w.drew := by
    rw [hzs]
    exact run_firstCells_some w.drew 3 k ⟨g, 0, none⟩ k cap (xs.take (k * 3)) (by rw [List.length_take, hxl]; omega) (fun j v hj => by
      rw [Addr.add_lit, Nat.zero_add]
      rw [List.getElem?_take] at hj
      split at hj
      · exact (own_cellC h hj).1
      · cases hj)
  obtain ⟨G, hG⟩ : ∃ G, G = grownCap w (n + 1) cap 108 := ⟨_, rfl⟩
  have hGn : n + 1 ≤ G := by rw [hG]; exact grownCap_ge w _ _ _
  have hGm : G ≤ maxLen := by rw [hG]; exact grownCap_le_maxLen w (n + 1) cap 108 (by unfold maxLen; omega)
  have hG63 : G ≤ 9223372036854775807 := hGm
  obtain ⟨ROW, hROW⟩ : ∃ ROW : Array Value, ROW = (xs.take (k * 3)).toArray ++ Builtin.zeroCells (Value.agg #[.int .i64 0, .int .i64 0, .bool false]).cells (n + 1 - k) ++ Builtin.zeroCells (Value.agg #[.int .i64 0, .int .i64 0, .bool false]).cells (G - (n + 1)) := ⟨_, rfl⟩
  have hRs : ROW.size = G * 3 := by
    rw [hROW]
    simp [Builtin.zeroCells, Value.cells, hxl]
    omega
  have hrz : ∀ ty, (Builtin.append_ #[105, 3] ty #[.slice (some ⟨g, 0, none⟩) k cap, .int .i64 ((n : Int) + 1 - (k : Int))]).run Try.prog w = .ok (.slice (some ⟨w.heap.size, 0, none⟩) (n + 1) G) (w.drew.alloc (.cells ROW 108)) := fun ty => by
    have h := Lib.run_append_grow_zeros w 105 3 ty 108 i0 _ .i64 .i64 Try.underlying105 Try.underlying3 hi0 hz0 (some ⟨g, 0, none⟩) k cap (xs.take (k * 3)) hold (n + 1 - k) (by omega) (by rw [hzs]; omega) (by omega) (by omega) (by rw [hzb]; omega) (by rw [hzb, hik]; exact growslice_fits hroom (by omega))
    rw [hik, ← hG, ← hROW] at h
    rw [hkk]
    exact h
  obtain ⟨W1, hW1⟩ : ∃ W1, W1 = w.drew.alloc (.cells ROW 108) := ⟨_, rfl⟩
  rw [← hW1] at hrz
  obtain ⟨R0, hR0⟩ : ∃ R0, R0 = ROW.toList.take ((n + 1) * 3) := ⟨_, rfl⟩
  have o1 : W1.ownsRow base 108 3 (.slice (some ⟨w.heap.size, 0, none⟩) (n + 1) G) (n + 1) R0 := by
    rw [hW1]
    exact own_mk hbase (MapKept.heap_alloc w.drew (.cells ROW 108)).1 hGn hGm hRs hR0.symm
  have hRx : R0.take (k * 3) = xs.take (k * 3) := by
    rw [hR0, List.take_take, Nat.min_eq_left (by omega), hROW, Array.toList_append, Array.toList_append, List.append_assoc]
    exact List.take_left' (by rw [List.length_take, hxl]; omega)
  have b1 : Below w.heap.size w W1 := by
    rw [hW1]
    exact (below_drewN (Below.refl w.heap.size w) 1).alloc (Nat.le_refl _) _
  have hR0l := own_len o1
  obtain ⟨W2, hW2⟩ : ∃ W2, W2 = W1.setCells w.heap.size (k * 3) vs := ⟨_, rfl⟩
  have o2 : W2.ownsRow base 108 3 (.slice (some ⟨w.heap.size, 0, none⟩) (n + 1) G) (n + 1) (putL R0 (k * 3) vs) := by
    rw [hW2]
    exact own_setCells _ _ W1 _ o1
  have b2 : Below w.heap.size w W2 := by
    rw [hW2]
    exact b1.trans (below_gb (grown_setCells vs (k * 3) W1 W1 (gb_refl _ (some w.heap.size))) b1.size (fun g e => by cases e; exact Nat.le_refl _))
  obtain ⟨W3, hW3⟩ : ∃ W3, W3 = W2.drew.setCells w.heap.size ((k + 1) * 3) (xs.drop (k * 3)) := ⟨_, rfl⟩
  have o3 : W3.ownsRow base 108 3 (.slice (some ⟨w.heap.size, 0, none⟩) (n + 1) G) (n + 1) (insL xs k vs) := by
    have := own_setCells (xs.drop (k * 3)) ((k + 1) * 3) W2.drew _ o2
    rw [insL_grow (n := n) hxl hvl (by omega) hR0l hRx, ← hW3] at this
    exact this
  have b3 : Below w.heap.size w W3 := by
    rw [hW3]
    exact (below_drewN b2 1).trans (below_gb (grown_setCells _ ((k + 1) * 3) _ W2.drew (gb_refl _ (some w.heap.size))) (by simpa using b2.size) (fun g e => by cases e; exact Nat.le_refl _))
  have ycell : ∀ (W : World) (zs : List Value), W.ownsRow base 108 3 (.slice (some ⟨w.heap.size, 0, none⟩) (n + 1) G) (n + 1) zs → ∀ j, j < (n + 1) * 3 → (W.cell? ⟨w.heap.size, j, none⟩).isSome = true ∧ W.frozen? ⟨w.heap.size, j, none⟩ = false := by
    intro W zs hz j hj
    obtain ⟨u, hu⟩ : ∃ u, zs[j]? = some u := ⟨_, List.getElem?_eq_getElem (by rw [own_len hz]; exact hj)⟩
    obtain ⟨r1, r2⟩ := own_cellC hz hu
    exact ⟨by rw [r1]; rfl, r2⟩
  have hcpA : ∀ ty dl dc, dl = n + 1 - k → (Builtin.copy_ #[105, 105] ty #[.slice (some ⟨w.heap.size, k * 3, none⟩) dl dc, .slice (some ⟨vb, 0, none⟩) 1 1]).run Try.prog W1 = .ok (goInt 1) W2 := fun ty dl dc hdl => by
    rw [hW2]
    exact run_copy_k W1 _ _ ty 108 3 w.heap.size (k * 3) dl dc ⟨vb, 0, none⟩ 1 1 1 vs Try.underlying105 hsz (by simp only [Nat.min_def]; split <;> omega) (by rw [hvl])
      (fun j u hj => by
        rw [Addr.add_lit, Nat.zero_add]
        exact (b1.cell (p := ⟨vb, j, none⟩) hvw).trans (hvc j u hj))
      (fun j hj => (ycell W1 _ o1 _ (by omega)).1) (fun j hj => (ycell W1 _ o1 _ (by omega)).2)
      (fun u hu => by rw [hvs] at hu; simp at hu; rcases hu with rfl | rfl | rfl <;> rfl)
  have hcpB : ∀ ty dl sl dc sc, dl = n - k → sl = n - k → (Builtin.copy_ #[105, 105] ty #[.slice (some ⟨w.heap.size, (k + 1) * 3, none⟩) dl dc, .slice (some ⟨g, k * 3, none⟩) sl sc]).run Try.prog W2.drew = .ok (goInt (n - k : Nat)) W3 := fun ty dl sl dc sc hdl hsl => by
    subst hdl hsl
    rw [hW3]
    exact run_copy_k W2.drew _ _ ty 108 3 w.heap.size ((k + 1) * 3) (n - k) dc ⟨g, k * 3, none⟩ (n - k) sc (n - k) (xs.drop (k * 3)) Try.underlying105 hsz (by simp only [Nat.min_def]; split <;> omega) (by rw [List.length_drop, hxl]; omega)
      (fun j u hj => by rw [Addr.add_lit]; rw [List.getElem?_drop] at hj; exact (own_cellC (own_below h (below_drewN b2 1)) hj).1)
      (fun j hj => (ycell W2.drew _ o2 _ (by rw [List.length_drop, hxl] at hj; omega)).1)
      (fun j hj => (ycell W2.drew _ o2 _ (by rw [List.length_drop, hxl] at hj; omega)).2)
      (fun u hu => h1x u (List.mem_of_mem_drop hu))
  have HO := Lib.hid o3
  have HB := Lib.hid b3
  have hw1 : IntKind.i64.wrap ((k : Int) + 1) = (k : Int) + 1 := IntWalk.i64_in _ (by omega)
  have hw2 : IntKind.i64.wrap ((n : Int) + 1) = (n : Int) + 1 := IntWalk.i64_in _ (by omega)
  have hw3 : IntKind.i64.wrap ((n : Int) + 1 - (k : Int)) = (n : Int) + 1 - (k : Int) := IntWalk.i64_in _ (by omega)
  have hb1 : (0 : Int) ≤ (k : Int) + 1 := by omega
  have hb2 : (0 : Int) ≤ (k : Int) := by omega
  have hb3 : (k : Int) ≤ (n : Int) := by omega
  have hb4 : (k : Int) + 1 ≤ (n : Int) + 1 := by omega
  have hb7 : (k : Int) ≤ (n : Int) + 1 := by omega
  have hb8 : ¬ ((k : Int) = (n : Int)) := by omega
  have hb9 : (cap : Int) < (n : Int) + 1 := by omega
  have hc1 : ¬ G = k + 1 := by omega
  have hc2 : ¬ G = k := by omega
  have hc3 : ¬ cap = k := by omega
  clear h hkk hik hold hG hROW hRs hW1 hR0 o1 hRx b1 hR0l hW2 o2 b2 hW3 o3 b3 ycell q3 h1x hvb hvc hxl
  go_enter Try.func97, Try.ntmps97
  go_wp2_with (first
    | (at_builtin; refine Lib.wpList_append_run _ rfl _ _ _ _ rfl _ _ rfl rfl _ _ (hrz _) ?_)
    | (at_builtin; refine wpList_copy_runI _ rfl _ _ 105 105 rfl _ _ rfl rfl (hcpA _ _ _ (by omega)) ?_))
  go_region_law (refine step_copy_runI rfl _ _ 105 105 rfl _ _ (by simp [Act.eval, Act.put]) (by simp [Act.eval, Act.put]) (hcpB _ _ _ _ _ (by omega) (by omega)) ?_)
  go_wp2_with fail
  go_ret
  subst hvs
  exact ⟨G, rfl, HO.out, HB.out⟩
set_option maxHeartbeats 4000000 in
/-- It is put at the end. -/
theorem insSub_end (base n c vb : Nat) (A : Option Addr) (xs : List Value) (a b : Int) (q : Bool) (w : World) (hl : n ≤ 100000) (hbase : base ≤ w.heap.size) (h : w.ownsRow base 108 3 (.slice A n c) n xs)
    (hvb : w.heap[vb]? = some (.cells #[.int .i64 a, .int .i64 b, .bool q] 108 (0, 0))) :
    Calls Try.prog 97 #[.slice A n c, .int .i64 (n : Nat), .slice (some ⟨vb, 0, none⟩) 1 1] w fun e w' => ∃ v', e = .returned v' ∧ w'.ownsRow base 108 3 v' (n + 1) (insL xs n [.int .i64 a, .int .i64 b, .bool q]) ∧ w.grownBy w' (Value.slice A n c).ownBlock := by
  obtain ⟨i0, hi0, hz0, hzs, hzb⟩ := info_parts infoSub
  obtain ⟨A9, c9, e9, q1, q2, q3⟩ := own_cells h
  cases e9
  have q2' : c ≤ 9223372036854775807 := q2
  have hxl := own_len h
  have hins : insL xs n [.int .i64 a, .int .i64 b, .bool q] = xs ++ [.int .i64 a, .int .i64 b, .bool q] := by
    unfold insL
    rw [List.take_of_length_le (by omega), List.drop_eq_nil_of_le (by omega), List.append_nil]
  rw [hins]
  have HO := Lib.hid h
  have hvc : ∀ j u, ([.int .i64 a, .int .i64 b, .bool q] : List Value)[j]? = some u → w.cell? ((⟨vb, 0, none⟩ : Addr).add j) = some u := by
    intro j u hu
    rw [Addr.add_lit, Nat.zero_add, blk_cell hvb]
    simpa using hu
  have HV := Lib.hid hvc
  have hb1 : (0 : Int) ≤ (n : Int) := by omega
  have hb2 : ((n : Int) == (n : Int)) = true := by simp
  clear h hins hvc hvb hxl q3
  by_cases hcn : c = n
  · obtain rfl : n = c := hcn.symm
    go_enter Try.func97, Try.ntmps97
    go_wp2_with (first
      | (at_builtin; go_loud (refine wpList_append_lies _ rfl (.tmp 23) (.tmp 24) 105 rfl base 108 i0 (.agg #[.int .i64 0, .int .i64 0, .bool false]) 3 24 Try.underlying105 hi0 hz0 hzs hzb rfl (by omega) (.slice A n n) n xs rfl HO.out ⟨vb, 0, none⟩ 1 1 [.int .i64 a, .int .i64 b, .bool q] rfl rfl HV.out (by simp [Value.oneCell']) (by omega) (by unfold maxLen; omega) (by omega) hbase w.heap.size rfl ?_); intro gg cap w5 hown5 hgrow hat5 hlt5))
    go_ret
    exact ⟨_, rfl, hown5, hgrow⟩
  · go_enter Try.func97, Try.ntmps97
    go_wp2_with (first
      | (at_builtin; go_loud (refine wpList_append_lies _ rfl (.tmp 23) (.tmp 24) 105 rfl base 108 i0 (.agg #[.int .i64 0, .int .i64 0, .bool false]) 3 24 Try.underlying105 hi0 hz0 hzs hzb rfl (by omega) (.slice A n c) n xs rfl HO.out ⟨vb, 0, none⟩ 1 1 [.int .i64 a, .int .i64 b, .bool q] rfl rfl HV.out (by simp [Value.oneCell']) (by omega) (by unfold maxLen; omega) (by omega) hbase w.heap.size rfl ?_); intro gg cap w5 hown5 hgrow hat5 hlt5))
    go_ret
    exact ⟨_, rfl, hown5, hgrow⟩
theorem insSub_any (base n k vb : Nat) (v : Value) (xs : List Value) (a b : Int) (q : Bool) (w : World) (hk : k ≤ n) (hl : n ≤ 100000) (hbase : base ≤ w.heap.size) (h : w.ownsRow base 108 3 v n xs)
    (h1x : ∀ u ∈ xs, u.oneCell' = true) (hvb : w.heap[vb]? = some (.cells #[.int .i64 a, .int .i64 b, .bool q] 108 (0, 0))) (hne : v.ownBlock ≠ some vb) :
    Calls Try.prog 97 #[v, .int .i64 (k : Nat), .slice (some ⟨vb, 0, none⟩) 1 1] w fun e w' => ∃ v', e = .returned v' ∧ w'.ownsRow base 108 3 v' (n + 1) (insL xs k [.int .i64 a, .int .i64 b, .bool q]) ∧ w.grownBy w' v.ownBlock := by
  obtain ⟨A9, c9, rfl, q1, q2, q3⟩ := own_cells h
  by_cases hkn : k = n
  · subst hkn
    exact insSub_end base k c9 vb A9 xs a b q w hl hbase h hvb
  · obtain ⟨g, rfl, -, -, -⟩ := q3 (by omega)
    by_cases hroom : n + 1 ≤ c9
    · refine (insSub_shift base g n c9 k vb xs a b q w (by omega) hroom hl h h1x hvb (fun e => hne (by rw [e]; rfl))).mono ?_
      rintro e w' ⟨rfl, ho, hg⟩
      exact ⟨_, rfl, ho, hg⟩
    · refine (insSub_grow base g n c9 k vb xs a b q w (by omega) (by omega) hl hbase h h1x hvb).mono ?_
      rintro e w' ⟨G, rfl, ho, hb⟩
      exact ⟨_, rfl, ho, ⟨hb.os, hb.tape, hb.output, hb.size, fun j hj _ => hb.block j hj⟩⟩
end Go.Proofs.Ytdlglnkhhbkndaa

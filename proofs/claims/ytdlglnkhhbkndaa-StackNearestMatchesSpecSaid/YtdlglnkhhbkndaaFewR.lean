/- The fewest sheets, row by row (fewest of the reference), whatever the world. -/
import Derived.Test.YtdlglnkhhbkndaaFews
import Derived.Test.YtdlglnkhhbkndaaFewP
import Derived.Deep.OwnRows
namespace Go.Proofs.Ytdlglnkhhbkndaa
open Go.RowKit Go.Maps
set_option linter.unusedSimpArgs false
set_option linter.unusedVariables false
set_option maxRecDepth 100000

/-- The rows of the reference, the top one first. -/
inductive WCh (m : Nat) : List Nat → List (List Int) → Prop
  | nil : WCh m [] [[0]]
  | cons {gs : List Nat} {Wp : List Int} {Ws : List (List Int)} {g : Nat} {W : List Int} : WCh m gs (Wp :: Ws) → WGo Wp g m Wp.length 1 W → WCh m (g :: gs) (W :: Wp :: Ws)
theorem wch_len {m : Nat} {gs : List Nat} {Ws : List (List Int)} (h : WCh m gs Ws) : ∃ W Ws', Ws = W :: Ws' ∧ W.length = 1 + m * gs.sum ∧ Ws'.length = gs.length := by
  induction h with
  | nil => exact ⟨_, _, rfl, rfl, rfl⟩
  | cons _ hg ih =>
    obtain ⟨W, Ws', e, h1, h2⟩ := ih
    cases e
    exact ⟨_, _, rfl, by rw [hg.len, h1, List.sum_cons, Nat.mul_add]; omega, by rw [List.length_cons, List.length_cons, h2]⟩
theorem wch_hi {m : Nat} {gs : List Nat} {Ws : List (List Int)} (h : WCh m gs Ws) : ∀ W Ws', Ws = W :: Ws' → ∀ (y : Nat) (v : Int), W[y]? = some v → -1 ≤ v ∧ v ≤ ((gs.length * m : Nat) : Int) := by
  induction h with
  | nil =>
    rintro W Ws' e y v hv
    cases e
    match y, hv with
    | 0, hv => simp at hv; subst hv; omega
    | y + 1, hv => simp at hv
  | cons _ hg ih =>
    rintro W Ws' e y v hv
    cases e
    have h1 := hg.lo y v hv
    refine ⟨h1, ?_⟩
    rw [List.length_cons, Nat.add_mul, Nat.one_mul]
    by_cases h0 : 0 ≤ v
    · obtain ⟨s, k, n, hk1, hk2, -, hs, hn, rfl⟩ := hg.pick y v hv h0
      have := (ih _ _ rfl s n hs).2
      omega
    · omega
theorem wch_row {m : Nat} (hm : 0 < m) {gs : List Nat} {Ws : List (List Int)} (h : WCh m gs Ws) : ∀ W Ws', Ws = W :: Ws' → ∀ F Cs, Chain m gs F Cs → ((gs.length : Nat) : Int) * m < neverN → RowOk F gs.sum gs.length W := by
  induction h with
  | nil =>
    rintro W Ws' e F Cs hc hs
    cases e
    cases hc
    exact row_nil
  | cons _ hg ih =>
    rintro W Ws' e F Cs hc hs
    cases e
    cases hc with
    | cons hc1 ht =>
      rw [List.length_cons] at hs ⊢
      have hs' := hs
      rw [Int.natCast_add, Int.add_mul] at hs'
      have := row_cons hc1 hs (ih _ _ rfl _ _ hc1 (by omega)) ht hm hg
      rw [List.sum_cons, Nat.add_comm]
      exact this
def rwV (Ws : List (List Int)) (Gs : List Nat) : List Value := List.zipWith (fun W g => Value.slice (some ⟨g, 0, none⟩) W.length W.length) Ws Gs
def rwR (j : Nat) (Ws : List (List Int)) (Gs : List Nat) : List Value := List.replicate j (Value.slice none 0 0) ++ rwV Ws Gs
theorem rwR_set (j : Nat) (Ws : List (List Int)) (Gs : List Nat) (W : List Int) (g : Nat) : (rwR (j + 1) Ws Gs).set j (Value.slice (some ⟨g, 0, none⟩) W.length W.length) = rwR j (W :: Ws) (g :: Gs) := by
  unfold rwR
  have e : List.replicate (j + 1) (Value.slice none 0 0) = List.replicate j (Value.slice none 0 0) ++ [Value.slice none 0 0] := by
    rw [← List.replicate_append_replicate (n := j) (m := 1)]
    rfl
  rw [e, List.append_assoc, List.set_append_right _ _ (by simp)]
  simp [rwV]
theorem rwR_at (j : Nat) (Ws : List (List Int)) (Gs : List Nat) : (rwR (j + 1) Ws Gs)[j]? = some (Value.slice none 0 0) := by
  unfold rwR
  rw [List.getElem?_append_left (by simp), List.getElem?_replicate, if_pos (Nat.lt_succ_self _)]
theorem rwR_top (j : Nat) (W : List Int) (Ws : List (List Int)) (g : Nat) (Gs : List Nat) : (rwR j (W :: Ws) (g :: Gs))[j]? = some (Value.slice (some ⟨g, 0, none⟩) W.length W.length) := by
  unfold rwR
  rw [List.getElem?_append_right (by simp)]
  simp [rwV]
/-- The rows, each in a block of its own. -/
structure RwW (base : Nat) (Ws : List (List Int)) (Gs : List Nat) (w : World) : Prop where
  len : Gs.length = Ws.length
  own : ∀ (q : Nat) (W : List Int) (g : Nat), Ws[q]? = some W → Gs[q]? = some g → w.ownsRow base 3 1 (.slice (some ⟨g, 0, none⟩) W.length W.length) W.length (W.map (Value.int .i64))
theorem RwW.old {base : Nat} {Ws : List (List Int)} {Gs : List Nat} {w w' : World} (h : RwW base Ws Gs w) (hb : Below w.heap.size w w') : RwW base Ws Gs w' := ⟨h.len, fun q C g h1 h2 => own_below (h.own q C g h1 h2) hb⟩
theorem RwW.grown {base : Nat} {Ws : List (List Int)} {Gs : List Nat} {w w' : World} (h : RwW base Ws Gs w) {p : Nat} {cur : Array Value} {T : TypeId} {fr : Nat × Nat} (hg : w.grownBy w' (some p)) (hb : w.heap[p]? = some (.cells cur T fr)) (hT : (3 : TypeId) ≠ T) : RwW base Ws Gs w' :=
  ⟨h.len, fun q C g h1 h2 => own_grown (h.own q C g h1 h2) hg (fun g e e' => own_block (h.own q C _ h1 h2) hb hT (e.trans e'.symm))⟩
theorem infoSlI : (Try.prog.info? 43).map (fun i => (i.zero, i.size, i.bytes)) = some (some (.slice none 0 0), 1, 24) := by kernel_rfl
theorem infoI9 : (Try.prog.info? 3).map (fun i => (i.zero, i.size, i.bytes)) = some (some (.int .i64 0), 1, 8) := by kernel_rfl
theorem made_rows (n : Nat) : madeCells #[Value.slice none 0 0] n = (List.replicate n (Value.slice none 0 0)).toArray := by
  have := made_sl8 n
  rw [Nat.mul_one] at this
  have e : (Value.slice none 0 0).cells = #[Value.slice none 0 0] := rfl
  rw [e] at this
  rw [← this]
theorem made_i9 (n : Nat) : (madeCells #[Value.int .i64 0] n).toList = (List.replicate n (0 : Int)).map (Value.int .i64) := by
  rw [List.map_replicate]
  simp [madeCells]
  rw [show (fun x : Nat => [Value.int IntKind.i64 0][x % 1]?.getD default) = fun _ => Value.int .i64 0 from by funext x; simp [Nat.mod_one], List.map_const', List.length_range]
def fillR (k L : Nat) : List Int := List.replicate k (-1) ++ List.replicate (L - k) 0
theorem fill_at {k L : Nat} (h : k < L) : (fillR k L)[k]? = some 0 := by
  unfold fillR
  rw [List.getElem?_append_right (by simp), List.length_replicate, Nat.sub_self, List.getElem?_replicate, if_pos (by omega)]
theorem fill_set {k L : Nat} (h : k < L) : (fillR k L).set k (-1) = fillR (k + 1) L := by
  unfold fillR
  obtain ⟨d, hd⟩ : ∃ d, L - k = d + 1 := ⟨L - k - 1, by omega⟩
  rw [List.set_append_right _ _ (by simp), List.length_replicate, Nat.sub_self, hd, List.replicate_succ, List.set_cons_zero, show L - (k + 1) = d from by omega, List.replicate_succ' (n := k), List.append_assoc]
  rfl
set_option maxHeartbeats 4000000 in
theorem fewestR_any (A : Option Addr) (gs : List Nat) (c : Nat) (m : Nat) (w : World) (hm : 0 < m) (hm8 : m ≤ 8) (hk : gs.length ≤ 1000) (hsum : 1 + m * gs.sum ≤ 1000000000) (hd : RdG 1 (fun g : Nat => [Value.int .i64 (g : Nat)]) w A gs) :
    Calls Try.prog 73 #[.slice A gs.length c, .int .i64 (m : Nat)] w fun e w' => ∃ (O : Nat) (Ws : List (List Int)) (Gs : List Nat), e = .returned (.slice (some ⟨O, 0, none⟩) (gs.length + 1) (gs.length + 1)) ∧ WCh m gs Ws ∧
      RwW w.heap.size Ws Gs w' ∧ w'.heap[O]? = some (.cells (rwV Ws Gs).toArray 43 (0, 0)) ∧ Below w.heap.size w w' := by
  have HD := Lib.hid hd
  clear hd
  obtain ⟨N, hN⟩ : ∃ N, N = gs.length + 1 := ⟨_, rfl⟩
  rw [← hN]
  have HN := Lib.hid hN
  have hk1 : IntKind.i64.wrap ((gs.length : Int) + 1) = (N : Int) := (IntWalk.i64_in _ (by omega)).trans (by omega)
  have hk2 : IntKind.i64.wrap ((gs.length : Int) - 1) = (gs.length : Int) - 1 := IntWalk.i64_in _ (by omega)
  have hmk := run_make_row' (P := Try.prog) 101 43 (.slice none 0 0) 24 Try.underlying101 infoSlI rfl .i64 .i64 N (by omega) (by omega)
  have x1 : (0 : Int) ≤ (gs.length : Int) := by omega
  have x2 : (gs.length : Int) < (N : Int) := by omega
  have m0 : (madeCells #[.slice none 0 0] N)[gs.length]? = some (Value.slice none 0 0) := by
    rw [made_rows, List.getElem?_toArray, List.getElem?_replicate, if_pos (by omega)]
  clear hN
  have b0 := blk_new9 w (.cells (madeCells #[.slice none 0 0] N) 43)
  have b1 := blk_old9 b0 (.cells #[.int .i64 0] 3)
  have f1 := blk_free b1 gs.length
  go_enter Try.func73, Try.ntmps73
  go_wp2_with fail
  have c0 := blk_new9 w (.cells ((madeCells #[.slice none 0 0] N).setIfInBounds gs.length (.slice (some ⟨w.heap.size + 1, 0, none⟩) 1 1)) 43)
  have b2 := blk_old9 c0 (.cells #[.int .i64 0] 3)
  rw [made_rows, List.setIfInBounds_toArray, HN.out] at b2
  have e0 : (List.replicate (gs.length + 1) (Value.slice none 0 0)).set gs.length (.slice (some ⟨w.heap.size + 1, 0, none⟩) 1 1) = rwR gs.length [[0]] [w.heap.size + 1] := by
    have := rwR_set gs.length [] [] [0] (w.heap.size + 1)
    simpa [rwR, rwV] using this
  rw [e0] at b2
  have e1 : (madeCells #[Value.slice none 0 0] N).setIfInBounds gs.length (.slice (some ⟨w.heap.size + 1, 0, none⟩) 1 1) = (rwR gs.length [[0]] [w.heap.size + 1]).toArray := by
    rw [made_rows, List.setIfInBounds_toArray, HN.out, e0]
  rw [e1]
  have b3 := blk_new9 (w.alloc (.cells (rwR gs.length [[0]] [w.heap.size + 1]).toArray 43)) (.cells #[.int .i64 0] 3)
  have o4 : ((w.alloc (.cells (rwR gs.length [[0]] [w.heap.size + 1]).toArray 43)).alloc (.cells #[.int .i64 0] 3)).ownsRow w.heap.size 3 1 (.slice (some ⟨w.heap.size + 1, 0, none⟩) 1 1) 1 (([0] : List Int).map (Value.int .i64)) := own_mk (by omega) (by simpa using b3) (Nat.le_refl _) (by simp [maxLen]) rfl rfl
  have w4 : Below w.heap.size w _ := ((Below.refl w.heap.size w).alloc (Nat.le_refl _) (.cells (rwR gs.length [[0]] [w.heap.size + 1]).toArray 43)).alloc (by simp) (.cells #[.int .i64 0] 3)
  have HB2 := Lib.hid b2
  have HO4 := Lib.hid o4
  have HW4 := Lib.hid w4
  clear b0 b1 c0 b2 b3 o4 w4 f1 e0 e1 hmk m0
  go_loopw [6] (fun iv wr => ∃ (j : Nat) (Ws : List (List Int)) (Gs : List Nat), j ≤ gs.length ∧ iv = .int .i64 ((j : Int) - 1) ∧ WCh m (gs.drop j) Ws ∧ wr.heap[w.heap.size]? = some (.cells (rwR j Ws Gs).toArray 43 (0, 0)) ∧ RwW w.heap.size Ws Gs wr ∧ Below w.heap.size w wr) (fun iv _ => (intOf iv + 1).toNat)
  case atStart =>
    refine ⟨gs.length, [[0]], [w.heap.size + 1], Nat.le_refl _, rfl, by rw [List.drop_length]; exact WCh.nil, HB2.out, ⟨rfl, fun q C g h1 h2 => ?_⟩, HW4.out⟩
    match q, h1, h2 with
    | 0, h1, h2 =>
      simp at h1 h2
      subst h1 h2
      exact HO4.out
    | q + 1, h1, h2 => simp at h1
  case round =>
    obtain ⟨j, Ws, Gs, hj, rfl, hch, hc, hcw, hw⟩ := hrel
    have HCH := Lib.hid hch
    have HC := Lib.hid hc
    have HCW := Lib.hid hcw
    have HW := Lib.hid hw
    have zw := hw.size
    have lc := blk_lt hc
    clear HB2 HO4 HW4
    by_cases hj0 : j = 0
    · subst hj0
      clear hch hc hcw hw
      go_wp2_with fail
      have hch0 := HCH.out
      rw [List.drop_zero] at hch0
      go_ret
      exact ⟨w.heap.size, Ws, Gs, rfl, hch0, HCW.out, HC.out, HW.out⟩
    · obtain ⟨i, rfl⟩ : ∃ i, j = i + 1 := ⟨j - 1, by omega⟩
      have hil : i < gs.length := by omega
      have ei : ((i + 1 : Nat) : Int) - 1 = (i : Int) := by omega
      rw [ei]
      obtain ⟨bg, off, rfl, hblt, hcs⟩ := HD.out (by omega)
      have hi : gs[i]? = some gs[i] := List.getElem?_eq_getElem hil
      have k0 : wr.cell? ⟨bg, off + i, none⟩ = some (.int .i64 (gs[i] : Nat)) := (hw.cell (p := ⟨bg, off + i, none⟩) hblt).trans (by simpa using hcs i _ hi 0 _ rfl)
      have hdr : gs.drop i = gs[i] :: gs.drop (i + 1) := List.drop_eq_getElem_cons hil
      have HDR := Lib.hid hdr
      have hsm := drop_sum gs i
      rw [hdr, List.sum_cons] at hsm
      obtain ⟨Wp, Ws1, rfl, hWl, hW1⟩ := wch_len hch
      obtain ⟨g0, Gs1, rfl⟩ : ∃ g Gs', Gs = g :: Gs' := by
        have := hcw.len
        match Gs, this with
        | [], h => simp at h
        | g :: Gs', _ => exact ⟨_, _, rfl⟩
      have hhi := wch_hi hch _ _ rfl
      have howp := hcw.own 0 Wp g0 rfl rfl
      obtain ⟨mg, hmg⟩ : ∃ x, x = m * gs[i] := ⟨_, rfl⟩
      have hmul : (m : Int) * (gs[i] : Int) = (mg : Int) := by rw [hmg, Int.natCast_mul]
      have hLb : Wp.length + mg ≤ 1000000000 := by
        rw [hWl, hmg, Nat.add_assoc, ← Nat.mul_add]
        have := Nat.mul_le_mul_left m hsm
        rw [Nat.add_comm] at this
        rw [Nat.add_comm gs[i]] at hsm
        have := Nat.mul_le_mul_left m hsm
        omega
      obtain ⟨L, hL⟩ : ∃ x, x = Wp.length + mg := ⟨_, rfl⟩
      have k1 := blk_cell hc (i + 1)
      rw [List.getElem?_toArray, rwR_top] at k1
      have k2 := blk_cell hc i
      rw [List.getElem?_toArray, rwR_at] at k2
      have k3 := fun o => blk_free (blk_old9 hc o) i
      have x3 : (0 : Int) ≤ (i : Int) := by omega
      have x4 : (i : Int) < (gs.length : Int) := by omega
      have x5 : (i : Int) + 1 < (N : Int) := by have := HN.out; omega
      have x6 : (i : Int) < (N : Int) := by omega
      have x7 : IntKind.i64.wrap ((i : Int) + 1) = (i : Int) + 1 := IntWalk.i64_in _ (by omega)
      have x8 : (0 : Int) ≤ (i : Int) + 1 := by omega
      have x9 : IntKind.i64.wrap ((i : Int) - 1) = (i : Int) - 1 := IntWalk.i64_in _ (by omega)
      have y1 : IntKind.i64.wrap ((m : Int) * (gs[i] : Int)) = (mg : Int) := (IntWalk.i64_in _ (by rw [hmul]; omega)).trans hmul
      have y2 : IntKind.i64.wrap ((Wp.length : Int) + (mg : Int)) = (L : Int) := (IntWalk.i64_in _ (by omega)).trans (by omega)
      have hmk := run_make_row' (P := Try.prog) 43 3 (.int .i64 0) 8 Try.underlying43 infoI9 rfl .i64 .i64 L (by omega) (by omega)
      have HMG := Lib.hid hmg
      have HLL := Lib.hid hL
      have HHI := Lib.hid hhi
      have HOWP := Lib.hid howp
      have hLb' : L ≤ 1000000000 := by omega
      have hWpb : Wp.length ≤ 1000000000 := by omega
      have hWp0 : 0 < Wp.length := by omega
      have n4 : ¬ w.heap.size = wr.heap.size := by omega
      clear hcs hi hdr hsm hch hc hcw hw hj0 hmg hmul hLb hL hhi howp hWl hW1
      generalize gs[i] = gi at *
      go_wp2_with fail
      go_region
      have gA := gb_set (p := ⟨w.heap.size, i, none⟩) (gb_refl wr (some w.heap.size)) (.inl rfl) (.slice (some ⟨wr.heap.size, 0, none⟩) L L)
      have bO := blk_set HC.out i (.slice (some ⟨wr.heap.size, 0, none⟩) L L)
      rw [List.setIfInBounds_toArray] at bO
      have bO2 := blk_old9 bO (.cells (madeCells #[.int .i64 0] L) 3)
      have hs9 : (wr.setCell ⟨w.heap.size, i, none⟩ (.slice (some ⟨wr.heap.size, 0, none⟩) L L)).heap.size = wr.heap.size := by simp
      have cw2 := HCW.out.grown gA HC.out (by decide)
      have b8 := (Below.refl (wr.setCell ⟨w.heap.size, i, none⟩ (.slice (some ⟨wr.heap.size, 0, none⟩) L L)).heap.size (wr.setCell ⟨w.heap.size, i, none⟩ (.slice (some ⟨wr.heap.size, 0, none⟩) L L))).alloc (Nat.le_refl _) (.cells (madeCells #[.int .i64 0] L) 3)
      have wB := (HW.out.trans (below_gb gA zw (fun g e => by cases e; exact Nat.le_refl _))).alloc (by rw [hs9]; exact zw) (.cells (madeCells #[.int .i64 0] L) 3)
      have bG := blk_new9 (wr.setCell ⟨w.heap.size, i, none⟩ (.slice (some ⟨wr.heap.size, 0, none⟩) L L)) (.cells (madeCells #[.int .i64 0] L) 3)
      rw [hs9] at bG
      have oG : ((wr.setCell ⟨w.heap.size, i, none⟩ (.slice (some ⟨wr.heap.size, 0, none⟩) L L)).alloc (.cells (madeCells #[.int .i64 0] L) 3)).ownsRow wr.heap.size 3 1 (.slice (some ⟨wr.heap.size, 0, none⟩) L L) L ((fillR 0 L).map (Value.int .i64)) := own_mk (Nat.le_refl _) bG (Nat.le_refl _) (by simp only [maxLen]; omega) (by simp [madeCells]) (by rw [made_i9, Nat.mul_one, List.take_of_length_le (by simp)]; rfl)
      have k4 := (wB.cell (p := ⟨bg, off + i, none⟩) hblt).trans ((HW.out.cell (p := ⟨bg, off + i, none⟩) hblt).symm.trans k0)
      have HK4 := Lib.hid k4
      have HBO := Lib.hid bO2
      have HCX := Lib.hid cw2
      have HB8 := Lib.hid b8
      have HS8 := Lib.hid hs9
      have hg0 := (HOWP.out.lt _ rfl).2
      have HB8' := Lib.hid (show Below wr.heap.size _ _ from by have := b8; rwa [hs9] at this)
      have HWB := Lib.hid wB
      have HOG := Lib.hid oG
      have zG := blk_lt bG
      have hHC := blk_lt HC.out
      clear gA bO bO2 cw2 wB bG oG hs9 b8 HOWP k0 k1 k2 k3 k4 HC HCW HW n4
      generalize hw8 : wr.setCell ⟨w.heap.size, i, none⟩ (.slice (some ⟨wr.heap.size, 0, none⟩) L L) = w8 at *
      generalize hw9 : w8.alloc (.cells (madeCells #[.int .i64 0] L) 3) = w9 at *
      generalize hG : wr.heap.size = G at *
      clear hw9 hw8 hG
      have HQ1 := Lib.hid (fun (a : Nat) (n : Int) (hn : Wp[a]? = some n) => (own_cellC (j := a) (v := .int .i64 n) (HCX.out.own 0 Wp g0 rfl rfl) (by rw [List.getElem?_map, hn]; rfl)).1)
      have c1 : w9.cell? ⟨w.heap.size, i, none⟩ = some (.slice (some ⟨G, 0, none⟩) L L) := (blk_cell HBO.out i).trans (by rw [List.getElem?_toArray, List.getElem?_set, if_pos rfl, if_pos (List.getElem?_eq_some_iff.1 (rwR_at i (Wp :: Ws1) (g0 :: Gs1))).1])
      have c2 : w9.cell? ⟨w.heap.size, i + 1, none⟩ = some (.slice (some ⟨g0, 0, none⟩) Wp.length Wp.length) := (blk_cell HBO.out (i + 1)).trans (by rw [List.getElem?_toArray, List.getElem?_set, if_neg (by omega), rwR_top])
      have HC1 := Lib.hid c1
      have HC2 := Lib.hid c2
      clear c2
      go_wp2_with fail
      clear c1
      go_loopw [50] (fun kv wx => ∃ k : Nat, k ≤ L ∧ kv = .int .i64 (k : Nat) ∧ wx.ownsRow G 3 1 (.slice (some ⟨G, 0, none⟩) L L) L ((fillR k L).map (Value.int .i64)) ∧ Below G w9 wx) (fun kv _ => L - (intOf kv).toNat)
      case atStart => exact ⟨0, Nat.zero_le _, rfl, HOG.out, (Below.refl G w9).drew⟩
      case round =>
        obtain ⟨w7, rfl⟩ : ∃ x, x = wr := ⟨wr, rfl⟩
        obtain ⟨k, hkL, rfl, hoG, hB⟩ := hrel
        have c1 := (hB.cell (p := ⟨w.heap.size, i, none⟩) hHC).trans HC1.out
        have HB := Lib.hid hB
        have HOX := Lib.hid hoG
        have zx := hB.size
        have hkz : (0 : Int) ≤ (k : Int) := by omega
        by_cases hlt : k < L
        · obtain ⟨d1, d2⟩ := own_cellC (j := k) (v := .int .i64 0) hoG (by rw [List.getElem?_map, fill_at hlt]; rfl)
          have hlt' : (k : Int) < (L : Int) := by omega
          clear hoG hB
          go_wp2_with fail
          go_roundw
          case rel =>
            have g1 := gb_set (p := ⟨G, k, none⟩) (gb_refl w7 (some G)) (.inl rfl) (.int .i64 (-1))
            have h1 := own_setC (j := k) HOX.out (.int .i64 (-1))
            rw [← List.map_set, fill_set hlt] at h1
            exact ⟨k + 1, by omega, by go_num, h1, HB.out.trans (below_gb g1 (by omega) (fun g e => by cases e; exact Nat.le_refl _))⟩
          case measure => (simp [intOf] <;> omega)
        · obtain rfl : k = L := by omega
          have c2 := (hB.cell (p := ⟨w.heap.size, i + 1, none⟩) hHC).trans HC2.out
          clear hoG hB
          go_wp2_with fail
          have e9 : fillR k k = List.replicate k (-1) := by simp [fillR]
          have HST := Lib.hid (w_start Wp gi m)
          rw [← HMG.out, ← HLL.out, ← e9] at HST
          go_loopw [66] (fun av wx => ∃ (a : Nat) (W : List Int), a ≤ Wp.length ∧ av = .int .i64 (a : Nat) ∧ WGo Wp gi m a 1 W ∧ wx.ownsRow G 3 1 (.slice (some ⟨G, 0, none⟩) k k) k (W.map (Value.int .i64)) ∧ Below G w9 wx) (fun av _ => Wp.length - (intOf av).toNat)
          case atStart => exact ⟨0, _, Nat.zero_le _, rfl, HST.out, HOX.out, HB.out⟩
          case round =>
            obtain ⟨w6, rfl⟩ : ∃ x, x = wr := ⟨wr, rfl⟩
            obtain ⟨a, W1, ha, rfl, hg, hoX, hBX⟩ := hrel
            have HGX := Lib.hid hg
            have HBX := Lib.hid hBX
            have HOY := Lib.hid hoX
            have zy := hBX.size
            have haz : (0 : Int) ≤ (a : Int) := by omega
            by_cases hal : a < Wp.length
            · have hn : Wp[a]? = some Wp[a] := List.getElem?_eq_getElem hal
              have d1 := (hBX.cell (p := ⟨g0, a, none⟩) hg0).trans ((HB8.out.cell (p := ⟨g0, a, none⟩) (by rw [HS8.out]; exact hg0)).trans (HQ1.out a _ hn))
              have hnh := HHI.out a _ hn
              have HNW := Lib.hid hn
              have HAL := Lib.hid hal
              have hal' : (a : Int) < (Wp.length : Int) := by omega
              clear hn hg hoX hBX
              generalize Wp[a] = n at *
              go_wp2_with fail
              go_loopw [10] (fun bv wx => ∃ (b : Nat) (W : List Int), 1 ≤ b ∧ b ≤ m + 1 ∧ bv = .int .i64 (b : Nat) ∧ (n < 0 → b = 1) ∧ WGo Wp gi m a b W ∧ wx.ownsRow G 3 1 (.slice (some ⟨G, 0, none⟩) k k) k (W.map (Value.int .i64)) ∧ Below G w9 wx) (fun bv _ => m + 1 - (intOf bv).toNat)
              case atStart => exact ⟨1, W1, Nat.le_refl _, by omega, rfl, fun _ => rfl, HGX.out, HOY.out, HBX.out⟩
              case round =>
                obtain ⟨w5, rfl⟩ : ∃ x, x = wr := ⟨wr, rfl⟩
                obtain ⟨b, W2, hb1, hbm, rfl, hnb, hg, hoX, hBX⟩ := hrel
                have HGB := Lib.hid hg
                have HBB := Lib.hid hBX
                have HOB := Lib.hid hoX
                have zz := hBX.size
                by_cases hn0 : 0 ≤ n
                · by_cases hbl : b ≤ m
                  · have hbl' : (b : Int) ≤ (m : Int) := by omega
                    have hn0' : decide ((0 : Int) ≤ n) = true := decide_eq_true hn0
                    have hbd : decide ((b : Int) ≤ (m : Int)) = true := decide_eq_true hbl'
                    obtain ⟨p1, hp1⟩ : ∃ x, x = b * gi := ⟨_, rfl⟩
                    have hp1l : p1 ≤ mg := by
                      rw [hp1, HMG.out]
                      exact Nat.mul_le_mul_right gi hbl
                    have hp1e : (b : Int) * (gi : Int) = (p1 : Int) := by rw [hp1, Int.natCast_mul]
                    obtain ⟨p, hp⟩ : ∃ x, x = a + p1 := ⟨_, rfl⟩
                    have hpL : p < k := by rw [HLL.out]; omega
                    have HPE := Lib.hid (show a + b * gi = p by rw [hp, hp1])
                    have v1 : IntKind.i64.wrap ((b : Int) * (gi : Int)) = (p1 : Int) := (IntWalk.i64_in _ (by rw [hp1e]; omega)).trans hp1e
                    have v2 : IntKind.i64.wrap ((a : Int) + (p1 : Int)) = (p : Int) := (IntWalk.i64_in _ (by omega)).trans (by omega)
                    have hnm : gs.length * m ≤ 8000 := by
                      have := Nat.mul_le_mul hk hm8
                      omega
                    have hnl : (List.drop (i + 1) gs).length * m ≤ 8000 := by
                      refine Nat.le_trans (Nat.mul_le_mul_right m ?_) hnm
                      rw [List.length_drop]
                      omega
                    have v3 : IntKind.i64.wrap (n + (b : Int)) = n + (b : Int) := IntWalk.i64_in _ (by omega)
                    have v4 : IntKind.i64.wrap ((b : Int) + 1) = (b : Int) + 1 := IntWalk.i64_in _ (by omega)
                    have v5 : (0 : Int) ≤ (p : Int) := by omega
                    have v6 : (p : Int) < (k : Int) := by omega
                    have hWl2 : W2.length = k := by rw [hg.len, ← HMG.out, ← HLL.out]
                    obtain ⟨v, hv⟩ : ∃ v, W2[p]? = some v := ⟨_, List.getElem?_eq_getElem (by rw [hWl2]; exact hpL)⟩
                    obtain ⟨f1, f2⟩ := own_cellC (j := p) (v := .int .i64 v) hoX (by rw [List.getElem?_map, hv]; rfl)
                    have k4 := (hBX.cell (p := ⟨bg, off + i, none⟩) (show bg < G from Nat.lt_of_lt_of_le hblt zw)).trans HK4.out
                    have c1 := (hBX.cell (p := ⟨w.heap.size, i, none⟩) hHC).trans HC1.out
                    have HV := Lib.hid hv
                    clear hg hoX hBX hv hp hp1 hp1e hnm hnl hWl2 hnb
                    by_cases hv0 : v < 0
                    · have HNW2 := Lib.hid (by have := w_put HGB.out HNW.out hn0 hb1 hbl (by rw [HPE.out]; exact HV.out) (.inl hv0); rwa [HPE.out] at this)
                      have hv0' : decide (v < 0) = true := decide_eq_true hv0
                      go_wp2_with fail
                      all_goals
                        go_roundw
                        case rel =>
                          have g1 := gb_set (p := ⟨G, p, none⟩) (gb_refl w5 (some G)) (.inl rfl) (.int .i64 (n + (b : Int)))
                          have h1 := own_setC (j := p) HOB.out (.int .i64 (n + (b : Int)))
                          rw [← List.map_set] at h1
                          exact ⟨b + 1, _, by omega, by omega, by go_num, fun h => by omega, HNW2.out, h1, HBB.out.trans (below_gb g1 (by omega) (fun g e => by cases e; exact Nat.le_refl _))⟩
                        case measure => (simp [intOf] <;> omega)
                    · by_cases hv1 : n + (b : Int) < v
                      · have HNW2 := Lib.hid (by have := w_put HGB.out HNW.out hn0 hb1 hbl (by rw [HPE.out]; exact HV.out) (.inr hv1); rwa [HPE.out] at this)
                        have hv0' : decide (v < 0) = false := decide_eq_false hv0
                        have hv1' : decide (n + (b : Int) < v) = true := decide_eq_true hv1
                        go_wp2_with fail
                        all_goals
                          go_roundw
                          case rel =>
                            have g1 := gb_set (p := ⟨G, p, none⟩) (gb_refl w5 (some G)) (.inl rfl) (.int .i64 (n + (b : Int)))
                            have h1 := own_setC (j := p) HOB.out (.int .i64 (n + (b : Int)))
                            rw [← List.map_set] at h1
                            exact ⟨b + 1, _, by omega, by omega, by go_num, fun h => by omega, HNW2.out, h1, HBB.out.trans (below_gb g1 (by omega) (fun g e => by cases e; exact Nat.le_refl _))⟩
                          case measure => (simp [intOf] <;> omega)
                      · have HNW2 := Lib.hid (w_keep HGB.out HNW.out (by rw [HPE.out]; exact HV.out) hv0 hv1)
                        have hv0' : decide (v < 0) = false := decide_eq_false hv0
                        have hv1' : decide (n + (b : Int) < v) = false := decide_eq_false hv1
                        go_wp2_with fail
                        all_goals
                          go_roundw
                          case rel => exact ⟨b + 1, W2, by omega, by omega, by go_num, fun h => by omega, HNW2.out, HOB.out, HBB.out⟩
                          case measure => (simp [intOf] <;> omega)
                  · obtain rfl : b = m + 1 := by omega
                    have HN2 := Lib.hid (w_row HGB.out)
                    have hbl' : ¬ ((m + 1 : Nat) : Int) ≤ (m : Int) := by omega
                    clear hg hoX hBX
                    have hn0' : decide ((0 : Int) ≤ n) = true := decide_eq_true hn0
                    have hbd : decide (((m + 1 : Nat) : Int) ≤ (m : Int)) = false := decide_eq_false hbl'
                    have hbd2 : decide ((m : Int) + 1 ≤ (m : Int)) = false := decide_eq_false (by omega)
                    go_wp2_with fail
                    all_goals
                      go_roundw
                      case rel => exact ⟨a + 1, W2, by have := HAL.out; omega, by go_num, HN2.out, HOB.out, HBB.out⟩
                      case measure => (have := HAL.out; simp [intOf] <;> omega)
                · obtain rfl : b = 1 := hnb (by omega)
                  have HN2 := Lib.hid (w_skip HGB.out HNW.out hn0)
                  clear hg hoX hBX
                  have hn0' : decide ((0 : Int) ≤ n) = false := decide_eq_false hn0
                  go_wp2_with fail
                  all_goals
                    go_roundw
                    case rel => exact ⟨a + 1, W2, by have := HAL.out; omega, by go_num, HN2.out, HOB.out, HBB.out⟩
                    case measure => (have := HAL.out; simp [intOf] <;> omega)
            · obtain rfl : a = Wp.length := by omega
              have c1' := (hBX.cell (p := ⟨w.heap.size, i, none⟩) hHC).trans HC1.out
              have hlen : W1.length = k := by rw [hg.len, ← HMG.out, ← HLL.out]
              clear hg hoX hBX
              go_wp2_with fail
              go_roundw
              case rel =>
                have h9 := rwR_set i (Wp :: Ws1) (g0 :: Gs1) W1 G
                rw [hlen] at h9
                have hO := (HBX.out.block _ hHC).trans HBO.out
                rw [h9] at hO
                have hR := HCX.out.old (by rw [HS8.out]; exact HB8'.out.trans HBX.out)
                refine ⟨i, W1 :: Wp :: Ws1, G :: g0 :: Gs1, by omega, rfl, by rw [HDR.out]; exact WCh.cons HCH.out HGX.out, hO, ⟨by have := HCX.out.len; simp at this ⊢; exact this, fun q C g h1 h2 => ?_⟩, HWB.out.trans (HBX.out.mono zw)⟩
                match q, h1, h2 with
                | 0, h1, h2 =>
                  simp at h1 h2
                  subst h1 h2
                  rw [hlen]
                  exact own_lower HOY.out zw
                | q + 1, h1, h2 => exact hR.own q C g (by simpa using h1) (by simpa using h2)
              case measure => (simp [intOf] <;> omega)
end Go.Proofs.Ytdlglnkhhbkndaa

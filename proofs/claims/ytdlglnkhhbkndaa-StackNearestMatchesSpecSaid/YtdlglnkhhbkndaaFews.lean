/- The fewest sheets of all layers of glue (fewestSheets), whatever the world. -/
import Derived.Test.YtdlglnkhhbkndaaTop
namespace Go.Proofs.Ytdlglnkhhbkndaa
open Go.RowKit Go.Maps
set_option linter.unusedSimpArgs false
set_option linter.unusedVariables false
set_option maxRecDepth 100000

theorem infoSl8 : (Try.prog.info? 126).map (fun i => (i.zero, i.size, i.bytes)) = some (some (.slice none 0 0), 1, 24) := by kernel_rfl
theorem made_sl8 (n : Nat) : (madeCells (Value.slice none 0 0).cells (n * 1)).toList = List.replicate n (Value.slice none 0 0) := by
  rw [Nat.mul_one]
  simp [madeCells, Value.cells]
  rw [show (fun x : Nat => [Value.slice none 0 0][x % 1]?.getD default) = fun _ => Value.slice none 0 0 from by funext x; simp [Nat.mod_one], List.map_const', List.length_range]
theorem rd_nums {w : World} {B g n c : Nat} {F : List Int} (h : w.ownsRow B 3 1 (.slice (some ⟨g, 0, none⟩) n c) n (F.map (Value.int .i64))) : RdG 1 (fun v => [Value.int .i64 v]) w (some ⟨g, 0, none⟩) F := by
  obtain ⟨_, _, e, _, _, h3⟩ := own_cells h
  cases e
  have hn : n = F.length := by have := h.1; simpa using this.symm
  intro hp
  obtain ⟨g', e, _, hg, hc⟩ := h3 (by omega)
  cases e
  refine ⟨g, 0, rfl, hg, fun i x hi j y hj => ?_⟩
  match j, hj with
  | 0, hj =>
    simp at hj
    subst hj
    rw [Nat.zero_add, Nat.mul_one, Nat.add_zero]
    exact hc _ _ (by rw [List.getElem?_map, hi]; rfl)
  | j + 1, hj => simp at hj
theorem chain_flen {m : Nat} {gs : List Nat} {F : List Int} {Cs : List (List Nat)} (h : Chain m gs F Cs) : F.length = 1 + (m - 1) * gs.sum := by
  induction h with
  | nil => rfl
  | cons _ ht ih => rw [ht.len, ih, List.sum_cons, Nat.mul_add]; omega
theorem blk_new9 (W : World) (o : Obj) : (W.alloc o).heap[W.heap.size]? = some o := (MapKept.heap_alloc W o).1
theorem blk_old9 {W : World} {p : Nat} {o' : Obj} (h : W.heap[p]? = some o') (o : Obj) : (W.alloc o).heap[p]? = some o' :=
  (((Below.refl W.heap.size W).alloc (Nat.le_refl _) o).block p (blk_lt h)).trans h
/-- What the layers have, each in a block of its own. -/
structure ChW (base : Nat) (Cs : List (List Nat)) (Gs : List Nat) (w : World) : Prop where
  len : Gs.length = Cs.length
  own : ∀ (q : Nat) (C : List Nat) (g : Nat), Cs[q]? = some C → Gs[q]? = some g → w.ownsRow base 5 1 (.slice (some ⟨g, 0, none⟩) C.length C.length) C.length (C.map u8V)
theorem ChW.old {base : Nat} {Cs : List (List Nat)} {Gs : List Nat} {w w' : World} (h : ChW base Cs Gs w) (hb : Below w.heap.size w w') : ChW base Cs Gs w' := ⟨h.len, fun q C g h1 h2 => own_below (h.own q C g h1 h2) hb⟩
def chV (Cs : List (List Nat)) (Gs : List Nat) : List Value := List.zipWith (fun C g => Value.slice (some ⟨g, 0, none⟩) C.length C.length) Cs Gs
def chR (j : Nat) (Cs : List (List Nat)) (Gs : List Nat) : List Value := List.replicate j (Value.slice none 0 0) ++ chV Cs Gs
theorem chR_set (j : Nat) (Cs : List (List Nat)) (Gs : List Nat) (C : List Nat) (g : Nat) : (chR (j + 1) Cs Gs).set j (Value.slice (some ⟨g, 0, none⟩) C.length C.length) = chR j (C :: Cs) (g :: Gs) := by
  unfold chR
  have e : List.replicate (j + 1) (Value.slice none 0 0) = List.replicate j (Value.slice none 0 0) ++ [Value.slice none 0 0] := by
    rw [← List.replicate_append_replicate (n := j) (m := 1)]
    rfl
  rw [e, List.append_assoc, List.set_append_right _ _ (by simp)]
  simp [chV]
theorem chR_len {j : Nat} {Cs : List (List Nat)} {Gs : List Nat} (h : Gs.length = Cs.length) : (chR j Cs Gs).length = j + Cs.length := by simp [chR, chV, h]
theorem chR_at (j : Nat) (Cs : List (List Nat)) (Gs : List Nat) : (chR (j + 1) Cs Gs)[j]? = some (Value.slice none 0 0) := by
  unfold chR
  rw [List.getElem?_append_left (by simp), List.getElem?_replicate, if_pos (Nat.lt_succ_self _)]
theorem drop_sum : ∀ (gs : List Nat) (i : Nat), (gs.drop i).sum ≤ gs.sum
  | gs, 0 => by rw [List.drop_zero]; exact Nat.le_refl _
  | [], i + 1 => by simp
  | g :: gs, i + 1 => by
    have := drop_sum gs i
    rw [List.drop_succ_cons, List.sum_cons]
    omega
theorem ChW.grown {base : Nat} {Cs : List (List Nat)} {Gs : List Nat} {w w' : World} (h : ChW base Cs Gs w) {p : Nat} {cur : Array Value} {T : TypeId} {fr : Nat × Nat} (hg : w.grownBy w' (some p)) (hb : w.heap[p]? = some (.cells cur T fr)) (hT : (5 : TypeId) ≠ T) : ChW base Cs Gs w' :=
  ⟨h.len, fun q C g h1 h2 => own_grown (h.own q C g h1 h2) hg (fun g e e' => own_block (h.own q C _ h1 h2) hb hT (e.trans e'.symm))⟩
set_option maxHeartbeats 4000000 in
theorem fewest_any (A : Option Addr) (gs : List Nat) (c : Nat) (m : Nat) (w : World) (hm : 0 < m) (hm8 : m ≤ 8) (hk : gs.length ≤ 1000) (hsum : 1 + (m - 1) * gs.sum ≤ 1000000000) (hd : RdG 1 (fun g : Nat => [Value.int .i64 (g : Nat)]) w A gs) :
    Calls Try.prog 69 #[.slice A gs.length c, .int .i64 (m : Nat)] w fun e w' => ∃ (G1 GC : Nat) (F : List Int) (Cs : List (List Nat)) (Gs : List Nat), e = .returned (.agg #[.slice (some ⟨G1, 0, none⟩) F.length F.length, .slice (some ⟨GC, 0, none⟩) gs.length gs.length]) ∧ Chain m gs F Cs ∧
      w'.ownsRow w.heap.size 3 1 (.slice (some ⟨G1, 0, none⟩) F.length F.length) F.length (F.map (Value.int .i64)) ∧ ChW w.heap.size Cs Gs w' ∧ w'.heap[GC]? = some (.cells (chV Cs Gs).toArray 126 (0, 0)) ∧ Below w.heap.size w w' := by
  obtain ⟨i1, hi1, hy0, hy1, hy2⟩ := info_parts infoSl8
  have HD := Lib.hid hd
  have CT := Lib.hid (fun (W : World) (hb : Below w.heap.size w W) (F : List Int) (Cs : List (List Nat)) (g G1 : Nat) (hch : ∃ gs', Chain m gs' F Cs) (hL : F.length + (m - 1) * g ≤ 1000000000) (hr : RdG 1 (fun v => [Value.int .i64 v]) W (some ⟨G1, 0, none⟩) F) => onTop_any (some ⟨G1, 0, none⟩) F F.length g m W hm hm8 (chain_pos hch.choose_spec) hL (chain_lo hch.choose_spec) hr)
  clear hd
  go_enter Try.func69, Try.ntmps69
  have hk1 : IntKind.i64.wrap ((gs.length : Int) - 1) = (gs.length : Int) - 1 := IntWalk.i64_in _ (by omega)
  go_wp2_with (first
    | (at_make; refine wpList_make_full _ rfl (.tmp 9) (.tmp 9) 94 rfl (w.heap.size + 2) 126 i1 (.slice none 0 0) 1 Try.underlying94 hi1 hy0 hy1 .i64 .i64 (gs.length : Int) (gs.length : Int) gs.length rfl rfl rfl rfl ?m1 ?m2 ?m3 ?_; (case m1 => rw [hy2]; omega); (case m2 => simp only [maxLen]; omega); (case m3 => simp); intro w2 hown hgr; have HO2 := Lib.hid hown; have HG2 := Lib.hid hgr; clear hown hgr))
  have e2 : ((w.alloc (.cells #[.slice none 0 0, .slice none 0 0] 96)).alloc (.cells #[.int .i64 0] 3)).heap.size = w.heap.size + 2 := by simp
  have b4 : w2.heap[w.heap.size]? = some (.cells #[.slice none 0 0, .slice none 0 0] 96 (0, 0)) := (HG2.out.block _ (by simp; omega) (fun e => by cases e)).trans (blk_old9 (blk_new9 _ _) _)
  have bf : w2.heap[w.heap.size + 1]? = some (.cells #[.int .i64 0] 3 (0, 0)) := (HG2.out.block _ (by simp) (fun e => by cases e)).trans (by have := blk_new9 (w.alloc (.cells #[.slice none 0 0, .slice none 0 0] 96)) (.cells #[.int .i64 0] 3); simpa using this)
  have bc : w2.heap[w.heap.size + 2]? = some (.cells (chR gs.length [] []).toArray 126 (0, 0)) := by
    rcases own_open HO2.out with ⟨h0, _⟩ | ⟨g', cap', cur, hv, h1, h2, h3, h4, h5, h6⟩
    · cases h0
    · cases hv
      rw [e2] at h2
      rw [h2]
      have e : cur.toList = chR gs.length [] [] := by
        rw [← List.take_of_length_le (l := cur.toList) (i := gs.length * 1) (by rw [Array.length_toList, h5]; exact Nat.le_refl _), h6, made_sl8]
        simp [chR, chV]
      rw [← e]
  have z2 : w.heap.size + 2 < w2.heap.size := blk_lt bc
  have BW2 := Lib.hid (show Below w.heap.size w w2 from (((Below.refl w.heap.size w).alloc (Nat.le_refl _) _).alloc (by simp) _).grown HG2.out (by simp; omega) (fun j hj => by cases hj))
  have of : w2.ownsRow w.heap.size 3 1 (.slice (some ⟨w.heap.size + 1, 0, none⟩) 1 1) 1 (([0] : List Int).map (Value.int .i64)) := own_mk (by omega) bf (Nat.le_refl _) (by simp [maxLen]) rfl rfl
  clear HO2 HG2 e2 bf
  have hT5 := blk_new9 w2 (.cells #[.slice (some ⟨w.heap.size + 1, 0, none⟩) 1 1, .slice (some ⟨w.heap.size + 2, 0, none⟩) gs.length gs.length] 96)
  have HB4 := Lib.hid b4
  have HBC := Lib.hid bc
  have HOF := Lib.hid of
  have HT5 := Lib.hid hT5
  clear b4 bc of hT5
  go_loopw [6] (fun iv wr => ∃ (j G1 : Nat) (F : List Int) (Cs : List (List Nat)) (Gs : List Nat), j ≤ gs.length ∧ iv = .int .i64 ((j : Int) - 1) ∧ Chain m (gs.drop j) F Cs ∧ wr.heap[w.heap.size]? = some (.cells #[.slice none 0 0, .slice none 0 0] 96 (0, 0)) ∧ wr.heap[w2.heap.size]? = some (.cells #[.slice (some ⟨G1, 0, none⟩) F.length F.length, .slice (some ⟨w.heap.size + 2, 0, none⟩) gs.length gs.length] 96 (0, 0)) ∧ wr.heap[w.heap.size + 2]? = some (.cells (chR j Cs Gs).toArray 126 (0, 0)) ∧
    wr.ownsRow w.heap.size 3 1 (.slice (some ⟨G1, 0, none⟩) F.length F.length) F.length (F.map (Value.int .i64)) ∧ ChW w.heap.size Cs Gs wr ∧ Below w.heap.size w wr) (fun iv _ => (intOf iv + 1).toNat)
  case atStart => exact ⟨gs.length, w.heap.size + 1, [0], [], [], Nat.le_refl _, rfl, by rw [List.drop_length]; exact Chain.nil, blk_old9 HB4.out _, HT5.out, blk_old9 HBC.out _, HOF.out.alloc _, ⟨rfl, fun q C g h => by simp at h⟩, BW2.out.alloc (by omega) _⟩
  case round =>
    obtain ⟨j, G1, F, Cs, Gs, hj, rfl, hch, h4, h5, hc, hof, hcw, hw⟩ := hrel
    have HCH := Lib.hid hch
    have H4 := Lib.hid h4
    have H5 := Lib.hid h5
    have HC := Lib.hid hc
    have HF := Lib.hid hof
    have HCW := Lib.hid hcw
    have HW := Lib.hid hw
    have zw := hw.size
    have l4 := blk_lt h4
    have l5 := blk_lt h5
    have lc := blk_lt hc
    have s0 := blk_cell h5 0
    have s1 := blk_cell h5 1
    simp only [List.getElem?_toArray, List.getElem?_cons_zero, List.getElem?_cons_succ] at s0 s1
    by_cases hj0 : j = 0
    · subst hj0
      have f0 := blk_free h4 0
      have f1 := blk_free h4 1
      have r0 := blk_cell h4 0
      have r1 := blk_cell h4 1
      simp only [List.getElem?_toArray, List.getElem?_cons_zero, List.getElem?_cons_succ] at r0 r1
      clear hch h4 h5 hc hof hcw hw
      go_wp2_with fail
      have hg1 := gb_set (p := ⟨w.heap.size, 1, none⟩) (gb_set (p := ⟨w.heap.size, 0, none⟩) (gb_refl wr (some w.heap.size)) (.inl rfl) (.slice (some ⟨G1, 0, none⟩) F.length F.length)) (.inl rfl) (.slice (some ⟨w.heap.size + 2, 0, none⟩) gs.length gs.length)
      have hb2 := blk_set (blk_set H4.out 0 (.slice (some ⟨G1, 0, none⟩) F.length F.length)) 1 (.slice (some ⟨w.heap.size + 2, 0, none⟩) gs.length gs.length)
      have q0 := blk_cell hb2 0
      have q1 := blk_cell hb2 1
      have hch0 := HCH.out
      rw [List.drop_zero] at hch0
      refine bodyPost_ret (v := .agg #[.slice (some ⟨G1, 0, none⟩) F.length F.length, .slice (some ⟨w.heap.size + 2, 0, none⟩) gs.length gs.length]) (by simp [results, Try.results69, go_sem, q0, q1]) rfl
        ⟨G1, w.heap.size + 2, F, Cs, Gs, rfl, hch0, own_grown HF.out hg1 (fun g e e' => own_block HF.out H4.out (by decide) (e.trans e'.symm)), HCW.out.grown hg1 H4.out (by decide), (hg1.block _ lc (fun e => by have := Option.some.inj e; omega)).trans HC.out, HW.out.trans (below_gb hg1 zw (fun g e => by cases e; exact Nat.le_refl _))⟩
    · obtain ⟨i, rfl⟩ : ∃ i, j = i + 1 := ⟨j - 1, by omega⟩
      have hil : i < gs.length := by omega
      have ei : ((i + 1 : Nat) : Int) - 1 = (i : Int) := by omega
      rw [ei]
      obtain ⟨bg, off, rfl, hblt, hcs⟩ := HD.out (by omega)
      have hi : gs[i]? = some gs[i] := List.getElem?_eq_getElem hil
      have c0 : wr.cell? ⟨bg, off + i, none⟩ = some (.int .i64 (gs[i] : Nat)) := (hw.cell (p := ⟨bg, off + i, none⟩) hblt).trans (by simpa using hcs i _ hi 0 _ rfl)
      have hdr : gs.drop i = gs[i] :: gs.drop (i + 1) := List.drop_eq_getElem_cons hil
      have HDR := Lib.hid hdr
      have hsm := drop_sum gs i
      have hFl : F.length + (m - 1) * gs[i] ≤ 1000000000 := by
        rw [chain_flen hch, Nat.add_assoc, ← Nat.mul_add]
        have h1 : (gs.drop (i + 1)).sum + gs[i] ≤ gs.sum := by rw [hdr, List.sum_cons] at hsm; omega
        have := Nat.mul_le_mul_left (m - 1) h1
        omega
      have HFL := Lib.hid hFl
      have hca := chR_at i Cs Gs
      clear hcs hi hdr hsm hFl hch h4 h5 hc hof hcw hw hj0
      generalize gs[i] = gi at *
      have x1 : (0 : Int) ≤ (i : Int) := by omega
      have x2 : (i : Int) < (gs.length : Int) := by omega
      have x3 : IntKind.i64.wrap ((i : Int) - 1) = (i : Int) - 1 := IntWalk.i64_in _ (by omega)
      have n1 : ¬ w2.heap.size = w.heap.size + 2 := by omega
      have n2 : ¬ w.heap.size + 2 = w2.heap.size := by omega
      go_wp2_with fail
      have n3 : ¬ w2.heap.size = bg := by omega
      have n4 : ¬ w.heap.size + 2 = bg := by omega
      have hblw : bg < wr.heap.size := by omega
      first
        | (go_region_with (first | (go_at_call 92; refine (CT.out _ (below_drewN HW.out 1) F Cs gi G1 ⟨_, HCH.out⟩ HFL.out (rd_nums (own_drewN HF.out 1))).mono ?_; rintro e w9 ⟨G3, G4, F', C', rfl, hto, -, ho1, ho2, hb9⟩; have HTO := Lib.hid hto; have HO1 := Lib.hid ho1; have HO2 := Lib.hid ho2; have HB9 := Lib.hid (show Below wr.heap.size (wr.drewN 1) w9 from hb9); have H59 := Lib.hid ((HB9.out.block _ l5).trans H5.out); have HC9 := Lib.hid ((HB9.out.block _ lc).trans HC.out); have k0 := blk_cell H59.out 0; have k1 := blk_free H59.out 0; have k2 : w9.cell? ⟨w.heap.size + 2, i, none⟩ = some (.slice none 0 0) := (blk_cell HC9.out i).trans (by rw [List.getElem?_toArray]; exact hca); have k3 := blk_free HC9.out i; have k4 := blk_lt H59.out; have k6 := (HB9.out.cell (p := ⟨w2.heap.size, 1, none⟩) l5).trans s1; have k7 := (HB9.out.cell (p := ⟨bg, off + i, none⟩) hblw).trans c0; clear hto ho1 ho2 hb9)))
        | fail
      all_goals
        go_wp2_with fail
        go_roundw
        case rel =>
          have B99 : Below wr.heap.size wr w9 := (below_drewN (Below.refl wr.heap.size wr) 1).trans HB9.out
          have hgA := gb_set (p := ⟨w2.heap.size, 0, none⟩) (gb_refl w9 (some w2.heap.size)) (.inl rfl) (.slice (some ⟨G3, 0, none⟩) F'.length F'.length)
          have hgB := gb_set (p := ⟨w.heap.size + 2, i, none⟩) (gb_refl (w9.setCell ⟨w2.heap.size, 0, none⟩ (.slice (some ⟨G3, 0, none⟩) F'.length F'.length)) (some (w.heap.size + 2))) (.inl rfl) (.slice (some ⟨G4, 0, none⟩) C'.length C'.length)
          have b4a := (hgA.block w.heap.size (by omega) (fun e => by have := Option.some.inj e; omega)).trans ((HB9.out.block _ l4).trans H4.out)
          have b5a := blk_set H59.out 0 (.slice (some ⟨G3, 0, none⟩) F'.length F'.length)
          have bca := (hgA.block (w.heap.size + 2) (by omega) (fun e => by have := Option.some.inj e; omega)).trans HC9.out
          have bcb := blk_set bca i (.slice (some ⟨G4, 0, none⟩) C'.length C'.length)
          rw [List.setIfInBounds_toArray, chR_set] at bcb
          have zA : w9.heap.size ≤ (w9.setCell ⟨w2.heap.size, 0, none⟩ (.slice (some ⟨G3, 0, none⟩) F'.length F'.length)).heap.size := hgA.size
          have oF := own_lower HO1.out zw
          have oFa := own_grown oF hgA (fun g e e' => own_block oF H59.out (by decide) (e.trans e'.symm))
          have oFb := own_grown oFa hgB (fun g e e' => own_block oFa bca (by decide) (e.trans e'.symm))
          have cw9 : ChW w.heap.size (C' :: Cs) (G4 :: Gs) w9 := ⟨by simp [HCW.out.len], fun q C g h1 h2 => by
            cases q with
            | zero =>
              simp at h1 h2
              subst h1 h2
              exact own_lower HO2.out zw
            | succ q => exact own_below (HCW.out.own q C g (by simpa using h1) (by simpa using h2)) B99⟩
          have cwa := cw9.grown hgA H59.out (by decide)
          have cwb := cwa.grown hgB bca (by decide)
          have wB := ((HW.out.trans (B99.mono zw)).trans (below_gb hgA (by omega) (fun g e => by cases e; omega))).trans (below_gb hgB (by omega) (fun g e => by cases e; omega))
          exact ⟨i, G3, F', C' :: Cs, G4 :: Gs, by omega, rfl, by rw [HDR.out]; exact Chain.cons HCH.out HTO.out, (hgB.block w.heap.size (by omega) (fun e => by have := Option.some.inj e; omega)).trans b4a, (hgB.block w2.heap.size (by omega) (fun e => by have := Option.some.inj e; omega)).trans b5a, bcb, oFb, cwb, wB⟩
        case measure => (simp [intOf] <;> omega)
end Go.Proofs.Ytdlglnkhhbkndaa

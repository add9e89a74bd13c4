/- slices.Repeat of one number, whatever the world. -/
import Derived.Test.YtdlglnkhhbkndaaSl2
import Derived.Test.YtdlglnkhhbkndaaLayOk
import Derived.Test.YtdlglnkhhbkndaaLaid
import Derived.Laws.CopyOwn
namespace Go.Proofs.Ytdlglnkhhbkndaa
open Go.RowKit Go.Maps
set_option linter.unusedSimpArgs false
set_option linter.unusedVariables false
set_option maxRecDepth 100000

theorem anc9 (w : World) (cs : Array Value) (t : TypeId) (i : Nat) {v : Value} (h : cs[i]? = some v) : (w.alloc (.cells cs t)).cell? ⟨w.heap.size, i, none⟩ = some v := by
  have := h
  simp [go_sem, h]
theorem made_nums (n : Nat) : (madeCells (Value.int .i64 0).cells (n * 1)).toList = (List.replicate n (0 : Int)).map (Value.int .i64) := by
  rw [List.map_replicate, Nat.mul_one]
  simp [madeCells, Value.cells]
  rw [show (fun x : Nat => [Value.int IntKind.i64 0][x % 1]?.getD default) = fun _ => Value.int .i64 0 from by funext x; simp [Nat.mod_one], List.map_const', List.length_range]
/-- A row of which the first cells are laid. -/
def rowR (x : Int) (L n : Nat) : List Value := List.replicate n (.int .i64 x) ++ List.replicate (L - n) (.int .i64 0)
theorem rowR_len {x : Int} {L n : Nat} (h : n ≤ L) : (rowR x L n).length = L := by simp [rowR]; omega
theorem rowR_splice {x : Int} {L n k : Nat} (h : n + k ≤ L) : splice (rowR x L n) n (List.replicate k (.int .i64 x)) = rowR x L (n + k) := by
  unfold splice rowR
  rw [List.length_replicate, List.take_left' (by simp), List.drop_append, List.length_replicate, List.drop_eq_nil_of_le (by simp), List.nil_append, List.drop_replicate, ← List.append_assoc, List.replicate_append_replicate]
  congr 2
  omega
theorem rowR_at {x : Int} {L n j : Nat} (h : j < n) : (rowR x L n)[j]? = some (.int .i64 x) := by
  unfold rowR
  rw [List.getElem?_append_left (by simpa using h), List.getElem?_replicate, if_pos h]
theorem hsz_int : (Try.prog.info? 3).map (·.size) = some 1 := by kernel_rfl
theorem made_row {W : World} {B G L : Nat} (x : Int) (h : W.ownsRow B 3 1 (.slice (some ⟨G, 0, none⟩) L L) L (madeCells (Value.int .i64 0).cells (L * 1)).toList) : W.heap[G]? = some (.cells (rowR x L 0).toArray 3 (0, 0)) := by
  rcases own_open h with ⟨h0, _⟩ | ⟨g', cap', cur, hv, h1, h2, h3, h4, h5, h6⟩
  · cases h0
  · cases hv
    rw [h2]
    congr 2
    have e : cur.toList = rowR x L 0 := by
      rw [← List.take_of_length_le (l := cur.toList) (i := L * 1) (by rw [Array.length_toList, h5]; exact Nat.le_refl _), h6, made_nums]
      simp [rowR]
    rw [← e]
theorem src_one {W : World} {g : Nat} {x : Int} (G : Nat) (hx : W.cell? ⟨g, 0, none⟩ = some (.int .i64 x)) : 0 < (List.replicate 1 (Value.int .i64 x)).length → (some (⟨G, 0, none⟩ : Addr)) = some ⟨G, 0, none⟩ ∧ ∃ ad, (some (⟨g, 0, none⟩ : Addr)) = some ad ∧ ∀ j v, (List.replicate 1 (Value.int .i64 x))[j]? = some v → W.cell? (ad.add j) = some v := fun _ => ⟨rfl, _, rfl, fun j v hj => by
  have hj0 : j < 1 := by have := (List.getElem?_eq_some_iff.1 hj).1; simpa using this
  obtain rfl : j = 0 := by omega
  simp at hj
  subst hj
  simpa [Addr.add] using hx⟩
theorem src_row {W : World} {G : Nat} {x : Int} {L n k : Nat} (hk : k ≤ n) (hb : W.heap[G]? = some (.cells (rowR x L n).toArray 3 (0, 0))) : 0 < (List.replicate k (Value.int .i64 x)).length → (some (⟨G, n, none⟩ : Addr)) = some ⟨G, n, none⟩ ∧ ∃ ad, (some (⟨G, 0, none⟩ : Addr)) = some ad ∧ ∀ j v, (List.replicate k (Value.int .i64 x))[j]? = some v → W.cell? (ad.add j) = some v := fun _ => ⟨rfl, _, rfl, fun j v hj => by
  have hj0 : j < k := by have := (List.getElem?_eq_some_iff.1 hj).1; simpa using this
  rw [List.getElem?_replicate, if_pos hj0] at hj
  cases hj
  rw [Addr.add_lit, Nat.zero_add, blk_cell hb]
  rw [List.getElem?_toArray]
  exact rowR_at (by omega)⟩
theorem row_one (x : Int) (L k : Nat) : (∀ v ∈ List.replicate k (Value.int .i64 x), v.oneCell' = true) := fun v hv => by rw [(List.mem_replicate.1 hv).2]; rfl
set_option maxHeartbeats 2000000 in
theorem repeat_any (g : Nat) (x : Int) (L : Nat) (w : World) (hL : L ≤ 1000000000) (hL0 : 0 < L) (hg : g < w.heap.size) (hx : w.cell? ⟨g, 0, none⟩ = some (.int .i64 x)) :
    Calls Try.prog 101 #[.slice (some ⟨g, 0, none⟩) 1 1, .int .i64 (L : Nat)] w fun e w' => e = .returned (.slice (some ⟨w.heap.size, 0, none⟩) L L) ∧ w'.ownsRow w.heap.size 3 1 (.slice (some ⟨w.heap.size, 0, none⟩) L L) L ((List.replicate L x).map (Value.int .i64)) ∧ Below w.heap.size w w' := by
  obtain ⟨i0, hi0, hz0, hz1, hz2⟩ := info_parts infoInt
  have CM := Lib.hid (show Calls Try.prog 111 #[.int .u64 1, .int .u64 (L : Nat)] w (fun e w' => e = .returned (.tuple #[.int .u64 0, .int .u64 (L : Nat)]) ∧ w' = w) by
    have := Try.bits_Mul 1 L (by omega) (by omega) w
    rw [Nat.one_mul, Nat.div_eq_of_lt (by omega), Nat.mod_eq_of_lt (by omega)] at this
    exact this)
  have x1 : IntKind.u64.wrap (L : Int) = (L : Int) := IntWalk.u64_in _ (by omega)
  have x2 : IntKind.i64.wrap (L : Int) = (L : Int) := IntWalk.i64_in _ (by omega)
  have x3 : decide ((9223372036854775807 : Int) < (L : Int)) = false := by simp; omega
  have x4 : decide ((L : Int) < 0) = false := by simp
  have HN1 := Lib.hid (show (List.replicate 1 (Value.int .i64 x)).length = Nat.min 1 L by rw [List.length_replicate]; exact (Nat.min_eq_left hL0).symm)
  have HF1 := Lib.hid (show 0 + (List.replicate 1 (Value.int .i64 x)).length ≤ (rowR x L 0).length by rw [rowR_len (Nat.zero_le _), List.length_replicate]; omega)
  have HS1 := Lib.hid (rowR_splice (x := x) (L := L) (n := 0) (k := 1) (by omega))
  go_enter Try.func101, Try.ntmps101
  go_wp2_with (first
    | (go_at_call 111; refine CM.out.mono ?_; rintro e w1 ⟨rfl, hw1⟩; obtain rfl := hw1.symm)
    | (at_make; refine wpList_make_full _ rfl (.tmp 29) (.tmp 29) 43 rfl w.heap.size 3 i0 (.int .i64 0) 1 Try.underlying43 hi0 hz0 hz1 .i64 .i64 (L : Int) (L : Int) L rfl rfl rfl rfl ?m1 ?m2 ?m3 ?_; (case m1 => rw [hz2]; omega); (case m2 => simp only [maxLen]; omega); (case m3 => omega); intro w2 hown hgr; have HB := Lib.hid (made_row x hown); have B2 := Lib.hid ((Below.refl w.heap.size w).grown hgr (Nat.le_refl _) (fun j hj => by cases hj)); have z2 := B2.out.size; have HX2 := Lib.hid (src_one w.heap.size ((B2.out.cell (p := ⟨g, 0, none⟩) hg).trans hx)); clear hown hgr)
    | (refine wpList_copy_splice rfl (.tmp 31) (.tmp 32) 43 43 rfl 3 Try.underlying43 hsz_int (some ⟨w.heap.size, 0, none⟩) (some ⟨g, 0, none⟩) L L 1 1 rfl rfl w.heap.size 0 (rowR x L 0) 3 HB.out (List.replicate 1 (.int .i64 x)) HN1.out HX2.out HF1.out (row_one x L 1) w.heap.size w B2.out (Nat.le_refl _) ?_; intro w3 HG3 hB3; have HB3 := Lib.hid hB3))
  go_loopw [8] (fun nv wr => ∃ n : Nat, 1 ≤ n ∧ n ≤ L ∧ nv = .int .i64 n ∧ Hid (wr.heap[w.heap.size]? = some (.cells (rowR x L n).toArray 3 (0, 0))) ∧ Below w.heap.size w wr) (fun nv _ => L - (intOf nv).toNat)
  case atStart => exact ⟨1, Nat.le_refl _, hL0, rfl, Lib.hid (by have := HG3.out; rw [HS1.out] at this; exact this), HB3.out⟩
  case round =>
    obtain ⟨n, h1, h2, rfl, HG, hw⟩ := hrel
    have HW := Lib.hid hw
    have zw := hw.size
    clear hw
    by_cases hlt : n < L
    · have hlt' : (n : Int) < (L : Int) := by omega
      obtain ⟨k, hk⟩ : ∃ k, k = Nat.min n (L - n) := ⟨_, rfl⟩
      have hk1 : k ≤ n ∧ n + k ≤ L ∧ 1 ≤ k := by rw [hk]; unfold Nat.min; omega
      have HNK := Lib.hid (show (List.replicate k (Value.int .i64 x)).length = Nat.min n (L - n) by rw [List.length_replicate, hk])
      have HFK := Lib.hid (show n + (List.replicate k (Value.int .i64 x)).length ≤ (rowR x L n).length by rw [rowR_len h2, List.length_replicate]; omega)
      have HSK := Lib.hid (rowR_splice (x := x) (L := L) (n := n) (k := k) hk1.2.1)
      have y1 : IntKind.i64.wrap ((n : Int) + (k : Int)) = ((n + k : Nat) : Int) := by rw [IntWalk.i64_in _ (by omega)]; rfl
      have y2 : (0 : Int) ≤ (n : Int) := by omega
      have y3 : n ≤ L := h2
      have y4 : (n : Int) ≤ (L : Int) := by omega
      clear hk
      have hne : ¬ L = n := by omega
      go_wp2_with fail
      go_region_held3 (fun _ => True) (trivial) (first | (refine step_copy_splice rfl (.tmp 41) (.tmp 44) 43 43 rfl 3 Try.underlying43 hsz_int (some ⟨w.heap.size, n, none⟩) (some ⟨w.heap.size, 0, none⟩) (L - n) (L - n) n L (by simp [Act.eval, Act.put, hne]) (by simp [Act.eval, Act.put]) w.heap.size n (rowR x L n) 3 HG.out (List.replicate k (.int .i64 x)) HNK.out (src_row (by omega) HG.out) HFK.out (row_one x L k) w.heap.size w (below_drewN HW.out 1) (Nat.le_refl _) ?_; intro w4 hg4 hb4))
      have HB4 := Lib.hid hb4
      clear hb4
      go_wp2_with fail
      go_roundw

      case rel => exact ⟨n + k, by omega, by omega, rfl, Lib.hid (by have := hg4.out; rw [HSK.out] at this; exact this), HB4.out⟩
      case measure => (simp [intOf] <;> omega)
    · obtain rfl : n = L := by omega
      go_wp2_with fail
      go_ret
      refine ⟨rfl, ?_, HW.out⟩
      refine own_mk (Nat.le_refl _) HG.out (Nat.le_refl _) (by unfold maxLen; omega) (by simp [rowR]) ?_
      simp [rowR]
end Go.Proofs.Ytdlglnkhhbkndaa

/- without of package shape (slices.DeleteFunc, slices.IndexFunc) says what its plain counterpart says, whatever the world. -/
import Derived.Test.YtmcbjaefnhfopaaGreatSweepA
namespace Go.Proofs.YtmcbjaefnhfopaaGreat
open Go.RowKit
open Reg (R4 E5)
set_option linter.unusedSimpArgs false
set_option linter.unusedVariables false

/-! ## What a row of one's own and new blocks alone turn -/
section
variable {w w1 w2 : World} {o : Option Nat}
theorem gb_refl (w : World) (o : Option Nat) : w.grownBy w o := ⟨rfl, rfl, rfl, Nat.le_refl _, fun _ _ _ => rfl⟩
theorem gb_trans (h : w.grownBy w1 o) (k : w1.grownBy w2 o) : w.grownBy w2 o :=
  ⟨k.os.trans h.os, k.tape.trans h.tape, k.output.trans h.output, Nat.le_trans h.size k.size, fun j hj hn => (k.block j (Nat.lt_of_lt_of_le hj h.size) hn).trans (h.block j hj hn)⟩
theorem gb_alloc (h : w.grownBy w1 o) (x : Obj) : w.grownBy (w1.alloc x) o :=
  ⟨h.os, h.tape, h.output, by have := h.size; simp; omega, fun j hj hn => by
    have := h.size
    rw [← h.block j hj hn]
    simp only [World.alloc]
    rw [Array.getElem?_push_lt (by omega), Array.getElem?_eq_getElem]⟩
theorem gb_drew (h : w.grownBy w1 o) : w.grownBy w1.drew o := ⟨h.os, h.tape, h.output, h.size, h.block⟩
theorem gb_set (h : w.grownBy w1 o) {p : Addr} (hp : o = some p.block ∨ w.heap.size ≤ p.block) (v : Value) : w.grownBy (w1.setCell p v) o :=
  ⟨h.os, h.tape, h.output, by have := h.size; simpa using this, fun j hj hn => by
    rw [← h.block j hj hn]
    have hne : ¬ p.block = j := by
      rcases hp with rfl | hp
      · exact fun e => hn (by rw [e])
      · omega
    simp [World.setCell, Array.getElem?_modify, hne]⟩
theorem gb_below (h : w.grownBy w1 o) {B : Nat} (hb : Below B w1 w2) (hB : w.heap.size ≤ B) : w.grownBy w2 o :=
  ⟨hb.os.trans h.os, hb.tape.trans h.tape, hb.output.trans h.output, Nat.le_trans h.size hb.size, fun j hj hn => (hb.block j (by omega)).trans (h.block j hj hn)⟩
theorem gb_setRow (h : w.grownBy w1 o) {g : Nat} (hp : o = some g) (d : Array Value) : w.grownBy (w1.setRow g d) o :=
  ⟨h.os, h.tape, h.output, by have := h.size; simpa [World.setRow] using this, fun j hj hn => by
    rw [← h.block j hj hn]
    have hne : ¬ g = j := fun e => hn (by rw [hp, e])
    simp [World.setRow, Array.getElem?_modify, hne]⟩
theorem below_gb {B : Nat} (h : w.grownBy w1 o) (hB : B ≤ w.heap.size) (ho : ∀ g, o = some g → B ≤ g) : Below B w w1 :=
  ⟨h.os, h.tape, h.output, h.size, fun j hj => h.block j (by omega) (fun e => by have := ho j e.symm; omega)⟩
end

/-! ## The search -/
def ixN (y : Int) (l : List E5) : Nat := (l.takeWhile fun e => !decide (e.y1 = y)).length
theorem ixN_eq {y : Int} {e : E5} {l : List E5} (h : e.y1 = y) : ixN y (e :: l) = 0 := by simp [ixN, h]
theorem ixN_ne {y : Int} {e : E5} {l : List E5} (h : ¬ e.y1 = y) : ixN y (e :: l) = ixN y l + 1 := by simp [ixN, h]
theorem ixN_le (y : Int) (l : List E5) : ixN y l ≤ l.length := (List.takeWhile_sublist _).length_le
theorem ixN_before {y : Int} {l : List E5} : ∀ {k : Nat} {e : E5}, k < ixN y l → l[k]? = some e → ¬ e.y1 = y := by
  induction l with
  | nil => intro k e h; simp [ixN] at h
  | cons a l ih =>
    intro k e h hk
    by_cases ha : a.y1 = y
    · rw [ixN_eq ha] at h; omega
    · cases k with
      | zero => simp at hk; subst hk; exact ha
      | succ k => rw [ixN_ne ha] at h; exact ih (k := k) (by omega) (by simpa using hk)
theorem ixN_at {y : Int} {l : List E5} : ∀ {e : E5}, l[ixN y l]? = some e → e.y1 = y := by
  induction l with
  | nil => intro e h; simp at h
  | cons a l ih =>
    intro e h
    by_cases ha : a.y1 = y
    · rw [ixN_eq ha] at h; simp at h; subst h; exact ha
    · rw [ixN_ne ha] at h; exact ih (by simpa using h)
def ixI (y : Int) (l : List E5) : Int := if ixN y l < l.length then ixN y l else -1

theorem without1_any (e : E5) (B : Nat) (y : Int) (w : World) (hy : w.cell? ⟨B, 0, none⟩ = some (.int .i64 y)) (hB : B < w.heap.size) :
    Calls Tryz.prog 93 #[.agg #[.int .i64 e.x, .int .i64 e.y0, .int .i64 e.y1, .int .i64 e.li, .int .i64 e.st], .pointer (some ⟨B, 0, none⟩)] w fun en w' => en = .returned (.bool (decide (e.y1 = y))) ∧ Below w.heap.size w w' := by
  have hne : ¬ B = w.heap.size := by omega
  have hne' : ¬ w.heap.size = B := by omega
  have hb : (e.y1 == y) = decide (e.y1 = y) := rfl
  go_enter Tryz.func93, Tryz.ntmps93
  go_wp2_with fail
  go_ret
  exact ⟨rfl, by (repeat' (first | (with_reducible exact Below.refl _ _) | (with_reducible assumption) | (with_reducible refine Below.alloc ?_ ?_ _) | (with_reducible refine Below.drew ?_) | (with_reducible refine below_drewN ?_ _) | (with_reducible refine Below.setCell ?_ ?_ _) | (with_reducible exact Nat.le_refl _) | omega | (simp only [World.size_alloc, World.size_setCell, World.size_drew]; omega) | (simp; omega) | (simp; done)))⟩

set_option maxRecDepth 100000 in
set_option maxHeartbeats 1000000 in
theorem indexFunc_any (A : Option Addr) (l : List E5) (c B : Nat) (y : Int) (w : World) (hl : l.length ≤ 140737488355328) (h : RdE w A l) (hy : w.cell? ⟨B, 0, none⟩ = some (.int .i64 y)) (hB : B < w.heap.size) :
    Calls Tryz.prog 106 #[.slice A l.length c, .func (.func 93) #[] #[.pointer (some ⟨B, 0, none⟩)]] w fun e w' => e = .returned (.int .i64 (ixI y l)) ∧ Below w.heap.size w w' := by
  have H0 := Lib.hid h
  have HY := Lib.hid hy
  have HI := Lib.hid (show ixI y l = if ixN y l < l.length then ((ixN y l : Nat) : Int) else -1 from rfl)
  clear h hy
  generalize ixI y l = I at *
  go_enter Tryz.func106, Tryz.ntmps106
  go_wp2_with fail
  go_loopw [8] (fun i wr => ∃ k : Nat, k ≤ l.length ∧ i = .int .i64 k ∧ ixN y l = k + ixN y (l.drop k) ∧ Below w.heap.size w wr) (fun i _ => l.length - (intOf i).toNat)
  case atStart => exact ⟨0, Nat.zero_le _, rfl, by simp, by (repeat' (first | (with_reducible exact Below.refl _ _) | (with_reducible assumption) | (with_reducible refine Below.alloc ?_ ?_ _) | (with_reducible refine Below.drew ?_) | (with_reducible refine below_drewN ?_ _) | (with_reducible refine Below.setCell ?_ ?_ _) | (with_reducible exact Nat.le_refl _) | omega | (simp only [World.size_alloc, World.size_setCell, World.size_drew]; omega) | (simp; omega) | (simp; done)))⟩
  case round =>
    obtain ⟨k, hk, rfl, hf, hbw⟩ := hrel
    have HF := Lib.hid hf
    clear hf
    have zw := hbw.size
    have hkz : (0 : Int) ≤ (k : Int) := by omega
    by_cases hlt : k < l.length
    · obtain ⟨b, off, rfl, hblt, hcs⟩ := (H0.out.below hbw) (by omega)
      have hi1 : l[k]? = some l[k] := List.getElem?_eq_getElem hlt
      obtain ⟨c0, c1, c2, c3, c4⟩ := hcs k _ hi1
      have hd : l.drop k = l[k] :: l.drop (k + 1) := List.drop_eq_getElem_cons hlt
      have HD := Lib.hid hd
      clear hi1 hcs hd
      generalize l[k] = r at *
      have hklt : (k : Int) < (l.length : Int) := by omega
      have C1 := Lib.hid (without1_any r B y wr ((hbw.cell (p := ⟨B, 0, none⟩) hB).trans HY.out) (by omega))
      by_cases hyy : r.y1 = y
      · rw [decide_eq_true hyy] at C1
        have hn : ixN y l = k := by rw [HF.out, HD.out, ixN_eq hyy]; rfl
        have hI : I = (k : Int) := by rw [HI.out, hn, if_pos hlt]
        have HI2 := Lib.hid hI
        clear hn hyy hI
        go_wp2_with fail
        refine C1.out.mono ?_
        rintro e w1 ⟨rfl, hb⟩
        have B1 := hbw.trans (hb.mono zw)
        clear hb
        go_wp2_with fail
        go_ret
        exact ⟨by rw [HI2.out]; rfl, B1⟩
      · rw [decide_eq_false hyy] at C1
        have hn : ixN y l = k + 1 + ixN y (l.drop (k + 1)) := by rw [HF.out, HD.out, ixN_ne hyy]; omega
        have HN := Lib.hid hn
        clear hn hyy
        go_wp2_with fail
        refine C1.out.mono ?_
        rintro e w1 ⟨rfl, hb⟩
        have B1 := hbw.trans (hb.mono zw)
        clear hb
        go_wp2_with fail
        go_roundw
        case rel => exact ⟨k + 1, by omega, by go_num, HN.out, B1⟩
        case measure => simp [intOf]; omega
    · obtain rfl : k = l.length := by omega
      have hn : ixN y l = l.length := by rw [HF.out, List.drop_length]; rfl
      have hI : I = -1 := by rw [HI.out, hn, if_neg (by omega)]
      have HI2 := Lib.hid hI
      clear hn hI
      go_wp2_with fail
      go_ret
      exact ⟨by rw [HI2.out]; rfl, hbw⟩

/-! ## The deletion -/
def keepY (y : Int) (e : E5) : Bool := !decide (e.y1 = y)
theorem zeroE : ∃ z : Value, (∀ w, (zeroValue 75).run Tryz.prog w = .ok z w) ∧ (∀ n, (Builtin.zeroCells z.cells n).size = n * 5 ∧ ∀ v ∈ (Builtin.zeroCells z.cells n).toList, v.oneCell' = true) := by
  refine ⟨.agg #[.int .i64 0, .int .i64 0, .int .i64 0, .int .i64 0, .int .i64 0], Tryz.zeroValue75, fun n => ?_⟩
  refine ⟨by simp [Builtin.zeroCells, Value.cells], fun v hv => ?_⟩
  simp only [Builtin.zeroCells, Value.cells, Array.toList_map, List.mem_map] at hv
  obtain ⟨i, _, rfl⟩ := hv
  have : i % 5 < 5 := Nat.mod_lt _ (by decide)
  show (#[Value.int .i64 0, Value.int .i64 0, Value.int .i64 0, Value.int .i64 0, Value.int .i64 0][i % 5]!).oneCell' = true
  generalize i % 5 = m at *
  match m, this with
  | 0, _ => rfl
  | 1, _ => rfl
  | 2, _ => rfl
  | 3, _ => rfl
  | 4, _ => rfl
theorem clear5 {w : World} {g : Nat} {cur : Array Value} (b : Blk w g 75 cur) (ty : TypeId) (i n c : Nat) (hn : 0 < n) (hs : i * 5 + n * 5 ≤ cur.size) :
    ∃ cur', (Builtin.clear_ #[71] ty #[.slice (some ⟨g, i * 5, none⟩) n c]).run Tryz.prog w = .ok (.tuple #[]) (w.setRow g cur') ∧ cur'.size = cur.size ∧ ∀ t, t < i * 5 → cur'[t]? = cur[t]? := by
  obtain ⟨z, hz, hc⟩ := zeroE
  obtain ⟨h1, h2⟩ := hc n
  have hst := run_storeCells_at (P := Tryz.prog) g (i * 5) 75 (Builtin.zeroCells z.cells n).toList 0 cur w b (by rw [Array.length_toList, h1]; omega) h2
  have hl : (Builtin.zeroCells z.cells n).toList.length = n * 5 := by rw [Array.length_toList, h1]
  obtain ⟨m, rfl⟩ : ∃ m, n = m + 1 := ⟨n - 1, by omega⟩
  have hrun : ∀ d, (storeCells ⟨g, i * 5, none⟩ (Builtin.zeroCells z.cells (m + 1)).toList).run Tryz.prog w = .ok () (w.setRow g d) → (Builtin.clear_ #[71] ty #[.slice (some ⟨g, i * 5, none⟩) (m + 1) c]).run Tryz.prog w = .ok (.tuple #[]) (w.setRow g d) := fun d hd => by
    simp [Builtin.clear_, run_underlying Tryz.underlying71, hz, hd]
  generalize (Builtin.zeroCells z.cells (m + 1)).toList = zs at *
  refine ⟨_, hrun _ hst, ?_, fun t ht => ?_⟩
  · simp [hl]
    omega
  · simp only [List.getElem?_toArray, List.append_assoc, Nat.add_zero]
    rw [List.getElem?_append_left (by simp; omega), List.getElem?_take_of_lt ht, Array.getElem?_toList]

theorem filter_take_ix {y : Int} {l : List E5} : (l.take (ixN y l)).filter (keepY y) = l.take (ixN y l) := by
  rw [List.filter_eq_self]
  intro e he
  obtain ⟨k, hk⟩ := List.getElem?_of_mem he
  have hlt : k < ixN y l := by
    have := (List.getElem?_eq_some_iff.1 hk).1
    simp at this
    omega
  rw [List.getElem?_take_of_lt hlt] at hk
  simp [keepY, ixN_before hlt hk]
theorem filter_take_succ (y : Int) {l : List E5} {j : Nat} {e : E5} (h : l[j]? = some e) : (l.take (j + 1)).filter (keepY y) = (l.take j).filter (keepY y) ++ (if keepY y e then [e] else []) := by
  rw [List.take_add_one, h, List.filter_append]
  simp [List.filter_cons]

theorem filter_take_le (y : Int) (l : List E5) (j : Nat) : ((l.take j).filter (keepY y)).length ≤ j := Nat.le_trans (List.length_filter_le _ _) (by simp; omega)

set_option maxRecDepth 100000 in
set_option maxHeartbeats 1000000 in
theorem deleteFunc_none (A : Option Addr) (l : List E5) (c B : Nat) (y : Int) (w : World)
    (C1 : Calls Tryz.prog 106 #[.slice A l.length c, .func (.func 93) #[] #[.pointer (some ⟨B, 0, none⟩)]] w fun e w' => e = .returned (.int .i64 (ixI y l)) ∧ Below w.heap.size w w')
    (hx : ixN y l = l.length) :
    Calls Tryz.prog 92 #[.slice A l.length c, .func (.func 93) #[] #[.pointer (some ⟨B, 0, none⟩)]] w fun e w' =>
      e = .returned (.slice A l.length c) ∧ l.filter (keepY y) = l ∧ Below w.heap.size w w' := by
  have hI : ixI y l = -1 := if_neg (by omega)
  rw [hI] at C1
  have hfi := filter_take_ix (y := y) (l := l)
  rw [hx, List.take_length] at hfi
  have HFI := Lib.hid hfi
  have H1 := Lib.hid C1
  clear hI hfi hx C1
  go_enter Tryz.func92, Tryz.ntmps92
  go_wp2_with fail
  refine H1.out.mono ?_
  rintro e w1 ⟨rfl, hb⟩
  have B1 := Lib.hid hb
  clear hb
  go_wp2_with fail
  go_ret
  exact ⟨rfl, HFI.out, B1.out⟩

set_option maxRecDepth 100000 in
set_option maxHeartbeats 2000000 in
theorem deleteFunc_any (g cap : Nat) (cur : Array Value) (l : List E5) (B : Nat) (y : Int) (w : World) (b : Blk w g 75 cur) (hl : l.length ≤ cap) (hll : l.length ≤ 140737488355328) (hs : cur.size = cap * 5) (hin : InE cur l)
    (hne : B ≠ g) (hy : w.cell? ⟨B, 0, none⟩ = some (.int .i64 y)) (hB : B < w.heap.size) :
    Calls Tryz.prog 92 #[.slice (some ⟨g, 0, none⟩) l.length cap, .func (.func 93) #[] #[.pointer (some ⟨B, 0, none⟩)]] w fun e w' =>
      e = .returned (.slice (some ⟨g, 0, none⟩) (l.filter (keepY y)).length cap) ∧ (∃ cur', Blk w' g 75 cur' ∧ cur'.size = cap * 5 ∧ InE cur' (l.filter (keepY y))) ∧ w.grownBy w' (some g) := by
  have hrd : RdE w (some ⟨g, 0, none⟩) l := fun _ => ⟨g, 0, rfl, b.lt, fun i e hi => by
    obtain ⟨a0, a1, a2, a3, a4⟩ := hin i e hi
    simp only [b.cell, Nat.zero_add]
    exact ⟨a0, a1, a2, a3, a4⟩⟩
  have C1 := Lib.hid (indexFunc_any (some ⟨g, 0, none⟩) l cap B y w (by omega) hrd hy hB)
  clear hrd
  have HB := Lib.hid b
  have HIN := Lib.hid hin
  have HY := Lib.hid hy
  have hlt0 := b.lt
  clear b hin hy
  by_cases hx : ixN y l < l.length
  · have hI : ixI y l = (ixN y l : Nat) := if_pos hx
    rw [hI] at C1
    have hneg : (((ixN y l : Nat) : Int) == -1) = false := beq_eq_false_iff_ne.2 (by omega)
    have hfi := Lib.hid (filter_take_ix (y := y) (l := l))
    have hix : l[ixN y l]? = some l[ixN y l] := List.getElem?_eq_getElem hx
    have hk := ixN_at hix
    have hfs := Lib.hid (filter_take_succ y hix)
    have hkk : keepY y l[ixN y l] = false := by simp [keepY, hk]
    have HK := Lib.hid hkk
    clear hI hix hk hkk
    generalize ixN y l = ix at *
    go_enter Tryz.func92, Tryz.ntmps92
    go_wp2_with fail
    refine C1.out.mono ?_
    rintro e w1 ⟨rfl, hb⟩
    have B1 := Lib.hid (HB.out.below hb hlt0)
    have G1 := Lib.hid (gb_below (gb_refl w (some g)) hb (Nat.le_refl _))
    have Y1 := Lib.hid ((hb.cell (p := ⟨B, 0, none⟩) hB).trans HY.out)
    have z1 := hb.size
    clear hb
    go_wp2_with fail
    go_loopw [5, 6] (fun s5 s6 wr => ∃ (ii jj : Nat) (cr : Array Value), s5 = .int .i64 ii ∧ s6 = .int .i64 jj ∧ jj ≤ l.length ∧ ii < jj ∧ Blk wr g 75 cr ∧ cr.size = cap * 5 ∧ ((l.take jj).filter (keepY y)).length = ii ∧ InE cr ((l.take jj).filter (keepY y)) ∧ (∀ t e, jj ≤ t → l[t]? = some e → At5 cr t e) ∧ wr.cell? ⟨B, 0, none⟩ = some (.int .i64 y) ∧ w.grownBy wr (some g)) (fun _ s6 _ => l.length - (intOf s6).toNat)
    case atStart =>
      refine ⟨ix, ix + 1, cur, rfl, by go_num, hx, by omega, B1.out, hs, ?_, ?_, fun t e _ hi => HIN.out t e hi, Y1.out, G1.out⟩
      · rw [hfs.out, HK.out, hfi.out]; simp; omega
      · rw [hfs.out, HK.out, hfi.out]
        intro i e hi
        simp only [Bool.false_eq_true, if_false, List.append_nil] at hi
        have hlt := (List.getElem?_eq_some_iff.1 hi).1
        simp at hlt
        rw [List.getElem?_take_of_lt (by omega)] at hi
        exact HIN.out i e hi
    case round =>
      obtain ⟨ii, jj, cr, rfl, rfl, hj, hij, bR, hsr, hlen, hinR, hrest, hyR, gR⟩ := hrel
      have BR := Lib.hid bR
      have HL := Lib.hid hlen
      have HR := Lib.hid hinR
      have HE := Lib.hid hrest
      have YR := Lib.hid hyR
      have GR := Lib.hid gR
      have zr := gR.size
      have glt := bR.lt
      clear bR hlen hinR hrest hyR gR
      have hjz : (0 : Int) ≤ (jj : Int) := by omega
      have hiz : (0 : Int) ≤ (ii : Int) := by omega
      have hneg1 : ¬ (jj : Int) < 0 := by omega
      have hgr : ¬ g = wr.heap.size := by omega
      have hrg : ¬ wr.heap.size = g := by omega
      by_cases hlt : jj < l.length
      · have hjlt : (jj : Int) < (l.length : Int) := by omega
        have hi1 : l[jj]? = some l[jj] := List.getElem?_eq_getElem hlt
        obtain ⟨a0, a1, a2, a3, a4⟩ := HE.out jj _ (Nat.le_refl _) hi1
        have HS := Lib.hid (filter_take_succ y hi1)
        generalize l[jj] = r at *
        rw [← BR.out.cell] at a0 a1 a2 a3 a4
        clear hi1
        go_wp2_with fail
        refine (without1_any r B y _ ?_ ?_).mono ?_
        · rw [World.cell?_alloc_lt _ _ _ (by simp; omega)]; exact YR.out
        · simp; omega
        rintro e w2 ⟨rfl, hb⟩
        have Y2 := Lib.hid ((hb.cell (p := ⟨B, 0, none⟩) (by simp; omega)).trans ((World.cell?_alloc_lt _ _ _ (by simp; omega)).trans YR.out))
        have B2 := Lib.hid ((BR.out.alloc (.cells #[.int .i64 r.x, .int .i64 r.y0, .int .i64 r.y1, .int .i64 r.li, .int .i64 r.st] 75)).below hb (by simp; omega))
        have G2 := Lib.hid (gb_below (gb_alloc GR.out (.cells #[.int .i64 r.x, .int .i64 r.y0, .int .i64 r.y1, .int .i64 r.li, .int .i64 r.st] 75)) hb (by simp; omega))
        obtain ⟨kv, fv⟩ := kp hb (b := wr.heap.size) (cs := #[.int .i64 r.x, .int .i64 r.y0, .int .i64 r.y1, .int .i64 r.li, .int .i64 r.st]) (by (first | (with_reducible exact Nat.le_refl _) | (with_reducible assumption) | omega | (simp only [World.size_alloc, World.size_setCell, World.size_drew]; omega) | (simp; omega) | (simp; done))) (fun i => by simp [go_sem]) (fun i => by simp [go_sem])
        have z2 := hb.size
        (try simp only [World.size_alloc, World.size_setCell, World.size_drew] at z2)
        clear hb
        have hcap : ii * 5 + 5 ≤ cr.size := by rw [hsr]; omega
        have o0 := (B2.out.cell (ii * 5)).trans (Array.getElem?_eq_getElem (by omega))
        have o1 := (B2.out.cell (ii * 5 + 1)).trans (Array.getElem?_eq_getElem (by omega))
        have o2 := (B2.out.cell (ii * 5 + 2)).trans (Array.getElem?_eq_getElem (by omega))
        have o3 := (B2.out.cell (ii * 5 + 3)).trans (Array.getElem?_eq_getElem (by omega))
        have o4 := (B2.out.cell (ii * 5 + 4)).trans (Array.getElem?_eq_getElem (by omega))
        have e0 := B2.out.frozen (ii * 5)
        have e1 := B2.out.frozen (ii * 5 + 1)
        have e2 := B2.out.frozen (ii * 5 + 2)
        have e3 := B2.out.frozen (ii * 5 + 3)
        have e4 := B2.out.frozen (ii * 5 + 4)
        have hilt : (ii : Int) < (l.length : Int) := by omega
        cases hq : decide (r.y1 = y)
        · have hke : keepY y r = true := by simp [keepY, hq]
          have HKE := Lib.hid hke
          clear hke
          go_wp2_with fail
          go_roundw
          case rel =>
            refine ⟨ii + 1, jj + 1, set5 cr ii r, by go_num, by go_num, by omega, by omega, B2.out.set5 ii r, by rw [set5_size]; exact hsr, ?_, ?_, fun t e ht hi => (HE.out t e (by omega) hi).set_other (by omega), ?_, ?_⟩
            · rw [HS.out, HKE.out]; simp [HL.out]
            · rw [HS.out, HKE.out]; exact InE_snoc HR.out HL.out hcap
            · rw [set5_far (fun e => hne e.symm)]; exact Y2.out
            · exact gb_set (gb_set (gb_set (gb_set (gb_set G2.out (.inl rfl) _) (.inl rfl) _) (.inl rfl) _) (.inl rfl) _) (.inl rfl) _
          case measure => simp [intOf]; omega
        · have hke : keepY y r = false := by simp [keepY, hq]
          have HKE := Lib.hid hke
          clear hke
          go_wp2_with fail
          go_roundw
          case rel =>
            refine ⟨ii, jj + 1, cr, rfl, by go_num, by omega, by omega, B2.out, hsr, ?_, ?_, fun t e ht hi => HE.out t e (by omega) hi, Y2.out, G2.out⟩
            · rw [HS.out, HKE.out]; simpa using HL.out
            · rw [HS.out, HKE.out]; simpa using HR.out
          case measure => simp [intOf]; omega
      · obtain rfl : jj = l.length := by omega
        obtain ⟨cz, hrun, hz1, hz2⟩ := clear5 BR.out 0 ii (l.length - ii) (cap - ii) (by omega) (by rw [hsr]; omega)
        have hnlt : ¬ (l.length : Int) < (l.length : Int) := by omega
        go_wp2_with fail
        go_ret
        rw [List.take_length] at HL HR
        refine ⟨by rw [HL.out]; rfl, ⟨cz, BR.out.setRow cz, by rw [hz1, hsr], fun i e hi => ?_⟩, gb_setRow GR.out rfl _⟩
        obtain ⟨q0, q1, q2, q3, q4⟩ := HR.out i e hi
        have hlt := (List.getElem?_eq_some_iff.1 hi).1
        rw [HL.out] at hlt
        exact ⟨(hz2 _ (by omega)).trans q0, (hz2 _ (by omega)).trans q1, (hz2 _ (by omega)).trans q2, (hz2 _ (by omega)).trans q3, (hz2 _ (by omega)).trans q4⟩
  · have hle := ixN_le y l
    refine (deleteFunc_none (some ⟨g, 0, none⟩) l cap B y w C1.out (by omega)).mono ?_
    rintro e w1 ⟨rfl, hfi, hb⟩
    rw [hfi]
    exact ⟨rfl, ⟨cur, HB.out.below hb hlt0, hs, HIN.out⟩, gb_below (gb_refl w (some g)) hb (Nat.le_refl _)⟩

theorem keepY_nil (y : Int) : ([] : List E5).filter (keepY y) = [] := rfl
set_option maxRecDepth 100000 in
set_option maxHeartbeats 1000000 in
/-- without, of a row of the call's own. -/
theorem without_any (base : Nat) (v : Value) (l : List E5) (y : Int) (w : World) (hll : l.length ≤ 1000000) (hown : w.ownsRow base 75 5 v l.length (cE l)) :
    Calls Tryz.prog 78 #[v, .int .i64 y] w fun e w' => ∃ v', e = .returned v' ∧ w'.ownsRow base 75 5 v' (l.filter (keepY y)).length (cE (l.filter (keepY y))) ∧ v'.ownBlock = v.ownBlock ∧ w.grownBy w' v.ownBlock := by
  rcases own_open hown with ⟨rfl, hn⟩ | ⟨g, cap, cur, rfl, h1, b, h3, h4, h5, h6⟩
  · obtain rfl : l = [] := List.length_eq_zero_iff.1 hn
    have C0 := indexFunc_any none [] 0 w.heap.size y (w.alloc (.cells #[.int .i64 y] 3)) (by simp) (fun h => absurd h (by simp)) (by simp [go_sem]) (by simp)
    have C1 := Lib.hid (deleteFunc_none none [] 0 w.heap.size y _ C0 rfl)
    clear C0 hn
    have HO := Lib.hid hown
    clear hown
    simp only [List.length_nil] at C1
    go_enter Tryz.func78, Tryz.ntmps78
    go_wp2_with fail
    refine C1.out.mono ?_
    rintro e w1 ⟨rfl, _, hb⟩
    have B1 := Lib.hid hb
    clear hb
    go_wp2_with fail
    go_ret
    exact ⟨_, rfl, ⟨rfl, .inl ⟨rfl, rfl⟩⟩, rfl, gb_below (gb_alloc (gb_refl w _) _) B1.out (by simp)⟩
  · have hin : InE cur l := (take_cE (by rw [h5]; exact Nat.mul_le_mul_right _ h3)).1 h6
    have b' := b.alloc (.cells #[.int .i64 y] 3)
    have hlt := b.lt
    have C1 := Lib.hid (deleteFunc_any g cap cur l w.heap.size y _ b' h3 (by omega) h5 hin (by omega) (by simp [go_sem]) (by simp))
    clear b b' h6 hin hown
    go_enter Tryz.func78, Tryz.ntmps78
    go_wp2_with fail
    refine C1.out.mono ?_
    rintro e w1 ⟨rfl, ⟨cur', b1, s1, i1⟩, g1⟩
    have G1 := Lib.hid g1
    have I1 := Lib.hid i1
    have B1 := Lib.hid b1
    clear g1 b1 i1
    go_wp2_with fail
    go_ret
    exact ⟨_, rfl, own_cE h1 B1.out (Nat.le_trans (List.length_filter_le _ _) h3) h4 s1 I1.out, rfl, gb_trans (gb_alloc (gb_refl w _) _) G1.out⟩
end Go.Proofs.YtmcbjaefnhfopaaGreat

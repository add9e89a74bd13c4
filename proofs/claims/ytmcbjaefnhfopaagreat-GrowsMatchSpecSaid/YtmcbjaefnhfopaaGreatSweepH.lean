/- goesOn of package shape (slices.EqualFunc) says what its plain counterpart says, whatever the world. -/
import Derived.Test.YtmcbjaefnhfopaaGreatSweepG
import Derived.StillTailTactics
namespace Go.Proofs.YtmcbjaefnhfopaaGreat
open Go.RowKit
open Reg (R4 E5 Span goesOnP spanOf)
set_option linter.unusedSimpArgs false
set_option linter.unusedVariables false

/-! ## What a step may turn -/
structure Keeps (S : Nat → Prop) (w w' : World) : Prop where
  os : w'.os = w.os
  tape : w'.tape = w.tape
  output : w'.output = w.output
  size : w.heap.size ≤ w'.heap.size
  block : ∀ h, h < w.heap.size → ¬ S h → w'.heap[h]? = w.heap[h]?
section
variable {S S' : Nat → Prop} {w w1 w2 : World}
theorem Keeps.refl (S : Nat → Prop) (w : World) : Keeps S w w := ⟨rfl, rfl, rfl, Nat.le_refl _, fun _ _ _ => rfl⟩
theorem Keeps.trans (h : Keeps S w w1) (k : Keeps S' w1 w2) (hs : ∀ x, x < w.heap.size → S' x → S x) : Keeps S w w2 :=
  ⟨k.os.trans h.os, k.tape.trans h.tape, k.output.trans h.output, Nat.le_trans h.size k.size, fun x hx hn => (k.block x (Nat.lt_of_lt_of_le hx h.size) (fun e => hn (hs x hx e))).trans (h.block x hx hn)⟩
theorem keeps_gb {o : Option Nat} (h : w.grownBy w1 o) : Keeps (fun x => o = some x) w w1 := ⟨h.os, h.tape, h.output, h.size, fun x hx hn => h.block x hx (fun e => hn e.symm)⟩
theorem keeps_below (h : Below w.heap.size w w1) : Keeps (fun _ => False) w w1 := ⟨h.os, h.tape, h.output, h.size, fun x hx _ => h.block x hx⟩
theorem keeps_drewN (h : Keeps S w w1) (n : Nat) : Keeps S w (w1.drewN n) := ⟨h.os, h.tape, h.output, h.size, h.block⟩
theorem keeps_drew (h : Keeps S w w1) : Keeps S w w1.drew := ⟨h.os, h.tape, h.output, h.size, h.block⟩
theorem keeps_alloc (h : Keeps S w w1) (x : Obj) : Keeps S w (w1.alloc x) :=
  ⟨h.os, h.tape, h.output, by have := h.size; simp; omega, fun j hj hn => by
    have := h.size
    rw [← h.block j hj hn]
    simp only [World.alloc]
    rw [Array.getElem?_push_lt (by omega), Array.getElem?_eq_getElem]⟩
theorem keeps_set (h : Keeps S w w1) {p : Addr} (hp : p.block < w.heap.size → S p.block) (v : Value) : Keeps S w (w1.setCell p v) :=
  ⟨h.os, h.tape, h.output, by have := h.size; simpa using this, fun j hj hn => by
    rw [← h.block j hj hn]
    have hne : ¬ p.block = j := fun e => hn (e ▸ hp (by omega))
    simp [World.setCell, Array.getElem?_modify, hne]⟩
theorem Keeps.below (h : Keeps S w w1) {B : Nat} (hB : B ≤ w.heap.size) (hs : ∀ x, x < B → ¬ S x) : Below B w w1 := ⟨h.os, h.tape, h.output, h.size, fun x hx => h.block x (by omega) (hs x hx)⟩
theorem Keeps.cell (h : Keeps S w w1) {b : Nat} (hb : b < w.heap.size) (hn : ¬ S b) (j : Nat) : w1.cell? ⟨b, j, none⟩ = w.cell? ⟨b, j, none⟩ := by simp only [World.cell?, h.block b hb hn]
theorem Keeps.frozen (h : Keeps S w w1) {b : Nat} (hb : b < w.heap.size) (hn : ¬ S b) (j : Nat) : w1.frozen? ⟨b, j, none⟩ = w.frozen? ⟨b, j, none⟩ := by simp only [World.frozen?, h.block b hb hn]
theorem Keeps.own (h : Keeps S w w1) {base size n : Nat} {T : TypeId} {v : Value} {xs : List Value} (ho : w.ownsRow base T size v n xs) (hn : ∀ g, v.ownBlock = some g → ¬ S g) : w1.ownsRow base T size v n xs := by
  rcases own_open ho with ⟨rfl, rfl⟩ | ⟨g, cap, cur, rfl, h1, h2, h3, h4, h5, h6⟩
  · exact ⟨ho.1, .inl ⟨rfl, rfl⟩⟩
  · refine own_mk h1 ?_ h3 h4 h5 h6
    have := h2.lt
    unfold Blk at *
    rw [h.block g this (hn g rfl), h2]
theorem own_lt {w : World} {base size n : Nat} {T : TypeId} {v : Value} {xs : List Value} (ho : w.ownsRow base T size v n xs) {g : Nat} (hg : v.ownBlock = some g) : base ≤ g ∧ g < w.heap.size := by
  rcases own_open ho with ⟨rfl, rfl⟩ | ⟨g', cap, cur, rfl, h1, h2, h3, h4, h5, h6⟩
  · cases hg
  · simp [Value.ownBlock] at hg; subst hg; exact ⟨h1, h2.lt⟩
end

/-- A slice of stretches reads as a list. -/
def RdT (w : World) (A : Option Addr) (l : List Span) : Prop :=
  0 < l.length → ∃ b off, A = some ⟨b, off, none⟩ ∧ b < w.heap.size ∧ ∀ i s, l[i]? = some s → w.cell? ⟨b, off + i * 2, none⟩ = some (.int .i64 s.1) ∧ w.cell? ⟨b, off + i * 2 + 1, none⟩ = some (.int .i64 s.2)
theorem RdT.below {w w' : World} {A : Option Addr} {l : List Span} (h : RdT w A l) (hb : Below w.heap.size w w') : RdT w' A l := fun hn => by
  obtain ⟨b, off, e, hlt, hc⟩ := h hn
  exact ⟨b, off, e, Nat.lt_of_lt_of_le hlt hb.size, fun i r hi => by
    obtain ⟨h0, h1⟩ := hc i r hi
    exact ⟨((bcell hb).1 _ _ hlt).trans h0, ((bcell hb).1 _ _ hlt).trans h1⟩⟩
theorem cT_at {l : List Span} : ∀ {i : Nat} {s : Span}, l[i]? = some s → (cT l)[i * 2]? = some (.int .i64 s.1) ∧ (cT l)[i * 2 + 1]? = some (.int .i64 s.2) := by
  induction l with
  | nil => intro i s h; simp at h
  | cons a l ih =>
    intro i s h
    cases i with
    | zero => simp at h; subst h; exact ⟨rfl, rfl⟩
    | succ i =>
      simp at h
      have := ih h
      simp only [cT, List.flatMap_cons] at this ⊢
      rw [show (i + 1) * 2 = i * 2 + 1 + 1 from by omega]
      exact this
theorem rdT_own {w : World} {base : Nat} {v : Value} {l : List Span} (h : w.ownsRow base 107 2 v l.length (cT l)) : ∃ A c, v = .slice A l.length c ∧ RdT w A l := by
  obtain ⟨A, c, rfl, h1, h2, h3⟩ := own_cells h
  refine ⟨A, c, rfl, fun hpos => ?_⟩
  obtain ⟨g, rfl, hg, hlt, hc⟩ := h3 hpos
  refine ⟨g, 0, rfl, hlt, fun i r hi => ?_⟩
  rw [Nat.zero_add]
  obtain ⟨a0, a1⟩ := cT_at hi
  exact ⟨hc _ _ a0, hc _ _ a1⟩

/-! ## The comparison -/
def goOk (lo : Int) (r : R4) (s : Span) : Bool := (r.y1 == lo) && (r.x0 == s.1) && (r.x1 == s.2)
def goesL (lo : Int) : List R4 → List Span → Bool
  | [], [] => true
  | r :: t, s :: u => goOk lo r s && goesL lo t u
  | _, _ => false
theorem goesL_eq (lo : Int) : ∀ (l : List R4) (sp : List Span), goesL lo l sp = decide (l.map (fun r => (r.y1, spanOf r)) = sp.map fun s => (lo, s))
  | [], [] => rfl
  | [], _ :: _ => by simp [goesL]
  | _ :: _, [] => by simp [goesL]
  | r :: t, s :: u => by
    rw [goesL, goesL_eq lo t u, Bool.eq_iff_iff]
    obtain ⟨s1, s2⟩ := s
    simp [goOk, spanOf]
    constructor
    · rintro ⟨⟨⟨h1, h2⟩, h3⟩, h4⟩; exact ⟨⟨h1, h2, h3⟩, of_decide_eq_true h4⟩
    · rintro ⟨⟨h1, h2, h3⟩, h4⟩; exact ⟨⟨⟨h1, h2⟩, h3⟩, decide_eq_true h4⟩
theorem goesOnP_eq (rs : List R4) (last : Nat) (lo : Int) (sp : List Span) : goesOnP rs last lo sp = goesL lo (rs.drop last) sp := by rw [goesL_eq]; rfl
theorem goesL_len {lo : Int} : ∀ {l : List R4} {sp : List Span}, goesL lo l sp = true → l.length = sp.length
  | [], [], _ => rfl
  | [], _ :: _, h => by simp [goesL] at h
  | _ :: _, [], h => by simp [goesL] at h
  | r :: t, s :: u, h => by
    simp only [goesL, Bool.and_eq_true] at h
    simp [goesL_len h.2]
theorem goesL_at {lo : Int} {l : List R4} {sp : List Span} : ∀ {k : Nat} {r : R4} {s : Span}, l[k]? = some r → sp[k]? = some s → goesL lo (l.drop k) (sp.drop k) = (goOk lo r s && goesL lo (l.drop (k + 1)) (sp.drop (k + 1))) := by
  intro k r s h1 h2
  obtain ⟨i1, rfl⟩ := List.getElem?_eq_some_iff.1 h1
  obtain ⟨i2, rfl⟩ := List.getElem?_eq_some_iff.1 h2
  rw [List.drop_eq_getElem_cons i1, List.drop_eq_getElem_cons i2, goesL]

set_option maxRecDepth 100000 in
set_option maxHeartbeats 1000000 in
theorem goesOn1_any (r : R4) (s : Span) (B : Nat) (lo : Int) (w : World) (hy : w.cell? ⟨B, 0, none⟩ = some (.int .i64 lo)) (hB : B < w.heap.size) :
    Calls Tryz.prog 108 #[.agg #[.int .i64 r.x0, .int .i64 r.y0, .int .i64 r.x1, .int .i64 r.y1], .agg #[.int .i64 s.1, .int .i64 s.2], .pointer (some ⟨B, 0, none⟩)] w fun en w' => en = .returned (.bool (goOk lo r s)) ∧ Below w.heap.size w w' := by
  have hne : ¬ B = w.heap.size := by omega
  have hne' : ¬ w.heap.size = B := by omega
  have hne1 : ¬ B = w.heap.size + 1 := by omega
  have hne1' : ¬ w.heap.size + 1 = B := by omega
  unfold goOk
  cases h1 : (r.y1 == lo) <;> cases h2 : (r.x0 == s.1) <;> cases h3 : (r.x1 == s.2)
  all_goals
    go_enter Tryz.func108, Tryz.ntmps108
    go_wp2_with fail
    go_ret
    exact ⟨rfl, by (repeat' (first | (with_reducible exact Below.refl _ _) | (with_reducible assumption) | (with_reducible refine Below.alloc ?_ ?_ _) | (with_reducible refine Below.drew ?_) | (with_reducible refine below_drewN ?_ _) | (with_reducible refine Below.setCell ?_ ?_ _) | (with_reducible exact Nat.le_refl _) | omega | (simp only [World.size_alloc, World.size_setCell, World.size_drew]; omega) | (simp; omega) | (simp; done)))⟩

set_option maxRecDepth 100000 in
set_option maxHeartbeats 1000000 in
theorem equalFunc_any (A1 A2 : Option Addr) (l1 : List R4) (l2 : List Span) (c1 c2 B : Nat) (lo : Int) (w : World) (hl1 : l1.length ≤ 140737488355328) (hl2 : l2.length ≤ 140737488355328) (h1 : Rd w A1 l1) (h2 : RdT w A2 l2)
    (hy : w.cell? ⟨B, 0, none⟩ = some (.int .i64 lo)) (hB : B < w.heap.size) :
    Calls Tryz.prog 107 #[.slice A1 l1.length c1, .slice A2 l2.length c2, .func (.func 108) #[] #[.pointer (some ⟨B, 0, none⟩)]] w fun e w' =>
      e = .returned (.bool (goesL lo l1 l2)) ∧ Below w.heap.size w w' := by
  have H1 := Lib.hid h1
  have H2 := Lib.hid h2
  have HY := Lib.hid hy
  have HG := Lib.hid (show goesL lo l1 l2 = goesL lo (l1.drop 0) (l2.drop 0) from rfl)
  clear h1 h2 hy
  by_cases hlen : l1.length = l2.length
  · have hne : ((l1.length : Int) != (l2.length : Int)) = false := by simp [hlen]
    have HLEN := Lib.hid hlen
    generalize goesL lo l1 l2 = G at *
    clear hlen
    go_enter Tryz.func107, Tryz.ntmps107
    go_wp2_with fail
    go_loopw [17] (fun i wr => ∃ k : Nat, k ≤ l2.length ∧ i = .int .i64 k ∧ G = goesL lo (l1.drop k) (l2.drop k) ∧ Below w.heap.size w wr) (fun i _ => l2.length - (intOf i).toNat)
    case atStart => exact ⟨0, Nat.zero_le _, rfl, HG.out, by (repeat' (first | (with_reducible exact Below.refl _ _) | (with_reducible assumption) | (with_reducible refine Below.alloc ?_ ?_ _) | (with_reducible refine Below.drew ?_) | (with_reducible refine below_drewN ?_ _) | (with_reducible refine Below.setCell ?_ ?_ _) | (with_reducible exact Nat.le_refl _) | omega | (simp only [World.size_alloc, World.size_setCell, World.size_drew]; omega) | (simp; omega) | (simp; done)))⟩
    case round =>
      obtain ⟨k, hk, rfl, hg, hbw⟩ := hrel
      have HGK := Lib.hid hg
      have zw := hbw.size
      clear hg
      have hkz : (0 : Int) ≤ (k : Int) := by omega
      by_cases hlt : k < l2.length
      · have hlt1 : k < l1.length := by have := HLEN.out; omega
        obtain ⟨b1, o1, rfl, hb1, hc1⟩ := (H1.out.below hbw) (by omega)
        obtain ⟨b2, o2, rfl, hb2, hc2⟩ := (H2.out.below hbw) (by omega)
        have r1 : l1[k]? = some l1[k] := List.getElem?_eq_getElem hlt1
        have r2 : l2[k]? = some l2[k] := List.getElem?_eq_getElem hlt
        obtain ⟨a0, a1, a2, a3⟩ := hc1 k _ r1
        obtain ⟨d0, d1⟩ := hc2 k _ r2
        have HS := Lib.hid (goesL_at (lo := lo) r1 r2)
        clear hc1 hc2 r1 r2
        generalize l1[k] = r at *
        generalize l2[k] = s at *
        have hklt : (k : Int) < (l2.length : Int) := by omega
        have hklt1 : (k : Int) < (l1.length : Int) := by omega
        have n1 : ¬ b1 = wr.heap.size := by omega
        have n2 : ¬ b2 = wr.heap.size := by omega
        have n3 : ¬ wr.heap.size = b1 := by omega
        have n4 : ¬ wr.heap.size = b2 := by omega
        have C1 := Lib.hid (fun W h1 h2 => goesOn1_any r s B lo W h1 h2)
        cases hq : goOk lo r s
        · rw [hq] at C1
          have hG : G = false := by rw [HGK.out, HS.out, hq]; rfl
          have HG2 := Lib.hid hG
          clear hG hq
          go_wp2_with fail
          refine (C1.out _ ?_ ?_).mono ?_
          · rw [World.cell?_alloc_lt _ _ _ (by simp; omega), World.cell?_alloc_lt _ _ _ (by simp; omega)]; exact (hbw.cell (p := ⟨B, 0, none⟩) hB).trans HY.out
          · simp; omega
          rintro e w1 ⟨rfl, hb⟩
          have B1 := up (B := w.heap.size) (w := w) (by (repeat' (first | (with_reducible exact Below.refl _ _) | (with_reducible assumption) | (with_reducible refine Below.alloc ?_ ?_ _) | (with_reducible refine Below.drew ?_) | (with_reducible refine below_drewN ?_ _) | (with_reducible refine Below.setCell ?_ ?_ _) | (with_reducible exact Nat.le_refl _) | omega | (simp only [World.size_alloc, World.size_setCell, World.size_drew]; omega) | (simp; omega) | (simp; done)))) hb (by (first | (with_reducible exact Nat.le_refl _) | (with_reducible assumption) | omega | (simp only [World.size_alloc, World.size_setCell, World.size_drew]; omega) | (simp; omega) | (simp; done)))
          clear hb
          go_wp2_with fail
          go_ret
          exact ⟨by rw [HG2.out]; rfl, B1⟩
        · rw [hq] at C1
          have hG : G = goesL lo (l1.drop (k + 1)) (l2.drop (k + 1)) := by rw [HGK.out, HS.out, hq]; rfl
          have HG2 := Lib.hid hG
          clear hG hq
          go_wp2_with fail
          refine (C1.out _ ?_ ?_).mono ?_
          · rw [World.cell?_alloc_lt _ _ _ (by simp; omega), World.cell?_alloc_lt _ _ _ (by simp; omega)]; exact (hbw.cell (p := ⟨B, 0, none⟩) hB).trans HY.out
          · simp; omega
          rintro e w1 ⟨rfl, hb⟩
          have B1 := up (B := w.heap.size) (w := w) (by (repeat' (first | (with_reducible exact Below.refl _ _) | (with_reducible assumption) | (with_reducible refine Below.alloc ?_ ?_ _) | (with_reducible refine Below.drew ?_) | (with_reducible refine below_drewN ?_ _) | (with_reducible refine Below.setCell ?_ ?_ _) | (with_reducible exact Nat.le_refl _) | omega | (simp only [World.size_alloc, World.size_setCell, World.size_drew]; omega) | (simp; omega) | (simp; done)))) hb (by (first | (with_reducible exact Nat.le_refl _) | (with_reducible assumption) | omega | (simp only [World.size_alloc, World.size_setCell, World.size_drew]; omega) | (simp; omega) | (simp; done)))
          clear hb
          go_wp2_with fail
          go_roundw
          case rel => exact ⟨k + 1, by omega, by go_num, HG2.out, B1⟩
          case measure => simp [intOf]; omega
      · obtain rfl : k = l2.length := by omega
        have hnlt : ¬ (l2.length : Int) < (l1.length : Int) := by have := HLEN.out; omega
        have hG : G = true := by rw [HGK.out, List.drop_length, ← HLEN.out, List.drop_length]; rfl
        have HG2 := Lib.hid hG
        clear hG
        go_wp2_with fail
        go_ret
        exact ⟨by rw [HG2.out]; rfl, hbw⟩
  · have hne : ((l1.length : Int) != (l2.length : Int)) = true := by simp; omega
    have hG : goesL lo l1 l2 = false := by
      cases h : goesL lo l1 l2 with
      | false => rfl
      | true => exact absurd (goesL_len h) hlen
    have HG2 := Lib.hid hG
    clear hG hlen
    generalize goesL lo l1 l2 = G at *
    go_enter Tryz.func107, Tryz.ntmps107
    go_wp2_with fail
    go_ret
    exact ⟨by rw [HG2.out]; rfl, Below.refl _ _⟩

/-- The rectangles behind the last band's beginning. -/
theorem rd_drop {w : World} {base g n cap last : Nat} {rs : List R4} (h : w.ownsRow base 28 4 (.slice (some ⟨g, 0, none⟩) n cap) n (cR rs)) (hn : n = rs.length) : Rd w (some ⟨g, last * 4, none⟩) (rs.drop last) := by
  intro hpos
  have hg := own_lt h (g := g) rfl
  refine ⟨g, last * 4, rfl, hg.2, fun i r hi => ?_⟩
  rw [List.getElem?_drop] at hi
  obtain ⟨a0, a1, a2, a3⟩ := cR_at hi
  have e : last * 4 + i * 4 = (last + i) * 4 := by omega
  rw [e]
  exact ⟨(own_cellC h a0).1, (own_cellC h a1).1, (own_cellC h a2).1, (own_cellC h a3).1⟩

set_option maxRecDepth 100000 in
set_option maxHeartbeats 1000000 in
theorem goesOn_any (base p : Nat) (v : Value) (rs : List R4) (last : Nat) (lo : Int) (A2 : Option Addr) (sp : List Span) (c2 : Nat) (w : World) (hrs : rs.length ≤ 140737488355328) (hsp : sp.length ≤ 140737488355328) (hla : last ≤ rs.length)
    (hown : w.ownsRow base 28 4 v rs.length (cR rs)) (q0 : w.cell? ⟨p, 0, none⟩ = some v) (q1 : w.cell? ⟨p, 1, none⟩ = some (.int .i64 last)) (hp : p < w.heap.size) (h2 : RdT w A2 sp) :
    Calls Tryz.prog 94 #[.pointer (some ⟨p, 0, none⟩), .int .i64 lo, .slice A2 sp.length c2] w fun e w' => e = .returned (.bool (goesOnP rs last lo sp)) ∧ Below w.heap.size w w' := by
  rw [goesOnP_eq]
  have H2 := Lib.hid h2
  have np : ¬ p = w.heap.size := by omega
  have np' : ¬ w.heap.size = p := by omega
  clear h2
  have hlz : (0 : Int) ≤ (last : Int) := by omega
  have hlr : (last : Int) ≤ (rs.length : Int) := by omega
  rcases own_open hown with ⟨rfl, hn⟩ | ⟨g, cap, cur, rfl, hg1, hb2, hcap, hmax, hsize, htake⟩
  · obtain rfl : rs = [] := List.length_eq_zero_iff.1 hn
    obtain rfl : last = 0 := by simpa using hla
    have C1 := Lib.hid (fun W h1 h2 h3 h4 => equalFunc_any none A2 [] sp 0 c2 w.heap.size lo W (by simp) hsp h1 h2 h3 h4)
    simp only [List.drop_nil, List.length_nil] at *
    clear hown hn
    have hw1 : ∃ w1, w1 = w.alloc (.cells #[.int .i64 lo] 3) := ⟨_, rfl⟩
    obtain ⟨w1, hw1⟩ := hw1
    have y0 : w1.cell? ⟨p, 0, none⟩ = some (.slice none 0 0) := by rw [hw1, World.cell?_alloc_lt _ _ _ hp]; exact q0
    have y1 : w1.cell? ⟨p, 1, none⟩ = some (.int .i64 0) := by rw [hw1, World.cell?_alloc_lt _ _ _ hp]; exact q1
    have y2 : w1.cell? ⟨w.heap.size, 0, none⟩ = some (.int .i64 lo) := by rw [hw1]; simp [go_sem]
    have BW := Lib.hid (show Below w.heap.size w w1 from by rw [hw1]; exact (Below.refl _ _).alloc (Nat.le_refl _) _)
    have z1 : w1.heap.size = w.heap.size + 1 := by rw [hw1]; simp
    have D1 := Lib.hid (C1.out w1.drew (fun h => absurd h (by simp)) (H2.out.below (BW.out.drew)) y2 (by rw [World.size_drew]; omega))
    have HW := Lib.hid hw1
    clear hw1 q0 q1 y2 C1
    go_enter Tryz.func94, Tryz.ntmps94
    go_wp2_with fail
    rw [← HW.out]
    go_still_tail 11, (by kernel_rfl)
    change wpList _ _ _ _ _ w1.drew
    go_wp2_with fail
    refine D1.out.mono ?_
    rintro e w2 ⟨rfl, hb⟩
    have B2 := Lib.hid (BW.out.trans ((Below.refl _ w1).drew.trans (hb.mono (by rw [World.size_drew]; omega))))
    clear hb
    go_wp2_with fail
    go_ret
    exact ⟨rfl, B2.out⟩
  · by_cases hcl : cap = last
    · subst hcl
      have C1 := Lib.hid (fun W h1 h2 h3 h4 => equalFunc_any (some ⟨g, 0, none⟩) A2 (rs.drop cap) sp 0 c2 w.heap.size lo W (by simp; omega) hsp h1 h2 h3 h4)
      rw [List.length_drop, Nat.sub_eq_zero_of_le hcap] at C1
      have HO := Lib.hid hown
      have hcapz : (rs.length : Int) ≤ (cap : Int) := by omega
      clear hown hb2 htake
      have hw1 : ∃ w1, w1 = w.alloc (.cells #[.int .i64 lo] 3) := ⟨_, rfl⟩
      obtain ⟨w1, hw1⟩ := hw1
      have y0 : w1.cell? ⟨p, 0, none⟩ = some (.slice (some ⟨g, 0, none⟩) rs.length cap) := by rw [hw1, World.cell?_alloc_lt _ _ _ hp]; exact q0
      have y1 : w1.cell? ⟨p, 1, none⟩ = some (.int .i64 cap) := by rw [hw1, World.cell?_alloc_lt _ _ _ hp]; exact q1
      have y2 : w1.cell? ⟨w.heap.size, 0, none⟩ = some (.int .i64 lo) := by rw [hw1]; simp [go_sem]
      have BW := Lib.hid (show Below w.heap.size w w1 from by rw [hw1]; exact (Below.refl _ _).alloc (Nat.le_refl _) _)
      have z1 : w1.heap.size = w.heap.size + 1 := by rw [hw1]; simp
      have D1 := Lib.hid (C1.out w1.drew (fun hpos => by simp at hpos; omega) (H2.out.below (BW.out.drew)) y2 (by rw [World.size_drew]; omega))
      have HW := Lib.hid hw1
      clear hw1 q0 q1 y2 C1
      go_enter Tryz.func94, Tryz.ntmps94
      go_wp2_with fail
      rw [← HW.out]
      go_still_tail 11, (by kernel_rfl)
      change wpList _ _ _ _ _ w1.drew
      go_wp2_with fail
      refine D1.out.mono ?_
      rintro e w2 ⟨rfl, hb⟩
      have B2 := Lib.hid (BW.out.trans ((Below.refl _ w1).drew.trans (hb.mono (by rw [World.size_drew]; omega))))
      clear hb
      go_wp2_with fail
      go_ret
      exact ⟨rfl, B2.out⟩
    · have hcl1 : ¬ last = cap := fun e => hcl e.symm
      have C1 := Lib.hid (fun W h1 h2 h3 h4 => equalFunc_any (some ⟨g, last * 4, none⟩) A2 (rs.drop last) sp (cap - last) c2 w.heap.size lo W (by simp; omega) hsp h1 h2 h3 h4)
      rw [List.length_drop] at C1
      have HO := Lib.hid hown
      have hcapz : (rs.length : Int) ≤ (cap : Int) := by omega
      clear hown hb2 htake
      have hw1 : ∃ w1, w1 = w.alloc (.cells #[.int .i64 lo] 3) := ⟨_, rfl⟩
      obtain ⟨w1, hw1⟩ := hw1
      have y0 : w1.cell? ⟨p, 0, none⟩ = some (.slice (some ⟨g, 0, none⟩) rs.length cap) := by rw [hw1, World.cell?_alloc_lt _ _ _ hp]; exact q0
      have y1 : w1.cell? ⟨p, 1, none⟩ = some (.int .i64 last) := by rw [hw1, World.cell?_alloc_lt _ _ _ hp]; exact q1
      have y2 : w1.cell? ⟨w.heap.size, 0, none⟩ = some (.int .i64 lo) := by rw [hw1]; simp [go_sem]
      have BW := Lib.hid (show Below w.heap.size w w1 from by rw [hw1]; exact (Below.refl _ _).alloc (Nat.le_refl _) _)
      have z1 : w1.heap.size = w.heap.size + 1 := by rw [hw1]; simp
      have D1 := Lib.hid (C1.out w1.drew (rd_drop (own_drewC (by rw [hw1]; exact own_allocC HO.out _)) rfl) (H2.out.below (BW.out.drew)) y2 (by rw [World.size_drew]; omega))
      have HW := Lib.hid hw1
      clear hw1 q0 q1 y2 C1
      go_enter Tryz.func94, Tryz.ntmps94
      go_wp2_with fail
      rw [← HW.out]
      go_still_tail 11, (by kernel_rfl)
      change wpList _ _ _ _ _ w1.drew
      go_wp2_with fail
      refine D1.out.mono ?_
      rintro e w2 ⟨rfl, hb⟩
      have B2 := Lib.hid (BW.out.trans ((Below.refl _ w1).drew.trans (hb.mono (by rw [World.size_drew]; omega))))
      clear hb
      go_wp2_with fail
      go_ret
      exact ⟨rfl, B2.out⟩
end Go.Proofs.YtmcbjaefnhfopaaGreat

/- A stack is pressed (pressed, Presses, CheckSpans), whatever the world. -/
import Derived.Test.YtdlglnkhhbkndaaPrsP
import Derived.Test.YtdlglnkhhbkndaaBrdE
namespace Go.Proofs.Ytdlglnkhhbkndaa
open Go.RowKit Go.Maps
set_option linter.unusedSimpArgs false
set_option linter.unusedVariables false
set_option maxRecDepth 100000

/-- Sub-boards in memory, as they are pressed. -/
structure PrsAt (B : Nat) (v : Value) (S : List Brd) (w : World) : Prop where
  o : w.ownsRow B 62 4 v S.length (S.flatMap Brd.cs)
  h : ∀ r ∈ S, w.ownsRow B 3 1 r.hv r.hs.length (r.hs.map fun k => Value.int .i64 (k : Nat))
theorem PrsAt.old {B : Nat} {v : Value} {S : List Brd} {w w' : World} (h : PrsAt B v S w) (hb : Below w.heap.size w w') : PrsAt B v S w' := ⟨own_below h.o hb, fun r hr => own_below (h.h r hr) hb⟩
/-- What pressed returns when all is right. -/
def PrsPost (R : List Row) (l : List Thr) (w : World) (e : Ending) (w' : World) : Prop :=
  ∃ (p q kn : Nat) (mv tv cv nv : Value) (f : Lit → Option Value) (v : Value) (S : List Brd), e = .returned (.tuple #[.pointer (some ⟨p, 0, none⟩), v, .int .i64 0]) ∧ LayIn w.heap.size p q kn mv tv cv nv f R w' ∧
    S.map Brd.ab = pressL R l ∧ OrdL R l ∧ PrsAt w.heap.size v S w' ∧ Below w.heap.size w w'
theorem flat_at {α β : Type} {cs : α → List β} {k : Nat} (hk : ∀ x, (cs x).length = k) : ∀ {l : List α} {i j : Nat} {x : α} {y : β}, l[i]? = some x → (cs x)[j]? = some y → (l.flatMap cs)[i * k + j]? = some y
  | [], _, _, _, _, h, _ => by simp at h
  | z :: l, 0, j, x, y, h, hj => by
    simp at h
    subst h
    have hjl := (List.getElem?_eq_some_iff.1 hj).1
    rw [List.flatMap_cons, Nat.zero_mul, Nat.zero_add, List.getElem?_append_left hjl]
    exact hj
  | z :: l, i + 1, j, x, y, h, hj => by
    have h' : l[i]? = some x := by simpa using h
    rw [List.flatMap_cons, List.getElem?_append_right (by rw [hk, Nat.succ_mul]; omega), hk, show (i + 1) * k + j - k = i * k + j by rw [Nat.succ_mul]; omega]
    exact flat_at hk h' hj
theorem own_rdG {α : Type} {cs : α → List Value} {k : Nat} (hk : ∀ x, (cs x).length = k) {T : TypeId} {w : World} {B : Nat} {v : Value} {l : List α} (h : w.ownsRow B T k v l.length (l.flatMap cs)) : ∃ A c, v = .slice A l.length c ∧ l.length ≤ c ∧ c ≤ maxLen ∧ RdG k cs w A l := by
  obtain ⟨A, c, hv, h1, h2, h3⟩ := own_cells h
  refine ⟨A, c, hv, h1, h2, fun hn => ?_⟩
  obtain ⟨g, hA, _, hg, hc⟩ := h3 hn
  exact ⟨g, 0, hA, hg, fun i x hi j y hj => by rw [Nat.zero_add]; exact hc _ _ (flat_at hk hi hj)⟩
theorem own_rd4 {w : World} {B : Nat} {v : Value} {S : List Brd} (h : w.ownsRow B 62 4 v S.length (S.flatMap Brd.cs)) : ∃ A c, v = .slice A S.length c ∧ S.length ≤ c ∧ c ≤ maxLen ∧ RdG 4 Bq.cs w A (S.map Brd.bq) := by
  obtain ⟨A, c, hv, h1, h2, h3⟩ := own_rdG (l := S.map Brd.bq) (cs := Bq.cs) (fun x => rfl) (by rw [List.length_map, cs_map]; exact h)
  rw [List.length_map] at hv h1
  exact ⟨A, c, hv, h1, h2, h3⟩
/-- How many sub-boards there are. -/
theorem upd_length (a b : Int) (g : AB → AB) (L : List AB) : (upd a b g L).length ≤ L.length + 1 := by
  unfold upd
  split
  · rw [List.length_map]; omega
  · rw [List.length_append]; exact Nat.le_refl _
theorem cores_length (R : List Row) : ∀ k, (coresF R k).length ≤ k
  | 0 => Nat.le_refl _
  | k + 1 => by
    have := cores_length R k
    rw [coresF]
    split
    · exact Nat.le_trans (upd_length ..) (by omega)
    · omega
theorem spans_length (l : List Thr) (L : List AB) : ∀ k, (spansF l L k).length ≤ L.length + k
  | 0 => Nat.le_refl _
  | k + 1 => by
    have := spans_length l L k
    rw [spansF]
    split
    · exact Nat.le_trans (upd_length ..) (by omega)
    · omega
theorem boards_length (R : List Row) (l : List Thr) : (boardsF R l).length ≤ (cus R).length + l.length + 1 := by
  unfold boardsF
  have h1 := upd_length 1 (cus R).length id (spansF l (coresF R ((cus R).length - 1)) l.length)
  have h2 := spans_length l (coresF R ((cus R).length - 1)) l.length
  have h3 := cores_length R ((cus R).length - 1)
  omega
section
variable {A : Option Addr} {l : List Mat} {c : Nat} {A2 : Option Addr} {s : List Lay} {c2 : Nat} {w : World}
set_option maxHeartbeats 4000000 in
theorem pressed_no (h : StkIn A l A2 s w) (A3 : Option Addr) (t : List Thr) (c3 : Nat) (hl : t.length ≤ 140737488355328) (hd : RdG 2 Thr.cs w A3 t) (h0 : pressedF l s t ≠ 0) :
    Calls Try.prog 75 #[.slice A l.length c, .slice A2 s.length c2, .slice A3 t.length c3] w fun e w' => e = .returned (.tuple #[.pointer none, .slice none 0 0, .int .i64 (pressedF l s t)]) ∧ Below w.heap.size w w' := by
  by_cases hs0 : stackF l s = 0
  · have h2 := form_two (stackF_form hs0)
    have HH2 := Lib.hid h2
    have HD := Lib.hid hd
    by_cases ht0 : thrF (cus (rowsOf l s)).length t = 0
    · obtain ⟨t1, t2⟩ := thrF_zero ht0
      have hF : pressedF l s t = madeF ((pressL (rowsOf l s) t).map AB.bq) := by
        unfold pressedF
        rw [if_pos hs0, if_pos ht0]
      have hbd := boards_bd h2 t2
      have HBD := Lib.hid hbd
      have HT2 := Lib.hid t2
      have HT0 := Lib.hid ht0
      have HF := Lib.hid hF
      have CP := Lib.hid (piled_yes (c := c) (c2 := c2) h hs0)

      clear hd hs0 ht0 hbd t2 h2 hF h
      generalize rowsOf l s = R at *
      generalize pressedF l s t = F at *
      have hd1 : (F == 0) = false := by simpa using h0
      have hd2 : (F != 0) = true := by simpa using h0
      clear h0
      go_enter Try.func75, Try.ntmps75
      go_wp2_with fail
      refine CP.out.mono ?_
      rintro e w1 ⟨p, q, kn, mv, tv, cv, nv, f, rfl, hb, hL⟩
      have B1 := Lib.hid hb
      have z1 := hb.size
      have HL := Lib.hid hL
      obtain ⟨Ac, cc, hvc, u1, u2, u3⟩ := own_cells hL.g.c
      have a2 : w1.cell? ⟨p, 2, none⟩ = some cv := by rw [blk_cell hL.g.b]; rfl
      have hcl : (cus R).length ≤ 1000 := Nat.le_trans (cus_few _ 0) hL.l
      have CR := Lib.hid (fun W' (hb : Below w1.heap.size w1 W') => checkRow_any A3 t c3 (cus R).length W' hl (HD.out.below (B1.out.trans (hb.mono z1))))
      have CB := Lib.hid (fun W' (hb : Below w1.heap.size w1 W') => boards_any (hL.old hb) HH2.out A3 t c3 (by omega) (fun x hx => by have := HT2.out x hx; omega) (HD.out.below (B1.out.trans (hb.mono z1))))
      rw [HT0.out] at CR
      clear hb hL u3
      subst hvc
      go_wp2_with fail
      refine (CR.out _ (Below.refl _ _)).mono ?_
      rintro e w2 ⟨rfl, hb⟩
      have B2 := Lib.hid hb
      have z2 := hb.size
      clear hb
      go_wp2_with fail
      refine (CB.out _ B2.out).mono ?_
      rintro e w3 ⟨v, L, S, rfl, hL1, hP, hS, hO, hH, hsm, hb⟩
      have hab : S.map Brd.ab = pressL R t := press_is HBD.out (by rw [← hL1]; exact hP.map _) (List.pairwise_map.2 hS)
      obtain ⟨Ap, cp, rfl, p1, p2, p3⟩ := own_rd4 hO
      have HAB := Lib.hid hab
      have B3 := Lib.hid hb
      have z3 := hb.size
      have HO := Lib.hid hO
      have HHs := Lib.hid hH
      have hSl : S.length ≤ 2000 := by
        have h1 := hP.length_eq
        have h2 := congrArg List.length hL1
        have h3 := boards_length R t
        unfold abl at h2
        rw [List.length_map] at h2
        omega
      have hmem : ∀ z ∈ S.map Brd.bq, okQ z ∧ ∃ A n c, z.h = .slice A n c := by
        intro z hz
        obtain ⟨r, hr, rfl⟩ := List.mem_map.1 hz
        have hsr := hsm r.ab (List.mem_map.2 ⟨r, hP.subset hr, rfl⟩)
        obtain ⟨A9, c9, h9, -⟩ := own_cells (hH r hr)
        exact ⟨⟨hsr.1.1, hsr.1.2, hsr.2.1, hsr.2.2, by show r.hv.oneCell' = true; rw [h9]; rfl⟩, A9, r.hs.length, c9, h9⟩
      have CC := checkBoards_any Ap (S.map Brd.bq) cp w3 (by rw [List.length_map]; omega) (by rw [List.length_map]; exact p1) p2 p3 (fun z hz => (hmem z hz).1) (fun z hz => (hmem z hz).2)

      have hmz : madeF (S.map Brd.bq) = F := by
        rw [made_brd, show S.map Brd.aq = (S.map Brd.ab).map AB.bq from by rw [List.map_map]; rfl, HAB.out]
        exact HF.out.symm
      rw [hmz, List.length_map] at CC
      have CC := Lib.hid CC
      clear hL1 hP hS hO hH hsm hb hab p3 hmz hSl hmem
      go_wp2_with fail
      refine CC.out.mono ?_
      rintro e w4 ⟨rfl, hb⟩
      have B4 := Lib.hid hb
      clear hb
      go_wp2_with fail
      have hbz := (B2.out.trans (B3.out.mono z2)).trans (B4.out.mono (by omega))
      exact bodyPost_ret (v := .tuple #[.pointer none, .slice none 0 0, .int .i64 F]) (by simp [results, Try.results75, go_sem]) rfl
        ⟨rfl, B1.out.trans (hbz.mono z1)⟩

    · have hF : pressedF l s t = thrF (cus (rowsOf l s)).length t := by
        unfold pressedF
        rw [if_pos hs0, if_neg ht0]
      have HF := Lib.hid hF
      have CP := Lib.hid (piled_yes (c := c) (c2 := c2) h hs0)

      clear hd hs0 ht0 h2 hF h
      generalize rowsOf l s = R at *
      generalize pressedF l s t = F at *
      have hd1 : (F == 0) = false := by simpa using h0
      have hd2 : (F != 0) = true := by simpa using h0
      clear h0
      go_enter Try.func75, Try.ntmps75
      go_wp2_with fail
      refine CP.out.mono ?_
      rintro e w1 ⟨p, q, kn, mv, tv, cv, nv, f, rfl, hb, hL⟩
      have B1 := Lib.hid hb
      have z1 := hb.size
      have HL := Lib.hid hL
      obtain ⟨Ac, cc, hvc, u1, u2, u3⟩ := own_cells hL.g.c
      have a2 : w1.cell? ⟨p, 2, none⟩ = some cv := by rw [blk_cell hL.g.b]; rfl
      have hcl : (cus R).length ≤ 1000 := Nat.le_trans (cus_few _ 0) hL.l
      have CR := Lib.hid (fun W' (hb : Below w1.heap.size w1 W') => checkRow_any A3 t c3 (cus R).length W' hl (HD.out.below (B1.out.trans (hb.mono z1))))
      rw [← HF.out] at CR
      clear hb hL u3
      subst hvc
      go_wp2_with fail
      refine (CR.out _ (Below.refl _ _)).mono ?_
      rintro e w2 ⟨rfl, hb⟩
      have B2 := Lib.hid hb
      have z2 := hb.size
      clear hb

      go_wp2_with fail
      exact bodyPost_ret (v := .tuple #[.pointer none, .slice none 0 0, .int .i64 F]) (by simp [results, Try.results75, go_sem]) rfl
        ⟨rfl, B1.out.trans (B2.out.mono z1)⟩

  · have hF : pressedF l s t = stackF l s := if_neg hs0
    rw [hF] at h0 ⊢
    have CP := Lib.hid (piled_no (c := c) (c2 := c2) h hs0)
    generalize stackF l s = F at *
    have hd1 : (F == 0) = false := by simpa using h0
    have hd2 : (F != 0) = true := by simpa using h0
    clear hs0 h h0 hF
    go_enter Try.func75, Try.ntmps75
    go_wp2_with fail
    refine CP.out.mono ?_
    rintro e w1 ⟨rfl, hb⟩
    have B1 := Lib.hid hb
    clear hb
    go_wp2_with fail
    exact bodyPost_ret (v := .tuple #[.pointer none, .slice none 0 0, .int .i64 F]) (by simp [results, Try.results75, go_sem]) rfl
      ⟨rfl, B1.out⟩
set_option maxHeartbeats 4000000 in
theorem pressed_yes (h : StkIn A l A2 s w) (A3 : Option Addr) (t : List Thr) (c3 : Nat) (hl : t.length ≤ 140737488355328) (hd : RdG 2 Thr.cs w A3 t) (h0 : pressedF l s t = 0) :
    Calls Try.prog 75 #[.slice A l.length c, .slice A2 s.length c2, .slice A3 t.length c3] w (PrsPost (rowsOf l s) t w) := by
  have hs0 : stackF l s = 0 := by
    unfold pressedF at h0
    split at h0
    · rename_i e; exact e
    · rename_i e; exact absurd h0 e
  have ht0 : thrF (cus (rowsOf l s)).length t = 0 := by
    unfold pressedF at h0
    rw [if_pos hs0] at h0
    split at h0
    · rename_i e; exact e
    · rename_i e; exact absurd h0 e
  have hm0 : madeF ((pressL (rowsOf l s) t).map AB.bq) = 0 := by
    unfold pressedF at h0
    rw [if_pos hs0, if_pos ht0] at h0
    exact h0
  have h2 := form_two (stackF_form hs0)
  obtain ⟨t1, t2⟩ := thrF_zero ht0
  have hbd := boards_bd h2 t2
  have HBD := Lib.hid hbd
  have HM0 := Lib.hid hm0
  have HT2 := Lib.hid t2
  have HT0 := Lib.hid ht0
  have HH2 := Lib.hid h2
  have CP := Lib.hid (piled_yes (c := c) (c2 := c2) h hs0)
  have HD := Lib.hid hd
  clear h hd h0 hs0 ht0 hm0 hbd t2 h2
  generalize rowsOf l s = R at *
  go_enter Try.func75, Try.ntmps75
  go_wp2_with fail
  refine CP.out.mono ?_
  rintro e w1 ⟨p, q, kn, mv, tv, cv, nv, f, rfl, hb, hL⟩
  have B1 := Lib.hid hb
  have z1 := hb.size
  have HL := Lib.hid hL
  obtain ⟨Ac, cc, hvc, u1, u2, u3⟩ := own_cells hL.g.c
  have a2 : w1.cell? ⟨p, 2, none⟩ = some cv := by rw [blk_cell hL.g.b]; rfl
  have hcl : (cus R).length ≤ 1000 := Nat.le_trans (cus_few _ 0) hL.l
  have CR := Lib.hid (fun W' (hb : Below w1.heap.size w1 W') => checkRow_any A3 t c3 (cus R).length W' hl (HD.out.below (B1.out.trans (hb.mono z1))))
  have CB := Lib.hid (fun W' (hb : Below w1.heap.size w1 W') => boards_any (hL.old hb) HH2.out A3 t c3 (by omega) (fun x hx => by have := HT2.out x hx; omega) (HD.out.below (B1.out.trans (hb.mono z1))))
  rw [HT0.out] at CR
  clear hb hL u3
  subst hvc
  go_wp2_with fail
  refine (CR.out _ (Below.refl _ _)).mono ?_
  rintro e w2 ⟨rfl, hb⟩
  have B2 := Lib.hid hb
  have z2 := hb.size
  clear hb
  go_wp2_with fail
  refine (CB.out _ B2.out).mono ?_
  rintro e w3 ⟨v, L, S, rfl, hL1, hP, hS, hO, hH, hsm, hb⟩
  have hab : S.map Brd.ab = pressL R t := press_is HBD.out (by rw [← hL1]; exact hP.map _) (List.pairwise_map.2 hS)
  obtain ⟨Ap, cp, rfl, p1, p2, p3⟩ := own_rd4 hO
  have hord : OrdL R t := by
    unfold OrdL
    rw [← hab]
    exact ⟨by rw [← hL1]; exact hP.map _, List.pairwise_map.2 hS⟩
  have HORD := Lib.hid hord
  have HAB := Lib.hid hab
  have B3 := Lib.hid hb
  have z3 := hb.size
  have HO := Lib.hid hO
  have HHs := Lib.hid hH
  have hSl : S.length ≤ 2000 := by
    have h1 := hP.length_eq
    have h2 := congrArg List.length hL1
    have h3 := boards_length R t
    unfold abl at h2
    rw [List.length_map] at h2
    omega
  have hmem : ∀ z ∈ S.map Brd.bq, okQ z ∧ ∃ A n c, z.h = .slice A n c := by
    intro z hz
    obtain ⟨r, hr, rfl⟩ := List.mem_map.1 hz
    have hsr := hsm r.ab (List.mem_map.2 ⟨r, hP.subset hr, rfl⟩)
    obtain ⟨A9, c9, h9, -⟩ := own_cells (hH r hr)
    exact ⟨⟨hsr.1.1, hsr.1.2, hsr.2.1, hsr.2.2, by show r.hv.oneCell' = true; rw [h9]; rfl⟩, A9, r.hs.length, c9, h9⟩
  have CC := checkBoards_any Ap (S.map Brd.bq) cp w3 (by rw [List.length_map]; omega) (by rw [List.length_map]; exact p1) p2 p3 (fun z hz => (hmem z hz).1) (fun z hz => (hmem z hz).2)
  have hmz : madeF (S.map Brd.bq) = 0 := by
    rw [made_brd, show S.map Brd.aq = (S.map Brd.ab).map AB.bq from by rw [List.map_map]; rfl, HAB.out]
    exact HM0.out
  rw [hmz, List.length_map] at CC
  have CC := Lib.hid CC
  clear hord hL1 hP hS hO hH hsm hb hab p3 hmz hSl hmem
  go_wp2_with fail
  refine CC.out.mono ?_
  rintro e w4 ⟨rfl, hb⟩
  have B4 := Lib.hid hb
  clear hb
  go_wp2_with fail
  have hbz := (B2.out.trans (B3.out.mono z2)).trans (B4.out.mono (by omega))
  have HPA : PrsAt w.heap.size (.slice Ap S.length cp) S w4 := ⟨own_below (own_lower HO.out (by omega)) B4.out, fun r hr => own_below (own_lower (HHs.out r hr) (by omega)) B4.out⟩
  exact bodyPost_ret (v := .tuple #[.pointer (some ⟨p, 0, none⟩), .slice Ap S.length cp, .int .i64 0]) (by simp [results, Try.results75, go_sem]) rfl
    ⟨p, q, kn, mv, tv, _, nv, f, _, S, rfl, HL.out.old hbz, HAB.out, HORD.out, HPA, B1.out.trans (hbz.mono z1)⟩
set_option maxHeartbeats 1000000 in
theorem presses_no (h : StkIn A l A2 s w) (A3 : Option Addr) (t : List Thr) (c3 : Nat) (hl : t.length ≤ 140737488355328) (hd : RdG 2 Thr.cs w A3 t) (h0 : pressedF l s t ≠ 0) :
    Calls Try.prog 38 #[.slice A l.length c, .slice A2 s.length c2, .slice A3 t.length c3] w fun e w' => e = .returned (.tuple #[.slice none 0 0, .int .i64 (pressedF l s t)]) ∧ Below w.heap.size w w' := by
  have CP := Lib.hid (pressed_no (c := c) (c2 := c2) h A3 t c3 hl hd h0)
  generalize pressedF l s t = F at *
  clear h hd h0
  go_enter Try.func38, Try.ntmps38
  go_wp2_with fail
  refine CP.out.mono ?_
  rintro e w1 ⟨rfl, hb⟩
  have B1 := Lib.hid hb
  clear hb
  go_wp2_with fail
  go_ret2
  exact ⟨rfl, B1.out⟩
/-- What Presses returns when all is right. -/
def PrsRet (R : List Row) (l : List Thr) (w : World) (e : Ending) (w' : World) : Prop :=
  ∃ (v : Value) (S : List Brd), e = .returned (.tuple #[v, .int .i64 0]) ∧ S.map Brd.ab = pressL R l ∧ OrdL R l ∧ PrsAt w.heap.size v S w' ∧ Below w.heap.size w w'
set_option maxHeartbeats 1000000 in
theorem presses_yes (h : StkIn A l A2 s w) (A3 : Option Addr) (t : List Thr) (c3 : Nat) (hl : t.length ≤ 140737488355328) (hd : RdG 2 Thr.cs w A3 t) (h0 : pressedF l s t = 0) :
    Calls Try.prog 38 #[.slice A l.length c, .slice A2 s.length c2, .slice A3 t.length c3] w (PrsRet (rowsOf l s) t w) := by
  have CP := Lib.hid (pressed_yes (c := c) (c2 := c2) h A3 t c3 hl hd h0)
  generalize rowsOf l s = R at *
  clear h hd h0
  go_enter Try.func38, Try.ntmps38
  go_wp2_with fail
  refine CP.out.mono ?_
  rintro e w1 ⟨p, q, kn, mv, tv, cv, nv, f, v, S, rfl, -, hab, hord, hat, hb⟩
  have HORD := Lib.hid hord
  have HAB := Lib.hid hab
  have HAT := Lib.hid hat
  have B1 := Lib.hid hb
  clear hb hab hord hat
  go_wp2_with fail
  go_ret2
  exact ⟨v, S, rfl, HAB.out, HORD.out, HAT.out, B1.out⟩
set_option maxHeartbeats 1000000 in
theorem checkSpans_law (h : StkIn A l A2 s w) (A3 : Option Addr) (t : List Thr) (c3 : Nat) (hl : t.length ≤ 140737488355328) (hd : RdG 2 Thr.cs w A3 t) :
    Calls Try.prog 40 #[.slice A l.length c, .slice A2 s.length c2, .slice A3 t.length c3] w fun e w' => e = .returned (.int .i64 (pressedF l s t)) ∧ Below w.heap.size w w' := by
  by_cases h0 : pressedF l s t = 0
  · have CP := Lib.hid (pressed_yes (c := c) (c2 := c2) h A3 t c3 hl hd h0)
    rw [h0]
    generalize rowsOf l s = R at *
    clear h hd h0
    go_enter Try.func40, Try.ntmps40
    go_wp2_with fail
    refine CP.out.mono ?_
    rintro e w1 ⟨p, q, kn, mv, tv, cv, nv, f, v, S, rfl, -, hab, hord, hat, hb⟩
    have B1 := Lib.hid hb
    clear hb hab hord hat
    go_wp2_with fail
    go_ret
    exact ⟨rfl, B1.out⟩
  · have CP := Lib.hid (pressed_no (c := c) (c2 := c2) h A3 t c3 hl hd h0)
    generalize pressedF l s t = F at *
    clear h hd h0
    go_enter Try.func40, Try.ntmps40
    go_wp2_with fail
    refine CP.out.mono ?_
    rintro e w1 ⟨rfl, hb⟩
    have B1 := Lib.hid hb
    clear hb
    go_wp2_with fail
    go_ret
    exact ⟨rfl, B1.out⟩
end
end Go.Proofs.Ytdlglnkhhbkndaa

/- Several texts in one: Few, FewW. -/
import Derived.Test.YtdlglnkhhbkndaaDelT
import Derived.Test.YtdlglnkhhbkndaaJnA
/- The spans that are needed (Fewest), whatever the world. -/
namespace Go.Proofs.Ytdlglnkhhbkndaa
open Go.RowKit Go.Maps
set_option linter.unusedSimpArgs false
set_option linter.unusedVariables false
set_option maxRecDepth 100000

open Classical in
/-- What is left of spans, when those ahead of the k-th have not been looked at. -/
noncomputable def fewG (m : List Mat) (s : List Lay) (l : List Thr) : Nat → List Thr → List Thr
  | 0, out => out
  | k + 1, out => if pressedF m s (out.eraseIdx k) = 0 ∧ jT ((cus (rowsOf m s)).length - 1) (out.eraseIdx k) = jT ((cus (rowsOf m s)).length - 1) l then fewG m s l k (out.eraseIdx k) else fewG m s l k out
theorem few_yes {m : List Mat} {s : List Lay} {l out : List Thr} {k n : Nat} (hn : (cus (rowsOf m s)).length = n + 1) (h1 : pressedF m s (out.eraseIdx k) = 0) (h2 : jT n (out.eraseIdx k) = jT n l) : fewG m s l (k + 1) out = fewG m s l k (out.eraseIdx k) := by
  rw [fewG, if_pos ⟨h1, by rw [hn]; exact h2⟩]
theorem few_no {m : List Mat} {s : List Lay} {l out : List Thr} {k n : Nat} (hn : (cus (rowsOf m s)).length = n + 1) (h : ¬ (pressedF m s (out.eraseIdx k) = 0 ∧ jT n (out.eraseIdx k) = jT n l)) : fewG m s l (k + 1) out = fewG m s l k out := by
  rw [fewG, if_neg (fun e => h ⟨e.1, by have := e.2; rw [hn] at this; exact this⟩)]
theorem allEq_bool : ∀ xs ys : List Bool, Lib.allEq (fun x y => x == y) xs ys = decide (xs = ys)
  | [], [] => rfl
  | [], y :: ys => by simp [Lib.allEq]
  | x :: xs, [] => by simp [Lib.allEq]
  | x :: xs, y :: ys => by
    rw [Lib.allEq, allEq_bool xs ys]
    by_cases h : x = y
    · subst h
      simp
    · have : (x == y) = false := by simpa using h
      rw [this]
      simp [h]
theorem thr_cs_fm (l : List Thr) : l.flatMap Thr.cs = fm thr1 thr2 l := rfl
/-- A row of spans of its own, as a slice that is read. -/
theorem own_rdT {w : World} {B : Nat} {v : Value} {l : List Thr} (h : w.ownsRow B 64 2 v l.length (fm thr1 thr2 l)) : ∃ A c, v = .slice A l.length c ∧ l.length ≤ c ∧ c ≤ maxLen ∧ RdG 2 Thr.cs w A l := own_rdG (cs := Thr.cs) (fun x => rfl) h
theorem few_inv {m : List Mat} {s : List Lay} {l : List Thr} : ∀ (k : Nat) (out : List Thr), pressedF m s out = 0 → jT ((cus (rowsOf m s)).length - 1) out = jT ((cus (rowsOf m s)).length - 1) l → pressedF m s (fewG m s l k out) = 0 ∧ jT ((cus (rowsOf m s)).length - 1) (fewG m s l k out) = jT ((cus (rowsOf m s)).length - 1) l ∧ (fewG m s l k out).length ≤ out.length
  | 0, out, h1, h2 => ⟨h1, h2, Nat.le_refl _⟩
  | k + 1, out, h1, h2 => by
    rw [fewG]
    split
    · rename_i h
      obtain ⟨a, b, c⟩ := few_inv k (out.eraseIdx k) h.1 h.2
      refine ⟨a, b, Nat.le_trans c ?_⟩
      rw [List.length_eraseIdx]
      split <;> omega
    · exact few_inv k out h1 h2
end Go.Proofs.Ytdlglnkhhbkndaa
/- The spans that are needed (Fewest): the walk. -/
namespace Go.Proofs.Ytdlglnkhhbkndaa
open Go.RowKit Go.Maps
set_option linter.unusedSimpArgs false
set_option linter.unusedVariables false
set_option maxRecDepth 100000

theorem bool_cells {w : World} {g : Nat} {zs : List Bool} (h : ∀ (j : Nat) (u : Value), (zs.map Value.bool)[j]? = some u → w.cell? ⟨g, j, none⟩ = some u) : ∀ j, j < zs.length → w.cell? ⟨g, 0 + j, none⟩ = some (Value.bool zs[j]!) := by
  intro j hj
  rw [Nat.zero_add]
  refine h _ _ ?_
  rw [List.getElem?_map, List.getElem?_eq_getElem hj, getElem!_pos zs j hj]
  rfl
theorem joint_eq {w : World} {B1 B2 g1 g7 n : Nat} {t E : List Thr} (h1 : w.ownsRow B1 4 1 (.slice (some ⟨g1, 0, none⟩) n n) n ((jT n t).map Value.bool)) (h7 : w.ownsRow B2 4 1 (.slice (some ⟨g7, 0, none⟩) n n) n ((jT n E).map Value.bool)) :
    Calls Try.prog 85 #[.slice (some ⟨g7, 0, none⟩) n n, .slice (some ⟨g1, 0, none⟩) n n] w fun e w' => e = .returned (.bool (decide (jT n E = jT n t))) ∧ ∃ q, w' = w.drewN q := by
  have hn : n ≤ 9223372036854775807 := by
    obtain ⟨_, _, e, h2, h3, -⟩ := own_cells h1
    cases e
    have : n ≤ 9223372036854775807 := h3
    exact this
  have := Try.slices_Equal_f85 Value.bool (fun x y => x == y) (NeqAt.bool _ Try.underlying4) g7 0 n n g1 0 n n (jT n E) (jT n t) w (by rw [jT_len]; exact Nat.le_refl _) (by rw [jT_len]; exact Nat.le_refl _) hn hn
    (bool_cells (fun j u hu => by rw [(own_cellC h7 hu).1])) (bool_cells (fun j u hu => by rw [(own_cellC h1 hu).1]))
  rw [allEq_bool, List.take_of_length_le (by rw [jT_len]; exact Nat.le_refl _), List.take_of_length_le (by rw [jT_len]; exact Nat.le_refl _)] at this
  exact this
section
variable {A : Option Addr} {l : List Mat} {c : Nat} {A2 : Option Addr} {s : List Lay} {c2 : Nat} {w : World}
set_option maxHeartbeats 1000000 in
theorem fewest_no (h : StkIn A l A2 s w) (A3 : Option Addr) (t : List Thr) (c3 : Nat) (hl : t.length ≤ 140737488355328) (hd : RdG 2 Thr.cs w A3 t) (h0 : pressedF l s t ≠ 0) :
    Calls Try.prog 50 #[.slice A l.length c, .slice A2 s.length c2, .slice A3 t.length c3] w fun e w' => e = .returned (.tuple #[.slice none 0 0, .int .i64 (pressedF l s t)]) ∧ Below w.heap.size w w' := by
  have CP := Lib.hid (pressed_no (c := c) (c2 := c2) h A3 t c3 hl hd h0)
  generalize pressedF l s t = F at *
  have hd1 : (F == 0) = false := by simpa using h0
  have hd2 : (F != 0) = true := by simpa using h0
  clear h hd h0
  go_enter Try.func50, Try.ntmps50
  go_wp2_with fail
  refine CP.out.mono ?_
  rintro e w1 ⟨rfl, hb⟩
  have B1 := Lib.hid hb
  clear hb
  go_wp2_with fail
  go_ret2
  exact ⟨rfl, B1.out⟩
/-- What Fewest returns when all is right. -/
def FewRet (zs : List Thr) (w : World) (e : Ending) (w' : World) : Prop :=
  ∃ v : Value, e = .returned (.tuple #[v, .int .i64 0]) ∧ w'.ownsRow w.heap.size 64 2 v zs.length (fm thr1 thr2 zs) ∧ Below w.heap.size w w'
set_option maxHeartbeats 8000000 in
theorem fewest_yes (h : StkIn A l A2 s w) (A3 : Option Addr) (t : List Thr) (c3 : Nat) (hl : t.length ≤ 140737488355328) (hd : RdG 2 Thr.cs w A3 t) (h0 : pressedF l s t = 0) :
    Calls Try.prog 50 #[.slice A l.length c, .slice A2 s.length c2, .slice A3 t.length c3] w (FewRet (fewG l s t t.length t) w) := by
  have HS := Lib.hid h
  have HD := Lib.hid hd
  have H0 := Lib.hid h0
  have CP := Lib.hid (pressed_yes (c := c) (c2 := c2) h A3 t c3 hl hd h0)
  obtain ⟨t1, t2⟩ := thrF_zero (pressed_zero h0).2.1
  have HT2 := Lib.hid t2
  have h2 := form_two (stackF_form (pressed_zero h0).1)
  have HTH := Lib.hid (fun (u : List Thr) (hu : pressedF l s u = 0) => thrF_zero (pressed_zero hu).2.1)
  obtain ⟨zs, hzs⟩ : ∃ zs, fewG l s t t.length t = zs := ⟨_, rfl⟩
  rw [hzs]
  have HZ := Lib.hid hzs
  obtain ⟨n, hm⟩ : ∃ n, (cus (rowsOf l s)).length = n + 1 := ⟨(cus (rowsOf l s)).length - 1, by omega⟩
  have HM := Lib.hid hm
  have CKS := Lib.hid (fun W (hS : StkIn A l A2 s W) A4 (u : List Thr) c4 (hu : u.length ≤ 140737488355328) (hdu : RdG 2 Thr.cs W A4 u) => checkSpans_law (c := c) (c2 := c2) hS A4 u c4 hu hdu)
  clear h hd h0 t2 hzs
  unfold FewRet
  go_enter Try.func50, Try.ntmps50
  go_wp2_with fail
  refine CP.out.mono ?_
  rintro e w1 ⟨p, q, kn, mv, tv, cv, nv, f, v, S, rfl, hL, -, -, -, hb⟩
  have B1 := Lib.hid hb
  have z1 := hb.size
  obtain ⟨Ac, cc, hvc, u1, u2, u3⟩ := own_cells hL.g.c
  have hn : (cus (rowsOf l s)).length ≤ 1000 := Nat.le_trans (cus_few _ 0) hL.l
  have a2 : w1.cell? ⟨p, 2, none⟩ = some cv := by rw [blk_cell hL.g.b]; rfl
  have lp := blk_lt hL.g.b
  subst hvc
  rw [hm] at a2 hn u1
  have HT3 := Lib.hid (show ∀ x ∈ t, 1 ≤ x.a ∧ x.a < x.b ∧ x.b ≤ ((n + 1 : Nat) : Int) by rw [← hm]; exact HT2.out)
  have HTH2 := Lib.hid (show ∀ (u : List Thr), pressedF l s u = 0 → u.length ≤ 200 ∧ ∀ x ∈ u, 1 ≤ x.a ∧ x.a < x.b ∧ x.b ≤ ((n + 1 : Nat) : Int) by rw [← hm]; exact HTH.out)
  have CJ := Lib.hid (joints_any A3 t c3 n w1 (by omega) (by omega) HT3.out (HD.out.below B1.out))
  clear hb hL u3 hm h2 HT2 HTH CP
  go_wp2_with fail
  refine CJ.out.mono ?_
  rintro e w2 ⟨g1, rfl, ho1, hb2⟩
  have B2 := Lib.hid (B1.out.trans (hb2.mono z1))
  have z2 := hb2.size
  obtain ⟨A1, k1, e1, -, -, h13⟩ := own_cells ho1
  cases e1
  have k2 := (hb2.cell (p := ⟨p, 2, none⟩) lp).trans a2
  have lp2 : p < w2.heap.size := by omega
  have HJ1 := Lib.hid ho1
  have CC := Lib.hid (cloneThr_any A3 t c3 w2 (by omega) (HD.out.below B2.out))
  clear hb2 ho1 h13 a2
  go_wp2_with fail
  refine CC.out.mono ?_
  rintro e w3 ⟨v3, rfl, ho3, hb3⟩
  have B3 := Lib.hid (B2.out.trans (hb3.mono (by omega)))
  have z3 := hb3.size
  have HO3 := Lib.hid ho3
  have HB23 := Lib.hid hb3
  have yl : IntKind.i64.wrap ((t.length : Int) - 1) = (t.length : Int) - 1 := IntWalk.i64_in _ (by omega)
  clear ho3 hb3
  go_wp2_with fail
  go_loopw [12, 13] (fun ov iv wr => ∃ (k : Nat) (o : List Thr), iv = .int .i64 ((k : Int) - 1) ∧ k ≤ o.length ∧ o.length ≤ 200 ∧ fewG l s t k o = fewG l s t t.length t ∧ wr.ownsRow w2.heap.size 64 2 ov o.length (fm thr1 thr2 o) ∧ Below w2.heap.size w2 wr) (fun _ iv _ => (intOf iv + 1).toNat)
  case atStart => exact ⟨t.length, t, rfl, Nat.le_refl _, t1, rfl, HO3.out, HB23.out⟩
  case round =>
    obtain ⟨k, o, rfl, hk, hol, hf, ho, hw⟩ := hrel
    have HF := Lib.hid hf
    have HW := Lib.hid hw
    have zw := hw.size
    have BW := Lib.hid (B2.out.trans (hw.mono (by omega)))
    obtain ⟨Ao, co, rfl, o1, o2, o3⟩ := own_rdT ho
    have HO := Lib.hid ho
    have HRO := Lib.hid o3
    clear hf ho o3
    cases k with
    | zero =>
      have HE := Lib.hid (show o = zs by have := HF.out; rw [HZ.out] at this; exact this)
      go_wp2_with fail
      go_ret2
      exact ⟨_, rfl, by rw [← HE.out]; exact own_lower HO.out (by omega), BW.out⟩
    | succ j =>
      have y0 : ((j + 1 : Nat) : Int) - 1 = (j : Int) := by omega
      have y1 : IntKind.i64.wrap ((j : Int) + 1) = (j : Int) + 1 := IntWalk.i64_in _ (by omega)
      have y2 : (0 : Int) ≤ (j : Int) := by omega
      have y3 : IntKind.i64.wrap ((j : Int) - 1) = (j : Int) - 1 := IntWalk.i64_in _ (by omega)
      have y4 : (j : Int) + 1 - 1 = (j : Int) := by omega
      rw [y0]
      have CL := Lib.hid (cloneThr_any Ao o co wr (by omega) HRO.out)
      clear hw
      go_wp2_with fail
      refine CL.out.mono ?_
      rintro e w4 ⟨v4, rfl, ho4, hb4⟩
      obtain ⟨A4, c4, rfl, -, -, h43⟩ := own_cells ho4
      obtain ⟨g4, rfl, hg4, -, -⟩ := h43 (by omega)
      have CD := Lib.hid (deleteThr_any wr.heap.size g4 c4 o j w4 (by omega) (by omega) ho4)
      have B4 := Lib.hid hb4
      have z4 := hb4.size
      clear ho4 hb4 h43
      go_wp2_with fail
      refine CD.out.mono ?_
      rintro e w5 ⟨rfl, ho5, hg5⟩
      have hE : (o.eraseIdx j).length = o.length - 1 := by rw [List.length_eraseIdx, if_pos (by omega)]
      have B5 := Lib.hid (B4.out.grown hg5 z4 (fun i e => by cases e; exact hg4))
      have z5 := B5.out.size
      have BW5 := Lib.hid (BW.out.trans (B5.out.mono (by omega)))
      have HY := Lib.hid (fun h1 h2 => few_yes (l := t) (out := o) (k := j) HM.out h1 h2)
      have HNO := Lib.hid (fun h1 => few_no (l := t) (out := o) (k := j) HM.out h1)
      rw [← hE] at ho5 ⊢
      have HEL := Lib.hid hE
      have hel : (o.eraseIdx j).length ≤ 200 := by omega
      have hjE : j ≤ (o.eraseIdx j).length := by omega
      generalize o.eraseIdx j = E at *
      obtain ⟨A5, c5, e5, -, -, h53⟩ := own_rdT ho5
      cases e5
      have HE5 := Lib.hid ho5
      have HR5 := Lib.hid h53
      have CK := Lib.hid (CKS.out w5 (HS.out.below BW5.out) _ E c4 (by omega) h53)
      clear ho5 hg5 h53 hE
      by_cases hp : pressedF l s E = 0
      · obtain ⟨-, hokE⟩ := HTH2.out E hp
        have HP := Lib.hid hp
        rw [hp] at CK
        clear hp
        have HOKE := Lib.hid hokE
        clear hokE
        have CJ5 := Lib.hid (fun W (hb : Below w5.heap.size w5 W) => joints_any (some ⟨g4, 0, none⟩) E c4 n W (by omega) (by omega) HOKE.out (HR5.out.below hb))
        have CEQ := Lib.hid (fun W g7 (hb : Below w2.heap.size w2 W) (h7 : W.ownsRow w5.heap.size 4 1 (.slice (some ⟨g7, 0, none⟩) n n) n ((jT n E).map Value.bool)) => joint_eq (t := t) (E := E) (own_below HJ1.out hb) h7)
        have HKP := Lib.hid (fun W (hb : Below w2.heap.size w2 W) => (hb.cell (p := ⟨p, 2, none⟩) lp2).trans k2)
        by_cases hj : jT n E = jT n t
        · rw [decide_eq_true hj] at CEQ
          have HN := Lib.hid (HY.out HP.out hj)
          clear hj
          go_wp2_with (first
            | (go_at_call 40; refine CK.out.mono ?_; rintro e w6 ⟨rfl, hb6⟩; have B6 := Lib.hid hb6; have z6 := hb6.size; have k6 := HKP.out w6 ((HW.out.trans (B5.out.mono zw)).trans (hb6.mono (by omega))); clear hb6)
            | (go_at_call 79; refine (CJ5.out w6 B6.out).mono ?_; rintro e w7 ⟨g7, rfl, ho7, hb7⟩; have HO7 := Lib.hid ho7; have B7 := Lib.hid (B6.out.trans (hb7.mono z6)); clear ho7 hb7)
            | (go_at_call 85; refine (CEQ.out w7 g7 ((HW.out.trans (B5.out.mono zw)).trans (B7.out.mono (by omega))) (own_lower HO7.out z6)).mono ?_; rintro e w8 ⟨rfl, q8, rfl⟩))
          go_roundw
          case rel => exact ⟨j, E, rfl, by omega, by omega, by rw [← HN.out]; exact HF.out, own_lower (own_below HE5.out (below_drewN B7.out _)) (by omega), below_drewN ((HW.out.trans (B5.out.mono zw)).trans (B7.out.mono (by omega))) _⟩
          case measure => (simp [intOf] <;> omega)
        · rw [decide_eq_false hj] at CEQ
          have HN := Lib.hid (HNO.out (fun e => hj e.2))
          clear hj
          go_wp2_with (first
            | (go_at_call 40; refine CK.out.mono ?_; rintro e w6 ⟨rfl, hb6⟩; have B6 := Lib.hid hb6; have z6 := hb6.size; have k6 := HKP.out w6 ((HW.out.trans (B5.out.mono zw)).trans (hb6.mono (by omega))); clear hb6)
            | (go_at_call 79; refine (CJ5.out w6 B6.out).mono ?_; rintro e w7 ⟨g7, rfl, ho7, hb7⟩; have HO7 := Lib.hid ho7; have B7 := Lib.hid (B6.out.trans (hb7.mono z6)); clear ho7 hb7)
            | (go_at_call 85; refine (CEQ.out w7 g7 ((HW.out.trans (B5.out.mono zw)).trans (B7.out.mono (by omega))) (own_lower HO7.out z6)).mono ?_; rintro e w8 ⟨rfl, q8, rfl⟩))
          go_roundw
          case rel => exact ⟨j, o, rfl, by omega, hol, by rw [← HN.out]; exact HF.out, own_below HO.out (below_drewN (B5.out.trans (B7.out.mono z5)) _), below_drewN ((HW.out.trans (B5.out.mono zw)).trans (B7.out.mono (by omega))) _⟩
          case measure => (simp [intOf] <;> omega)
      · have HN := Lib.hid (show fewG l s t (j + 1) o = fewG l s t j o from HNO.out (fun e => hp e.1))
        generalize pressedF l s E = F at *
        have hd1 : (F == 0) = false := by simpa using hp
        clear hp
        go_wp2_with (first
          | (go_at_call 40; refine CK.out.mono ?_; rintro e w6 ⟨rfl, hb6⟩; have B6 := Lib.hid (B5.out.trans (hb6.mono z5)); clear hb6))
        go_roundw
        case rel => exact ⟨j, o, rfl, by omega, hol, by rw [← HN.out]; exact HF.out, own_below HO.out B6.out, HW.out.trans (B6.out.mono zw)⟩
        case measure => (simp [intOf] <;> omega)
end
end Go.Proofs.Ytdlglnkhhbkndaa

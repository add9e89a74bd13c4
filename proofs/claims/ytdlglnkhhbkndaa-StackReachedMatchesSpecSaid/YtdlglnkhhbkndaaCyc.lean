/- How often coppers are pressed (Cycles), whatever the world. -/
import Derived.Test.YtdlglnkhhbkndaaPrsd
import Derived.Test.YtdlglnkhhbkndaaSl2
namespace Go.Proofs.Ytdlglnkhhbkndaa
open Go.RowKit Go.Maps
set_option linter.unusedSimpArgs false
set_option linter.unusedVariables false
set_option maxRecDepth 100000

def onC (y : AB) (i : Nat) : Bool := !y.core && decide (y.a ≤ (i : Int) + 1) && decide ((i : Int) + 1 ≤ y.b)
def cycN (L : List AB) (i : Nat) : Int := (L.countP fun y => onC y i : Nat)
def cycT (n : Nat) (L : List AB) : List Int := (List.range n).map fun i => cycN L i
/-- .. with some coppers of one more. -/
def cycM (n : Nat) (L : List AB) (y : AB) (c : Int) : List Int := (List.range n).map fun i => cycN L i + if y.a ≤ (i : Int) + 1 ∧ (i : Int) + 1 < c then 1 else 0
theorem cycM_start (n : Nat) (L : List AB) (y : AB) : cycM n L y y.a = cycT n L := by
  unfold cycM cycT
  refine List.map_congr_left fun i _ => ?_
  rw [if_neg (by omega)]
  omega
theorem cycM_len (n : Nat) (L : List AB) (y : AB) (c : Int) : (cycM n L y c).length = n := by simp [cycM]
theorem cycM_get {n : Nat} {L : List AB} {y : AB} {c : Int} (h1 : 1 ≤ c) (h2 : c ≤ n) : (cycM n L y c)[(c - 1).toNat]? = some (cycN L (c - 1).toNat) := by
  unfold cycM
  rw [List.getElem?_map, List.getElem?_range (by omega)]
  simp only [Option.map_some]
  rw [if_neg (by omega)]
  congr 1
  try omega
theorem cycM_step {n : Nat} {L : List AB} {y : AB} {c : Int} (h1 : 1 ≤ c) (h2 : c ≤ n) (ha : y.a ≤ c) : (cycM n L y c).set (c - 1).toNat (cycN L (c - 1).toNat + 1) = cycM n L y (c + 1) := by
  apply List.ext_getElem?
  intro i
  rw [List.getElem?_set]
  by_cases hi : (c - 1).toNat = i
  · subst hi
    rw [if_pos rfl, if_pos (by rw [cycM_len]; omega)]
    unfold cycM
    rw [List.getElem?_map, List.getElem?_range (by omega)]
    simp only [Option.map_some]
    rw [if_pos (by omega)]
  · rw [if_neg hi]
    unfold cycM
    by_cases hn : i < n
    · rw [List.getElem?_map, List.getElem?_map, List.getElem?_range hn]
      simp only [Option.map_some]
      congr 2
      by_cases hc : y.a ≤ (i : Int) + 1 ∧ (i : Int) + 1 < c
      · rw [if_pos hc, if_pos (by omega)]
      · rw [if_neg hc, if_neg (by omega)]
    · rw [List.getElem?_eq_none (by simp; omega), List.getElem?_eq_none (by simp; omega)]
theorem cycM_end {n : Nat} {L : List AB} {y : AB} (hc : y.core = false) : cycM n L y (y.b + 1) = cycT n (L ++ [y]) := by
  unfold cycM cycT cycN
  refine List.map_congr_left fun i _ => ?_
  rw [List.countP_append, List.countP_singleton]
  have : onC y i = (decide (y.a ≤ (i : Int) + 1) && decide ((i : Int) + 1 ≤ y.b)) := by unfold onC; rw [hc]; rfl
  rw [this]
  by_cases h : y.a ≤ (i : Int) + 1 ∧ (i : Int) + 1 < y.b + 1
  · rw [if_pos h, if_pos (by simp; omega)]
    omega
  · rw [if_neg h, if_neg (by simp; omega)]
    omega
theorem cycT_core {n : Nat} {L : List AB} {y : AB} (hc : y.core = true) : cycT n (L ++ [y]) = cycT n L := by
  unfold cycT cycN
  refine List.map_congr_left fun i _ => ?_
  rw [List.countP_append, List.countP_singleton]
  have : onC y i = false := by unfold onC; rw [hc]; rfl
  rw [this]
  rfl
theorem cycN_few (L : List AB) (i : Nat) : 0 ≤ cycN L i ∧ cycN L i ≤ L.length := by
  unfold cycN
  have := List.countP_le_length (p := fun y => onC y i) (l := L)
  omega
theorem cycT_nil (n : Nat) : cycT n [] = List.replicate n 0 := by
  unfold cycT
  rw [show (fun i => cycN [] i) = fun _ => (0 : Int) from rfl, List.map_const', List.length_range]
theorem made_ints (n : Nat) : (madeCells (Value.int .i64 0).cells (n * 1)).toList = (List.replicate n (0 : Int)).map (Value.int .i64) := by
  rw [List.map_replicate, Nat.mul_one]
  simp [madeCells, Value.cells]
  rw [show (fun x : Nat => [Value.int IntKind.i64 0][x % 1]?.getD default) = fun _ => Value.int .i64 0 from by funext x; simp [Nat.mod_one], List.map_const', List.length_range]
theorem ord_bd {R : List Row} {l : List Thr} (ho : OrdL R l) {n : Int} {k : Nat} (hb : Bd n l k (boardsF R l)) : ∀ y ∈ pressL R l, 1 ≤ y.a ∧ y.a < y.b ∧ y.b ≤ n := fun y hy => hb.r y (ho.1.subset hy)
section
variable {A : Option Addr} {l : List Mat} {c : Nat} {A2 : Option Addr} {s : List Lay} {c2 : Nat} {w : World}
theorem pressed_zero {t : List Thr} (h0 : pressedF l s t = 0) : stackF l s = 0 ∧ thrF (cus (rowsOf l s)).length t = 0 ∧ madeF ((pressL (rowsOf l s) t).map AB.bq) = 0 := by
  unfold pressedF at h0
  split at h0
  · rename_i e1
    split at h0
    · rename_i e2
      exact ⟨e1, e2, h0⟩
    · rename_i e2
      exact absurd h0 e2
  · rename_i e1
    exact absurd h0 e1
theorem pressed_bd {t : List Thr} (h0 : pressedF l s t = 0) : Bd (cus (rowsOf l s)).length t t.length (boardsF (rowsOf l s) t) := by
  obtain ⟨h1, h2, -⟩ := pressed_zero h0
  exact boards_bd (form_two (stackF_form h1)) (thrF_zero h2).2
set_option maxHeartbeats 1000000 in
theorem cycles_no (h : StkIn A l A2 s w) (A3 : Option Addr) (t : List Thr) (c3 : Nat) (hl : t.length ≤ 140737488355328) (hd : RdG 2 Thr.cs w A3 t) (h0 : pressedF l s t ≠ 0) :
    Calls Try.prog 43 #[.slice A l.length c, .slice A2 s.length c2, .slice A3 t.length c3] w fun e w' => e = .returned (.tuple #[.slice none 0 0, .int .i64 (pressedF l s t)]) ∧ Below w.heap.size w w' := by
  have CP := Lib.hid (pressed_no (c := c) (c2 := c2) h A3 t c3 hl hd h0)
  generalize pressedF l s t = F at *
  have hd1 : (F == 0) = false := by simpa using h0
  have hd2 : (F != 0) = true := by simpa using h0
  clear h hd h0
  go_enter Try.func43, Try.ntmps43
  go_wp2_with fail
  refine CP.out.mono ?_
  rintro e w1 ⟨rfl, hb⟩
  have B1 := Lib.hid hb
  clear hb
  go_wp2_with fail
  go_ret2
  exact ⟨rfl, B1.out⟩
/-- What Cycles returns when all is right. -/
def CycRet (R : List Row) (l : List Thr) (w : World) (e : Ending) (w' : World) : Prop :=
  ∃ g : Nat, e = .returned (.tuple #[.slice (some ⟨g, 0, none⟩) (cus R).length (cus R).length, .int .i64 0]) ∧ w'.ownsRow w.heap.size 3 1 (.slice (some ⟨g, 0, none⟩) (cus R).length (cus R).length) (cus R).length ((cycT (cus R).length (pressL R l)).map (Value.int .i64)) ∧ Below w.heap.size w w'
set_option maxHeartbeats 4000000 in
theorem cycles_yes (h : StkIn A l A2 s w) (A3 : Option Addr) (t : List Thr) (c3 : Nat) (hl : t.length ≤ 140737488355328) (hd : RdG 2 Thr.cs w A3 t) (h0 : pressedF l s t = 0) :
    Calls Try.prog 43 #[.slice A l.length c, .slice A2 s.length c2, .slice A3 t.length c3] w (CycRet (rowsOf l s) t w) := by
  have HBD := Lib.hid (pressed_bd h0)
  have ht := (thrF_zero (pressed_zero h0).2.1).1
  have CP := Lib.hid (pressed_yes (c := c) (c2 := c2) h A3 t c3 hl hd h0)
  obtain ⟨i0, hi0, hz0, hz1, hz2⟩ := info_parts infoInt
  clear h hd h0
  generalize rowsOf l s = R at *
  go_enter Try.func43, Try.ntmps43
  go_wp2_with fail
  refine CP.out.mono ?_
  rintro e w1 ⟨p, q, kn, mv, tv, cv, nv, f, v, S, rfl, hL, hab, hord, hat, hb⟩
  have HIN := Lib.hid (ord_bd hord HBD.out)
  have HAB := Lib.hid hab
  have HB1 := Lib.hid hb
  have z1 := hb.size
  obtain ⟨Ac, cc, hvc, u1, u2, u3⟩ := own_cells hL.g.c
  have a2 : w1.cell? ⟨p, 2, none⟩ = some cv := by rw [blk_cell hL.g.b]; rfl
  have hn : (cus R).length ≤ 1000 := Nat.le_trans (cus_few _ 0) hL.l
  obtain ⟨Ap, cp, hvp, p1, p2, p3⟩ := own_rd4 hat.o
  have HP3 := Lib.hid p3
  have HVS := Lib.hid (fun r hr => own_cells (hat.h r hr))
  have hSl : S.length ≤ 2000 := by
    have h1 := hord.1.length_eq
    have h3 := boards_length R t
    have h4 := congrArg List.length hab
    rw [List.length_map] at h4
    omega
  have p2' : cp ≤ 9223372036854775807 := p2
  subst hvc hvp
  clear hL hab hord hat hb u3 p3 p2
  generalize hnn : (cus R).length = n at *
  have HNN := Lib.hid hnn
  clear hnn
  go_wp2_with (first | (at_make; refine wpList_make_full _ rfl (.tmp 30) (.tmp 30) 43 rfl w1.heap.size 3 i0 (.int .i64 0) 1 Try.underlying43 hi0 hz0 hz1 .i64 .i64 (n : Int) (n : Int) n rfl rfl rfl rfl ?m1 ?m2 ?m3 ?_; (case m1 => rw [hz2]; omega); (case m2 => simp only [maxLen]; omega); (case m3 => omega); intro w2 hown hg; have HO := Lib.hid hown; have HG := Lib.hid hg; clear hown hg))
  have lt0 := (HO.out.lt w1.heap.size rfl).2
  have BW := (Below.refl w1.heap.size w1).grown HG.out (Nat.le_refl _) (fun j hj => by cases hj)
  have H0 := Lib.hid (show w2.ownsRow w1.heap.size 3 1 (.slice (some ⟨w1.heap.size, 0, none⟩) n n) n ((cycT n ((S.map Brd.ab).take 0)).map (Value.int .i64)) by
    rw [List.take_zero, cycT_nil, ← made_ints]
    exact HO.out)
  clear HO
  go_loopw [34] (fun i wr => ∃ k : Nat, k ≤ S.length ∧ i = .int .i64 k ∧ wr.ownsRow w1.heap.size 3 1 (.slice (some ⟨w1.heap.size, 0, none⟩) n n) n ((cycT n ((S.map Brd.ab).take k)).map (Value.int .i64)) ∧ Below w1.heap.size w1 wr) (fun i _ => S.length - (intOf i).toNat)
  case atStart => exact ⟨0, Nat.zero_le _, rfl, H0.out, BW⟩
  case round =>
    obtain ⟨k, hk, rfl, ho, hw⟩ := hrel
    have HO := Lib.hid ho
    have HW := Lib.hid hw
    have zw := hw.size
    have lg := (ho.lt w1.heap.size rfl).2
    have hkz : (0 : Int) ≤ (k : Int) := by omega
    clear ho
    by_cases hlt : k < S.length
    · obtain ⟨b, off, rfl, hblt, hcs⟩ := (HP3.out.below hw) (by rw [List.length_map]; omega)
      have hi : (S.map Brd.bq)[k]? = some (S[k].bq) := by rw [List.getElem?_map, List.getElem?_eq_getElem hlt]; rfl
      have c0 := by simpa using hcs k _ hi 0 _ rfl
      have c1 := hcs k _ hi 1 _ rfl
      have c2' := hcs k _ hi 2 _ rfl
      have c3' := hcs k _ hi 3 _ rfl
      obtain ⟨A9, c9, h9, -⟩ := HVS.out _ (List.getElem_mem hlt)
      have hy : (S.map Brd.ab)[k]? = some S[k].ab := by rw [List.getElem?_map, List.getElem?_eq_getElem hlt]; rfl
      have hin := HIN.out S[k].ab (by rw [← HAB.out]; exact List.mem_map.2 ⟨_, List.getElem_mem hlt, rfl⟩)
      have ht2 : (S.map Brd.ab).take (k + 1) = (S.map Brd.ab).take k ++ [S[k].ab] := by rw [List.take_add_one, hy]; rfl
      have HT := Lib.hid ht2
      clear hi hcs hy ht2 hw
      generalize S[k] = r at *
      obtain ⟨rb, ya, yb, yc, yh, ys⟩ := r
      have e1 : (Brd.mk rb ya yb yc yh ys).ab = ⟨ya, yb, yc, ys⟩ := rfl
      rw [e1] at HT hin
      simp only [Brd.bq] at c0 c1 c2' c3'
      simp only at h9
      rw [h9] at c3'
      simp only at hin
      clear e1 h9
      cases yc with
      | true =>
        have HN := Lib.hid (show cycT n ((S.map Brd.ab).take (k + 1)) = cycT n ((S.map Brd.ab).take k) by rw [HT.out, cycT_core rfl])
        go_wp2_with fail
        go_roundw
        case rel => exact ⟨k + 1, by omega, by go_num, by rw [HN.out]; exact HO.out.alloc _, HW.out.alloc zw _⟩
        case measure => simp [intOf]; omega
      | false =>
        go_wp2_with fail
        obtain ⟨w8, rfl⟩ : ∃ w8, w8 = wr := ⟨wr, rfl⟩
        obtain ⟨y, hyy⟩ : ∃ y : AB, y = ⟨ya, yb, false, ys⟩ := ⟨_, rfl⟩
        have hya : y.a = ya := by rw [hyy]
        have hyb : y.b = yb := by rw [hyy]
        have hyc : y.core = false := by rw [hyy]
        rw [← hyy] at HT
        have HQ := Lib.hid (show cycM n ((S.map Brd.ab).take k) y ya = cycT n ((S.map Brd.ab).take k) by rw [← hya]; exact cycM_start _ _ _)
        go_loopw [14] (fun cv wx => ∃ x : Int, cv = .int .i64 x ∧ ya ≤ x ∧ x ≤ yb + 1 ∧ wx.ownsRow w1.heap.size 3 1 (.slice (some ⟨w1.heap.size, 0, none⟩) n n) n ((cycM n ((S.map Brd.ab).take k) y x).map (Value.int .i64)) ∧ wx.cell? ⟨w8.heap.size, 1, none⟩ = some (.int .i64 yb) ∧ w8.heap.size < wx.heap.size ∧ Below w1.heap.size w1 wx) (fun cv _ => (yb + 1 - intOf cv).toNat)
        case atStart => exact ⟨ya, rfl, Int.le_refl _, by omega, by rw [HQ.out]; exact HO.out.alloc _, alloc_new_cell w8 _ _ 1 rfl, by simp, HW.out.alloc zw _⟩
        case round =>
          obtain ⟨x, rfl, hx1, hx2, ho, hc, hl8, hw⟩ := hrel
          have HOX := Lib.hid ho
          have HWX := Lib.hid hw
          by_cases hxb : x ≤ yb
          · obtain ⟨j, rfl⟩ : ∃ j : Nat, x = (j : Int) + 1 := ⟨(x - 1).toNat, by omega⟩
            have ej : ((j : Int) + 1 - 1).toNat = j := by omega
            have hg := own_cellC (j := j) (v := .int .i64 (cycN ((S.map Brd.ab).take k) j)) ho (by
              rw [List.getElem?_map]
              have := cycM_get (n := n) (L := (S.map Brd.ab).take k) (y := y) (c := (j : Int) + 1) (by omega) (by omega)
              rw [ej] at this
              rw [this]
              rfl)
            have hst := own_setC (j := j) ho (.int .i64 (cycN ((S.map Brd.ab).take k) j + 1))
            have hms := cycM_step (n := n) (L := (S.map Brd.ab).take k) (y := y) (c := (j : Int) + 1) (by omega) (by omega) (by omega)
            rw [ej] at hms
            rw [← List.map_set, hms] at hst
            have HST := Lib.hid hst
            obtain ⟨hg1, hg2⟩ := hg
            have hfew := cycN_few ((S.map Brd.ab).take k) j
            rw [List.length_take] at hfew
            clear ho hw hst hms ej
            generalize cycN ((S.map Brd.ab).take k) j = v at *
            have y1 : IntKind.i64.wrap (j : Int) = j := IntWalk.i64_in _ (by omega)
            have y2 : IntKind.i64.wrap (v + 1) = v + 1 := IntWalk.i64_in _ (by omega)
            have y3 : IntKind.i64.wrap ((j : Int) + 1 + 1) = (j : Int) + 1 + 1 := IntWalk.i64_in _ (by omega)
            have y4 : (0 : Int) ≤ (j : Int) := by omega
            have y5 : (j : Int) < (n : Int) := by omega
            have y6 : (j : Int) + 1 - 1 = j := by omega
            go_wp2_with fail
            go_roundw
            case rel =>
              refine ⟨(j : Int) + 1 + 1, rfl, by omega, by omega, HST.out, ?_, by simp; exact hl8, ?_⟩
              · rw [World.cell?_setCell_far _ _ _ _ (show w1.heap.size ≠ w8.heap.size by omega)]
                exact hc
              · exact HWX.out.trans (below_gb (gb_set (p := ⟨w1.heap.size, j, none⟩) (gb_refl _ (some w1.heap.size)) (.inl rfl) _) HWX.out.size (fun g e => by cases e; exact Nat.le_refl _))
            case measure => simp [intOf]; omega
          · obtain rfl : x = yb + 1 := by omega
            have HN := Lib.hid (show cycT n ((S.map Brd.ab).take (k + 1)) = cycM n ((S.map Brd.ab).take k) y (yb + 1) by rw [HT.out, ← hyb, cycM_end hyc])
            go_wp2_with fail
            go_roundw
            case rel => exact ⟨k + 1, by omega, by go_num, by rw [HN.out]; exact HOX.out, HWX.out⟩
            case measure => simp [intOf]; omega
    · obtain rfl : k = S.length := by omega
      have he : (S.map Brd.ab).take S.length = pressL R t := by
        rw [← HAB.out]
        exact List.take_of_length_le (by simp)
      have HE := Lib.hid he
      clear he
      go_wp2_with fail
      go_ret2
      refine ⟨w1.heap.size, by rw [HNN.out]; rfl, ?_, HB1.out.trans (HW.out.mono z1)⟩
      rw [HNN.out, ← HE.out]
      exact own_lower HO.out z1
end
end Go.Proofs.Ytdlglnkhhbkndaa

/- Several texts in one: Jnt, Rch, RchP. -/
import Derived.Test.YtdlglnkhhbkndaaCyc
import Derived.Test.YtdlglnkhhbkndaaLaid
import Derived.Test.YtdlglnkhhbkndaaStkG
import Derived.Test.YtdlglnkhhbkndaaStkP
/- Which coppers holes join (joints), whatever the world. -/
namespace Go.Proofs.Ytdlglnkhhbkndaa
open Go.RowKit Go.Maps
set_option linter.unusedSimpArgs false
set_option linter.unusedVariables false
set_option maxRecDepth 100000

theorem infoBool : (Try.prog.info? 4).map (fun i => (i.zero, i.size, i.bytes)) = some (some (.bool false), 1, 1) := by kernel_rfl
def onJ (x : Thr) (i : Nat) : Bool := decide (x.a ≤ (i : Int) + 1) && decide ((i : Int) + 1 < x.b)
def jB (t : List Thr) (i : Nat) : Bool := t.any fun x => onJ x i
def jT (n : Nat) (t : List Thr) : List Bool := (List.range n).map (jB t)
def jM (n : Nat) (t : List Thr) (y : Thr) (c : Int) : List Bool := (List.range n).map fun i => jB t i || (decide (y.a ≤ (i : Int) + 1) && decide ((i : Int) + 1 < c))
theorem jT_len (n : Nat) (t : List Thr) : (jT n t).length = n := by simp [jT]
theorem jM_len (n : Nat) (t : List Thr) (y : Thr) (c : Int) : (jM n t y c).length = n := by simp [jM]
theorem jT_get {n : Nat} {t : List Thr} {i : Nat} (h : i < n) : (jT n t)[i]? = some (jB t i) := by
  unfold jT
  rw [List.getElem?_map, List.getElem?_range h]
  rfl
theorem jM_start (n : Nat) (t : List Thr) (y : Thr) : jM n t y y.a = jT n t := by
  unfold jM jT
  refine List.map_congr_left fun i _ => ?_
  have : (decide (y.a ≤ (i : Int) + 1) && decide ((i : Int) + 1 < y.a)) = false := by simp <;> omega
  rw [this, Bool.or_false]
theorem jM_end (n : Nat) (t : List Thr) (y : Thr) : jM n t y y.b = jT n (t ++ [y]) := by
  unfold jM jT
  refine List.map_congr_left fun i _ => ?_
  unfold jB onJ
  simp
theorem jM_step {n : Nat} {t : List Thr} {y : Thr} {j : Nat} (h : j < n) (ha : y.a ≤ (j : Int) + 1) : (jM n t y ((j : Int) + 1)).set j true = jM n t y ((j : Int) + 1 + 1) := by
  apply List.ext_getElem?
  intro i
  rw [List.getElem?_set]
  by_cases hi : j = i
  · subst hi
    rw [if_pos rfl, if_pos (by rw [jM_len]; exact h)]
    unfold jM
    rw [List.getElem?_map, List.getElem?_range h]
    have : (decide (y.a ≤ (j : Int) + 1) && decide ((j : Int) + 1 < (j : Int) + 1 + 1)) = true := by simp; omega
    simp only [Option.map_some, this, Bool.or_true]
  · rw [if_neg hi]
    unfold jM
    by_cases hn : i < n
    · rw [List.getElem?_map, List.getElem?_map, List.getElem?_range hn]
      simp only [Option.map_some]
      have : decide ((i : Int) + 1 < (j : Int) + 1) = decide ((i : Int) + 1 < (j : Int) + 1 + 1) := by
        rw [decide_eq_decide]
        omega
      rw [this]
    · rw [List.getElem?_eq_none (by simp; omega), List.getElem?_eq_none (by simp; omega)]
theorem jT_nil (n : Nat) : jT n [] = List.replicate n false := by
  unfold jT
  rw [show jB [] = fun _ => false from rfl, List.map_const', List.length_range]
theorem made_bools (n : Nat) : (madeCells (Value.bool false).cells (n * 1)).toList = (List.replicate n false).map Value.bool := by
  rw [List.map_replicate, Nat.mul_one]
  simp [madeCells, Value.cells]
  rw [show (fun x : Nat => [Value.bool false][x % 1]?.getD default) = fun _ => Value.bool false from by funext x; simp [Nat.mod_one], List.map_const', List.length_range]
/-- What joints returns. -/
def JntRet (n : Nat) (t : List Thr) (w : World) (e : Ending) (w' : World) : Prop :=
  ∃ g : Nat, e = .returned (.slice (some ⟨g, 0, none⟩) n n) ∧ w'.ownsRow w.heap.size 4 1 (.slice (some ⟨g, 0, none⟩) n n) n ((jT n t).map Value.bool) ∧ Below w.heap.size w w'
set_option maxHeartbeats 4000000 in
theorem joints_any (A : Option Addr) (t : List Thr) (c : Nat) (n : Nat) (w : World) (hn : n ≤ 1000) (hl : t.length ≤ 1000) (hok : ∀ x ∈ t, 1 ≤ x.a ∧ x.a < x.b ∧ x.b ≤ ((n + 1 : Nat) : Int)) (hd : RdG 2 Thr.cs w A t) :
    Calls Try.prog 79 #[.slice A t.length c, .int .i64 ((n + 1 : Nat) : Int)] w (JntRet n t w) := by
  have HOK := Lib.hid hok
  have HD := Lib.hid hd
  obtain ⟨i0, hi0, hz0, hz1, hz2⟩ := info_parts infoBool
  have y0 : IntKind.i64.wrap (n : Int) = (n : Int) := IntWalk.i64_in _ (by omega)
  have y9 : IntKind.i64.wrap (((n + 1 : Nat) : Int) - 1) = (n : Int) := (IntWalk.i64_in _ (by omega)).trans (by omega)
  clear hok hd
  unfold JntRet
  go_enter Try.func79, Try.ntmps79
  go_wp2_with (first | (at_make; refine wpList_make_full _ rfl (.tmp 10) (.tmp 10) 111 rfl w.heap.size 4 i0 (.bool false) 1 Try.underlying111 hi0 hz0 hz1 .i64 .i64 (n : Int) (n : Int) n rfl rfl rfl rfl ?m1 ?m2 ?m3 ?_; (case m1 => rw [hz2]; omega); (case m2 => simp only [maxLen]; omega); (case m3 => omega); intro w2 hown hg; have HO := Lib.hid hown; have HG := Lib.hid hg; clear hown hg))
  have lt0 := (HO.out.lt w.heap.size rfl).2
  have BW := (Below.refl w.heap.size w).grown HG.out (Nat.le_refl _) (fun j hj => by cases hj)
  have H0 := Lib.hid (show w2.ownsRow w.heap.size 4 1 (.slice (some ⟨w.heap.size, 0, none⟩) n n) n ((jT n (t.take 0)).map Value.bool) by
    rw [List.take_zero, jT_nil, ← made_bools]
    exact HO.out)
  clear HO
  go_loopw [14] (fun i wr => ∃ k : Nat, k ≤ t.length ∧ i = .int .i64 k ∧ wr.ownsRow w.heap.size 4 1 (.slice (some ⟨w.heap.size, 0, none⟩) n n) n ((jT n (t.take k)).map Value.bool) ∧ Below w.heap.size w wr) (fun i _ => t.length - (intOf i).toNat)
  case atStart => exact ⟨0, Nat.zero_le _, rfl, H0.out, BW⟩
  case round =>
    obtain ⟨k, hk, rfl, ho, hw⟩ := hrel
    have HO := Lib.hid ho
    have HW := Lib.hid hw
    have zw := hw.size
    have lg := (ho.lt w.heap.size rfl).2
    have hkz : (0 : Int) ≤ (k : Int) := by omega
    clear ho
    by_cases hlt : k < t.length
    · obtain ⟨b, off, rfl, hblt, hcs⟩ := (HD.out.below hw) (by omega)
      have hi : t[k]? = some t[k] := List.getElem?_eq_getElem hlt
      have c0 := by simpa using hcs k _ hi 0 _ rfl
      have c1 := hcs k _ hi 1 _ rfl
      have hin := HOK.out t[k] (List.getElem_mem hlt)
      have ht2 : t.take (k + 1) = t.take k ++ [t[k]] := by rw [List.take_add_one, hi]; rfl
      have HT := Lib.hid ht2
      clear hi hcs ht2 hw
      generalize t[k] = y at *
      go_wp2_with fail
      obtain ⟨w8, rfl⟩ : ∃ w8, w8 = wr := ⟨wr, rfl⟩
      have HQ := Lib.hid (jM_start n (t.take k) y)
      go_loopw [8] (fun cv wx => ∃ x : Int, cv = .int .i64 x ∧ y.a ≤ x ∧ x ≤ y.b ∧ wx.ownsRow w.heap.size 4 1 (.slice (some ⟨w.heap.size, 0, none⟩) n n) n ((jM n (t.take k) y x).map Value.bool) ∧ wx.cell? ⟨w8.heap.size, 1, none⟩ = some (.int .i64 y.b) ∧ w8.heap.size < wx.heap.size ∧ Below w.heap.size w wx) (fun cv _ => (y.b - intOf cv).toNat)
      case atStart => exact ⟨y.a, rfl, Int.le_refl _, by omega, by rw [HQ.out]; exact HO.out.alloc _, alloc_new_cell w8 _ _ 1 rfl, by simp, HW.out.alloc zw _⟩
      case round =>
        obtain ⟨x, rfl, hx1, hx2, ho, hc, hl8, hw⟩ := hrel
        have HOX := Lib.hid ho
        have HWX := Lib.hid hw
        by_cases hxb : x < y.b
        · obtain ⟨j, rfl⟩ : ∃ j : Nat, x = (j : Int) + 1 := ⟨(x - 1).toNat, by omega⟩
          have hjn : j < n := by omega
          have hg := own_cellC (j := j) (v := .bool ((jM n (t.take k) y ((j : Int) + 1))[j]'(by rw [jM_len]; exact hjn))) ho (by rw [List.getElem?_map, List.getElem?_eq_getElem (by rw [jM_len]; exact hjn)]; rfl)
          have hst := own_setC (j := j) ho (.bool true)
          rw [← List.map_set, jM_step hjn (by omega)] at hst
          have HST := Lib.hid hst
          obtain ⟨hg1, hg2⟩ := hg
          clear ho hw hst
          generalize (jM n (t.take k) y ((j : Int) + 1))[j]'(by rw [jM_len]; exact hjn) = v at *
          have y1 : IntKind.i64.wrap (j : Int) = j := IntWalk.i64_in _ (by omega)
          have y3 : IntKind.i64.wrap ((j : Int) + 1 + 1) = (j : Int) + 1 + 1 := IntWalk.i64_in _ (by omega)
          have y4 : (0 : Int) ≤ (j : Int) := by omega
          have y5 : (j : Int) < (n : Int) := by omega
          have y6 : (j : Int) + 1 - 1 = j := by omega
          go_wp2_with fail
          go_roundw
          case rel =>
            refine ⟨(j : Int) + 1 + 1, rfl, by omega, by omega, HST.out, ?_, by simp; exact hl8, ?_⟩
            · rw [World.cell?_setCell_far _ _ _ _ (show w.heap.size ≠ w8.heap.size by omega)]
              exact hc
            · exact HWX.out.trans (below_gb (gb_set (p := ⟨w.heap.size, j, none⟩) (gb_refl _ (some w.heap.size)) (.inl rfl) _) HWX.out.size (fun g e => by cases e; exact Nat.le_refl _))
          case measure => simp [intOf]; omega
        · obtain rfl : x = y.b := by omega
          have HN := Lib.hid (show jT n (t.take (k + 1)) = jM n (t.take k) y y.b by rw [HT.out, jM_end])
          go_wp2_with fail
          go_roundw
          case rel => exact ⟨k + 1, by omega, by go_num, by rw [HN.out]; exact HOX.out, HWX.out⟩
          case measure => simp [intOf]; omega
    · obtain rfl : k = t.length := by omega
      have ho := HO.out
      rw [List.take_length] at ho
      go_wp2_with fail
      go_ret
      exact ⟨w.heap.size, rfl, ho, HW.out⟩
end Go.Proofs.Ytdlglnkhhbkndaa
/- Which coppers can be joined with one (Reached), whatever the world. -/
namespace Go.Proofs.Ytdlglnkhhbkndaa
open Go.RowKit Go.Maps Go.WideAt Go.WideMaps
set_option linter.unusedSimpArgs false
set_option linter.unusedVariables false
set_option maxRecDepth 100000

def dnJ (t : List Thr) : Nat → Nat
  | 0 => 0
  | k + 1 => if jB t k then dnJ t k else k + 1
def upJ (t : List Thr) : Nat → Nat → Nat
  | 0, k => k
  | f + 1, k => if jB t k then upJ t f (k + 1) else k
theorem dnJ_le (t : List Thr) : ∀ k, dnJ t k ≤ k
  | 0 => Nat.le_refl _
  | k + 1 => by
    rw [dnJ]
    split
    · exact Nat.le_succ_of_le (dnJ_le t k)
    · exact Nat.le_refl _
theorem upJ_ge (t : List Thr) : ∀ f k, k ≤ upJ t f k ∧ upJ t f k ≤ k + f
  | 0, k => ⟨Nat.le_refl _, Nat.le_refl _⟩
  | f + 1, k => by
    rw [upJ]
    split
    · have := upJ_ge t f (k + 1)
      omega
    · omega
def numI (R : List Row) (a : ByteArray) : Option Nat := (nms R).findIdx? fun b => decide (b = a)
/-- The names of what can be joined with a copper; `n` coppers. -/
def reachL (R : List Row) (t : List Thr) (i : Nat) : List ByteArray := ((nms R).drop (dnJ t i)).take (upJ t ((nms R).length - 1 - i) i + 1 - dnJ t i)
noncomputable def reachedF (l : List Mat) (s : List Lay) (t : List Thr) (a : ByteArray) : List ByteArray × Int :=
  if pressedF l s t = 0 then (match numI (rowsOf l s) a with | some i => (reachL (rowsOf l s) t i, 0) | none => ([], 9)) else ([], pressedF l s t)
theorem cusF_len : ∀ (R : List Row) (n : Nat), (cusF n R).length = (R.filter isCu).length
  | [], _ => rfl
  | q :: R, n => by
    have ih := cusF_len R (n + 1)
    cases hq : isCu q
    · simp [cusF, hq, ih]
    · simp [cusF, hq, ih]
theorem nms_len (R : List Row) : (nms R).length = (cus R).length := by
  unfold nms cus
  rw [List.length_map, cusF_len]
theorem names_at {w : World} {g F : Nat} {ns : List ByteArray} (h : ∀ (j : Nat) (u : Value), (ns.map Value.string)[j]? = some u → w.cell? ⟨g, j, none⟩ = some u) {j : Nat} (hj : j < (ns.drop F).length) : w.cell? ⟨g, F + j, none⟩ = some (.string ((ns.drop F).getD j ByteArray.empty)) := by
  refine h _ _ ?_
  rw [List.getElem?_map, List.getD_eq_getElem?_getD, ← List.getElem?_drop, List.getElem?_eq_getElem hj]
  rfl
theorem reach_own {w : World} {B B' : Nat} {T : TypeId} {v : Value} {m F L n : Nat} {ns zs : List ByteArray} (ho : w.ownsRow B T 1 v m (((ns.drop F).take m).map Value.string)) (hm : m = L + 1 - F) (hz : zs = (ns.drop F).take (L + 1 - F)) (hn : ns.length = n + 1) (hF : F ≤ L + 1) (hL : L ≤ n) (hB : B' ≤ B) : w.ownsRow B' T 1 v zs.length (zs.map Value.string) := by
  subst hm
  subst hz
  have : ((ns.drop F).take (L + 1 - F)).length = L + 1 - F := by
    rw [List.length_take, List.length_drop]
    omega
  rw [this]
  exact own_lower ho hB
section
variable {A : Option Addr} {l : List Mat} {c : Nat} {A2 : Option Addr} {s : List Lay} {c2 : Nat} {w : World}
set_option maxHeartbeats 1000000 in
theorem reached_bad (h : StkIn A l A2 s w) (A3 : Option Addr) (t : List Thr) (c3 : Nat) (a : ByteArray) (hl : t.length ≤ 140737488355328) (hd : RdG 2 Thr.cs w A3 t) (h0 : pressedF l s t ≠ 0) :
    Calls Try.prog 45 #[.slice A l.length c, .slice A2 s.length c2, .slice A3 t.length c3, .string a] w fun e w' => e = .returned (.tuple #[.slice none 0 0, .int .i64 (pressedF l s t)]) ∧ Below w.heap.size w w' := by
  have CP := Lib.hid (pressed_no (c := c) (c2 := c2) h A3 t c3 hl hd h0)
  generalize pressedF l s t = F at *
  have hd1 : (F == 0) = false := by simpa using h0
  have hd2 : (F != 0) = true := by simpa using h0
  clear h hd h0
  go_enter Try.func45, Try.ntmps45
  go_wp2_with fail
  refine CP.out.mono ?_
  rintro e w1 ⟨rfl, hb⟩
  have B1 := Lib.hid hb
  clear hb
  go_wp2_with fail
  go_ret2
  exact ⟨rfl, B1.out⟩
set_option maxHeartbeats 1000000 in
theorem reached_none (h : StkIn A l A2 s w) (A3 : Option Addr) (t : List Thr) (c3 : Nat) (a : ByteArray) (ha : a.size ≤ maxLen) (hl : t.length ≤ 140737488355328) (hd : RdG 2 Thr.cs w A3 t) (h0 : pressedF l s t = 0) (hp : numI (rowsOf l s) a = none) :
    Calls Try.prog 45 #[.slice A l.length c, .slice A2 s.length c2, .slice A3 t.length c3, .string a] w fun e w' => e = .returned (.tuple #[.slice none 0 0, .int .i64 9]) ∧ Below w.heap.size w w' := by
  have HI := Lib.hid hp
  have CP := Lib.hid (pressed_yes (c := c) (c2 := c2) h A3 t c3 hl hd h0)
  clear h hd h0 hp
  generalize rowsOf l s = R at *
  go_enter Try.func45, Try.ntmps45
  go_wp2_with fail
  refine CP.out.mono ?_
  rintro e w1 ⟨p, q, kn, mv, tv, cv, nv, f, v, S, rfl, hL, -, -, -, hb⟩
  have B1 := Lib.hid hb
  have HL := Lib.hid hL
  clear hb hL
  have HFa := Lib.hid (show f (.string a.data.toList) = none by have := HI.out; unfold numI at this; rw [HL.out.f a, this]; rfl)
  have a4 : w1.cell? ⟨p, 4, none⟩ = some (.map (some q)) := by rw [blk_cell HL.out.g.b]; rfl
  go_wp2_with (first
    | (at_lookup; refine wpList_lacks_mapV rfl (.tmp 33) (.tmp 34) 86 rfl 9 3 str_law Try.underlying86 (zeroInt _) q kn f rfl HL.out.g.k (.string a) (.string a.data.toList) rfl (keyOf_string_mk Try.underlying9 ha) HFa.out ?_))
  go_ret2
  exact ⟨rfl, by first | exact B1.out | exact below_drewN B1.out _⟩
/-- What Reached returns when all is right. -/
def RchRet (zs : List ByteArray) (w : World) (e : Ending) (w' : World) : Prop :=
  ∃ v : Value, e = .returned (.tuple #[v, .int .i64 0]) ∧ w'.ownsRow w.heap.size 9 1 v zs.length (zs.map Value.string) ∧ Below w.heap.size w w'
set_option maxHeartbeats 4000000 in
theorem reached_yes (h : StkIn A l A2 s w) (A3 : Option Addr) (t : List Thr) (c3 : Nat) (a : ByteArray) (ha : a.size ≤ maxLen) (hl : t.length ≤ 140737488355328) (hd : RdG 2 Thr.cs w A3 t) (h0 : pressedF l s t = 0) {i : Nat} (hp : numI (rowsOf l s) a = some i) :
    Calls Try.prog 45 #[.slice A l.length c, .slice A2 s.length c2, .slice A3 t.length c3, .string a] w (RchRet (reachL (rowsOf l s) t i) w) := by
  have HI := Lib.hid hp
  have HD := Lib.hid hd
  have CP := Lib.hid (pressed_yes (c := c) (c2 := c2) h A3 t c3 hl hd h0)
  obtain ⟨t1, t2⟩ := thrF_zero (pressed_zero h0).2.1
  have HT2 := Lib.hid t2
  have hnl : (nms (rowsOf l s)).length = (cus (rowsOf l s)).length := nms_len _
  have h2 := form_two (stackF_form (pressed_zero h0).1)
  have hi : i < (nms (rowsOf l s)).length := by
    have := hp
    unfold numI at this
    exact (List.findIdx?_eq_some_iff_getElem.1 this).1
  clear h hd h0 hp t2
  generalize rowsOf l s = R at *
  obtain ⟨zs, hzs⟩ : ∃ zs, reachL R t i = zs := ⟨_, rfl⟩
  rw [hzs]
  have HZ := Lib.hid hzs
  clear hzs
  have HNL := Lib.hid hnl
  rw [hnl] at hi
  clear hnl
  go_enter Try.func45, Try.ntmps45
  go_wp2_with fail
  refine CP.out.mono ?_
  rintro e w1 ⟨p, q, kn, mv, tv, cv, nv, f, v, S, rfl, hL, -, -, -, hb⟩
  have B1 := Lib.hid hb
  have z1 := hb.size
  have HL := Lib.hid hL
  obtain ⟨Ac, cc, hvc, u1, u2, u3⟩ := own_cells hL.g.c
  obtain ⟨An, cn, hvn, v1, v2, v3⟩ := own_cells hL.g.n
  have hn : (cus R).length ≤ 1000 := Nat.le_trans (cus_few _ 0) hL.l
  have a2 : w1.cell? ⟨p, 2, none⟩ = some cv := by rw [blk_cell hL.g.b]; rfl
  have a3 : w1.cell? ⟨p, 3, none⟩ = some nv := by rw [blk_cell hL.g.b]; rfl
  have lp := blk_lt hL.g.b
  obtain ⟨gn, rfl, _, hgn, hcn⟩ := v3 (by have := HNL.out; omega)
  have HCN := Lib.hid hcn
  have v2' : cn ≤ 9223372036854775807 := v2
  subst hvc hvn
  clear hb hL u3 v3 hcn v2
  rw [HNL.out] at v1
  obtain ⟨n, hm⟩ : ∃ n, (cus R).length = n + 1 := ⟨(cus R).length - 1, by omega⟩
  generalize (cus R).length = N at *
  subst hm
  have HT2' := Lib.hid HT2.out
  have CJ := Lib.hid (fun W' (hb : Below w1.heap.size w1 W') => joints_any A3 t c3 n W' (by omega) (by omega) HT2'.out (HD.out.below (B1.out.trans (hb.mono z1))))
  have HFa := Lib.hid (show f (.string a.data.toList) = some (.int .i64 (i : Nat)) by have := HI.out; unfold numI at this; rw [HL.out.f a, this]; rfl)
  have a4 : w1.cell? ⟨p, 4, none⟩ = some (.map (some q)) := by rw [blk_cell HL.out.g.b]; rfl
  go_wp2_with (first
    | (at_lookup; refine wpList_got_mapV rfl (.tmp 33) (.tmp 34) 86 rfl 9 3 str_law Try.underlying86 (zeroInt _) q kn f rfl HL.out.g.k (.string a) (.string a.data.toList) rfl (keyOf_string_mk Try.underlying9 ha) (.int .i64 (i : Nat)) HFa.out ?_))
  refine (CJ.out _ (by (repeat' (first | (with_reducible exact Below.refl _ _) | (with_reducible assumption) | (with_reducible refine Below.alloc ?_ ?_ _) | (with_reducible refine Below.drew ?_) | (with_reducible refine below_drewN ?_ _) | (with_reducible refine Below.setCell ?_ ?_ _) | (with_reducible exact Nat.le_refl _) | omega | (simp only [World.size_alloc, World.size_setCell, World.size_drew]; omega) | (simp; omega) | (simp; done))))).mono ?_
  rintro e w3 ⟨g, rfl, ho, hb⟩
  have B3 := Lib.hid (B1.out.trans (hb.mono z1))
  have z3 := hb.size
  have HJ := Lib.hid (fun j (hj : j < n) => own_cellC (j := j) (v := .bool (jB t j)) ho (by rw [List.getElem?_map, jT_get hj]; rfl))
  have k3 := (hb.cell (p := ⟨p, 3, none⟩) lp).trans a3
  have HCN3 := Lib.hid (fun j u h => (hb.cell (p := ⟨gn, j, none⟩) hgn).trans (HCN.out j u h))
  have hiz : (0 : Int) ≤ (i : Int) := by omega
  have CLN := Lib.hid (fun F m cc' (hF : F + m ≤ n + 1) => Try.slices_Clone_string gn F m cc' ((nms R).drop F) w3 (by rw [List.length_drop, HNL.out]; omega) (by omega) (fun j hj => names_at HCN3.out hj))
  clear ho hb HCN
  go_wp2_with fail
  go_loopw [16] (fun v wx => ∃ k : Nat, v = .int .i64 k ∧ k ≤ i ∧ dnJ t k = dnJ t i ∧ wx = w3) (fun v _ => (intOf v).toNat)
  case atStart => exact ⟨i, rfl, Nat.le_refl _, rfl, rfl⟩
  case round =>
    obtain ⟨k, rfl, hk, hdn, hwx⟩ := hrel
    subst hwx
    have HDN := Lib.hid hdn
    clear hdn
    obtain ⟨w3, rfl⟩ : ∃ w3, w3 = wr := ⟨wr, rfl⟩
    cases k with
    | zero =>
      go_wp2_with fail
      go_loopw [17] (fun v wx => ∃ k : Nat, v = .int .i64 k ∧ i ≤ k ∧ k ≤ n ∧ upJ t (n - k) k = upJ t (n - i) i ∧ wx = w3) (fun v _ => n - (intOf v).toNat)
      case atStart => exact ⟨i, rfl, Nat.le_refl _, by omega, rfl, rfl⟩
      case round =>
        obtain ⟨x, rfl, hx1, hx2, hup, hwx⟩ := hrel
        subst hwx
        have HUP := Lib.hid hup
        clear hup
        have hxz : (0 : Int) ≤ (x : Int) := by omega
        by_cases hxn : x < n
        · obtain ⟨j1, -⟩ := HJ.out x hxn
          have hux : upJ t (n - x) x = if jB t x then upJ t (n - (x + 1)) (x + 1) else x := by
            rw [show n - x = (n - (x + 1)) + 1 by omega]
            rfl
          have HUX := Lib.hid hux
          clear hux
          have y5 : IntKind.i64.wrap ((x : Int) + 1) = (x : Int) + 1 := IntWalk.i64_in _ (by omega)
          cases hb2 : jB t x
          · rw [hb2] at j1
            have HB2 := Lib.hid hb2
            clear hb2
            have HA := Lib.hid (show 0 = dnJ t i by rw [← HDN.out]; rfl)
            have HB := Lib.hid (show x = upJ t (n - i) i by rw [← HUP.out, HUX.out, if_neg (by rw [HB2.out]; decide)])

            have y1 : IntKind.i64.wrap (((x : Nat) : Int) + 1) = ((x : Nat) : Int) + 1 := IntWalk.i64_in _ (by omega)
            have y2 : IntKind.i64.wrap ((x : Int) + 1) = (x : Int) + 1 := IntWalk.i64_in _ (by omega)
            have q1 : ((0 : Nat) : Int) ≤ ((x : Nat) : Int) + 1 := by omega
            have q2 : ((x : Nat) : Int) + 1 ≤ (cn : Int) := by omega
            have q3 : (0 : Int) ≤ ((0 : Nat) : Int) := by omega
            have q4 : 0 ≤ x + 1 := by omega
            have q5 : x + 1 ≤ cn := by omega
            go_wp2_with (first | (go_at_call 80; refine (CLN.out _ _ _ (by omega)).mono ?_; rintro e w5 ⟨v5, rfl, ho5, -, hb5⟩))
            have hz : zs = ((nms R).drop 0).take (x + 1 - 0) := by rw [← HZ.out]; unfold reachL; rw [HNL.out, show n + 1 - 1 - i = n - i by omega, ← HA.out, ← HB.out]
            go_ret2
            exact ⟨v5, rfl, reach_own ho5 (L := x) (F := 0) (by omega) hz HNL.out (by omega) (by omega) (by omega), B3.out.trans (hb5.mono (by omega))⟩
          · rw [hb2] at j1
            have HB2 := Lib.hid hb2
            clear hb2
            go_wp2_with fail
            go_roundw
            case rel => exact ⟨x + 1, by go_num, by omega, by omega, by rw [← HUP.out, HUX.out, if_pos HB2.out], by first | rfl | trivial⟩
            case measure => simp [intOf]; omega
        · obtain rfl : n = x := by omega
          have HA := Lib.hid (show 0 = dnJ t i by rw [← HDN.out]; rfl)
          have HB := Lib.hid (show n = upJ t (n - i) i by rw [← HUP.out, Nat.sub_self]; rfl)

          have y1 : IntKind.i64.wrap (((n : Nat) : Int) + 1) = ((n : Nat) : Int) + 1 := IntWalk.i64_in _ (by omega)
          have y2 : IntKind.i64.wrap ((n : Int) + 1) = (n : Int) + 1 := IntWalk.i64_in _ (by omega)
          have q1 : ((0 : Nat) : Int) ≤ ((n : Nat) : Int) + 1 := by omega
          have q2 : ((n : Nat) : Int) + 1 ≤ (cn : Int) := by omega
          have q3 : (0 : Int) ≤ ((0 : Nat) : Int) := by omega
          have q4 : 0 ≤ n + 1 := by omega
          have q5 : n + 1 ≤ cn := by omega
          go_wp2_with (first | (go_at_call 80; refine (CLN.out _ _ _ (by omega)).mono ?_; rintro e w5 ⟨v5, rfl, ho5, -, hb5⟩))
          have hz : zs = ((nms R).drop 0).take (n + 1 - 0) := by rw [← HZ.out]; unfold reachL; rw [HNL.out, show n + 1 - 1 - i = n - i by omega, ← HA.out, ← HB.out]
          go_ret2
          exact ⟨v5, rfl, reach_own ho5 (L := n) (F := 0) (by omega) hz HNL.out (by omega) (by omega) (by omega), B3.out.trans (hb5.mono (by omega))⟩
    | succ k =>
      have hkn : k < n := by omega
      obtain ⟨j0, -⟩ := HJ.out k hkn
      have y6 : IntKind.i64.wrap (k : Int) = (k : Int) := IntWalk.i64_in _ (by omega)
      have y7 : (k : Int) + 1 - 1 = (k : Int) := by omega
      have y8 : (0 : Int) < (k : Int) + 1 := by omega
      have y9 : (k : Int) < (n : Int) := by omega
      have y10 : (0 : Int) ≤ (k : Int) := by omega
      cases hb1 : jB t k
      · rw [hb1] at j0
        have HB1 := Lib.hid hb1
        clear hb1
        go_wp2_with fail
        go_loopw [17] (fun v wx => ∃ k : Nat, v = .int .i64 k ∧ i ≤ k ∧ k ≤ n ∧ upJ t (n - k) k = upJ t (n - i) i ∧ wx = w3) (fun v _ => n - (intOf v).toNat)
        case atStart => exact ⟨i, rfl, Nat.le_refl _, by omega, rfl, rfl⟩
        case round =>
          obtain ⟨x, rfl, hx1, hx2, hup, hwx⟩ := hrel
          subst hwx
          have HUP := Lib.hid hup
          clear hup
          have hxz : (0 : Int) ≤ (x : Int) := by omega
          by_cases hxn : x < n
          · obtain ⟨j1, -⟩ := HJ.out x hxn
            have hux : upJ t (n - x) x = if jB t x then upJ t (n - (x + 1)) (x + 1) else x := by
              rw [show n - x = (n - (x + 1)) + 1 by omega]
              rfl
            have HUX := Lib.hid hux
            clear hux
            have y5 : IntKind.i64.wrap ((x : Int) + 1) = (x : Int) + 1 := IntWalk.i64_in _ (by omega)
            cases hb2 : jB t x
            · rw [hb2] at j1
              have HB2 := Lib.hid hb2
              clear hb2
              have HA := Lib.hid (show (k + 1) = dnJ t i by rw [← HDN.out, dnJ, if_neg (by rw [HB1.out]; decide)])
              have HB := Lib.hid (show x = upJ t (n - i) i by rw [← HUP.out, HUX.out, if_neg (by rw [HB2.out]; decide)])

              have y1 : IntKind.i64.wrap (((x : Nat) : Int) + 1) = ((x : Nat) : Int) + 1 := IntWalk.i64_in _ (by omega)
              have y2 : IntKind.i64.wrap ((x : Int) + 1) = (x : Int) + 1 := IntWalk.i64_in _ (by omega)
              have q1 : (((k + 1) : Nat) : Int) ≤ ((x : Nat) : Int) + 1 := by omega
              have q2 : ((x : Nat) : Int) + 1 ≤ (cn : Int) := by omega
              have q3 : (0 : Int) ≤ (((k + 1) : Nat) : Int) := by omega
              have q4 : (k + 1) ≤ x + 1 := by omega
              have q5 : x + 1 ≤ cn := by omega
              go_wp2_with (first | (go_at_call 80; refine (CLN.out _ _ _ (by omega)).mono ?_; rintro e w5 ⟨v5, rfl, ho5, -, hb5⟩))
              have hz : zs = ((nms R).drop (k + 1)).take (x + 1 - (k + 1)) := by rw [← HZ.out]; unfold reachL; rw [HNL.out, show n + 1 - 1 - i = n - i by omega, ← HA.out, ← HB.out]
              go_ret2
              exact ⟨v5, rfl, reach_own ho5 (L := x) (F := (k + 1)) (by omega) hz HNL.out (by omega) (by omega) (by omega), B3.out.trans (hb5.mono (by omega))⟩
            · rw [hb2] at j1
              have HB2 := Lib.hid hb2
              clear hb2
              go_wp2_with fail
              go_roundw
              case rel => exact ⟨x + 1, by go_num, by omega, by omega, by rw [← HUP.out, HUX.out, if_pos HB2.out], by first | rfl | trivial⟩
              case measure => simp [intOf]; omega
          · obtain rfl : n = x := by omega
            have HA := Lib.hid (show (k + 1) = dnJ t i by rw [← HDN.out, dnJ, if_neg (by rw [HB1.out]; decide)])
            have HB := Lib.hid (show n = upJ t (n - i) i by rw [← HUP.out, Nat.sub_self]; rfl)

            have y1 : IntKind.i64.wrap (((n : Nat) : Int) + 1) = ((n : Nat) : Int) + 1 := IntWalk.i64_in _ (by omega)
            have y2 : IntKind.i64.wrap ((n : Int) + 1) = (n : Int) + 1 := IntWalk.i64_in _ (by omega)
            have q1 : (((k + 1) : Nat) : Int) ≤ ((n : Nat) : Int) + 1 := by omega
            have q2 : ((n : Nat) : Int) + 1 ≤ (cn : Int) := by omega
            have q3 : (0 : Int) ≤ (((k + 1) : Nat) : Int) := by omega
            have q4 : (k + 1) ≤ n + 1 := by omega
            have q5 : n + 1 ≤ cn := by omega
            go_wp2_with (first | (go_at_call 80; refine (CLN.out _ _ _ (by omega)).mono ?_; rintro e w5 ⟨v5, rfl, ho5, -, hb5⟩))
            have hz : zs = ((nms R).drop (k + 1)).take (n + 1 - (k + 1)) := by rw [← HZ.out]; unfold reachL; rw [HNL.out, show n + 1 - 1 - i = n - i by omega, ← HA.out, ← HB.out]
            go_ret2
            exact ⟨v5, rfl, reach_own ho5 (L := n) (F := (k + 1)) (by omega) hz HNL.out (by omega) (by omega) (by omega), B3.out.trans (hb5.mono (by omega))⟩
      · rw [hb1] at j0
        have HB1 := Lib.hid hb1
        clear hb1
        go_wp2_with fail
        go_roundw
        case rel => exact ⟨k, rfl, by omega, by rw [← HDN.out, dnJ, if_pos HB1.out], by first | rfl | trivial⟩
        case measure => simp [intOf]
end
end Go.Proofs.Ytdlglnkhhbkndaa
/- What coppers reach, as plain lists. -/
namespace Go.Proofs.Ytdlglnkhhbkndaa
open Go.RowKit Go.Maps
set_option linter.unusedSimpArgs false
set_option linter.unusedVariables false
set_option maxRecDepth 100000

theorem stack_names {l : List Mat} {s : List Lay} (h : stackF l s = 0) : (nms (rowsOf l s)).length ≤ 1000 := by
  have h1 := cus_few (rowsOf l s) 0
  have h2 : (rowsOf l s).length ≤ 60 := by
    rw [rows_eq h, List.length_map]
    exact (stackF_go h).2.1
  rw [nms_len]
  unfold cus
  omega
theorem dn_spec (t : List Thr) : ∀ k, (∀ j, dnJ t k ≤ j → j < k → jB t j = true) ∧ (dnJ t k = 0 ∨ jB t (dnJ t k - 1) = false)
  | 0 => ⟨fun j _ h => by omega, .inl rfl⟩
  | k + 1 => by
    obtain ⟨h1, h2⟩ := dn_spec t k
    rw [dnJ]
    cases hb : jB t k
    · simp only [Bool.false_eq_true, if_false]
      exact ⟨fun j h3 h4 => by omega, .inr (by rw [Nat.add_sub_cancel]; exact hb)⟩
    · simp only [if_true]
      refine ⟨fun j h3 h4 => ?_, h2⟩
      by_cases e : j = k
      · rw [e]; exact hb
      · exact h1 j h3 (by omega)
theorem dn_one (t : List Thr) (d : Nat) : ∀ k, d ≤ k → (∀ j, d ≤ j → j < k → jB t j = true) → (d = 0 ∨ jB t (d - 1) = false) → dnJ t k = d
  | 0, h, _, _ => by rw [dnJ]; omega
  | k + 1, h, h1, h2 => by
    rw [dnJ]
    by_cases e : d = k + 1
    · rcases h2 with h2 | h2
      · omega
      · rw [e, Nat.add_sub_cancel] at h2
        rw [h2, if_neg (by decide), e]
    · rw [if_pos (h1 k (by omega) (by omega))]
      exact dn_one t d k (by omega) (fun j h3 h4 => h1 j h3 (by omega)) h2
theorem up_spec (t : List Thr) : ∀ f k, (∀ j, k ≤ j → j < upJ t f k → jB t j = true) ∧ (upJ t f k = k + f ∨ jB t (upJ t f k) = false)
  | 0, k => ⟨fun j h1 h2 => by rw [upJ] at h2; omega, .inl rfl⟩
  | f + 1, k => by
    obtain ⟨h1, h2⟩ := up_spec t f (k + 1)
    rw [upJ]
    cases hb : jB t k
    · simp only [Bool.false_eq_true, if_false]
      exact ⟨fun j h3 h4 => by omega, .inr hb⟩
    · simp only [if_true]
      refine ⟨fun j h3 h4 => ?_, ?_⟩
      · by_cases e : j = k
        · rw [e]; exact hb
        · exact h1 j (by omega) h4
      · rcases h2 with h2 | h2
        · exact .inl (by omega)
        · exact .inr h2
theorem up_one (t : List Thr) (u : Nat) : ∀ f k, k ≤ u → u ≤ k + f → (∀ j, k ≤ j → j < u → jB t j = true) → (u = k + f ∨ jB t u = false) → upJ t f k = u
  | 0, k, h1, h2, _, _ => by rw [upJ]; omega
  | f + 1, k, h1, h2, h3, h4 => by
    rw [upJ]
    by_cases e : u = k
    · rcases h4 with h4 | h4
      · omega
      · rw [← e, h4, if_neg (by decide)]
    · rw [if_pos (h3 k (Nat.le_refl _) (by omega))]
      exact up_one t u f (k + 1) (by omega) (by omega) (fun j h5 h6 => h3 j (by omega) h6) (h4.imp (fun e => by omega) id)
/-- What lies among what is joined with a copper is joined with the same. -/
theorem reach_same {R : List Row} {t : List Thr} {i k : Nat} (hi : i < (nms R).length) (h1 : dnJ t i ≤ k) (h2 : k ≤ upJ t ((nms R).length - 1 - i) i) : reachL R t k = reachL R t i := by
  obtain ⟨d1, d2⟩ := dn_spec t i
  obtain ⟨u1, u2⟩ := up_spec t ((nms R).length - 1 - i) i
  have u3 := upJ_ge t ((nms R).length - 1 - i) i
  have d3 := dnJ_le t i
  have e1 : dnJ t k = dnJ t i := dn_one t _ k h1 (fun j h3 h4 => by
    by_cases e : j < i
    · exact d1 j h3 e
    · exact u1 j (by omega) (by omega)) d2
  have e2 : upJ t ((nms R).length - 1 - k) k = upJ t ((nms R).length - 1 - i) i := up_one t _ _ k h2 (by omega) (fun j h3 h4 => by
    by_cases e : j < i
    · exact d1 j (by omega) e
    · exact u1 j (by omega) h4) (by
    rcases u2 with u2 | u2
    · exact .inl (by omega)
    · exact .inr u2)
  unfold reachL
  rw [e1, e2]
theorem reach_len {R : List Row} {t : List Thr} {i : Nat} (hi : i < (nms R).length) : (reachL R t i).length = upJ t ((nms R).length - 1 - i) i + 1 - dnJ t i := by
  have u3 := upJ_ge t ((nms R).length - 1 - i) i
  unfold reachL
  rw [List.length_take, List.length_drop]
  omega
theorem reach_get {R : List Row} {t : List Thr} {i q : Nat} (hi : i < (nms R).length) (hq : q < (reachL R t i).length) : (reachL R t i)[q]? = (nms R)[dnJ t i + q]? ∧ dnJ t i + q ≤ upJ t ((nms R).length - 1 - i) i ∧ dnJ t i + q < (nms R).length := by
  rw [reach_len hi] at hq
  have u3 := upJ_ge t ((nms R).length - 1 - i) i
  refine ⟨?_, by omega, by omega⟩
  unfold reachL
  rw [List.getElem?_take_of_lt hq, List.getElem?_drop]
theorem num_some {R : List Row} {a : ByteArray} {i : Nat} (h : numI R a = some i) : (nms R)[i]? = some a ∧ i < (nms R).length := by
  unfold numI at h
  obtain ⟨h1, h2, -⟩ := List.findIdx?_eq_some_iff_getElem.1 h
  refine ⟨?_, h1⟩
  rw [List.getElem?_eq_getElem h1]
  have := of_decide_eq_true h2
  rw [this]
theorem num_of {R : List Row} (hd : (nms R).Pairwise (· ≠ ·)) {a : ByteArray} {i : Nat} (h : (nms R)[i]? = some a) : numI R a = some i := by
  obtain ⟨hi, rfl⟩ := List.getElem?_eq_some_iff.1 h
  unfold numI
  refine List.findIdx?_eq_some_iff_getElem.2 ⟨hi, by simp, fun j hj => ?_⟩
  have := List.pairwise_iff_getElem.1 hd j i (by omega) hi hj
  simpa using this
/-- What is reached from what is reached. -/
theorem reach_back {R : List Row} {t : List Thr} (hd : (nms R).Pairwise (· ≠ ·)) {i q : Nat} {b : ByteArray} (hi : i < (nms R).length) (hb : (reachL R t i)[q]? = some b) : ∃ k, numI R b = some k ∧ reachL R t k = reachL R t i := by
  obtain ⟨g1, g2, g3⟩ := reach_get hi (List.getElem?_eq_some_iff.1 hb).1
  rw [hb] at g1
  exact ⟨dnJ t i + q, num_of hd g1.symm, reach_same hi (Nat.le_add_right _ _) g2⟩
theorem reach_self {R : List Row} {t : List Thr} {a : ByteArray} {i : Nat} (h : numI R a = some i) : a ∈ reachL R t i := by
  obtain ⟨h1, hi⟩ := num_some h
  have u3 := upJ_ge t ((nms R).length - 1 - i) i
  have d3 := dnJ_le t i
  have hq : i - dnJ t i < (reachL R t i).length := by rw [reach_len hi]; omega
  obtain ⟨g1, -, -⟩ := reach_get (t := t) hi hq
  rw [show dnJ t i + (i - dnJ t i) = i by omega, h1] at g1
  exact List.mem_of_getElem? g1
end Go.Proofs.Ytdlglnkhhbkndaa

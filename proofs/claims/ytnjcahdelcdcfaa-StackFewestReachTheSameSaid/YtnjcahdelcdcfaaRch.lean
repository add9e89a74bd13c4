/- Which coppers can be joined with one (Reached), whatever the world. -/
import Derived.Test.YtnjcahdelcdcfaaJnt
import Derived.Test.YtnjcahdelcdcfaaLaid
import Derived.Test.YtnjcahdelcdcfaaStkG
import Derived.Test.YtnjcahdelcdcfaaStkP
namespace Go.Proofs.Ytnjcahdelcdcfaa
open Go.RowKit Go.Maps Go.WideAt Go.WideMaps
set_option linter.unusedSimpArgs false
set_option linter.unusedVariables false
set_option maxRecDepth 100000

def dnJ (t : List Thr) : Nat → Nat
  | 0 => 0
  | k + 1 => if jB t k then dnJ t k else k + 1
def upJ (t : List Thr) : Nat → Nat → Nat
  | 0, k => k
  | f + 1, k => if jB t k then upJ t f (k + 1) else k
theorem dnJ_le (t : List Thr) : ∀ k, dnJ t k ≤ k
  | 0 => Nat.le_refl _
  | k + 1 => by
    rw [dnJ]
    split
    · exact Nat.le_succ_of_le (dnJ_le t k)
    · exact Nat.le_refl _
theorem upJ_ge (t : List Thr) : ∀ f k, k ≤ upJ t f k ∧ upJ t f k ≤ k + f
  | 0, k => ⟨Nat.le_refl _, Nat.le_refl _⟩
  | f + 1, k => by
    rw [upJ]
    split
    · have := upJ_ge t f (k + 1)
      omega
    · omega
def numI (R : List Row) (a : ByteArray) : Option Nat := (nms R).findIdx? fun b => decide (b = a)
/-- The names of what can be joined with a copper; `n` coppers. -/
def reachL (R : List Row) (t : List Thr) (i : Nat) : List ByteArray := ((nms R).drop (dnJ t i)).take (upJ t ((nms R).length - 1 - i) i + 1 - dnJ t i)
noncomputable def reachedF (l : List Mat) (s : List Lay) (t : List Thr) (a : ByteArray) : List ByteArray × Int :=
  if pressedF l s t = 0 then (match numI (rowsOf l s) a with | some i => (reachL (rowsOf l s) t i, 0) | none => ([], 9)) else ([], pressedF l s t)
theorem cusF_len : ∀ (R : List Row) (n : Nat), (cusF n R).length = (R.filter isCu).length
  | [], _ => rfl
  | q :: R, n => by
    have ih := cusF_len R (n + 1)
    cases hq : isCu q
    · simp [cusF, hq, ih]
    · simp [cusF, hq, ih]
theorem nms_len (R : List Row) : (nms R).length = (cus R).length := by
  unfold nms cus
  rw [List.length_map, cusF_len]
theorem names_at {w : World} {g F : Nat} {ns : List ByteArray} (h : ∀ (j : Nat) (u : Value), (ns.map Value.string)[j]? = some u → w.cell? ⟨g, j, none⟩ = some u) {j : Nat} (hj : j < (ns.drop F).length) : w.cell? ⟨g, F + j, none⟩ = some (.string ((ns.drop F).getD j ByteArray.empty)) := by
  refine h _ _ ?_
  rw [List.getElem?_map, List.getD_eq_getElem?_getD, ← List.getElem?_drop, List.getElem?_eq_getElem hj]
  rfl
theorem reach_own {w : World} {B B' : Nat} {T : TypeId} {v : Value} {m F L n : Nat} {ns zs : List ByteArray} (ho : w.ownsRow B T 1 v m (((ns.drop F).take m).map Value.string)) (hm : m = L + 1 - F) (hz : zs = (ns.drop F).take (L + 1 - F)) (hn : ns.length = n + 1) (hF : F ≤ L + 1) (hL : L ≤ n) (hB : B' ≤ B) : w.ownsRow B' T 1 v zs.length (zs.map Value.string) := by
  subst hm
  subst hz
  have : ((ns.drop F).take (L + 1 - F)).length = L + 1 - F := by
    rw [List.length_take, List.length_drop]
    omega
  rw [this]
  exact own_lower ho hB
section
variable {A : Option Addr} {l : List Mat} {c : Nat} {A2 : Option Addr} {s : List Lay} {c2 : Nat} {w : World}
set_option maxHeartbeats 1000000 in
theorem reached_bad (h : StkIn A l A2 s w) (A3 : Option Addr) (t : List Thr) (c3 : Nat) (a : ByteArray) (hl : t.length ≤ 140737488355328) (hd : RdG 2 Thr.cs w A3 t) (h0 : pressedF l s t ≠ 0) :
    Calls Try.prog 45 #[.slice A l.length c, .slice A2 s.length c2, .slice A3 t.length c3, .string a] w fun e w' => e = .returned (.tuple #[.slice none 0 0, .int .i64 (pressedF l s t)]) ∧ Below w.heap.size w w' := by
  have CP := Lib.hid (pressed_no (c := c) (c2 := c2) h A3 t c3 hl hd h0)
  generalize pressedF l s t = F at *
  have hd1 : (F == 0) = false := by simpa using h0
  have hd2 : (F != 0) = true := by simpa using h0
  clear h hd h0
  go_enter Try.func45, Try.ntmps45
  go_wp2_with fail
  refine CP.out.mono ?_
  rintro e w1 ⟨rfl, hb⟩
  have B1 := Lib.hid hb
  clear hb
  go_wp2_with fail
  go_ret2
  exact ⟨rfl, B1.out⟩
set_option maxHeartbeats 1000000 in
theorem reached_none (h : StkIn A l A2 s w) (A3 : Option Addr) (t : List Thr) (c3 : Nat) (a : ByteArray) (ha : a.size ≤ maxLen) (hl : t.length ≤ 140737488355328) (hd : RdG 2 Thr.cs w A3 t) (h0 : pressedF l s t = 0) (hp : numI (rowsOf l s) a = none) :
    Calls Try.prog 45 #[.slice A l.length c, .slice A2 s.length c2, .slice A3 t.length c3, .string a] w fun e w' => e = .returned (.tuple #[.slice none 0 0, .int .i64 9]) ∧ Below w.heap.size w w' := by
  have HI := Lib.hid hp
  have CP := Lib.hid (pressed_yes (c := c) (c2 := c2) h A3 t c3 hl hd h0)
  clear h hd h0 hp
  generalize rowsOf l s = R at *
  go_enter Try.func45, Try.ntmps45
  go_wp2_with fail
  refine CP.out.mono ?_
  rintro e w1 ⟨p, q, kn, mv, tv, cv, nv, f, v, S, rfl, hL, -, -, -, hb⟩
  have B1 := Lib.hid hb
  have HL := Lib.hid hL
  clear hb hL
  have HFa := Lib.hid (show f (.string a.data.toList) = none by have := HI.out; unfold numI at this; rw [HL.out.f a, this]; rfl)
  have a4 : w1.cell? ⟨p, 4, none⟩ = some (.map (some q)) := by rw [blk_cell HL.out.g.b]; rfl
  go_wp2_with (first
    | (at_lookup; refine wpList_lacks_mapV rfl (.tmp 33) (.tmp 34) 86 rfl 9 3 str_law Try.underlying86 (zeroInt _) q kn f rfl HL.out.g.k (.string a) (.string a.data.toList) rfl (keyOf_string_mk Try.underlying9 ha) HFa.out ?_))
  go_ret2
  exact ⟨rfl, by first | exact B1.out | exact below_drewN B1.out _⟩
/-- What Reached returns when all is right. -/
def RchRet (zs : List ByteArray) (w : World) (e : Ending) (w' : World) : Prop :=
  ∃ v : Value, e = .returned (.tuple #[v, .int .i64 0]) ∧ w'.ownsRow w.heap.size 9 1 v zs.length (zs.map Value.string) ∧ Below w.heap.size w w'
set_option maxHeartbeats 4000000 in
theorem reached_yes (h : StkIn A l A2 s w) (A3 : Option Addr) (t : List Thr) (c3 : Nat) (a : ByteArray) (ha : a.size ≤ maxLen) (hl : t.length ≤ 140737488355328) (hd : RdG 2 Thr.cs w A3 t) (h0 : pressedF l s t = 0) {i : Nat} (hp : numI (rowsOf l s) a = some i) :
    Calls Try.prog 45 #[.slice A l.length c, .slice A2 s.length c2, .slice A3 t.length c3, .string a] w (RchRet (reachL (rowsOf l s) t i) w) := by
  have HI := Lib.hid hp
  have HD := Lib.hid hd
  have CP := Lib.hid (pressed_yes (c := c) (c2 := c2) h A3 t c3 hl hd h0)
  obtain ⟨t1, t2⟩ := thrF_zero (pressed_zero h0).2.1
  have HT2 := Lib.hid t2
  have hnl : (nms (rowsOf l s)).length = (cus (rowsOf l s)).length := nms_len _
  have h2 := form_two (stackF_form (pressed_zero h0).1)
  have hi : i < (nms (rowsOf l s)).length := by
    have := hp
    unfold numI at this
    exact (List.findIdx?_eq_some_iff_getElem.1 this).1
  clear h hd h0 hp t2
  generalize rowsOf l s = R at *
  obtain ⟨zs, hzs⟩ : ∃ zs, reachL R t i = zs := ⟨_, rfl⟩
  rw [hzs]
  have HZ := Lib.hid hzs
  clear hzs
  have HNL := Lib.hid hnl
  rw [hnl] at hi
  clear hnl
  go_enter Try.func45, Try.ntmps45
  go_wp2_with fail
  refine CP.out.mono ?_
  rintro e w1 ⟨p, q, kn, mv, tv, cv, nv, f, v, S, rfl, hL, -, -, -, hb⟩
  have B1 := Lib.hid hb
  have z1 := hb.size
  have HL := Lib.hid hL
  obtain ⟨Ac, cc, hvc, u1, u2, u3⟩ := own_cells hL.g.c
  obtain ⟨An, cn, hvn, v1, v2, v3⟩ := own_cells hL.g.n
  have hn : (cus R).length ≤ 1000 := Nat.le_trans (cus_few _ 0) hL.l
  have a2 : w1.cell? ⟨p, 2, none⟩ = some cv := by rw [blk_cell hL.g.b]; rfl
  have a3 : w1.cell? ⟨p, 3, none⟩ = some nv := by rw [blk_cell hL.g.b]; rfl
  have lp := blk_lt hL.g.b
  obtain ⟨gn, rfl, _, hgn, hcn⟩ := v3 (by have := HNL.out; omega)
  have HCN := Lib.hid hcn
  have v2' : cn ≤ 9223372036854775807 := v2
  subst hvc hvn
  clear hb hL u3 v3 hcn v2
  rw [HNL.out] at v1
  obtain ⟨n, hm⟩ : ∃ n, (cus R).length = n + 1 := ⟨(cus R).length - 1, by omega⟩
  generalize (cus R).length = N at *
  subst hm
  have HT2' := Lib.hid HT2.out
  have CJ := Lib.hid (fun W' (hb : Below w1.heap.size w1 W') => joints_any A3 t c3 n W' (by omega) (by omega) HT2'.out (HD.out.below (B1.out.trans (hb.mono z1))))
  have HFa := Lib.hid (show f (.string a.data.toList) = some (.int .i64 (i : Nat)) by have := HI.out; unfold numI at this; rw [HL.out.f a, this]; rfl)
  have a4 : w1.cell? ⟨p, 4, none⟩ = some (.map (some q)) := by rw [blk_cell HL.out.g.b]; rfl
  go_wp2_with (first
    | (at_lookup; refine wpList_got_mapV rfl (.tmp 33) (.tmp 34) 86 rfl 9 3 str_law Try.underlying86 (zeroInt _) q kn f rfl HL.out.g.k (.string a) (.string a.data.toList) rfl (keyOf_string_mk Try.underlying9 ha) (.int .i64 (i : Nat)) HFa.out ?_))
  refine (CJ.out _ (by (repeat' (first | (with_reducible exact Below.refl _ _) | (with_reducible assumption) | (with_reducible refine Below.alloc ?_ ?_ _) | (with_reducible refine Below.drew ?_) | (with_reducible refine below_drewN ?_ _) | (with_reducible refine Below.setCell ?_ ?_ _) | (with_reducible exact Nat.le_refl _) | omega | (simp only [World.size_alloc, World.size_setCell, World.size_drew]; omega) | (simp; omega) | (simp; done))))).mono ?_
  rintro e w3 ⟨g, rfl, ho, hb⟩
  have B3 := Lib.hid (B1.out.trans (hb.mono z1))
  have z3 := hb.size
  have HJ := Lib.hid (fun j (hj : j < n) => own_cellC (j := j) (v := .bool (jB t j)) ho (by rw [List.getElem?_map, jT_get hj]; rfl))
  have k3 := (hb.cell (p := ⟨p, 3, none⟩) lp).trans a3
  have HCN3 := Lib.hid (fun j u h => (hb.cell (p := ⟨gn, j, none⟩) hgn).trans (HCN.out j u h))
  have hiz : (0 : Int) ≤ (i : Int) := by omega
  have CLN := Lib.hid (fun F m cc' (hF : F + m ≤ n + 1) => Try.slices_Clone_string gn F m cc' ((nms R).drop F) w3 (by rw [List.length_drop, HNL.out]; omega) (by omega) (fun j hj => names_at HCN3.out hj))
  clear ho hb HCN
  go_wp2_with fail
  go_loopw [16] (fun v wx => ∃ k : Nat, v = .int .i64 k ∧ k ≤ i ∧ dnJ t k = dnJ t i ∧ wx = w3) (fun v _ => (intOf v).toNat)
  case atStart => exact ⟨i, rfl, Nat.le_refl _, rfl, rfl⟩
  case round =>
    obtain ⟨k, rfl, hk, hdn, hwx⟩ := hrel
    subst hwx
    have HDN := Lib.hid hdn
    clear hdn
    obtain ⟨w3, rfl⟩ : ∃ w3, w3 = wr := ⟨wr, rfl⟩
    cases k with
    | zero =>
      go_wp2_with fail
      go_loopw [17] (fun v wx => ∃ k : Nat, v = .int .i64 k ∧ i ≤ k ∧ k ≤ n ∧ upJ t (n - k) k = upJ t (n - i) i ∧ wx = w3) (fun v _ => n - (intOf v).toNat)
      case atStart => exact ⟨i, rfl, Nat.le_refl _, by omega, rfl, rfl⟩
      case round =>
        obtain ⟨x, rfl, hx1, hx2, hup, hwx⟩ := hrel
        subst hwx
        have HUP := Lib.hid hup
        clear hup
        have hxz : (0 : Int) ≤ (x : Int) := by omega
        by_cases hxn : x < n
        · obtain ⟨j1, -⟩ := HJ.out x hxn
          have hux : upJ t (n - x) x = if jB t x then upJ t (n - (x + 1)) (x + 1) else x := by
            rw [show n - x = (n - (x + 1)) + 1 by omega]
            rfl
          have HUX := Lib.hid hux
          clear hux
          have y5 : IntKind.i64.wrap ((x : Int) + 1) = (x : Int) + 1 := IntWalk.i64_in _ (by omega)
          cases hb2 : jB t x
          · rw [hb2] at j1
            have HB2 := Lib.hid hb2
            clear hb2
            have HA := Lib.hid (show 0 = dnJ t i by rw [← HDN.out]; rfl)
            have HB := Lib.hid (show x = upJ t (n - i) i by rw [← HUP.out, HUX.out, if_neg (by rw [HB2.out]; decide)])

            have y1 : IntKind.i64.wrap (((x : Nat) : Int) + 1) = ((x : Nat) : Int) + 1 := IntWalk.i64_in _ (by omega)
            have y2 : IntKind.i64.wrap ((x : Int) + 1) = (x : Int) + 1 := IntWalk.i64_in _ (by omega)
            have q1 : ((0 : Nat) : Int) ≤ ((x : Nat) : Int) + 1 := by omega
            have q2 : ((x : Nat) : Int) + 1 ≤ (cn : Int) := by omega
            have q3 : (0 : Int) ≤ ((0 : Nat) : Int) := by omega
            have q4 : 0 ≤ x + 1 := by omega
            have q5 : x + 1 ≤ cn := by omega
            go_wp2_with (first | (go_at_call 80; refine (CLN.out _ _ _ (by omega)).mono ?_; rintro e w5 ⟨v5, rfl, ho5, -, hb5⟩))
            have hz : zs = ((nms R).drop 0).take (x + 1 - 0) := by rw [← HZ.out]; unfold reachL; rw [HNL.out, show n + 1 - 1 - i = n - i by omega, ← HA.out, ← HB.out]
            go_ret2
            exact ⟨v5, rfl, reach_own ho5 (L := x) (F := 0) (by omega) hz HNL.out (by omega) (by omega) (by omega), B3.out.trans (hb5.mono (by omega))⟩
          · rw [hb2] at j1
            have HB2 := Lib.hid hb2
            clear hb2
            go_wp2_with fail
            go_roundw
            case rel => exact ⟨x + 1, by go_num, by omega, by omega, by rw [← HUP.out, HUX.out, if_pos HB2.out], by first | rfl | trivial⟩
            case measure => simp [intOf]; omega
        · obtain rfl : n = x := by omega
          have HA := Lib.hid (show 0 = dnJ t i by rw [← HDN.out]; rfl)
          have HB := Lib.hid (show n = upJ t (n - i) i by rw [← HUP.out, Nat.sub_self]; rfl)

          have y1 : IntKind.i64.wrap (((n : Nat) : Int) + 1) = ((n : Nat) : Int) + 1 := IntWalk.i64_in _ (by omega)
          have y2 : IntKind.i64.wrap ((n : Int) + 1) = (n : Int) + 1 := IntWalk.i64_in _ (by omega)
          have q1 : ((0 : Nat) : Int) ≤ ((n : Nat) : Int) + 1 := by omega
          have q2 : ((n : Nat) : Int) + 1 ≤ (cn : Int) := by omega
          have q3 : (0 : Int) ≤ ((0 : Nat) : Int) := by omega
          have q4 : 0 ≤ n + 1 := by omega
          have q5 : n + 1 ≤ cn := by omega
          go_wp2_with (first | (go_at_call 80; refine (CLN.out _ _ _ (by omega)).mono ?_; rintro e w5 ⟨v5, rfl, ho5, -, hb5⟩))
          have hz : zs = ((nms R).drop 0).take (n + 1 - 0) := by rw [← HZ.out]; unfold reachL; rw [HNL.out, show n + 1 - 1 - i = n - i by omega, ← HA.out, ← HB.out]
          go_ret2
          exact ⟨v5, rfl, reach_own ho5 (L := n) (F := 0) (by omega) hz HNL.out (by omega) (by omega) (by omega), B3.out.trans (hb5.mono (by omega))⟩
    | succ k =>
      have hkn : k < n := by omega
      obtain ⟨j0, -⟩ := HJ.out k hkn
      have y6 : IntKind.i64.wrap (k : Int) = (k : Int) := IntWalk.i64_in _ (by omega)
      have y7 : (k : Int) + 1 - 1 = (k : Int) := by omega
      have y8 : (0 : Int) < (k : Int) + 1 := by omega
      have y9 : (k : Int) < (n : Int) := by omega
      have y10 : (0 : Int) ≤ (k : Int) := by omega
      cases hb1 : jB t k
      · rw [hb1] at j0
        have HB1 := Lib.hid hb1
        clear hb1
        go_wp2_with fail
        go_loopw [17] (fun v wx => ∃ k : Nat, v = .int .i64 k ∧ i ≤ k ∧ k ≤ n ∧ upJ t (n - k) k = upJ t (n - i) i ∧ wx = w3) (fun v _ => n - (intOf v).toNat)
        case atStart => exact ⟨i, rfl, Nat.le_refl _, by omega, rfl, rfl⟩
        case round =>
          obtain ⟨x, rfl, hx1, hx2, hup, hwx⟩ := hrel
          subst hwx
          have HUP := Lib.hid hup
          clear hup
          have hxz : (0 : Int) ≤ (x : Int) := by omega
          by_cases hxn : x < n
          · obtain ⟨j1, -⟩ := HJ.out x hxn
            have hux : upJ t (n - x) x = if jB t x then upJ t (n - (x + 1)) (x + 1) else x := by
              rw [show n - x = (n - (x + 1)) + 1 by omega]
              rfl
            have HUX := Lib.hid hux
            clear hux
            have y5 : IntKind.i64.wrap ((x : Int) + 1) = (x : Int) + 1 := IntWalk.i64_in _ (by omega)
            cases hb2 : jB t x
            · rw [hb2] at j1
              have HB2 := Lib.hid hb2
              clear hb2
              have HA := Lib.hid (show (k + 1) = dnJ t i by rw [← HDN.out, dnJ, if_neg (by rw [HB1.out]; decide)])
              have HB := Lib.hid (show x = upJ t (n - i) i by rw [← HUP.out, HUX.out, if_neg (by rw [HB2.out]; decide)])

              have y1 : IntKind.i64.wrap (((x : Nat) : Int) + 1) = ((x : Nat) : Int) + 1 := IntWalk.i64_in _ (by omega)
              have y2 : IntKind.i64.wrap ((x : Int) + 1) = (x : Int) + 1 := IntWalk.i64_in _ (by omega)
              have q1 : (((k + 1) : Nat) : Int) ≤ ((x : Nat) : Int) + 1 := by omega
              have q2 : ((x : Nat) : Int) + 1 ≤ (cn : Int) := by omega
              have q3 : (0 : Int) ≤ (((k + 1) : Nat) : Int) := by omega
              have q4 : (k + 1) ≤ x + 1 := by omega
              have q5 : x + 1 ≤ cn := by omega
              go_wp2_with (first | (go_at_call 80; refine (CLN.out _ _ _ (by omega)).mono ?_; rintro e w5 ⟨v5, rfl, ho5, -, hb5⟩))
              have hz : zs = ((nms R).drop (k + 1)).take (x + 1 - (k + 1)) := by rw [← HZ.out]; unfold reachL; rw [HNL.out, show n + 1 - 1 - i = n - i by omega, ← HA.out, ← HB.out]
              go_ret2
              exact ⟨v5, rfl, reach_own ho5 (L := x) (F := (k + 1)) (by omega) hz HNL.out (by omega) (by omega) (by omega), B3.out.trans (hb5.mono (by omega))⟩
            · rw [hb2] at j1
              have HB2 := Lib.hid hb2
              clear hb2
              go_wp2_with fail
              go_roundw
              case rel => exact ⟨x + 1, by go_num, by omega, by omega, by rw [← HUP.out, HUX.out, if_pos HB2.out], by first | rfl | trivial⟩
              case measure => simp [intOf]; omega
          · obtain rfl : n = x := by omega
            have HA := Lib.hid (show (k + 1) = dnJ t i by rw [← HDN.out, dnJ, if_neg (by rw [HB1.out]; decide)])
            have HB := Lib.hid (show n = upJ t (n - i) i by rw [← HUP.out, Nat.sub_self]; rfl)

            have y1 : IntKind.i64.wrap (((n : Nat) : Int) + 1) = ((n : Nat) : Int) + 1 := IntWalk.i64_in _ (by omega)
            have y2 : IntKind.i64.wrap ((n : Int) + 1) = (n : Int) + 1 := IntWalk.i64_in _ (by omega)
            have q1 : (((k + 1) : Nat) : Int) ≤ ((n : Nat) : Int) + 1 := by omega
            have q2 : ((n : Nat) : Int) + 1 ≤ (cn : Int) := by omega
            have q3 : (0 : Int) ≤ (((k + 1) : Nat) : Int) := by omega
            have q4 : (k + 1) ≤ n + 1 := by omega
            have q5 : n + 1 ≤ cn := by omega
            go_wp2_with (first | (go_at_call 80; refine (CLN.out _ _ _ (by omega)).mono ?_; rintro e w5 ⟨v5, rfl, ho5, -, hb5⟩))
            have hz : zs = ((nms R).drop (k + 1)).take (n + 1 - (k + 1)) := by rw [← HZ.out]; unfold reachL; rw [HNL.out, show n + 1 - 1 - i = n - i by omega, ← HA.out, ← HB.out]
            go_ret2
            exact ⟨v5, rfl, reach_own ho5 (L := n) (F := (k + 1)) (by omega) hz HNL.out (by omega) (by omega) (by omega), B3.out.trans (hb5.mono (by omega))⟩
      · rw [hb1] at j0
        have HB1 := Lib.hid hb1
        clear hb1
        go_wp2_with fail
        go_roundw
        case rel => exact ⟨k, rfl, by omega, by rw [← HDN.out, dnJ, if_pos HB1.out], by first | rfl | trivial⟩
        case measure => simp [intOf]
end
end Go.Proofs.Ytnjcahdelcdcfaa

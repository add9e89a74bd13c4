/- What package stack answers of a stack (CheckStack, Thickness, Depth, Apart), whatever the world. -/
import Derived.Test.YtdlglnkhhbkndaaStkF
namespace Go.Proofs.Ytdlglnkhhbkndaa
open Go.RowKit Go.Maps Go.WideAt Go.WideMaps
set_option linter.unusedSimpArgs false
set_option linter.unusedVariables false
set_option maxRecDepth 100000

theorem below_two {B : Nat} {w w1 : World} (h : Below B w w1) (n : Nat) : Below B w (w1.drewN n) := below_drewN h n
def thickF (l : List Mat) (s : List Lay) : Int := if stackF l s = 0 then thick (rowsOf l s) else 0
def depthF (l : List Mat) (s : List Lay) (a : ByteArray) : Int × Int :=
  if stackF l s = 0 then (match placeOf (rowsOf l s) a with | none => (0, 9) | some i => (thick ((rowsOf l s).take i), 0)) else (0, stackF l s)
def apartR (R : List Row) (i j : Nat) : Int := if i = j then 0 else thick (R.take (max i j)) - thick (R.take (min i j + 1))
def apartF (l : List Mat) (s : List Lay) (a b : ByteArray) : Int × Int :=
  if stackF l s = 0 then (match placeOf (rowsOf l s) a, placeOf (rowsOf l s) b with | some i, some j => (apartR (rowsOf l s) i j, 0) | _, _ => (0, 9)) else (0, stackF l s)
theorem rowsGo_ok {m : List Mat} (hm : ∀ x ∈ m, matF x = 0) : ∀ (s : List Lay) (R : List Row), RowsOk R → RowsOk (rowsGo m R s).2
  | [], R, h => h
  | l :: s, R, h => by
    cases hx : matOf m l.mat with
    | none => rw [rowsGo_none hx]; exact h
    | some x =>
      by_cases hf : rowF R (l.name, x) = 0
      · rw [rowsGo_go hx hf]
        refine rowsGo_ok hm s _ fun r hr => ?_
        rcases List.mem_append.1 hr with hr | hr
        · exact h r hr
        · rw [List.mem_singleton.1 hr]
          exact hm x (matOf_mem hx)
      · rw [rowsGo_bad hx hf]
        exact h
theorem matsF_mem {m : List Mat} (h : matsF m = 0) : ∀ x ∈ m, matF x = 0 := by
  refine (matsGo_zero m [] ?_).2.2
  unfold matsF at h
  split at h
  · cases h
  · exact h
theorem stackF_mats {m : List Mat} {s : List Lay} (h : stackF m s = 0) : matsF m = 0 := by
  unfold stackF at h
  split at h
  · assumption
  · exact h
theorem stackF_rows {m : List Mat} {s : List Lay} (h : stackF m s = 0) : RowsOk (rowsOf m s) := rowsGo_ok (matsF_mem (stackF_mats h)) s [] (fun r hr => by cases hr)
section
variable {A : Option Addr} {l : List Mat} {c : Nat} {A2 : Option Addr} {s : List Lay} {c2 : Nat} {w : World}
theorem checkStack_any (h : StkIn A l A2 s w) : Calls Try.prog 18 #[.slice A l.length c, .slice A2 s.length c2] w fun e w' => e = .returned (.int .i64 (stackF l s)) ∧ Below w.heap.size w w' := by
  by_cases h0 : stackF l s = 0
  · rw [h0]
    have CP := Lib.hid (piled_yes (c := c) (c2 := c2) h h0)
    have HOK := Lib.hid h0
    clear h
    go_enter Try.func18, Try.ntmps18
    go_wp2_with fail
    refine CP.out.mono ?_
    rintro e w1 ⟨p, q, kn, mv, tv, cv, nv, f, rfl, hb, hL⟩
    have B1 := Lib.hid hb
    have HL := Lib.hid hL
    clear hb hL
    go_wp2_with fail
    go_ret
    exact ⟨rfl, B1.out⟩
  · skip
    have HZ := Lib.hid h0
    have CP := Lib.hid (piled_no (c := c) (c2 := c2) h h0)
    generalize stackF l s = F at *
    have hd1 : (F == 0) = false := by simpa using h0
    have hd2 : (F != 0) = true := by simpa using h0
    clear h0 h
    go_enter Try.func18, Try.ntmps18
    go_wp2_with fail
    refine CP.out.mono ?_
    rintro e w1 ⟨rfl, hb⟩
    have B1 := Lib.hid hb
    clear hb
    go_wp2_with fail
    go_ret
    exact ⟨rfl, B1.out⟩
theorem thickness_law (h : StkIn A l A2 s w) : Calls Try.prog 14 #[.slice A l.length c, .slice A2 s.length c2] w fun e w' => e = .returned (.tuple #[.int .i64 (thickF l s), .int .i64 (stackF l s)]) ∧ Below w.heap.size w w' := by
  unfold thickF
  by_cases h0 : stackF l s = 0
  · rw [if_pos h0, h0]
    have CP := Lib.hid (piled_yes (c := c) (c2 := c2) h h0)
    have HOK := Lib.hid h0
    clear h
    go_enter Try.func14, Try.ntmps14
    go_wp2_with fail
    refine CP.out.mono ?_
    rintro e w1 ⟨p, q, kn, mv, tv, cv, nv, f, rfl, hb, hL⟩
    have B1 := Lib.hid hb
    have HL := Lib.hid hL
    clear hb hL
    have CT := Lib.hid (fun W' (hb : Below w1.heap.size w1 W') => thickness_any (HL.out.g.old hb) (topsF_length (rowsOf l s) 0) (by rw [tops_get (Nat.le_refl _), List.take_length]) HL.out.l)
    go_wp2_with fail
    refine (CT.out _ (Below.refl _ _)).mono ?_
    rintro e w2 ⟨rfl, kk, rfl⟩
    go_wp2_with fail
    go_ret2
    exact ⟨rfl, below_drewN B1.out _⟩
  · rw [if_neg h0]
    have HZ := Lib.hid h0
    have CP := Lib.hid (piled_no (c := c) (c2 := c2) h h0)
    generalize stackF l s = F at *
    have hd1 : (F == 0) = false := by simpa using h0
    have hd2 : (F != 0) = true := by simpa using h0
    clear h0 h
    go_enter Try.func14, Try.ntmps14
    go_wp2_with fail
    refine CP.out.mono ?_
    rintro e w1 ⟨rfl, hb⟩
    have B1 := Lib.hid hb
    clear hb
    go_wp2_with fail
    go_ret2
    exact ⟨rfl, B1.out⟩
set_option maxHeartbeats 1000000 in
theorem depth_law (a : ByteArray) (ha : a.size ≤ maxLen) (h : StkIn A l A2 s w) : Calls Try.prog 21 #[.slice A l.length c, .slice A2 s.length c2, .string a] w fun e w' => e = .returned (.tuple #[.int .i64 (depthF l s a).1, .int .i64 (depthF l s a).2]) ∧ Below w.heap.size w w' := by
  by_cases h0 : stackF l s = 0
  · cases hp : placeOf (rowsOf l s) a with
    | none =>
      have HE := Lib.hid (show depthF l s a = (0, 9) by unfold depthF; rw [if_pos h0, hp])
      have HI := Lib.hid (place_none hp)
      clear hp
      have CP := Lib.hid (piled_yes (c := c) (c2 := c2) h h0)
      have HOK := Lib.hid h0
      clear h
      go_enter Try.func21, Try.ntmps21
      go_wp2_with fail
      refine CP.out.mono ?_
      rintro e w1 ⟨p, q, kn, mv, tv, cv, nv, f, rfl, hb, hL⟩
      have B1 := Lib.hid hb
      have HL := Lib.hid hL
      clear hb hL
      have HFa := Lib.hid (show f (.string a.data.toList) = none by rw [HL.out.f a, HI.out]; rfl)
      have a4 : w1.cell? ⟨p, 4, none⟩ = some (.map (some q)) := by rw [blk_cell HL.out.g.b]; rfl
      go_wp2_with (first
        | (at_lookup; refine wpList_lacks_mapV rfl (.tmp 25) (.tmp 26) 86 rfl 9 3 str_law Try.underlying86 (zeroInt _) q kn f rfl HL.out.g.k (.string a) (.string a.data.toList) rfl (keyOf_string_mk Try.underlying9 ha) HFa.out ?_))
      go_ret2
      exact ⟨by rw [HE.out]; rfl, by first | exact B1.out | exact below_drewN B1.out _⟩
    | some j =>
      have HE := Lib.hid (show depthF l s a = (thick ((rowsOf l s).take j), 0) by unfold depthF; rw [if_pos h0, hp])
      obtain ⟨i, hi, hij⟩ := place_some hp
      have HI := Lib.hid hi
      have HIJ := Lib.hid hij
      clear hp hi hij
      have CP := Lib.hid (piled_yes (c := c) (c2 := c2) h h0)
      have HOK := Lib.hid h0
      clear h
      go_enter Try.func21, Try.ntmps21
      go_wp2_with fail
      refine CP.out.mono ?_
      rintro e w1 ⟨p, q, kn, mv, tv, cv, nv, f, rfl, hb, hL⟩
      have B1 := Lib.hid hb
      have HL := Lib.hid hL
      clear hb hL
      have HFa := Lib.hid (show f (.string a.data.toList) = some (.int .i64 (i : Nat)) by rw [HL.out.f a, HI.out]; rfl)
      have a4 : w1.cell? ⟨p, 4, none⟩ = some (.map (some q)) := by rw [blk_cell HL.out.g.b]; rfl
      have CT := Lib.hid (fun W' (hb : Below w1.heap.size w1 W') => top_any (HL.out.old hb) HIJ.out)
      go_wp2_with (first
        | (at_lookup; refine wpList_got_mapV rfl (.tmp 25) (.tmp 26) 86 rfl 9 3 str_law Try.underlying86 (zeroInt _) q kn f rfl HL.out.g.k (.string a) (.string a.data.toList) rfl (keyOf_string_mk Try.underlying9 ha) (.int .i64 (i : Nat)) HFa.out ?_))
      refine (CT.out _ (by (repeat' (first | (with_reducible exact Below.refl _ _) | (with_reducible assumption) | (with_reducible refine Below.alloc ?_ ?_ _) | (with_reducible refine Below.drew ?_) | (with_reducible refine below_drewN ?_ _) | (with_reducible refine Below.setCell ?_ ?_ _) | (with_reducible exact Nat.le_refl _) | omega | (simp only [World.size_alloc, World.size_setCell, World.size_drew]; omega) | (simp; omega) | (simp; done))))).mono ?_
      rintro e w2 ⟨rfl, kk, rfl⟩
      go_wp2_with fail
      go_ret2
      exact ⟨by rw [HE.out]; rfl, by first | exact below_drewN B1.out _ | exact below_drewN (below_drewN B1.out _) _⟩
  · have HE := Lib.hid (show depthF l s a = (0, stackF l s) by unfold depthF; rw [if_neg h0])
    have HZ := Lib.hid h0
    have CP := Lib.hid (piled_no (c := c) (c2 := c2) h h0)
    generalize stackF l s = F at *
    have hd1 : (F == 0) = false := by simpa using h0
    have hd2 : (F != 0) = true := by simpa using h0
    clear h0 h
    go_enter Try.func21, Try.ntmps21
    go_wp2_with fail
    refine CP.out.mono ?_
    rintro e w1 ⟨rfl, hb⟩
    have B1 := Lib.hid hb
    clear hb
    go_wp2_with fail
    go_ret2
    exact ⟨by rw [HE.out]; rfl, B1.out⟩
theorem cusF_sorted : ∀ (R : List Row) (i : Nat), (cusF i R).Pairwise (· < ·)
  | [], _ => .nil
  | q :: R, i => by
    have ih := cusF_sorted R (i + 1)
    cases hq : isCu q
    · simpa [cusF, hq] using ih
    · simp only [cusF, hq, if_true]
      exact List.pairwise_cons.2 ⟨fun k hk => by have := (cusF_ge R (i + 1) k hk).1; omega, ih⟩
theorem cus_mono {R : List Row} {i1 i2 j1 j2 : Nat} (h1 : (cus R)[i1]? = some j1) (h2 : (cus R)[i2]? = some j2) (h : i1 < i2) : j1 < j2 := by
  obtain ⟨a1, rfl⟩ := List.getElem?_eq_some_iff.1 h1
  obtain ⟨a2, rfl⟩ := List.getElem?_eq_some_iff.1 h2
  exact List.pairwise_iff_getElem.1 (cusF_sorted R 0) i1 i2 a1 a2 h
theorem take_bound {R : List Row} (h : RowsOk R) (k : Nat) (hl : R.length ≤ 1000) : 0 ≤ thick (R.take k) ∧ thick (R.take k) ≤ 2000000 := by
  have := thick_bound (R.take k) (fun r hr => h r (List.mem_of_mem_take hr))
  have h2 : (R.take k).length ≤ R.length := List.length_take_le' _ _
  omega
set_option maxHeartbeats 2000000 in
theorem apart_law (a b : ByteArray) (ha : a.size ≤ maxLen) (hb' : b.size ≤ maxLen) (h : StkIn A l A2 s w) : Calls Try.prog 23 #[.slice A l.length c, .slice A2 s.length c2, .string a, .string b] w fun e w' => e = .returned (.tuple #[.int .i64 (apartF l s a b).1, .int .i64 (apartF l s a b).2]) ∧ Below w.heap.size w w' := by
  by_cases h0 : stackF l s = 0
  · obtain ⟨tw, htw⟩ : ∃ tw, ((nms (rowsOf l s)).findIdx? fun x => decide (x = b)).isSome = tw := ⟨_, rfl⟩
    have HT := Lib.hid htw
    cases hp : placeOf (rowsOf l s) a with
    | none =>
      have HE := Lib.hid (show apartF l s a b = (0, 9) by unfold apartF; rw [if_pos h0, hp])
      have HI := Lib.hid (place_none hp)
      clear hp htw
      have CP := Lib.hid (piled_yes (c := c) (c2 := c2) h h0)
      have HOK := Lib.hid h0
      clear h
      go_enter Try.func23, Try.ntmps23
      go_wp2_with fail
      refine CP.out.mono ?_
      rintro e w1 ⟨p, q, kn, mv, tv, cv, nv, f, rfl, hb, hL⟩
      have B1 := Lib.hid hb
      have HL := Lib.hid hL
      clear hb hL
      have HFa := Lib.hid (show f (.string a.data.toList) = none by rw [HL.out.f a, HI.out]; rfl)
      have a4 : w1.cell? ⟨p, 4, none⟩ = some (.map (some q)) := by rw [blk_cell HL.out.g.b]; rfl
      go_wp2_with (first
        | (at_lookup; refine wpList_lacks_mapV rfl (.tmp 29) (.tmp 30) 86 rfl 9 3 str_law Try.underlying86 (zeroInt _) q kn f rfl HL.out.g.k (.string a) (.string a.data.toList) rfl (keyOf_string_mk Try.underlying9 ha) HFa.out ?_)
        | (at_lookup; refine wpList_num rfl (.tmp 38) (.tmp 39) rfl q kn f (nms (rowsOf l s)) rfl HL.out.g.k HL.out.f b rfl hb' tw HT.out ?_; intro v9))
      go_ret2
      exact ⟨by rw [HE.out]; rfl, B1.out⟩
    | some j1 =>
      obtain ⟨i1, hi, hij⟩ := place_some hp
      have HI := Lib.hid hi
      have HIJ := Lib.hid hij
      clear htw
      cases hp2 : placeOf (rowsOf l s) b with
      | none =>
        have HE := Lib.hid (show apartF l s a b = (0, 9) by unfold apartF; rw [if_pos h0, hp, hp2])
        have HI2 := Lib.hid (place_none hp2)
        clear hp hp2 hi hij
        have CP := Lib.hid (piled_yes (c := c) (c2 := c2) h h0)
        have HOK := Lib.hid h0
        clear h
        go_enter Try.func23, Try.ntmps23
        go_wp2_with fail
        refine CP.out.mono ?_
        rintro e w1 ⟨p, q, kn, mv, tv, cv, nv, f, rfl, hb, hL⟩
        have B1 := Lib.hid hb
        have HL := Lib.hid hL
        clear hb hL
        have HFa := Lib.hid (show f (.string a.data.toList) = some (.int .i64 (i1 : Nat)) by rw [HL.out.f a, HI.out]; rfl)
        have HFb := Lib.hid (show f (.string b.data.toList) = none by rw [HL.out.f b, HI2.out]; rfl)
        have a4 : w1.cell? ⟨p, 4, none⟩ = some (.map (some q)) := by rw [blk_cell HL.out.g.b]; rfl
        go_wp2_with (first
          | (at_lookup; refine wpList_got_mapV rfl (.tmp 29) (.tmp 30) 86 rfl 9 3 str_law Try.underlying86 (zeroInt _) q kn f rfl HL.out.g.k (.string a) (.string a.data.toList) rfl (keyOf_string_mk Try.underlying9 ha) (.int .i64 (i1 : Nat)) HFa.out ?_)
          | (at_lookup; refine wpList_lacks_mapV rfl (.tmp 38) (.tmp 39) 86 rfl 9 3 str_law Try.underlying86 (zeroInt _) q kn f rfl HL.out.g.k (.string b) (.string b.data.toList) rfl (keyOf_string_mk Try.underlying9 hb') HFb.out ?_))
        go_ret2
        exact ⟨by rw [HE.out]; rfl, B1.out⟩
      | some j2 =>
        obtain ⟨i2, hi2, hij2⟩ := place_some hp2
        have HE := Lib.hid (show apartF l s a b = (apartR (rowsOf l s) j1 j2, 0) by unfold apartF; rw [if_pos h0, hp, hp2])
        have HI2 := Lib.hid hi2
        have HIJ2 := Lib.hid hij2
        have HB := Lib.hid (stackF_rows h0)
        have hlen : (cus (rowsOf l s)).length ≤ (rowsOf l s).length := cus_few _ 0
        have q1 := (List.getElem?_eq_some_iff.1 hij).1
        have q2 := (List.getElem?_eq_some_iff.1 hij2).1
        clear hp hp2 hi hij hi2 hij2
        rcases Nat.lt_trichotomy i1 i2 with hlt | heq | hlt
        · have hj := cus_mono HIJ.out HIJ2.out hlt
          have HA := Lib.hid (show apartR (rowsOf l s) j1 j2 = thick ((rowsOf l s).take j2) - thick ((rowsOf l s).take (j1 + 1)) by unfold apartR; rw [if_neg (by omega), Nat.max_eq_right (by omega), Nat.min_eq_left (by omega)])
          clear hj
          have CP := Lib.hid (piled_yes (c := c) (c2 := c2) h h0)
          have HOK := Lib.hid h0
          clear h
          go_enter Try.func23, Try.ntmps23
          go_wp2_with fail
          refine CP.out.mono ?_
          rintro e w1 ⟨p, q, kn, mv, tv, cv, nv, f, rfl, hb, hL⟩
          have B1 := Lib.hid hb
          have HL := Lib.hid hL
          clear hb hL
          have HFa := Lib.hid (show f (.string a.data.toList) = some (.int .i64 (i1 : Nat)) by rw [HL.out.f a, HI.out]; rfl)
          have HFb := Lib.hid (show f (.string b.data.toList) = some (.int .i64 (i2 : Nat)) by rw [HL.out.f b, HI2.out]; rfl)
          have a4 : w1.cell? ⟨p, 4, none⟩ = some (.map (some q)) := by rw [blk_cell HL.out.g.b]; rfl
          have CT := Lib.hid (fun W' (hb : Below w1.heap.size w1 W') => top_any (HL.out.old hb) HIJ2.out)
          have CB := Lib.hid (fun W' (hb : Below w1.heap.size w1 W') => bottom_any (HL.out.old hb) HIJ.out)
          have hll := HL.out.l
          obtain ⟨m1, m2⟩ := take_bound HB.out j2 hll
          obtain ⟨m3, m4⟩ := take_bound HB.out (j1 + 1) hll
          have e1 : ((i1 : Int) == (i2 : Int)) = false := by simp; omega
          have e2 : (i1 : Int) < (i2 : Int) := by omega
          have e3 : ¬ (i2 : Int) < (i1 : Int) := by omega
          have e4 : max (i1 : Int) (i2 : Int) = i2 := by omega
          have e5 : min (i1 : Int) (i2 : Int) = i1 := by omega
          generalize thick ((rowsOf l s).take j2) = T2 at *
          generalize thick ((rowsOf l s).take (j1 + 1)) = T1 at *
          clear hll hlen
          go_wp2_with (first
            | (at_lookup; refine wpList_got_mapV rfl (.tmp 29) (.tmp 30) 86 rfl 9 3 str_law Try.underlying86 (zeroInt _) q kn f rfl HL.out.g.k (.string a) (.string a.data.toList) rfl (keyOf_string_mk Try.underlying9 ha) (.int .i64 (i1 : Nat)) HFa.out ?_)
            | (at_lookup; refine wpList_got_mapV rfl (.tmp 38) (.tmp 39) 86 rfl 9 3 str_law Try.underlying86 (zeroInt _) q kn f rfl HL.out.g.k (.string b) (.string b.data.toList) rfl (keyOf_string_mk Try.underlying9 hb') (.int .i64 (i2 : Nat)) HFb.out ?_)
            | (go_at_call 63; refine (CT.out _ (by (repeat' (first | (with_reducible exact Below.refl _ _) | (with_reducible assumption) | (with_reducible refine Below.alloc ?_ ?_ _) | (with_reducible refine Below.drew ?_) | (with_reducible refine below_drewN ?_ _) | (with_reducible refine Below.setCell ?_ ?_ _) | (with_reducible exact Nat.le_refl _) | omega | (simp only [World.size_alloc, World.size_setCell, World.size_drew]; omega) | (simp; omega) | (simp; done))))).mono ?_; rintro e w2 ⟨rfl, kk, rfl⟩)
            | (go_at_call 65; refine (CB.out _ (by (repeat' (first | (with_reducible exact Below.refl _ _) | (with_reducible assumption) | (with_reducible refine Below.alloc ?_ ?_ _) | (with_reducible refine Below.drew ?_) | (with_reducible refine below_drewN ?_ _) | (with_reducible refine Below.setCell ?_ ?_ _) | (with_reducible exact Nat.le_refl _) | omega | (simp only [World.size_alloc, World.size_setCell, World.size_drew]; omega) | (simp; omega) | (simp; done))))).mono ?_; rintro e w3 ⟨rfl, kk2, rfl⟩))
          go_ret2
          exact ⟨by rw [HE.out, HA.out]; rfl, below_drewN B1.out _⟩
        · subst heq
          have hj : j1 = j2 := Option.some.inj (HIJ.out.symm.trans HIJ2.out)
          have HA := Lib.hid (show apartR (rowsOf l s) j1 j2 = 0 by unfold apartR; rw [if_pos hj])
          clear hj
          have CP := Lib.hid (piled_yes (c := c) (c2 := c2) h h0)
          have HOK := Lib.hid h0
          clear h
          go_enter Try.func23, Try.ntmps23
          go_wp2_with fail
          refine CP.out.mono ?_
          rintro e w1 ⟨p, q, kn, mv, tv, cv, nv, f, rfl, hb, hL⟩
          have B1 := Lib.hid hb
          have HL := Lib.hid hL
          clear hb hL
          have HFa := Lib.hid (show f (.string a.data.toList) = some (.int .i64 (i1 : Nat)) by rw [HL.out.f a, HI.out]; rfl)
          have HFb := Lib.hid (show f (.string b.data.toList) = some (.int .i64 (i1 : Nat)) by rw [HL.out.f b, HI2.out]; rfl)
          have a4 : w1.cell? ⟨p, 4, none⟩ = some (.map (some q)) := by rw [blk_cell HL.out.g.b]; rfl
          go_wp2_with (first
            | (at_lookup; refine wpList_got_mapV rfl (.tmp 29) (.tmp 30) 86 rfl 9 3 str_law Try.underlying86 (zeroInt _) q kn f rfl HL.out.g.k (.string a) (.string a.data.toList) rfl (keyOf_string_mk Try.underlying9 ha) (.int .i64 (i1 : Nat)) HFa.out ?_)
            | (at_lookup; refine wpList_got_mapV rfl (.tmp 38) (.tmp 39) 86 rfl 9 3 str_law Try.underlying86 (zeroInt _) q kn f rfl HL.out.g.k (.string b) (.string b.data.toList) rfl (keyOf_string_mk Try.underlying9 hb') (.int .i64 (i1 : Nat)) HFb.out ?_))
          go_ret2
          exact ⟨by rw [HE.out, HA.out]; rfl, B1.out⟩
        · have hj := cus_mono HIJ2.out HIJ.out hlt
          have HA := Lib.hid (show apartR (rowsOf l s) j1 j2 = thick ((rowsOf l s).take j1) - thick ((rowsOf l s).take (j2 + 1)) by unfold apartR; rw [if_neg (by omega), Nat.max_eq_left (by omega), Nat.min_eq_right (by omega)])
          clear hj
          have CP := Lib.hid (piled_yes (c := c) (c2 := c2) h h0)
          have HOK := Lib.hid h0
          clear h
          go_enter Try.func23, Try.ntmps23
          go_wp2_with fail
          refine CP.out.mono ?_
          rintro e w1 ⟨p, q, kn, mv, tv, cv, nv, f, rfl, hb, hL⟩
          have B1 := Lib.hid hb
          have HL := Lib.hid hL
          clear hb hL
          have HFa := Lib.hid (show f (.string a.data.toList) = some (.int .i64 (i1 : Nat)) by rw [HL.out.f a, HI.out]; rfl)
          have HFb := Lib.hid (show f (.string b.data.toList) = some (.int .i64 (i2 : Nat)) by rw [HL.out.f b, HI2.out]; rfl)
          have a4 : w1.cell? ⟨p, 4, none⟩ = some (.map (some q)) := by rw [blk_cell HL.out.g.b]; rfl
          have CT := Lib.hid (fun W' (hb : Below w1.heap.size w1 W') => top_any (HL.out.old hb) HIJ.out)
          have CB := Lib.hid (fun W' (hb : Below w1.heap.size w1 W') => bottom_any (HL.out.old hb) HIJ2.out)
          have hll := HL.out.l
          obtain ⟨m1, m2⟩ := take_bound HB.out j1 hll
          obtain ⟨m3, m4⟩ := take_bound HB.out (j2 + 1) hll
          have e1 : ((i1 : Int) == (i2 : Int)) = false := by simp; omega
          have e2 : ¬ (i1 : Int) < (i2 : Int) := by omega
          have e3 : (i2 : Int) < (i1 : Int) := by omega
          have e4 : max (i1 : Int) (i2 : Int) = i1 := by omega
          have e5 : min (i1 : Int) (i2 : Int) = i2 := by omega
          generalize thick ((rowsOf l s).take j1) = T2 at *
          generalize thick ((rowsOf l s).take (j2 + 1)) = T1 at *
          clear hll hlen
          go_wp2_with (first
            | (at_lookup; refine wpList_got_mapV rfl (.tmp 29) (.tmp 30) 86 rfl 9 3 str_law Try.underlying86 (zeroInt _) q kn f rfl HL.out.g.k (.string a) (.string a.data.toList) rfl (keyOf_string_mk Try.underlying9 ha) (.int .i64 (i1 : Nat)) HFa.out ?_)
            | (at_lookup; refine wpList_got_mapV rfl (.tmp 38) (.tmp 39) 86 rfl 9 3 str_law Try.underlying86 (zeroInt _) q kn f rfl HL.out.g.k (.string b) (.string b.data.toList) rfl (keyOf_string_mk Try.underlying9 hb') (.int .i64 (i2 : Nat)) HFb.out ?_)
            | (go_at_call 63; refine (CT.out _ (by (repeat' (first | (with_reducible exact Below.refl _ _) | (with_reducible assumption) | (with_reducible refine Below.alloc ?_ ?_ _) | (with_reducible refine Below.drew ?_) | (with_reducible refine below_drewN ?_ _) | (with_reducible refine Below.setCell ?_ ?_ _) | (with_reducible exact Nat.le_refl _) | omega | (simp only [World.size_alloc, World.size_setCell, World.size_drew]; omega) | (simp; omega) | (simp; done))))).mono ?_; rintro e w2 ⟨rfl, kk, rfl⟩)
            | (go_at_call 65; refine (CB.out _ (by (repeat' (first | (with_reducible exact Below.refl _ _) | (with_reducible assumption) | (with_reducible refine Below.alloc ?_ ?_ _) | (with_reducible refine Below.drew ?_) | (with_reducible refine below_drewN ?_ _) | (with_reducible refine Below.setCell ?_ ?_ _) | (with_reducible exact Nat.le_refl _) | omega | (simp only [World.size_alloc, World.size_setCell, World.size_drew]; omega) | (simp; omega) | (simp; done))))).mono ?_; rintro e w3 ⟨rfl, kk2, rfl⟩))
          go_ret2
          exact ⟨by rw [HE.out, HA.out]; rfl, below_drewN B1.out _⟩
  · have HE := Lib.hid (show apartF l s a b = (0, stackF l s) by unfold apartF; rw [if_neg h0])
    have HZ := Lib.hid h0
    have CP := Lib.hid (piled_no (c := c) (c2 := c2) h h0)
    generalize stackF l s = F at *
    have hd1 : (F == 0) = false := by simpa using h0
    have hd2 : (F != 0) = true := by simpa using h0
    clear h0 h
    go_enter Try.func23, Try.ntmps23
    go_wp2_with fail
    refine CP.out.mono ?_
    rintro e w1 ⟨rfl, hb⟩
    have B1 := Lib.hid hb
    clear hb
    go_wp2_with fail
    go_ret2
    exact ⟨by rw [HE.out]; rfl, B1.out⟩
end
end Go.Proofs.Ytdlglnkhhbkndaa

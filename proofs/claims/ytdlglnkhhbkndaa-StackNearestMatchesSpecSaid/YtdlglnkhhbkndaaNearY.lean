/- The nearest choice of sheets (Nearest) of a right stack, whatever the world. -/
import Derived.Test.YtdlglnkhhbkndaaNear
import Derived.Test.YtdlglnkhhbkndaaStkG
namespace Go.Proofs.Ytdlglnkhhbkndaa
open Go.RowKit Go.Maps
set_option linter.unusedSimpArgs false
set_option linter.unusedVariables false
set_option maxRecDepth 100000

def gluM : List Mat → List Nat
  | [] => []
  | x :: l => if x.kind = 3 then x.thick.toNat :: gluM l else gluM l
theorem gluM_snoc : ∀ (l : List Mat) (x : Mat), gluM (l ++ [x]) = if x.kind = 3 then gluM l ++ [x.thick.toNat] else gluM l
  | [], x => by simp [gluM]
  | q :: l, x => by
    rw [List.cons_append, gluM, gluM, gluM_snoc l x]
    split <;> split <;> rfl
theorem gluM_len : ∀ l : List Mat, (gluM l).length ≤ l.length
  | [] => Nat.le_refl _
  | x :: l => by
    have := gluM_len l
    rw [gluM, List.length_cons]
    split
    · rw [List.length_cons]; omega
    · omega
theorem glu_mats : ∀ R : List Row, gluF R = gluM (R.map (·.2))
  | [] => rfl
  | r :: R => by rw [gluF, List.map_cons, gluM, glu_mats R]
theorem rd_nats {w : World} {B n c : Nat} {A : Option Addr} {gs : List Nat} (h : w.ownsRow B 3 1 (.slice A n c) n (gs.map fun g : Nat => Value.int .i64 (g : Nat))) : RdG 1 (fun g : Nat => [Value.int .i64 (g : Nat)]) w A gs := by
  obtain ⟨_, _, e, _, _, h3⟩ := own_cells h
  cases e
  have hn : n = gs.length := by have := h.1; simpa using this.symm
  intro hp
  obtain ⟨g', rfl, _, hg, hc⟩ := h3 (by omega)
  refine ⟨g', 0, rfl, hg, fun i x hi j y hj => ?_⟩
  match j, hj with
  | 0, hj =>
    simp at hj
    subst hj
    rw [Nat.zero_add, Nat.mul_one, Nat.add_zero]
    exact hc _ _ (by rw [List.getElem?_map, hi]; rfl)
  | j + 1, hj => simp at hj
/-- What Nearest returns when all is right. -/
def NearRet (gs : List Nat) (T : Int) (m : Nat) (t : Int) (w : World) (e : Ending) (w' : World) : Prop :=
  ∃ (vv : Value) (ns : List Nat) (b : Nat) (F : List Int) (Cs : List (List Nat)), e = .returned (.tuple #[vv, .int .i64 (T + (b : Nat)), .int .i64 0]) ∧ w'.ownsRow w.heap.size 3 1 vv gs.length (ns.map oneN) ∧ Chain m gs F Cs ∧ BestAt T t F F.length b ∧ ns = numsF gs Cs b ∧ ns.length = gs.length ∧ (∀ n ∈ ns, n < m) ∧ sumG gs ns = b ∧
    (∀ ns' : List Nat, ns'.length = gs.length → (∀ n ∈ ns', n < m) → awyN T t (b : Nat) ≤ awyN T t (sumG gs ns' : Nat)) ∧ Below w.heap.size w w'
theorem best_all {T t : Int} {F : List Int} {b m : Nat} {gs : List Nat} {Cs : List (List Nat)} (hch : Chain m gs F Cs) (hb : BestAt T t F F.length b) (hs : (gs.length : Int) * m < neverN) : ∀ ns' : List Nat, ns'.length = gs.length → (∀ n ∈ ns', n < m) → awyN T t (b : Nat) ≤ awyN T t (sumG gs ns' : Nat) := by
  intro ns' hl hn
  obtain ⟨v, h1, h2⟩ := reach_ok hch hl hn (by rw [hl]; exact hs)
  rw [hl] at h2
  exact hb.2.1 _ v (List.getElem?_eq_some_iff.1 h1).1 h1 (by omega)
section
variable {A : Option Addr} {l : List Mat} {c : Nat} {A2 : Option Addr} {s : List Lay} {c2 : Nat} {w : World}
set_option maxHeartbeats 4000000 in
theorem nearest_yes (h : StkIn A l A2 s w) (m : Nat) (t : Int) (h0 : stackF l s = 0) (hm : 1 ≤ m ∧ m ≤ 8) (ht : 0 ≤ t ∧ t ≤ 1000000) :
    Calls Try.prog 32 #[.slice A l.length c, .slice A2 s.length c2, .int .i64 (m : Nat), .int .i64 t] w (NearRet (gluF (rowsOf l s)) (thick (rowsOf l s)) m t w) := by
  obtain ⟨i1, hi1, hy0, hy1, hy2⟩ := info_parts infoInt
  have CP := Lib.hid (fun W (hb : Below w.heap.size w W) => piled_yes (c := c) (c2 := c2) (w := W) (h.below hb) h0)
  obtain ⟨t1, t2, t3, t4, t5, t6⟩ := thick_glu (rows_thick h0)
  have hR60 : (rowsOf l s).length ≤ 60 := by rw [rows_eq h0, List.length_map]; exact (stackF_go h0).2.1
  have hTb : 0 ≤ thick (rowsOf l s) ∧ thick (rowsOf l s) ≤ 2000000 := by omega
  have HTH0 := rows_thick h0
  clear h h0 t1 t2 t4 t6
  generalize rowsOf l s = R at *
  have hgm := glu_mats R
  rw [hgm] at t3 t5 ⊢
  clear hgm
  have d1 : decide ((m : Int) < 1) = false := decide_eq_false (by omega)
  have d2 : decide (8 < (m : Int)) = false := decide_eq_false (by omega)
  have d3 : decide (t < 0) = false := decide_eq_false (by omega)
  have d4 : decide (1000000 < t) = false := decide_eq_false (by omega)
  go_enter Try.func32, Try.ntmps32
  go_wp2_with fail
  refine (CP.out _ ((Below.refl w.heap.size w).alloc (Nat.le_refl _) _)).mono ?_
  rintro e w1 ⟨p, q, kn, mv, tv, cv, nv, f, rfl, hb, hL⟩
  rw [World.size_alloc] at hb hL
  have z1 : w.heap.size + 1 ≤ w1.heap.size := by simpa using hb.size
  have ctv : w1.cell? ⟨w.heap.size, 0, none⟩ = some (.int .i64 t) := (hb.cell (p := ⟨w.heap.size, 0, none⟩) (Nat.lt_succ_self _)).trans (anc9 w _ _ 0 rfl)
  have B1 := Lib.hid (show Below w.heap.size w w1 from ((Below.refl w.heap.size w).alloc (Nat.le_refl _) (.cells #[.int .i64 t] 3)).trans (hb.mono (Nat.le_succ _)))
  have hpl := blk_lt hL.g.b
  have a0 : w1.cell? ⟨p, 0, none⟩ = some mv := by rw [blk_cell hL.g.b]; rfl
  have CT := Lib.hid (fun W' (hb : Below w1.heap.size w1 W') => thickness_any (hL.g.old hb) (topsF_length R 0) (by rw [tops_get (Nat.le_refl _), List.take_length]) hL.l)
  obtain ⟨Am, cm, rfl, m1, m2, m3⟩ := own_rdN (cs := Mat.cs) (fun _ => rfl) hL.g.m
  have HM := Lib.hid m3
  have m2' : cm ≤ 9223372036854775807 := m2
  have hml : (R.map (·.2)).length ≤ 60 := by rw [List.length_map]; exact hR60
  have HTH := Lib.hid (show ∀ x ∈ R.map (·.2), 1 ≤ x.thick ∧ x.thick ≤ 2000 from fun x hx => by obtain ⟨r, hr, rfl⟩ := List.mem_map.1 hx; exact HTH0 r hr)
  have t3' : (gluM (R.map (·.2))).sum ≤ 120000 := by omega
  clear HTH0 t3
  generalize hTT : thick R = T at *
  generalize hMS : R.map (·.2) = ms at *
  have HTT := Lib.hid hTT
  have HMS := Lib.hid hMS
  clear hTT hMS
  have c11 := anc9 w1 #[.pointer (some ⟨p, 0, none⟩)] 76 0 rfl
  have a0' : (w1.alloc (.cells #[.pointer (some ⟨p, 0, none⟩)] 76)).cell? ⟨p, 0, none⟩ = some (.slice Am ms.length cm) := (World.cell?_alloc_lt _ _ _ (show p < w1.heap.size from hpl)).trans a0
  have ct' : (w1.alloc (.cells #[.pointer (some ⟨p, 0, none⟩)] 76)).cell? ⟨w.heap.size, 0, none⟩ = some (.int .i64 t) := (World.cell?_alloc_lt _ _ _ (show w.heap.size < w1.heap.size by omega)).trans ctv
  have BL1 := Lib.hid ((Below.refl w1.heap.size w1).alloc (Nat.le_refl _) (.cells #[.pointer (some ⟨p, 0, none⟩)] 76))
  clear hb hL m3 m2 a0 CP hR60
  have sz1 : (w1.alloc (.cells #[.pointer (some ⟨p, 0, none⟩)] 76)).heap.size = w1.heap.size + 1 := by simp
  go_wp2_with fail
  go_loopw [13, 49] (fun ov iv wr => ∃ k : Nat, k ≤ ms.length ∧ iv = .int .i64 (k : Nat) ∧ wr.ownsRow (w1.heap.size + 1) 3 1 ov (gluM (ms.take k)).length ((gluM (ms.take k)).map fun g : Nat => Value.int .i64 (g : Nat)) ∧ Below (w1.heap.size + 1) (w1.alloc (.cells #[.pointer (some ⟨p, 0, none⟩)] 76)) wr) (fun _ iv _ => ms.length - (intOf iv).toNat)
  case atStart => exact ⟨0, Nat.zero_le _, rfl, own_nil, Below.refl _ _⟩
  case round =>
    obtain ⟨k, hk, rfl, ho, hw⟩ := hrel
    have HO := Lib.hid ho
    have HW := Lib.hid hw
    have zw : w1.heap.size + 1 ≤ wr.heap.size := by simpa using hw.size
    have BW := Lib.hid (BL1.out.trans (hw.mono (Nat.le_succ _)))
    have hkz : (0 : Int) ≤ (k : Int) := by omega
    obtain ⟨Av, cv9, rfl, u1, u2, -⟩ := own_cells ho
    have u2' : cv9 ≤ 9223372036854775807 := u2
    have hgl : (gluM (ms.take k)).length ≤ 60 := by
      have h1 := gluM_len (ms.take k)
      rw [List.length_take] at h1
      omega
    clear ho u2
    by_cases hlt : k < ms.length
    · obtain ⟨b, off, rfl, hblt, hcs⟩ := (HM.out.below BW.out) (by omega)
      have hi : ms[k]? = some ms[k] := List.getElem?_eq_getElem hlt
      have c0 := by simpa using hcs k _ hi 0 _ rfl
      have c1 := hcs k _ hi 1 _ rfl
      have c2' := hcs k _ hi 2 _ rfl
      have c3 := hcs k _ hi 3 _ rfl
      have HGK := Lib.hid (show gluM (ms.take (k + 1)) = if ms[k].kind = 3 then gluM (ms.take k) ++ [ms[k].thick.toNat] else gluM (ms.take k) by rw [List.take_add_one, hi]; exact gluM_snoc _ _)
      have hth := HTH.out _ (List.mem_of_getElem? hi)
      clear hcs hi hw
      generalize ms[k] = x at *
      obtain ⟨xn, xk, xt, xg⟩ := x
      simp only at c0 c1 c2' c3 HGK hth
      generalize gluM (ms.take k) = Q at *
      by_cases hx3 : xk = 3
      · have hx4 : (xk == 3) = true := by simpa using hx3
        have HN1 := Lib.hid (show gluM (ms.take (k + 1)) = Q ++ [xt.toNat] by rw [HGK.out, if_pos hx3])
        have HXT := Lib.hid (show (xt.toNat : Int) = xt by omega)
        clear hx3
        go_wp2_with (first
          | (at_builtin; go_loud (refine wpList_append_lies _ rfl (.tmp 56) (.tmp 59) 43 rfl (w1.heap.size + 1) 3 i1 (.int .i64 0) 1 8 Try.underlying43 hi1 hy0 hy1 hy2 rfl (by omega) (.slice Av Q.length cv9) Q.length (Q.map fun g : Nat => Value.int .i64 (g : Nat)) rfl ((HO.out.alloc _).alloc _) ⟨wr.heap.size + 1, 0, none⟩ 1 1 [.int .i64 xt] rfl rfl (one_atG _ _ _ (by simp)) (by simp [Value.oneCell']) (by omega) (by unfold maxLen; omega) (by omega) (by simp; omega) (wr.heap.size + 2) (by simp) ?_); intro gg cap w5 hown5 hgrow hat5 hlt5; have HO5 := Lib.hid hown5; have B5 := Lib.hid (below_app ((HW.out.alloc zw _).alloc (by simp; omega) _) ((HO.out.alloc _).alloc _) hgrow (Nat.le_refl _) (by simp; omega)); clear hown5 hgrow hat5))
        go_roundw
        case rel =>
          refine ⟨k + 1, by omega, by go_num, ?_, B5.out⟩
          rw [HN1.out, List.length_append, List.map_append, List.map_singleton, HXT.out]
          exact HO5.out
        case measure => (simp [intOf] <;> omega)
      · have hx4 : (xk == 3) = false := by simpa using hx3
        have HN1 := Lib.hid (show gluM (ms.take (k + 1)) = Q by rw [HGK.out, if_neg hx3])
        clear hx3
        go_wp2_with fail
        go_roundw
        case rel => exact ⟨k + 1, by omega, by go_num, by rw [HN1.out]; exact HO.out.alloc _, HW.out.alloc zw _⟩
        case measure => (simp [intOf] <;> omega)
    · obtain rfl : k = ms.length := by omega
      rw [List.take_length] at HO hgl u1 ⊢
      have k11 := (hw.cell (p := ⟨w1.heap.size, 0, none⟩) (Nat.lt_succ_self _)).trans c11
      have kt := (hw.cell (p := ⟨w.heap.size, 0, none⟩) (show w.heap.size < w1.heap.size + 1 by omega)).trans ct'
      have HRN := Lib.hid (rd_nats HO.out)
      generalize hGS : gluM ms = gs at *
      have HGS := Lib.hid hGS
      clear hGS
      have hsum : 1 + (m - 1) * gs.sum ≤ 1000000000 := by
        have h1 : (m - 1) * gs.sum ≤ 7 * 120000 := Nat.mul_le_mul (by omega) (by omega)
        omega
      have CF := Lib.hid (fewest_any Av gs cv9 m wr hm.1 hm.2 (by omega) hsum HRN.out)
      go_wp2_with fail
      refine CF.out.mono ?_
      rintro e w5 ⟨G1, GC, F, Cs, Gs, rfl, hch, hof, hcw, hgc, hb5⟩
      have HCH := Lib.hid hch
      have HOF := Lib.hid hof
      have HCW := Lib.hid hcw
      have HGC := Lib.hid hgc
      have B5 := Lib.hid hb5
      have z5 := hb5.size
      have hneg : (gs.length : Int) * (m : Int) < neverN := by
        have h1 : (gs.length : Int) * (m : Int) ≤ 60 * 8 := Int.mul_le_mul (by omega) (by omega) (by omega) (by omega)
        unfold neverN
        omega
      have HNG := Lib.hid hneg
      have HB0 := Lib.hid (show BestAt T t F 0 0 from ⟨near_start hch hm.1 hneg, fun x v hx => absurd hx (Nat.not_lt_zero x), fun x v hx => absurd hx (Nat.not_lt_zero x)⟩)
      have hFl : F.length ≤ 1000000000 := by rw [chain_flen hch]; exact hsum
      have j11 := (hb5.cell (p := ⟨w1.heap.size, 0, none⟩) (show w1.heap.size < wr.heap.size by omega)).trans k11
      have jt := (hb5.cell (p := ⟨w.heap.size, 0, none⟩) (show w.heap.size < wr.heap.size by omega)).trans kt
      have BW5 := Lib.hid (BW.out.trans (hb5.mono (by omega)))
      have zz5 : w1.heap.size + 1 ≤ w5.heap.size := by omega
      clear hch hof hcw hgc hb5 hneg CF hw k11 kt
      have q11 : ∀ (cs : Array Value) (T9 : TypeId), (w5.alloc (.cells cs T9)).cell? ⟨w1.heap.size, 0, none⟩ = some (.pointer (some ⟨p, 0, none⟩)) := fun cs T9 => (World.cell?_alloc_lt _ _ _ (show w1.heap.size < w5.heap.size by omega)).trans j11
      have qt : ∀ (cs : Array Value) (T9 : TypeId), (w5.alloc (.cells cs T9)).cell? ⟨w.heap.size, 0, none⟩ = some (.int .i64 t) := fun cs T9 => (World.cell?_alloc_lt _ _ _ (show w.heap.size < w5.heap.size by omega)).trans jt
      have b16 := blk_new9 w5 (.cells #[.slice (some ⟨G1, 0, none⟩) F.length F.length, .slice (some ⟨GC, 0, none⟩) gs.length gs.length] 96)
      have HB16 := Lib.hid b16
      have e16 := blk_cell b16 0
      simp only [List.getElem?_toArray, List.getElem?_cons_zero] at e16
      have BA5 := Lib.hid ((Below.refl w5.heap.size w5).alloc (Nat.le_refl _) (.cells #[.slice (some ⟨G1, 0, none⟩) F.length F.length, .slice (some ⟨GC, 0, none⟩) gs.length gs.length] 96))
      have sz6 : (w5.alloc (.cells #[.slice (some ⟨G1, 0, none⟩) F.length F.length, .slice (some ⟨GC, 0, none⟩) gs.length gs.length] 96)).heap.size = w5.heap.size + 1 := by simp
      have Q11 := Lib.hid (q11 #[.slice (some ⟨G1, 0, none⟩) F.length F.length, .slice (some ⟨GC, 0, none⟩) gs.length gs.length] 96)
      have QT := Lib.hid (qt #[.slice (some ⟨G1, 0, none⟩) F.length F.length, .slice (some ⟨GC, 0, none⟩) gs.length gs.length] 96)
      clear q11 qt b16
      go_wp2_with fail
      go_loopw [18, 69] (fun bv iv wx => ∃ (k b : Nat), k ≤ F.length ∧ iv = .int .i64 (k : Nat) ∧ bv = .int .i64 (b : Nat) ∧ BestAt T t F k b ∧ Below (w5.heap.size + 1) (w5.alloc (.cells #[.slice (some ⟨G1, 0, none⟩) F.length F.length, .slice (some ⟨GC, 0, none⟩) gs.length gs.length] 96)) wx) (fun _ iv _ => F.length - (intOf iv).toNat)
      case atStart => exact ⟨0, 0, Nat.zero_le _, rfl, rfl, HB0.out, Below.refl _ _⟩
      case round =>
        obtain ⟨k, b, hk, rfl, rfl, hba, hw⟩ := hrel
        have HBA := Lib.hid hba
        have HW6 := Lib.hid hw
        have z6 : w5.heap.size + 1 ≤ wr.heap.size := by simpa using hw.size
        have hkz : (0 : Int) ≤ (k : Int) := by omega
        have k11 := (hw.cell (p := ⟨w1.heap.size, 0, none⟩) (show w1.heap.size < w5.heap.size + 1 by omega)).trans Q11.out
        have kt := (hw.cell (p := ⟨w.heap.size, 0, none⟩) (show w.heap.size < w5.heap.size + 1 by omega)).trans QT.out
        have BW6 := Lib.hid (show Below w1.heap.size w1 wr from (BW5.out.trans (BA5.out.mono (by omega))).trans (hw.mono (by omega)))
        have B56 := Lib.hid (show Below w5.heap.size w5 wr from BA5.out.trans (hw.mono (Nat.le_succ _)))
        obtain ⟨vb, hvb, hvb2⟩ := hba.1
        have hbl : b < F.length := (List.getElem?_eq_some_iff.1 hvb).1
        have HVB := Lib.hid hvb
        have HVB2 := Lib.hid hvb2
        have CTW := Lib.hid (fun (q : Nat) (n : Nat) => show Calls Try.prog 55 #[.pointer (some ⟨p, 0, none⟩)] ((wr.drewN q).drewN n) (fun e w' => e = .returned (.int .i64 T) ∧ ∃ m, w' = ((wr.drewN q).drewN n).drewN m) from CT.out _ (below_drewN (below_drewN BW6.out q) n))
        have CA := Lib.hid (fun (q x : Nat) (hx : x ≤ 1000000000) => away_any T t (x : Nat) w1.heap.size w.heap.size p (wr.drewN q) (fun n => CTW.out q n) hTb (by omega) (by omega) k11 kt)
        clear hba hvb hvb2
        by_cases hlt : k < F.length
        · obtain ⟨bb, off, e9, hbb, hcs⟩ := (rd_nums (own_below HOF.out B56.out)) (by omega)
          cases e9
          have hi : F[k]? = some F[k] := List.getElem?_eq_getElem hlt
          have c0 := by simpa using hcs k _ hi 0 _ rfl
          have HST := Lib.hid (best_step HBA.out hi)
          clear hcs hi hw
          generalize F[k] = v at *
          by_cases hv : v < 1073741824
          · have hv1 : decide (v < 1073741824) = true := decide_eq_true hv
            have C1 := Lib.hid (CA.out 0 k (by omega))
            have C2 := Lib.hid (fun q => CA.out q b (by omega))
            by_cases hab : awyN T t k < awyN T t b
            · have hab1 : decide (awyN T t k < awyN T t b) = true := decide_eq_true hab
              have HN := Lib.hid (HST.out.1 hv hab)
              go_wp2_with (first
                | (have _h8 := H8; clear _h8; go_at_call 70; refine (C2.out q8).mono ?_; rintro e w9 ⟨rfl, q9, rfl⟩)
                | (go_at_call 70; refine C1.out.mono ?_; rintro e w8 ⟨rfl, q8, rfl⟩; have H8 := trivial))
              go_roundw
              case rel => exact ⟨k + 1, k, by omega, by go_num, rfl, HN.out, by first | exact below_drewN (below_drewN (below_drewN HW6.out 0) q8) q9 | exact below_drewN HW6.out _ | exact below_drewN (below_drewN HW6.out _) _⟩
              case measure => (simp [intOf] <;> omega)
            · have hab1 : decide (awyN T t k < awyN T t b) = false := decide_eq_false hab
              have HN := Lib.hid (HST.out.2 (fun e => hab e.2))
              go_wp2_with (first
                | (have _h8 := H8; clear _h8; go_at_call 70; refine (C2.out q8).mono ?_; rintro e w9 ⟨rfl, q9, rfl⟩)
                | (go_at_call 70; refine C1.out.mono ?_; rintro e w8 ⟨rfl, q8, rfl⟩; have H8 := trivial))
              go_roundw
              case rel => exact ⟨k + 1, b, by omega, by go_num, rfl, HN.out, by first | exact below_drewN (below_drewN (below_drewN HW6.out 0) q8) q9 | exact below_drewN HW6.out _ | exact below_drewN (below_drewN HW6.out _) _⟩
              case measure => (simp [intOf] <;> omega)
          · have hv1 : decide (v < 1073741824) = false := decide_eq_false hv
            have HN := Lib.hid (HST.out.2 (fun e => hv e.1))
            go_wp2_with fail
            go_roundw
            case rel => exact ⟨k + 1, b, by omega, by go_num, rfl, HN.out, HW6.out⟩
            case measure => (simp [intOf] <;> omega)
        · obtain rfl : k = F.length := by omega
          obtain ⟨n1, n2, n3⟩ := nums_ok HCH.out HVB.out HVB2.out
          have HN1 := Lib.hid n1
          have HN2 := Lib.hid n2
          have HN3 := Lib.hid n3
          have HBST := Lib.hid (best_all HCH.out HBA.out HNG.out)
          have y1 : IntKind.i64.wrap (T + (b : Int)) = T + (b : Int) := IntWalk.i64_in _ (by omega)
          have g0 := blk_cell ((hw.block _ (Nat.lt_succ_self _)).trans HB16.out) 0
          have g1 := blk_cell ((hw.block _ (Nat.lt_succ_self _)).trans HB16.out) 1
          simp only [List.getElem?_toArray, List.getElem?_cons_zero, List.getElem?_cons_succ] at g0 g1
          have lw5 : w5.heap.size < wr.heap.size := by omega
          have lw1 : w1.heap.size < wr.heap.size := by omega
          have CN := Lib.hid (fun (W : World) (hb : Below wr.heap.size wr W) => numbers_any Av gs cv9 m b G1 F.length GC _ F Cs Gs vb W hm.2 (by omega) HCH.out HVB.out HVB2.out (by omega) (HRN.out.below (B5.out.trans ((B56.out.trans (hb.mono (by omega))).mono z5))) (HCW.out.old (B56.out.trans (hb.mono (by omega)))) (((B56.out.trans (hb.mono (by omega))).block GC (blk_lt HGC.out)).trans HGC.out))
          have HSB := Lib.hid (fun (W : World) (hb : Below wr.heap.size wr W) => show Below wr.heap.size wr W ∧ W.cell? ⟨w5.heap.size, 0, none⟩ = some (.slice (some ⟨G1, 0, none⟩) F.length F.length) ∧ W.cell? ⟨w5.heap.size, 1, none⟩ = some (.slice (some ⟨GC, 0, none⟩) gs.length gs.length) ∧ W.cell? ⟨w1.heap.size, 0, none⟩ = some (.pointer (some ⟨p, 0, none⟩)) from ⟨hb, (hb.cell (p := ⟨w5.heap.size, 0, none⟩) lw5).trans g0, (hb.cell (p := ⟨w5.heap.size, 1, none⟩) lw5).trans g1, (hb.cell (p := ⟨w1.heap.size, 0, none⟩) lw1).trans k11⟩)
          clear n1 n2 n3 hw
          go_wp2_with fail
          go_region_held3 (fun w' => Below wr.heap.size wr w' ∧ w'.cell? ⟨w5.heap.size, 0, none⟩ = some (.slice (some ⟨G1, 0, none⟩) F.length F.length) ∧ w'.cell? ⟨w5.heap.size, 1, none⟩ = some (.slice (some ⟨GC, 0, none⟩) gs.length gs.length) ∧ w'.cell? ⟨w1.heap.size, 0, none⟩ = some (.pointer (some ⟨p, 0, none⟩)))
            (first | exact HSB.out _ (below_drewN (Below.refl wr.heap.size wr) 1) | exact HSB.out _ B9.out | exact HSB.out _ (below_drewN B9.out q10))
            (first
              | (go_at_call 71; refine (CN.out _ (below_drewN (Below.refl wr.heap.size wr) 1)).mono ?_; rintro e w9 ⟨vv, rfl, ho9, hb9⟩; obtain ⟨A9, d9, rfl, -, -, -⟩ := own_cells ho9; have HO9 := Lib.hid ho9; have B9 := Lib.hid (show Below wr.heap.size wr w9 from (below_drewN (Below.refl wr.heap.size wr) 1).trans (hb9.mono (Nat.le_refl _))); clear ho9 hb9)
              | (go_at_call 55; refine (CT.out _ (BW6.out.trans (B9.out.mono (by omega)))).mono ?_; rintro e w10 ⟨rfl, q10, rfl⟩))
          go_wp2_with fail
          go_ret3
          unfold NearRet
          rw [HTT.out, HMS.out, HGS.out]
          exact ⟨.slice A9 gs.length d9, numsF gs Cs b, b, F, Cs, rfl, own_drewN (own_lower HO9.out (show w.heap.size ≤ (wr.drewN 1).heap.size by show w.heap.size ≤ wr.heap.size; omega)) q10, HCH.out, HBA.out, rfl, HN1.out, HN2.out, HN3.out, HBST.out, below_drewN (B1.out.trans ((BW6.out.trans (B9.out.mono (by omega))).mono (by omega))) q10⟩
end
end Go.Proofs.Ytdlglnkhhbkndaa

/- The law StackPressesBuildUp returns true, whatever the world. -/
import Derived.Test.YtnjcahdelcdcfaaCyc
import Derived.Test.YtnjcahdelcdcfaaBldL
import Derived.Test.YtnjcahdelcdcfaaSAwake
import Derived.Test.YtnjcahdelcdcfaaStkP
namespace Go.Proofs.Ytnjcahdelcdcfaa
open Go.RowKit Go.Maps
set_option linter.unusedSimpArgs false
set_option linter.unusedVariables false
set_option maxRecDepth 100000

theorem stack_coppers {l : List Mat} {s : List Lay} (h : stackF l s = 0) : (cus (rowsOf l s)).length ≤ 1000 := by
  have h1 := cus_few (rowsOf l s) 0
  have h2 : (rowsOf l s).length ≤ 60 := by
    rw [rows_eq h, List.length_map]
    exact (stackF_go h).2.1
  unfold cus
  omega
theorem flat_take {S : List AB} {k : Nat} {y : AB} (h : S[k]? = some y) : (S.take (k + 1)).flatMap (·.hs) = (S.take k).flatMap (·.hs) ++ y.hs := by
  rw [List.take_add_one, h, List.flatMap_append]
  simp
theorem pre_count {S : List AB} {k : Nat} {y : AB} (h : S[k]? = some y) (j i : Nat) : ((S.take k).flatMap (·.hs) ++ y.hs.take j).count i ≤ (S.flatMap (·.hs)).count i := by
  have h1 : S.flatMap (·.hs) = (S.take (k + 1)).flatMap (·.hs) ++ (S.drop (k + 1)).flatMap (·.hs) := by rw [← List.flatMap_append, List.take_append_drop]
  rw [h1, flat_take h, List.count_append, List.count_append, List.count_append]
  have := List.Sublist.count_le i (List.take_sublist j y.hs)
  omega
theorem nat_cell {L : List Nat} {j : Nat} (h : j < L.length) : (L.map fun k => Value.int .i64 (k : Nat))[j]? = some (.int .i64 (L[j] : Nat)) := by
  rw [List.getElem?_map, List.getElem?_eq_getElem h]
  rfl
section
variable {A : Option Addr} {l : List Mat} {c : Nat} {A2 : Option Addr} {s : List Lay} {c2 : Nat}
set_option maxHeartbeats 8000000 in
theorem buildUp_walk (A : Option Addr) (l : List Mat) (c : Nat) (A2 : Option Addr) (s : List Lay) (c2 : Nat) (A3 : Option Addr) (t : List Thr) (c3 : Nat) (w : World) (h : StkIn A l A2 s w) (hl3 : t.length ≤ c3) (hc3 : c3 ≤ 140737488355328) (hd : RdG 2 Thr.cs w A3 t) (htr : True) :
    Calls Try.prog 10 #[.slice A l.length c, .slice A2 s.length c2, .slice A3 t.length c3] w fun e w' => e = .returned (.bool true) ∧ Below w.heap.size w w' := by
  have CW := Lib.hid (fun W => awake_any W)
  have HD := Lib.hid hd
  have HS := Lib.hid h
  obtain ⟨i0, hi0, hz0, hz1, hz2⟩ := info_parts infoInt
  by_cases h0 : pressedF l s t = 0
  · have C1 := Lib.hid (presses_yes (c := c) (c2 := c2) h A3 t c3 (by omega) hd h0)
    have C2 := Lib.hid (fun W hS hD => cycles_yes (A := A) (A2 := A2) (c := c) (c2 := c2) (w := W) hS A3 t c3 (by omega) hD h0)
    have HBD := Lib.hid (pressed_bd h0)
    have ht := (thrF_zero (pressed_zero h0).2.1).1
    have HNB := Lib.hid (show (cus (rowsOf l s)).length ≤ 1000 from stack_coppers (pressed_zero h0).1)
    clear h hd h0 htr
    generalize rowsOf l s = R at *
    go_enter Try.func10, Try.ntmps10
    go_wp2_with fail
    refine C1.out.mono ?_
    rintro e w1 ⟨v, S, rfl, hab, hord, hat, hb⟩
    have HONCE := Lib.hid (fun j (hj : j < t.length) => ord_once hord HBD.out hj)
    have HHOLE := Lib.hid (ord_hole hord HBD.out)
    have HBEH := Lib.hid (fun j k x y => ord_behind (j := j) (k := k) (x := x) (y := y) hord HBD.out)
    have HLAST := Lib.hid (ord_last hord HBD.out)
    have HAB := Lib.hid hab
    have HB1 := Lib.hid hb
    have z1 := hb.size
    obtain ⟨Ap, cp, hvp, p1, p2, p3⟩ := own_rd4 hat.o
    have HP3 := Lib.hid p3
    have HVS := Lib.hid (fun r hr => own_cells (hat.h r hr))
    have hSl : S.length ≤ 2000 := by
      have h1 := hord.1.length_eq
      have h3 := boards_length R t
      have h4 := congrArg List.length hab
      rw [List.length_map] at h4
      have h5 := HNB.out
      omega
    have p2' : cp ≤ 9223372036854775807 := p2
    subst hvp
    clear hab hord hat hb p3 p2
    generalize hnn : (cus R).length = n at *
    have HNN := Lib.hid hnn
    clear hnn
    go_wp2_with (first | (at_make; refine wpList_make_full _ rfl (.tmp 35) (.tmp 35) 43 rfl w1.heap.size 3 i0 (.int .i64 0) 1 Try.underlying43 hi0 hz0 hz1 .i64 .i64 (t.length : Int) (t.length : Int) t.length rfl rfl rfl rfl ?m1 ?m2 ?m3 ?_; (case m1 => rw [hz2]; omega); (case m2 => simp only [maxLen]; omega); (case m3 => omega); intro w2 hown hg; have HO := Lib.hid hown; have HG := Lib.hid hg; clear hown hg))
    have lt0 := (HO.out.lt w1.heap.size rfl).2
    have BW := (Below.refl w1.heap.size w1).grown HG.out (Nat.le_refl _) (fun j hj => by cases hj)
    have H0 := Lib.hid (show w2.ownsRow w1.heap.size 3 1 (.slice (some ⟨w1.heap.size, 0, none⟩) t.length t.length) t.length ((drT t.length (((S.map Brd.ab).take 0).flatMap (·.hs))).map (Value.int .i64)) by
      rw [List.take_zero, List.flatMap_nil, drT_nil, ← made_ints]
      exact HO.out)
    clear HO
    go_loopw [39] (fun i wr => ∃ k : Nat, k ≤ S.length ∧ i = .int .i64 k ∧ wr.ownsRow w1.heap.size 3 1 (.slice (some ⟨w1.heap.size, 0, none⟩) t.length t.length) t.length ((drT t.length (((S.map Brd.ab).take k).flatMap (·.hs))).map (Value.int .i64)) ∧ Below w1.heap.size w1 wr) (fun i _ => S.length - (intOf i).toNat)
    case atStart => exact ⟨0, Nat.zero_le _, rfl, H0.out, BW⟩
    case round =>
      obtain ⟨k, hk, rfl, ho, hw⟩ := hrel
      have HO := Lib.hid ho
      have HW := Lib.hid hw
      have zw := hw.size
      have lg := (ho.lt w1.heap.size rfl).2
      have hkz : (0 : Int) ≤ (k : Int) := by omega
      clear ho
      by_cases hlt : k < S.length
      · obtain ⟨b, off, rfl, hblt, hcs⟩ := (HP3.out) (by rw [List.length_map]; omega)
        have HCS := Lib.hid hcs
        have hi : (S.map Brd.bq)[k]? = some (S[k].bq) := by rw [List.getElem?_map, List.getElem?_eq_getElem hlt]; rfl
        have dn := fun (o : Nat) (u : Value) (h : w1.cell? ⟨b, o, none⟩ = some u) => ((hw.cell (p := ⟨b, o, none⟩) hblt).trans h)
        have c0 := dn _ _ (by simpa using hcs k _ hi 0 _ rfl)
        have c1 := dn _ _ (hcs k _ hi 1 _ rfl)
        have c2' := dn _ _ (hcs k _ hi 2 _ rfl)
        have c3' := dn _ _ (hcs k _ hi 3 _ rfl)
        obtain ⟨A9, c9, h9, h91, h92, h93⟩ := HVS.out _ (List.getElem_mem hlt)
        have hy : (S.map Brd.ab)[k]? = some S[k].ab := by rw [List.getElem?_map, List.getElem?_eq_getElem hlt]; rfl
        have HHL := Lib.hid (HHOLE.out S[k].ab (by rw [← HAB.out]; exact List.mem_map.2 ⟨_, List.getElem_mem hlt, rfl⟩))
        have HFT := Lib.hid (flat_take hy)
        have HOUT := Lib.hid (fun j (hj : j < k) (x : AB) (hx : (S.map Brd.ab)[j]? = some x) => HBEH.out j k x S[k].ab (by rw [← HAB.out]; exact hx) (by rw [← HAB.out]; exact hy) hj)
        have HPC := Lib.hid (fun j i => pre_count hy j i)
        have H93 := Lib.hid h93
        clear hi hcs hy hw dn h93
        generalize S[k] = r at *
        obtain ⟨rb, ya, yb, yc, yh, ys⟩ := r
        simp only [Brd.bq] at c0 c1 c2' c3'
        simp only [Brd.ab] at HHL HFT HOUT HPC
        simp only at h9 h91 H93
        rw [h9] at c3'
        have h92' : c9 ≤ 9223372036854775807 := h92
        clear h9 h92
        go_wp2_with fail
        obtain ⟨w8, rfl⟩ : ∃ w8, w8 = wr := ⟨wr, rfl⟩
        go_loopw [47] (fun i wx => ∃ j : Nat, j ≤ ys.length ∧ i = .int .i64 j ∧ wx.ownsRow w1.heap.size 3 1 (.slice (some ⟨w1.heap.size, 0, none⟩) t.length t.length) t.length ((drT t.length (((S.map Brd.ab).take k).flatMap (·.hs) ++ ys.take j)).map (Value.int .i64)) ∧ wx.cell? ⟨w8.heap.size, 0, none⟩ = some (.int .i64 ya) ∧ wx.cell? ⟨w8.heap.size, 1, none⟩ = some (.int .i64 yb) ∧ w8.heap.size < wx.heap.size ∧ Below w1.heap.size w1 wx) (fun i _ => ys.length - (intOf i).toNat)
        case atStart => exact ⟨0, Nat.zero_le _, rfl, by rw [List.take_zero, List.append_nil]; exact HO.out.alloc _, alloc_new_cell w8 _ _ 0 rfl, alloc_new_cell w8 _ _ 1 rfl, by simp, HW.out.alloc zw _⟩
        case round =>
          obtain ⟨j, hj, rfl, ho, q0, q1, hl8, hw⟩ := hrel
          have HOX := Lib.hid ho
          have HWX := Lib.hid hw
          have zx := hw.size
          have hjz : (0 : Int) ≤ (j : Int) := by omega
          by_cases hjl : j < ys.length
          · obtain ⟨g9, rfl, hg9, hg9l, hc9⟩ := H93.out (by omega)
            have d0 := ((hw.cell (p := ⟨g9, j, none⟩) hg9l).trans (hc9 j _ (nat_cell hjl)))
            obtain ⟨e1, e2⟩ := HHL.out ys[j] (List.getElem_mem hjl)
            have htk : ys.take (j + 1) = ys.take j ++ [ys[j]] := by rw [List.take_add_one, List.getElem?_eq_getElem hjl]; rfl
            have HTK := Lib.hid htk
            obtain ⟨b3, off3, rfl, hb3, hc3'⟩ := (HD.out.below (HB1.out.trans (hw.mono z1))) (by omega)
            have f0 := by simpa using hc3' ys[j] _ e2 0 _ rfl
            have f1 := hc3' ys[j] _ e2 1 _ rfl
            clear htk hc9 hc3' e2 hw
            generalize ys[j] = i at *
            have hg := own_cellC (j := i) (v := .int .i64 (((((S.map Brd.ab).take k).flatMap (·.hs) ++ ys.take j).count i : Nat) : Int)) ho (by rw [List.getElem?_map, drT_get e1]; rfl)
            have HST := Lib.hid (fun q => by
              have hst := own_setC (j := i) (own_drewN ho q) (.int .i64 (((((S.map Brd.ab).take k).flatMap (·.hs) ++ ys.take j).count i : Nat) + 1 : Int))
              rw [← List.map_set, drT_step e1, List.append_assoc, ← HTK.out] at hst
              exact hst)
            obtain ⟨hg1, hg2⟩ := hg
            have hcnt : (((S.map Brd.ab).take k).flatMap (·.hs) ++ ys.take j).count i ≤ 1 := by
              have h1 := HPC.out j i
              rw [HAB.out, HONCE.out i e1] at h1
              rw [HAB.out]
              exact h1
            clear ho
            generalize (((S.map Brd.ab).take k).flatMap (·.hs) ++ ys.take j).count i = v at *
            have y2 : IntKind.i64.wrap ((v : Int) + 1) = (v : Int) + 1 := IntWalk.i64_in _ (by omega)
            have y4 : (0 : Int) ≤ (i : Int) := by omega
            have y5 : (i : Int) < (t.length : Int) := by omega
            have x1 : decide ((i : Int) < 0) = false := decide_eq_false (by omega)
            have x2 : decide ((t.length : Int) ≤ (i : Int)) = false := decide_eq_false (by omega)
            have x3 : ¬ (t.length : Int) ≤ (i : Int) := by omega
            have x4 : ¬ (i : Int) < 0 := by omega
            go_wp2_with fail
            go_quiet (fail)
            go_wp2_with fail
            go_roundw
            case rel =>
              refine ⟨j + 1, by omega, by go_num, HST.out _, ?_, ?_, by simp; omega, (below_drewN HWX.out _).trans (below_gb (gb_set (p := ⟨w1.heap.size, i, none⟩) (gb_refl _ (some w1.heap.size)) (.inl rfl) _) (by simpa using HWX.out.size) (fun g e => by cases e; exact Nat.le_refl _))⟩
              · rw [World.cell?_setCell_far _ _ _ _ (show w1.heap.size ≠ w8.heap.size by omega)]
                exact q0
              · rw [World.cell?_setCell_far _ _ _ _ (show w1.heap.size ≠ w8.heap.size by omega)]
                exact q1
            case measure => simp [intOf]; omega
          · obtain rfl : j = ys.length := by omega
            have HON := Lib.hid (show wr.ownsRow w1.heap.size 3 1 (.slice (some ⟨w1.heap.size, 0, none⟩) t.length t.length) t.length ((drT t.length (((S.map Brd.ab).take (k + 1)).flatMap (·.hs))).map (Value.int .i64)) by
              rw [HFT.out]
              rw [List.take_length] at ho
              exact ho)
            clear ho hw H93 HPC HHL HFT c0 c1 c2' c3' HOX
            have hkS : (k : Int) ≤ (S.length : Int) := by omega
            have hkc : k ≤ cp := by omega
            go_wp2_with fail
            go_loopw [82] (fun i wx => ∃ j : Nat, j ≤ k ∧ i = .int .i64 j ∧ wx.ownsRow w1.heap.size 3 1 (.slice (some ⟨w1.heap.size, 0, none⟩) t.length t.length) t.length ((drT t.length (((S.map Brd.ab).take (k + 1)).flatMap (·.hs))).map (Value.int .i64)) ∧ wx.cell? ⟨w8.heap.size, 0, none⟩ = some (.int .i64 ya) ∧ wx.cell? ⟨w8.heap.size, 1, none⟩ = some (.int .i64 yb) ∧ w8.heap.size < wx.heap.size ∧ Below w1.heap.size w1 wx) (fun i _ => k - (intOf i).toNat)
            case atStart => exact ⟨0, Nat.zero_le _, rfl, HON.out, q0, q1, hl8, HWX.out⟩
            case round =>
              clear HON HWX q0 q1 hl8 zx hjz hjl
              obtain ⟨j, hj, rfl, ho, q0, q1, hl8, hw⟩ := hrel
              have HON := Lib.hid ho
              have HWX := Lib.hid hw
              have zx := hw.size
              have hjz : (0 : Int) ≤ (j : Int) := by omega
              have n1 : ¬ w8.heap.size = wr.heap.size := by omega
              have n2 : ¬ wr.heap.size = w8.heap.size := by omega
              clear ho
              by_cases hjk : j < k
              · have hjS : j < S.length := by omega
                have hi : (S.map Brd.bq)[j]? = some (S[j].bq) := by rw [List.getElem?_map, List.getElem?_eq_getElem hjS]; rfl
                have dn := fun (o : Nat) (u : Value) (h : w1.cell? ⟨b, o, none⟩ = some u) => ((hw.cell (p := ⟨b, o, none⟩) hblt).trans h)
                have c0 := dn _ _ (by simpa using HCS.out j _ hi 0 _ rfl)
                have c1 := dn _ _ (HCS.out j _ hi 1 _ rfl)
                have c2' := dn _ _ (HCS.out j _ hi 2 _ rfl)
                have c3' := dn _ _ (HCS.out j _ hi 3 _ rfl)
                obtain ⟨A7, c7, h7, -⟩ := HVS.out _ (List.getElem_mem hjS)
                have hno := HOUT.out j hjk S[j].ab (by rw [List.getElem?_map, List.getElem?_eq_getElem hjS]; rfl)
                clear hi dn hw
                generalize S[j] = r7 at *
                obtain ⟨rb7, xa, xb, xc, xh, xs⟩ := r7
                simp only [Brd.bq] at c0 c1 c2' c3'
                simp only [Brd.ab] at hno
                simp only at h7
                rw [h7] at c3'
                clear h7
                by_cases hxa : xa ≤ ya
                · have hxb : ¬ yb ≤ xb := fun e => hno ⟨hxa, e⟩
                  clear hno
                  go_wp2_with fail
                  go_roundw
                  case rel => exact ⟨j + 1, by omega, by go_num, HON.out.alloc _, by simp [go_sem, q0, n1, n2, hl8], by simp [go_sem, q1, n1, n2, hl8], by simp; omega, HWX.out.alloc zx _⟩
                  case measure => simp [intOf]; omega
                · clear hno
                  go_wp2_with fail
                  go_roundw
                  case rel => exact ⟨j + 1, by omega, by go_num, HON.out.alloc _, by simp [go_sem, q0, n1, n2, hl8], by simp [go_sem, q1, n1, n2, hl8], by simp; omega, HWX.out.alloc zx _⟩
                  case measure => simp [intOf]; omega
              · obtain rfl : j = k := by omega
                go_wp2_with fail
                go_roundw
                case rel => exact ⟨j + 1, by omega, by go_num, HON.out, HWX.out⟩
                case measure => simp [intOf]; omega
      · obtain rfl : k = S.length := by omega
        have HALL := Lib.hid (fun j (hj : j < t.length) => show (drT t.length (((S.map Brd.ab).take S.length).flatMap (·.hs)))[j]? = some 1 by
          rw [drT_get hj, List.take_of_length_le (by simp), HAB.out, HONCE.out j hj]
          rfl)
        have ho := HO.out
        generalize drT t.length (((S.map Brd.ab).take S.length).flatMap (·.hs)) = D at *
        clear HO hw
        go_wp2_with fail
        go_loopw [102] (fun i wx => ∃ j : Nat, j ≤ t.length ∧ i = .int .i64 j ∧ wx.ownsRow w1.heap.size 3 1 (.slice (some ⟨w1.heap.size, 0, none⟩) t.length t.length) t.length (D.map (Value.int .i64)) ∧ Below w1.heap.size w1 wx) (fun i _ => t.length - (intOf i).toNat)
        case atStart => exact ⟨0, Nat.zero_le _, rfl, ho, HW.out⟩
        case round =>
          obtain ⟨j, hj, rfl, ho, hw⟩ := hrel
          have HON := Lib.hid ho
          have HWX := Lib.hid hw
          have zx := hw.size
          have hjz : (0 : Int) ≤ (j : Int) := by omega
          by_cases hjl : j < t.length
          · obtain ⟨g1, g2⟩ := own_cellC (j := j) (v := .int .i64 1) ho (by rw [List.getElem?_map, HALL.out j hjl]; rfl)
            clear ho hw
            go_wp2_with fail
            go_roundw
            case rel => exact ⟨j + 1, by omega, by go_num, HON.out, HWX.out⟩
            case measure => simp [intOf]; omega
          · obtain rfl : j = t.length := by omega
            have B1 := Lib.hid (HB1.out.trans (hw.mono z1))
            obtain ⟨z, hz1, hz2, hz3, hz4⟩ := HLAST.out
            have hTl : (pressL R t).length = S.length := by rw [← HAB.out, List.length_map]
            rw [← HAB.out, List.length_map] at hz1
            rw [hTl] at hz2
            obtain ⟨m, hm⟩ : ∃ m, S.length = m + 1 := ⟨S.length - 1, by omega⟩
            have hmS : m < S.length := by omega
            rw [show S.length - 1 = m by omega, List.getElem?_map, List.getElem?_eq_getElem hmS] at hz1
            have hzz : S[m].ab = z := Option.some.inj hz1
            have hza : S[m].a = 1 := by rw [← hz3, ← hzz]; rfl
            have hzb : S[m].b = n := by rw [← hz4, ← hzz]; rfl
            obtain ⟨b, off, rfl, hblt, hcs⟩ := (HP3.out) (by rw [List.length_map]; omega)
            have hi : (S.map Brd.bq)[m]? = some (S[m].bq) := by rw [List.getElem?_map, List.getElem?_eq_getElem hmS]; rfl
            have C0 := Lib.hid (show w1.cell? ⟨b, off + m * 4, none⟩ = some (.int .i64 1) by rw [← hza]; have := hcs m _ hi 0 _ rfl; simpa [Brd.bq] using this)
            have C9 := Lib.hid (show w1.cell? ⟨b, off + m * 4 + 1, none⟩ = some (.int .i64 (n : Nat)) by rw [← hzb]; exact hcs m _ hi 1 _ rfl)
            clear hz1 hz2 hz3 hz4 hzz hza hzb hcs hi ho hTl
            have y1 : IntKind.i64.wrap ((S.length : Int) - 1) = (m : Int) := by rw [hm]; exact (IntWalk.i64_in _ (by omega)).trans (by omega)
            have y2 : (m : Int) < (S.length : Int) := by omega
            have y3 : (0 : Int) ≤ (m : Int) := by omega
            have y4 : (0 : Int) < (S.length : Int) := by omega
            have y5 : 0 < S.length := by omega
            clear hm
            go_wp2_with fail
            refine (C2.out _ (HS.out.below B1.out) (HD.out.below B1.out)).mono ?_
            rintro e w5 ⟨g5, rfl, hown5, hb⟩
            have B5 := Lib.hid (B1.out.trans (hb.mono B1.out.size))
            have B51 := hw.trans (hb.mono zx)
            have k0 := (B51.cell (p := ⟨b, off + m * 4, none⟩) hblt).trans C0.out
            have k1 := (B51.cell (p := ⟨b, off + m * 4 + 1, none⟩) hblt).trans C9.out
            rw [HNN.out]
            clear hb hown5 hw B51
            go_wp2_with (go_at_call 20; refine (CW.out _).mono ?_; rintro e w9 ⟨rfl, hb⟩; have B9 := Lib.hid (B5.out.trans (hb.mono B5.out.size)); clear hb)
            go_ret
            exact ⟨rfl, B9.out⟩
  · have C1 := Lib.hid (presses_no (c := c) (c2 := c2) h A3 t c3 (by omega) hd h0)
    generalize pressedF l s t = F at *
    have hd1 : (F == 0) = false := by simpa using h0
    have hd2 : (F != 0) = true := by simpa using h0
    clear h hd h0 htr
    go_enter Try.func10, Try.ntmps10
    go_wp2_with fail
    refine C1.out.mono ?_
    rintro e w1 ⟨rfl, hb⟩
    have B1 := Lib.hid hb
    clear hb
    go_wp2_with fail
    refine (CW.out _).mono ?_
    rintro e w9 ⟨rfl, hb⟩
    have B9 := Lib.hid (B1.out.trans (hb.mono B1.out.size))
    clear hb
    go_wp2_with fail
    go_ret
    exact ⟨rfl, B9.out⟩
end
end Go.Proofs.Ytnjcahdelcdcfaa

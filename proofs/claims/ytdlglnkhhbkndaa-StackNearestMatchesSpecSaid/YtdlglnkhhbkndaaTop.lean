/- A layer of glue is laid on top of those below (onTop), whatever the world. -/
import Derived.Test.YtdlglnkhhbkndaaRep
import Derived.Test.YtdlglnkhhbkndaaTopP
import Derived.Test.YtdlglnkhhbkndaaPiled
namespace Go.Proofs.Ytdlglnkhhbkndaa
open Go.RowKit Go.Maps
set_option linter.unusedSimpArgs false
set_option linter.unusedVariables false
set_option maxRecDepth 100000

theorem infoU8 : (Try.prog.info? 5).map (fun i => (i.zero, i.size, i.bytes)) = some (some (.int .u8 0), 1, 1) := by kernel_rfl
theorem made_u8 (n : Nat) : (madeCells (Value.int .u8 0).cells (n * 1)).toList = (List.replicate n (0 : Nat)).map (fun k => Value.int .u8 (k : Nat)) := by
  rw [List.map_replicate, Nat.mul_one]
  simp [madeCells, Value.cells]
  rw [show (fun x : Nat => [Value.int IntKind.u8 0][x % 1]?.getD default) = fun _ => Value.int .u8 0 from by funext x; simp [Nat.mod_one], List.map_const', List.length_range]
abbrev u8V (k : Nat) : Value := .int .u8 (k : Nat)
set_option maxHeartbeats 4000000 in
theorem onTop_any (A : Option Addr) (F : List Int) (c : Nat) (g m : Nat) (w : World) (hm : 0 < m) (hm8 : m ≤ 8) (hF0 : 0 < F.length) (hL : F.length + (m - 1) * g ≤ 1000000000) (hF : ∀ (x : Nat) (v : Int), F[x]? = some v → 0 ≤ v ∧ v ≤ neverN) (hd : RdG 1 (fun v => [Value.int .i64 v]) w A F) :
    Calls Try.prog 92 #[.slice A F.length c, .int .i64 (g : Nat), .int .i64 (m : Nat)] w fun e w' => ∃ (G1 G2 : Nat) (F' : List Int) (C : List Nat), e = .returned (.tuple #[.slice (some ⟨G1, 0, none⟩) F'.length F'.length, .slice (some ⟨G2, 0, none⟩) C.length C.length]) ∧ TopOk F g m F' C ∧ (∀ (x n : Nat), C[x]? = some n → n < m) ∧
      w'.ownsRow w.heap.size 3 1 (.slice (some ⟨G1, 0, none⟩) F'.length F'.length) F'.length (F'.map (Value.int .i64)) ∧ w'.ownsRow w.heap.size 5 1 (.slice (some ⟨G2, 0, none⟩) C.length C.length) C.length (C.map u8V) ∧ Below w.heap.size w w' := by
  obtain ⟨i1, hi1, hy0, hy1, hy2⟩ := info_parts infoU8
  have HD := Lib.hid hd
  have HF := Lib.hid hF
  obtain ⟨m1, rfl⟩ : ∃ m1, m = m1 + 1 := ⟨m - 1, by omega⟩
  rw [Nat.add_sub_cancel] at hL
  have HST := Lib.hid (top_start F g (m1 + 1) hm)
  rw [Nat.add_sub_cancel] at HST
  obtain ⟨mg, hmg⟩ : ∃ x, x = m1 * g := ⟨_, rfl⟩
  have HMG := Lib.hid hmg
  rw [← hmg] at hL HST
  have hmul : (m1 : Int) * (g : Int) = (mg : Int) := by rw [hmg, Int.natCast_mul]
  obtain ⟨L, hLL⟩ : ∃ x, x = F.length + mg := ⟨_, rfl⟩
  rw [← hLL] at hL HST
  have y1 : IntKind.i64.wrap (((m1 + 1 : Nat) : Int) - 1) = (m1 : Int) := (IntWalk.i64_in _ (by omega)).trans (by omega)
  have y1' : IntKind.i64.wrap ((m1 : Int) + 1 - 1) = (m1 : Int) := (IntWalk.i64_in _ (by omega)).trans (by omega)
  have y2 : IntKind.i64.wrap ((m1 : Int) * (g : Int)) = (mg : Int) := (IntWalk.i64_in _ (by rw [hmul]; omega)).trans hmul
  have y3 : IntKind.i64.wrap ((F.length : Int) + (mg : Int)) = (L : Int) := (IntWalk.i64_in _ (by omega)).trans (by omega)
  have hL0 : 0 < L := by omega
  have hmgb : mg ≤ 1000000000 := by omega
  have hFlb : F.length ≤ 1000000000 := by omega
  have CR := Lib.hid (show Calls Try.prog 101 #[.slice (some ⟨w.heap.size, 0, none⟩) 1 1, .int .i64 (L : Nat)] (w.alloc (.cells #[.int .i64 1073741824] 3)) (fun e w' => e = .returned (.slice (some ⟨w.heap.size + 1, 0, none⟩) L L) ∧ w'.ownsRow (w.heap.size + 1) 3 1 (.slice (some ⟨w.heap.size + 1, 0, none⟩) L L) L ((List.replicate L neverN).map (Value.int .i64)) ∧ Below (w.heap.size + 1) (w.alloc (.cells #[.int .i64 1073741824] 3)) w') by
    have := repeat_any w.heap.size neverN L (w.alloc (.cells #[.int .i64 1073741824] 3)) hL hL0 (by simp) (anc9 w _ _ 0 rfl)
    rw [World.size_alloc] at this
    exact this)
  have HLL := Lib.hid hLL
  clear hd hF hmg hmul hLL
  go_enter Try.func92, Try.ntmps92
  go_wp2_with (first
    | (go_at_call 101; refine CR.out.mono ?_; rintro e w1 ⟨rfl, ho, hb⟩; have HO1 := Lib.hid ho; have B1 := Lib.hid (((Below.refl w.heap.size w).alloc (Nat.le_refl _) _).trans (hb.mono (Nat.le_succ _))); have z1 : w.heap.size + 1 < w1.heap.size := (ho.lt _ rfl).2; clear ho hb)
    | (at_make; refine wpList_make_full _ rfl (.tmp 22) (.tmp 22) 126 rfl w1.heap.size 5 i1 (.int .u8 0) 1 Try.underlying126 hi1 hy0 hy1 .i64 .i64 (L : Int) (L : Int) L rfl rfl rfl rfl ?m1 ?m2 ?m3 ?_; (case m1 => rw [hy2]; omega); (case m2 => simp only [maxLen]; omega); (case m3 => omega); intro w2 hown hgr; have HO2 := Lib.hid hown; have BG := Lib.hid ((Below.refl w1.heap.size w1).grown hgr (Nat.le_refl _) (fun j hj => by cases hj)); have HO1' := Lib.hid (own_below HO1.out BG.out); clear hown hgr))
  have z2 := BG.out.size
  have BW2 := Lib.hid (B1.out.trans (BG.out.mono (by omega)))
  have HOA := Lib.hid (own_lower HO1'.out (show w.heap.size ≤ w.heap.size + 1 by omega))
  have HOB := Lib.hid (own_lower HO2.out (show w.heap.size ≤ w1.heap.size by omega))
  rw [made_u8] at HOB
  clear HO1 HO1' HO2 B1 BG CR
  have nG1 : ¬ w.heap.size + 1 = w1.heap.size := by omega
  generalize hG1 : w.heap.size + 1 = G1 at *
  generalize hG2 : w1.heap.size = G2 at *
  have HG1 := Lib.hid hG1
  clear hG1 hG2
  go_loopw [25] (fun av wr => ∃ (a : Nat) (F' : List Int) (C : List Nat), a ≤ m1 + 1 ∧ av = .int .i64 (a : Nat) ∧ TopGo F g (m1 + 1) a 0 F' C ∧ wr.ownsRow w.heap.size 3 1 (.slice (some ⟨G1, 0, none⟩) L L) L (F'.map (Value.int .i64)) ∧ wr.ownsRow w.heap.size 5 1 (.slice (some ⟨G2, 0, none⟩) L L) L (C.map u8V) ∧ Below w.heap.size w wr) (fun av _ => m1 + 1 - (intOf av).toNat)
  case atStart => exact ⟨0, _, _, Nat.zero_le _, rfl, HST.out, HOA.out, HOB.out, BW2.out⟩
  case round =>
    obtain ⟨a, F1, C1, ha, rfl, hg, hoA, hoB, hw⟩ := hrel
    have HGO := Lib.hid hg
    have HA := Lib.hid hoA
    have HB := Lib.hid hoB
    have HW := Lib.hid hw
    have zw := hw.size
    have haz : (0 : Int) ≤ (a : Int) := by omega
    clear hg hoA hoB hw
    by_cases hlt : a < m1 + 1
    · obtain ⟨ag, hag⟩ : ∃ x, x = a * g := ⟨_, rfl⟩
      have hagl : ag ≤ mg := by
        rw [hag, HMG.out]
        exact Nat.mul_le_mul_right g (by omega)
      have hage : (a : Int) * (g : Int) = (ag : Int) := by rw [hag, Int.natCast_mul]
      have v1 : IntKind.i64.wrap ((a : Int) * (g : Int)) = (ag : Int) := (IntWalk.i64_in _ (by rw [hage]; omega)).trans hage
      have v2 : IntKind.u8.wrap (a : Int) = (a : Int) := IntWalk.u8_in _ (by omega)
      have HAG := Lib.hid hag
      have hlt' : (a : Int) < (m1 : Int) + 1 := by omega
      clear hag hage
      go_wp2_with fail
      go_loopw [30] (fun bv wx => ∃ (b : Nat) (F' : List Int) (C : List Nat), b ≤ F.length ∧ bv = .int .i64 (b : Nat) ∧ TopGo F g (m1 + 1) a b F' C ∧ wx.ownsRow w.heap.size 3 1 (.slice (some ⟨G1, 0, none⟩) L L) L (F'.map (Value.int .i64)) ∧ wx.ownsRow w.heap.size 5 1 (.slice (some ⟨G2, 0, none⟩) L L) L (C.map u8V) ∧ Below w.heap.size w wx) (fun bv _ => F.length - (intOf bv).toNat)
      case atStart => exact ⟨0, F1, C1, Nat.zero_le _, rfl, HGO.out, HA.out, HB.out, HW.out⟩
      case round =>
        obtain ⟨b, F2, C2, hb, rfl, hg, hoA, hoB, hw⟩ := hrel
        have HGX := Lib.hid hg
        have HAX := Lib.hid hoA
        have HBX := Lib.hid hoB
        have HWX := Lib.hid hw
        have zx := hw.size
        have hbz : (0 : Int) ≤ (b : Int) := by omega
        by_cases hbl : b < F.length
        · obtain ⟨bb, off, rfl, hblt, hcs⟩ := (HD.out.below hw) (by omega)
          have hi : F[b]? = some F[b] := List.getElem?_eq_getElem hbl
          have c0 := by simpa using hcs b _ hi 0 _ rfl
          have HI := Lib.hid hi
          have hk0 := HF.out _ _ hi
          clear hi hcs hw
          generalize F[b] = k at *
          obtain ⟨p, hp⟩ : ∃ x, x = b + ag := ⟨_, rfl⟩
          have hpL : p < L := by rw [HLL.out]; omega
          have hl1 : p < F2.length := by rw [hg.len, Nat.add_sub_cancel, ← HMG.out, ← HLL.out]; exact hpL
          have hl2 : p < C2.length := by rw [hg.clen]; exact hl1
          have hv : F2[p]? = some F2[p] := List.getElem?_eq_getElem hl1
          have hcv : C2[p]? = some C2[p] := List.getElem?_eq_getElem hl2
          have hv0 := hg.lo _ _ hv
          obtain ⟨f1, f2⟩ := own_cellC (j := p) (v := .int .i64 F2[p]) hoA (by rw [List.getElem?_map, hv]; rfl)
          obtain ⟨f3, f4⟩ := own_cellC (j := p) (v := u8V C2[p]) hoB (by rw [List.getElem?_map, hcv]; rfl)
          have HV := Lib.hid hv
          have v3 : IntKind.i64.wrap ((b : Int) + (ag : Int)) = (p : Int) := (IntWalk.i64_in _ (by omega)).trans (by omega)
          have v4 : IntKind.i64.wrap (k + (a : Int)) = k + (a : Int) := IntWalk.i64_in _ (by unfold neverN at hk0; omega)
          have v5 : (0 : Int) ≤ (p : Int) := by omega
          have v6 : (p : Int) < (L : Int) := by omega
          have HP := Lib.hid hp
          have HPE := Lib.hid (show b + a * g = p by rw [hp, HAG.out])
          clear hp hv hcv hg hoA hoB
          generalize F2[p] = v at *
          generalize C2[p] = c9 at *
          clear hl1 hl2
          by_cases hkv : k + (a : Int) < v
          · have hkv' : decide (k + (a : Int) < v) = true := decide_eq_true hkv
            have HN := Lib.hid (top_put HGX.out HF.out hlt HI.out (by rw [HPE.out]; exact HV.out) hkv)
            rw [HPE.out] at HN
            go_wp2_with fail
            go_roundw
            case rel =>
              have g1 := fun x => gb_set (p := ⟨G1, p, none⟩) (gb_refl wr (some G1)) (.inl rfl) x
              have hA1 := own_setC (j := p) HAX.out (.int .i64 (k + (a : Int)))
              have hB1 := own_grown HBX.out (g1 (.int .i64 (k + (a : Int)))) (fun g e e' => by cases e; exact nG1 (Option.some.inj e'))
              have g2 := fun x => gb_set (p := ⟨G2, p, none⟩) (gb_refl (wr.setCell ⟨G1, p, none⟩ (.int .i64 (k + (a : Int)))) (some G2)) (.inl rfl) x
              have hB2 := own_setC (j := p) hB1 (u8V a)
              have hA2 := own_grown hA1 (g2 (u8V a)) (fun g e e' => by cases e; exact nG1 (Option.some.inj e').symm)
              rw [← List.map_set] at hA2
              have e8 : (C2.map u8V).set p (u8V a) = (C2.set p a).map u8V := by rw [List.map_set]
              rw [e8] at hB2
              have hW1 := HWX.out.trans (below_gb (g1 (.int .i64 (k + (a : Int)))) zx (fun g e => by cases e; exact (HAX.out.lt _ rfl).1))
              have hW2 := hW1.trans (below_gb (g2 (u8V a)) hW1.size (fun g e => by cases e; exact (HBX.out.lt _ rfl).1))
              exact ⟨b + 1, _, _, by omega, by go_num, HN.out, hA2, hB2, hW2⟩
            case measure => (simp [intOf] <;> omega)
          · have hkv' : decide (k + (a : Int) < v) = false := decide_eq_false hkv
            have HN := Lib.hid (top_keep HGX.out HI.out (by rw [HPE.out]; exact HV.out) hkv)
            go_wp2_with fail
            go_roundw
            case rel => exact ⟨b + 1, F2, C2, by omega, by go_num, HN.out, HAX.out, HBX.out, HWX.out⟩
            case measure => (simp [intOf] <;> omega)
        · obtain rfl : b = F.length := by omega
          have HN := Lib.hid (top_row HGX.out)
          clear hw hg
          go_wp2_with fail
          go_roundw
          case rel => exact ⟨a + 1, F2, C2, by omega, by go_num, HN.out, HAX.out, HBX.out, HWX.out⟩
          case measure => (simp [intOf] <;> omega)
    · obtain rfl : a = m1 + 1 := by omega
      have HN := Lib.hid (top_end HGO.out)
      have hl1 : F1.length = L := by rw [HGO.out.len, Nat.add_sub_cancel, ← HMG.out, ← HLL.out]
      have hl2 : C1.length = L := by rw [HGO.out.clen, hl1]
      have HL1 := Lib.hid hl1
      have HL2 := Lib.hid hl2
      clear hl1 hl2
      go_wp2_with fail
      go_ret2
      refine ⟨G1, G2, F1, C1, by rw [HL1.out, HL2.out]; rfl, HN.out, HGO.out.cm, ?_, ?_, HW.out⟩
      · rw [HL1.out]; exact HA.out
      · rw [HL2.out]; exact HB.out
end Go.Proofs.Ytdlglnkhhbkndaa

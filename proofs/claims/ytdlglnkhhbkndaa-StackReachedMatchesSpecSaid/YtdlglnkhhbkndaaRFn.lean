/- Several texts in one: RMts, RStk, RFns. -/
import Derived.Test.YtdlglnkhhbkndaaTWordR
import Derived.Test.YtdlglnkhhbkndaaMts
import Derived.Test.YtdlglnkhhbkndaaStkP
import Derived.Deep.AppendLies
/- Materials: what the reference of chapter 4 says of them, whatever the world. -/
namespace Go.Proofs.Ytdlglnkhhbkndaa
open Go.RowKit
set_option linter.unusedSimpArgs false
set_option linter.unusedVariables false
set_option maxRecDepth 100000

set_option maxHeartbeats 4000000 in
theorem rCheckMaterials_any (A : Option Addr) (l : List Mat) (c : Nat) (w : World) (hl : l.length ≤ 140737488355328) (hn : ∀ x ∈ l, x.name.size ≤ maxLen) (h : RdG 4 Mat.cs w A l) :
    Calls Try.prog 17 #[.slice A l.length c] w fun e w' => e = .returned (.int .i64 (matsF l)) ∧ Below w.heap.size w w' := by
  have H := Lib.hid h
  have HNM := Lib.hid hn
  clear h hn
  by_cases h2 : 50 < l.length
  · have HG := Lib.hid (show matsF l = 2 from if_pos h2)
    go_enter Try.func17, Try.ntmps17
    go_wp2_with fail
    go_ret
    exact ⟨by rw [HG.out]; rfl, by (repeat' (first | (with_reducible exact Below.refl _ _) | (with_reducible assumption) | (with_reducible refine Below.alloc ?_ ?_ _) | (with_reducible refine Below.drew ?_) | (with_reducible refine below_drewN ?_ _) | (with_reducible refine Below.setCell ?_ ?_ _) | (with_reducible exact Nat.le_refl _) | omega | (simp only [World.size_alloc, World.size_setCell, World.size_drew]; omega) | (simp; omega) | (simp; done)))⟩
  · have HG := Lib.hid (show matsF l = matsGo [] l from if_neg h2)
    have h2b : decide (50 < (l.length : Int)) = false := by simp; omega
    go_enter Try.func17, Try.ntmps17
    go_wp2_with fail
    go_loopw [10] (fun i wr => ∃ k : Nat, k ≤ l.length ∧ i = .int .i64 k ∧ matsGo [] l = matsGo ((l.take k).getLast?.toList.map Mat.name) (l.drop k) ∧ Below w.heap.size w wr) (fun i _ => l.length - (intOf i).toNat)
    case atStart => exact ⟨0, Nat.zero_le _, rfl, rfl, Below.refl _ _⟩
    case round =>
      obtain ⟨k, hk, rfl, hf, hw⟩ := hrel
      have HF := Lib.hid hf
      have zw := hw.size
      clear hf
      have hkz : (0 : Int) ≤ (k : Int) := by omega
      by_cases hlt : k < l.length
      · obtain ⟨b, off, rfl, hblt, hcs⟩ := (H.out.below hw) (by omega)
        have hi : l[k]? = some l[k] := List.getElem?_eq_getElem hlt
        have c0 := by simpa using hcs k _ hi 0 _ rfl
        have c1 := hcs k _ hi 1 _ rfl
        have c2 := hcs k _ hi 2 _ rfl
        have c3 := hcs k _ hi 3 _ rfl
        have hnm := HNM.out _ (List.getElem_mem hlt)
        have HCS := Lib.hid hcs
        have hd : l.drop k = l[k] :: l.drop (k + 1) := List.drop_eq_getElem_cons hlt
        have HD := Lib.hid hd
        have HI := Lib.hid hi
        clear hd hi hcs
        generalize l[k] = p at *
        have HBAD := Lib.hid (fun h => (HF.out.trans (HD.out ▸ matsGo_bad (p := p) h) : matsGo [] l = matF p))
        rcases matF_cases p with ⟨hwd, he⟩ | ⟨hwd, ⟨h1, he⟩ | ⟨h1, h2, he⟩ | ⟨h1, h2, ⟨h3, he⟩ | ⟨h3, h4, he⟩ | ⟨h3, h4, ⟨h5, he⟩ | ⟨h5, h6, he⟩ | ⟨h5, h6, he⟩⟩⟩⟩
        · have HN := Lib.hid ((HBAD.out (by rw [he]; decide)).trans he)
          have CW := Lib.hid (fun W => hwd ▸ rIsWord_any p.name W hnm)
          clear hwd he HBAD
          go_wp2_with fail
          refine (CW.out _).mono ?_
          rintro e w2 ⟨rfl, rfl⟩
          go_wp2_with fail
          go_ret
          exact ⟨by rw [HG.out, HN.out]; rfl, by (repeat' (first | (with_reducible exact Below.refl _ _) | (with_reducible assumption) | (with_reducible refine Below.alloc ?_ ?_ _) | (with_reducible refine Below.drew ?_) | (with_reducible refine below_drewN ?_ _) | (with_reducible refine Below.setCell ?_ ?_ _) | (with_reducible exact Nat.le_refl _) | omega | (simp only [World.size_alloc, World.size_setCell, World.size_drew]; omega) | (simp; omega) | (simp; done)))⟩
        · have HN := Lib.hid ((HBAD.out (by rw [he]; decide)).trans he)
          have CW := Lib.hid (fun W => hwd ▸ rIsWord_any p.name W hnm)
          have hK : (decide ((1 : Int) ≤ p.kind) && decide (p.kind ≤ 3)) = false := by simp; omega
          have CK := Lib.hid (fun (W : World) => hK ▸ withinR_any p.kind 1 3 W)
          clear hK
          clear hwd he HBAD
          go_wp2_with fail
          refine (CW.out _).mono ?_
          rintro e w2 ⟨rfl, rfl⟩
          go_wp2_with fail
          refine (CK.out _).mono ?_
          rintro e w2 ⟨rfl, rfl⟩
          go_wp2_with fail
          go_ret
          exact ⟨by rw [HG.out, HN.out]; rfl, by (repeat' (first | (with_reducible exact Below.refl _ _) | (with_reducible assumption) | (with_reducible refine Below.alloc ?_ ?_ _) | (with_reducible refine Below.drew ?_) | (with_reducible refine below_drewN ?_ _) | (with_reducible refine Below.setCell ?_ ?_ _) | (with_reducible exact Nat.le_refl _) | omega | (simp only [World.size_alloc, World.size_setCell, World.size_drew]; omega) | (simp; omega) | (simp; done)))⟩
        · have HN := Lib.hid ((HBAD.out (by rw [he]; decide)).trans he)
          have CW := Lib.hid (fun W => hwd ▸ rIsWord_any p.name W hnm)
          have hK : (decide ((1 : Int) ≤ p.kind) && decide (p.kind ≤ 3)) = false := by simp; omega
          have CK := Lib.hid (fun (W : World) => hK ▸ withinR_any p.kind 1 3 W)
          clear hK
          clear hwd he HBAD
          go_wp2_with fail
          refine (CW.out _).mono ?_
          rintro e w2 ⟨rfl, rfl⟩
          go_wp2_with fail
          refine (CK.out _).mono ?_
          rintro e w2 ⟨rfl, rfl⟩
          go_wp2_with fail
          go_ret
          exact ⟨by rw [HG.out, HN.out]; rfl, by (repeat' (first | (with_reducible exact Below.refl _ _) | (with_reducible assumption) | (with_reducible refine Below.alloc ?_ ?_ _) | (with_reducible refine Below.drew ?_) | (with_reducible refine below_drewN ?_ _) | (with_reducible refine Below.setCell ?_ ?_ _) | (with_reducible exact Nat.le_refl _) | omega | (simp only [World.size_alloc, World.size_setCell, World.size_drew]; omega) | (simp; omega) | (simp; done)))⟩
        · have HN := Lib.hid ((HBAD.out (by rw [he]; decide)).trans he)
          have CW := Lib.hid (fun W => hwd ▸ rIsWord_any p.name W hnm)
          have hK : (decide ((1 : Int) ≤ p.kind) && decide (p.kind ≤ 3)) = true := by simp; omega
          have CK := Lib.hid (fun (W : World) => hK ▸ withinR_any p.kind 1 3 W)
          clear hK
          have hT : (decide ((1 : Int) ≤ p.thick) && decide (p.thick ≤ 2000)) = false := by simp; omega
          have CT := Lib.hid (fun (W : World) => hT ▸ withinR_any p.thick 1 2000 W)
          clear hT
          clear hwd he HBAD
          go_wp2_with fail
          refine (CW.out _).mono ?_
          rintro e w2 ⟨rfl, rfl⟩
          go_wp2_with fail
          refine (CK.out _).mono ?_
          rintro e w2 ⟨rfl, rfl⟩
          go_wp2_with fail
          refine (CT.out _).mono ?_
          rintro e w2 ⟨rfl, rfl⟩
          go_wp2_with fail
          go_ret
          exact ⟨by rw [HG.out, HN.out]; rfl, by (repeat' (first | (with_reducible exact Below.refl _ _) | (with_reducible assumption) | (with_reducible refine Below.alloc ?_ ?_ _) | (with_reducible refine Below.drew ?_) | (with_reducible refine below_drewN ?_ _) | (with_reducible refine Below.setCell ?_ ?_ _) | (with_reducible exact Nat.le_refl _) | omega | (simp only [World.size_alloc, World.size_setCell, World.size_drew]; omega) | (simp; omega) | (simp; done)))⟩
        · have HN := Lib.hid ((HBAD.out (by rw [he]; decide)).trans he)
          have CW := Lib.hid (fun W => hwd ▸ rIsWord_any p.name W hnm)
          have hK : (decide ((1 : Int) ≤ p.kind) && decide (p.kind ≤ 3)) = true := by simp; omega
          have CK := Lib.hid (fun (W : World) => hK ▸ withinR_any p.kind 1 3 W)
          clear hK
          have hT : (decide ((1 : Int) ≤ p.thick) && decide (p.thick ≤ 2000)) = false := by simp; omega
          have CT := Lib.hid (fun (W : World) => hT ▸ withinR_any p.thick 1 2000 W)
          clear hT
          clear hwd he HBAD
          go_wp2_with fail
          refine (CW.out _).mono ?_
          rintro e w2 ⟨rfl, rfl⟩
          go_wp2_with fail
          refine (CK.out _).mono ?_
          rintro e w2 ⟨rfl, rfl⟩
          go_wp2_with fail
          refine (CT.out _).mono ?_
          rintro e w2 ⟨rfl, rfl⟩
          go_wp2_with fail
          go_ret
          exact ⟨by rw [HG.out, HN.out]; rfl, by (repeat' (first | (with_reducible exact Below.refl _ _) | (with_reducible assumption) | (with_reducible refine Below.alloc ?_ ?_ _) | (with_reducible refine Below.drew ?_) | (with_reducible refine below_drewN ?_ _) | (with_reducible refine Below.setCell ?_ ?_ _) | (with_reducible exact Nat.le_refl _) | omega | (simp only [World.size_alloc, World.size_setCell, World.size_drew]; omega) | (simp; omega) | (simp; done)))⟩
        · have HN := Lib.hid ((HBAD.out (by rw [he]; decide)).trans he)
          have CW := Lib.hid (fun W => hwd ▸ rIsWord_any p.name W hnm)
          have hK : (decide ((1 : Int) ≤ p.kind) && decide (p.kind ≤ 3)) = true := by simp; omega
          have CK := Lib.hid (fun (W : World) => hK ▸ withinR_any p.kind 1 3 W)
          clear hK
          have hT : (decide ((1 : Int) ≤ p.thick) && decide (p.thick ≤ 2000)) = true := by simp; omega
          have CT := Lib.hid (fun (W : World) => hT ▸ withinR_any p.thick 1 2000 W)
          clear hT
          have hG : (decide ((0 : Int) ≤ p.grow) && decide (p.grow ≤ 1000)) = false := by simp; omega
          have CG := Lib.hid (fun (W : World) => hG ▸ withinR_any p.grow 0 1000 W)
          clear hG
          clear hwd he HBAD
          go_wp2_with fail
          refine (CW.out _).mono ?_
          rintro e w2 ⟨rfl, rfl⟩
          go_wp2_with fail
          refine (CK.out _).mono ?_
          rintro e w2 ⟨rfl, rfl⟩
          go_wp2_with fail
          refine (CT.out _).mono ?_
          rintro e w2 ⟨rfl, rfl⟩
          go_wp2_with fail
          refine (CG.out _).mono ?_
          rintro e w2 ⟨rfl, rfl⟩
          go_wp2_with fail
          go_ret
          exact ⟨by rw [HG.out, HN.out]; rfl, by (repeat' (first | (with_reducible exact Below.refl _ _) | (with_reducible assumption) | (with_reducible refine Below.alloc ?_ ?_ _) | (with_reducible refine Below.drew ?_) | (with_reducible refine below_drewN ?_ _) | (with_reducible refine Below.setCell ?_ ?_ _) | (with_reducible exact Nat.le_refl _) | omega | (simp only [World.size_alloc, World.size_setCell, World.size_drew]; omega) | (simp; omega) | (simp; done)))⟩
        · have HN := Lib.hid ((HBAD.out (by rw [he]; decide)).trans he)
          have CW := Lib.hid (fun W => hwd ▸ rIsWord_any p.name W hnm)
          have hK : (decide ((1 : Int) ≤ p.kind) && decide (p.kind ≤ 3)) = true := by simp; omega
          have CK := Lib.hid (fun (W : World) => hK ▸ withinR_any p.kind 1 3 W)
          clear hK
          have hT : (decide ((1 : Int) ≤ p.thick) && decide (p.thick ≤ 2000)) = true := by simp; omega
          have CT := Lib.hid (fun (W : World) => hT ▸ withinR_any p.thick 1 2000 W)
          clear hT
          have hG : (decide ((0 : Int) ≤ p.grow) && decide (p.grow ≤ 1000)) = false := by simp; omega
          have CG := Lib.hid (fun (W : World) => hG ▸ withinR_any p.grow 0 1000 W)
          clear hG
          clear hwd he HBAD
          go_wp2_with fail
          refine (CW.out _).mono ?_
          rintro e w2 ⟨rfl, rfl⟩
          go_wp2_with fail
          refine (CK.out _).mono ?_
          rintro e w2 ⟨rfl, rfl⟩
          go_wp2_with fail
          refine (CT.out _).mono ?_
          rintro e w2 ⟨rfl, rfl⟩
          go_wp2_with fail
          refine (CG.out _).mono ?_
          rintro e w2 ⟨rfl, rfl⟩
          go_wp2_with fail
          go_ret
          exact ⟨by rw [HG.out, HN.out]; rfl, by (repeat' (first | (with_reducible exact Below.refl _ _) | (with_reducible assumption) | (with_reducible refine Below.alloc ?_ ?_ _) | (with_reducible refine Below.drew ?_) | (with_reducible refine below_drewN ?_ _) | (with_reducible refine Below.setCell ?_ ?_ _) | (with_reducible exact Nat.le_refl _) | omega | (simp only [World.size_alloc, World.size_setCell, World.size_drew]; omega) | (simp; omega) | (simp; done)))⟩
        · have CW := Lib.hid (fun W => hwd ▸ rIsWord_any p.name W hnm)
          have hK : (decide ((1 : Int) ≤ p.kind) && decide (p.kind ≤ 3)) = true := by simp; omega
          have CK := Lib.hid (fun (W : World) => hK ▸ withinR_any p.kind 1 3 W)
          clear hK
          have hT : (decide ((1 : Int) ≤ p.thick) && decide (p.thick ≤ 2000)) = true := by simp; omega
          have CT := Lib.hid (fun (W : World) => hT ▸ withinR_any p.thick 1 2000 W)
          clear hT
          have hG : (decide ((0 : Int) ≤ p.grow) && decide (p.grow ≤ 1000)) = true := by simp; omega
          have CG := Lib.hid (fun (W : World) => hG ▸ withinR_any p.grow 0 1000 W)
          clear hG
          have HB := Lib.hid he
          clear hwd he HBAD
          by_cases hz : k = 0
          · have hz1 : decide ((0 : Int) < (k : Int)) = false := by simp; omega
            have hz2 : decide (0 < k) = false := by simp; omega
            have HZ := Lib.hid (show (l.take k).getLast?.toList.map Mat.name = [] by rw [hz]; rfl)
            have HN := Lib.hid (show matsGo [] l = matsGo [p.name] (l.drop (k + 1)) by rw [HF.out, HD.out, HZ.out]; exact matsGo_go HB.out rfl)
            clear hz
            go_wp2_with fail
            refine (CW.out _).mono ?_
            rintro e w2 ⟨rfl, rfl⟩
            go_wp2_with fail
            refine (CK.out _).mono ?_
            rintro e w2 ⟨rfl, rfl⟩
            go_wp2_with fail
            refine (CT.out _).mono ?_
            rintro e w2 ⟨rfl, rfl⟩
            go_wp2_with fail
            refine (CG.out _).mono ?_
            rintro e w2 ⟨rfl, rfl⟩
            go_wp2_with fail
            go_quiet (fail)
            go_wp2_with fail
            go_roundw
            case rel => exact ⟨k + 1, by omega, by go_num, HN.out.trans (by rw [last_take Mat.name HI.out]), below_drewN (by (repeat' (first | (with_reducible exact Below.refl _ _) | (with_reducible assumption) | (with_reducible refine Below.alloc ?_ ?_ _) | (with_reducible refine Below.drew ?_) | (with_reducible refine below_drewN ?_ _) | (with_reducible refine Below.setCell ?_ ?_ _) | (with_reducible exact Nat.le_refl _) | omega | (simp only [World.size_alloc, World.size_setCell, World.size_drew]; omega) | (simp; omega) | (simp; done)))) _⟩
            case measure => simp [intOf]; omega
          · obtain ⟨j, rfl⟩ : ∃ j, k = j + 1 := ⟨k - 1, by omega⟩
            have hj : l[j]? = some l[j] := List.getElem?_eq_getElem (by omega)
            have d0 := by simpa using HCS.out j _ hj 0 _ rfl
            have HJ := Lib.hid hj
            clear hj hz
            generalize l[j] = q at *
            have HL := Lib.hid (last_take Mat.name HJ.out)
            have x1 : (j : Int) + 1 - 1 = j := by omega
            have x2 : (0 : Int) ≤ (j : Int) := by omega
            have x3 : (j : Int) < (l.length : Int) := by omega
            have x4 : j < l.length := by omega
            have x5 : IntKind.i64.wrap ((j : Int) + 1 - 1) = (j : Int) + 1 - 1 := IntWalk.i64_in _ (by omega)
            have x6 : IntKind.i64.wrap (j : Int) = (j : Int) := IntWalk.i64_in _ (by omega)
            have E0 : ∀ (cs : Array Value) (t : TypeId), (wr.alloc (.cells cs t)).cell? ⟨b, off + j * 4, none⟩ = some (.string q.name) := fun cs t => (World.cell?_alloc_lt _ _ _ hblt).trans d0
            rcases leS_cases (a := p.name) (b := q.name) rfl with ⟨_, o1⟩ | ⟨_, o1, o2⟩ | ⟨_, o1, o2⟩
            · have HN := Lib.hid (show matsGo [] l = 8 by rw [HF.out, HL.out, HD.out]; exact matsGo_order HB.out (by simp [leS, o1]))
              go_wp2_with fail
              refine (CW.out _).mono ?_
              rintro e w2 ⟨rfl, rfl⟩
              go_wp2_with fail
              refine (CK.out _).mono ?_
              rintro e w2 ⟨rfl, rfl⟩
              go_wp2_with fail
              refine (CT.out _).mono ?_
              rintro e w2 ⟨rfl, rfl⟩
              go_wp2_with fail
              refine (CG.out _).mono ?_
              rintro e w2 ⟨rfl, rfl⟩
              go_wp2_with fail
              go_region_held3 (fun w' => w'.cell? ⟨wr.heap.size, 0, none⟩ = some (.string p.name) ∧ w'.cell? ⟨b, off + j * 4, none⟩ = some (.string q.name)) (first | exact ⟨alloc_cells rfl _ _ _, E0 _ _⟩ | go_keep) (fail)
              go_wp2_with fail
              go_ret
              exact ⟨by rw [HG.out, HN.out]; rfl, by (repeat' (first | (with_reducible exact Below.refl _ _) | (with_reducible assumption) | (with_reducible refine Below.alloc ?_ ?_ _) | (with_reducible refine Below.drew ?_) | (with_reducible refine below_drewN ?_ _) | (with_reducible refine Below.setCell ?_ ?_ _) | (with_reducible exact Nat.le_refl _) | omega | (simp only [World.size_alloc, World.size_setCell, World.size_drew]; omega) | (simp; omega) | (simp; done)))⟩
            · have HN := Lib.hid (show matsGo [] l = 8 by rw [HF.out, HL.out, HD.out]; exact matsGo_order HB.out (by simp only [List.any_cons, leS, o1, o2]; rfl))
              go_wp2_with fail
              refine (CW.out _).mono ?_
              rintro e w2 ⟨rfl, rfl⟩
              go_wp2_with fail
              refine (CK.out _).mono ?_
              rintro e w2 ⟨rfl, rfl⟩
              go_wp2_with fail
              refine (CT.out _).mono ?_
              rintro e w2 ⟨rfl, rfl⟩
              go_wp2_with fail
              refine (CG.out _).mono ?_
              rintro e w2 ⟨rfl, rfl⟩
              go_wp2_with fail
              go_region_held3 (fun w' => w'.cell? ⟨wr.heap.size, 0, none⟩ = some (.string p.name) ∧ w'.cell? ⟨b, off + j * 4, none⟩ = some (.string q.name)) (first | exact ⟨alloc_cells rfl _ _ _, E0 _ _⟩ | go_keep) (fail)
              go_wp2_with fail
              go_ret
              exact ⟨by rw [HG.out, HN.out]; rfl, by (repeat' (first | (with_reducible exact Below.refl _ _) | (with_reducible assumption) | (with_reducible refine Below.alloc ?_ ?_ _) | (with_reducible refine Below.drew ?_) | (with_reducible refine below_drewN ?_ _) | (with_reducible refine Below.setCell ?_ ?_ _) | (with_reducible exact Nat.le_refl _) | omega | (simp only [World.size_alloc, World.size_setCell, World.size_drew]; omega) | (simp; omega) | (simp; done)))⟩
            · have HN := Lib.hid (show matsGo [] l = matsGo [p.name] (l.drop (j + 1 + 1)) by rw [HF.out, HL.out, HD.out]; exact matsGo_go HB.out (by simp only [List.any_cons, leS, o1, o2]; rfl))
              go_wp2_with fail
              refine (CW.out _).mono ?_
              rintro e w2 ⟨rfl, rfl⟩
              go_wp2_with fail
              refine (CK.out _).mono ?_
              rintro e w2 ⟨rfl, rfl⟩
              go_wp2_with fail
              refine (CT.out _).mono ?_
              rintro e w2 ⟨rfl, rfl⟩
              go_wp2_with fail
              refine (CG.out _).mono ?_
              rintro e w2 ⟨rfl, rfl⟩
              go_wp2_with fail
              go_region_held3 (fun w' => w'.cell? ⟨wr.heap.size, 0, none⟩ = some (.string p.name) ∧ w'.cell? ⟨b, off + j * 4, none⟩ = some (.string q.name)) (first | exact ⟨alloc_cells rfl _ _ _, E0 _ _⟩ | go_keep) (fail)
              go_wp2_with fail
              go_roundw
              case rel => exact ⟨j + 1 + 1, by omega, by go_num, HN.out.trans (by rw [last_take Mat.name HI.out]), by (repeat' (first | (with_reducible exact Below.refl _ _) | (with_reducible assumption) | (with_reducible refine Below.alloc ?_ ?_ _) | (with_reducible refine Below.drew ?_) | (with_reducible refine below_drewN ?_ _) | (with_reducible refine Below.setCell ?_ ?_ _) | (with_reducible exact Nat.le_refl _) | omega | (simp only [World.size_alloc, World.size_setCell, World.size_drew]; omega) | (simp; omega) | (simp; done)))⟩
              case measure => simp [intOf]; omega
      · obtain rfl : k = l.length := by omega
        have hend : matsGo [] l = 0 := by
          rw [HF.out, List.drop_length]
          rfl
        have HE := Lib.hid (HG.out.trans hend)
        clear hend
        go_wp2_with fail
        go_ret
        exact ⟨by rw [HE.out]; rfl, hw⟩
end Go.Proofs.Ytdlglnkhhbkndaa
/- Materials and layers as the reference of chapter 4 asks for them, whatever the world. -/
namespace Go.Proofs.Ytdlglnkhhbkndaa
open Go.RowKit
set_option linter.unusedSimpArgs false
set_option linter.unusedVariables false
set_option maxRecDepth 100000

theorem matField1 (a b c d : Value) (w : World) : (Instr.field 37 (.agg #[a, b, c, d]) 1).run Try.prog w = .ok b w := by kernel_rfl
theorem matField2 (a b c d : Value) (w : World) : (Instr.field 37 (.agg #[a, b, c, d]) 2).run Try.prog w = .ok c w := by kernel_rfl
theorem World.heap_alloc_old' (W : World) (o : Obj) {b : Nat} (h : b < W.heap.size) : (W.alloc o).heap[b]? = W.heap[b]? := (World.grownBy_alloc W o none).block b h (by simp)
theorem noMat_name : noMat.name = ⟨#[]⟩ := rfl
set_option maxHeartbeats 2000000 in
theorem materialOf_any (A : Option Addr) (l : List Mat) (c : Nat) (n : ByteArray) (w : World) (hl : l.length ≤ 140737488355328) (h : RdG 4 Mat.cs w A l) :
    Calls Try.prog 68 #[.slice A l.length c, .string n] w fun e w' => e = .returned (.agg #[.string ((matOf l n).getD noMat).name, .int .i64 ((matOf l n).getD noMat).kind, .int .i64 ((matOf l n).getD noMat).thick, .int .i64 ((matOf l n).getD noMat).grow]) ∧ Below w.heap.size w w' := by
  have H := Lib.hid h
  clear h
  go_enter Try.func68, Try.ntmps68
  go_wp2_with fail
  go_loopw [9] (fun i wr => ∃ k : Nat, k ≤ l.length ∧ i = .int .i64 k ∧ matOf l n = matOf (l.drop k) n ∧ wr.heap[w.heap.size]? = some (.cells #[.string ⟨#[]⟩, .int .i64 0, .int .i64 0, .int .i64 0] 37 (0, 0)) ∧ Below w.heap.size w wr) (fun i _ => l.length - (intOf i).toNat)
  case atStart => exact ⟨0, Nat.zero_le _, rfl, rfl, (MapKept.heap_alloc w _).1, by (repeat' (first | (with_reducible exact Below.refl _ _) | (with_reducible assumption) | (with_reducible refine Below.alloc ?_ ?_ _) | (with_reducible refine Below.drew ?_) | (with_reducible refine below_drewN ?_ _) | (with_reducible refine Below.setCell ?_ ?_ _) | (with_reducible exact Nat.le_refl _) | omega | (simp only [World.size_alloc, World.size_setCell, World.size_drew]; omega) | (simp; omega) | (simp; done)))⟩
  case round =>
    obtain ⟨k, hk, rfl, hf, hbx, hw⟩ := hrel
    have HF := Lib.hid hf
    have r0 : wr.cell? ⟨w.heap.size, 0, none⟩ = some (.string ⟨#[]⟩) := by rw [blk_cell hbx]; rfl
    have r1 : wr.cell? ⟨w.heap.size, 1, none⟩ = some (.int .i64 0) := by rw [blk_cell hbx]; rfl
    have r2 : wr.cell? ⟨w.heap.size, 2, none⟩ = some (.int .i64 0) := by rw [blk_cell hbx]; rfl
    have r3 : wr.cell? ⟨w.heap.size, 3, none⟩ = some (.int .i64 0) := by rw [blk_cell hbx]; rfl
    have rf : ∀ i, wr.frozen? ⟨w.heap.size, i, none⟩ = false := blk_free hbx
    have rl := blk_lt hbx
    have HB := Lib.hid hbx
    clear hbx
    have zw := hw.size
    clear hf
    have hkz : (0 : Int) ≤ (k : Int) := by omega
    by_cases hlt : k < l.length
    · obtain ⟨b, off, rfl, hblt, hcs⟩ := (H.out.below hw) (by omega)
      have hi : l[k]? = some l[k] := List.getElem?_eq_getElem hlt
      have c0 := by simpa using hcs k _ hi 0 _ rfl
      have c1 := hcs k _ hi 1 _ rfl
      have c2 := hcs k _ hi 2 _ rfl
      have c3 := hcs k _ hi 3 _ rfl
      have hd : l.drop k = l[k] :: l.drop (k + 1) := List.drop_eq_getElem_cons hlt
      have HD := Lib.hid hd
      clear hd hi hcs
      generalize l[k] = p at *
      by_cases he : p.name = n
      · have HN := Lib.hid (show (matOf l n).getD noMat = p by rw [HF.out, HD.out]; simp [matOf, he])
        have f1 : (p.name.toList == n.toList) = true := eqS_true.2 he
        clear he
        go_wp2_with fail
        exact bodyPost_ret (v := p.v) (by simp [results, Try.results68, go_sem, r0, r1, r2, r3, rl]) rfl ⟨by rw [HN.out], by (repeat' (first | (with_reducible exact Below.refl _ _) | (with_reducible assumption) | (with_reducible refine Below.alloc ?_ ?_ _) | (with_reducible refine Below.drew ?_) | (with_reducible refine below_drewN ?_ _) | (with_reducible refine Below.setCell ?_ ?_ _) | (with_reducible exact Nat.le_refl _) | omega | (simp only [World.size_alloc, World.size_setCell, World.size_drew]; omega) | (simp; omega) | (simp; done)))⟩
      · have HN := Lib.hid (show matOf l n = matOf (l.drop (k + 1)) n by rw [HF.out, HD.out]; simp [matOf, he])
        have f1 : (p.name.toList == n.toList) = false := eqS_false.2 he
        clear he
        go_wp2_with fail
        go_roundw
        case rel => exact ⟨k + 1, by omega, by go_num, HN.out, (World.heap_alloc_old' _ _ rl).trans HB.out, by (repeat' (first | (with_reducible exact Below.refl _ _) | (with_reducible assumption) | (with_reducible refine Below.alloc ?_ ?_ _) | (with_reducible refine Below.drew ?_) | (with_reducible refine below_drewN ?_ _) | (with_reducible refine Below.setCell ?_ ?_ _) | (with_reducible exact Nat.le_refl _) | omega | (simp only [World.size_alloc, World.size_setCell, World.size_drew]; omega) | (simp; omega) | (simp; done)))⟩
        case measure => simp [intOf]; omega
    · obtain rfl : k = l.length := by omega
      have HN := Lib.hid (show (matOf l n).getD noMat = noMat by rw [HF.out, List.drop_length]; rfl)
      go_wp2_with fail
      exact bodyPost_ret (v := noMat.v) (by simp [results, Try.results68, go_sem, r0, r1, r2, r3, rl]; exact ⟨rfl, rfl, rfl, rfl⟩) rfl ⟨by rw [HN.out], by (repeat' (first | (with_reducible exact Below.refl _ _) | (with_reducible assumption) | (with_reducible refine Below.alloc ?_ ?_ _) | (with_reducible refine Below.drew ?_) | (with_reducible refine below_drewN ?_ _) | (with_reducible refine Below.setCell ?_ ?_ _) | (with_reducible exact Nat.le_refl _) | omega | (simp only [World.size_alloc, World.size_setCell, World.size_drew]; omega) | (simp; omega) | (simp; done)))⟩
end Go.Proofs.Ytdlglnkhhbkndaa
/- Coppers, thicknesses and places as the reference of chapter 4 has them, whatever the world. -/
namespace Go.Proofs.Ytdlglnkhhbkndaa
open Go.RowKit
set_option linter.unusedSimpArgs false
set_option linter.unusedVariables false
set_option maxRecDepth 100000

section
variable {A : Option Addr} {l : List Mat} {c : Nat} {w : World}
theorem isCopper_any (y : Lay) (hl : l.length ≤ 140737488355328) (h : RdG 4 Mat.cs w A l) : Calls Try.prog 62 #[.slice A l.length c, .agg #[.string y.name, .string y.mat]] w fun e w' => e = .returned (.bool (isCu (rowOf l y))) ∧ Below w.heap.size w w' := by
  have C := Lib.hid (fun W hb => materialOf_any A l c y.mat W hl (h.below hb) : ∀ W, Below w.heap.size w W → _)
  have HI := Lib.hid (show isCu (rowOf l y) = decide (((matOf l y.mat).getD noMat).kind = 1) from rfl)
  generalize (matOf l y.mat).getD noMat = x at *
  clear h
  by_cases hk : x.kind = 1
  · have HK := Lib.hid hk
    have d1 : (x.kind == 1) = true := by simpa using hk
    clear hk
    have hf1 := matField1
    go_enter Try.func62, Try.ntmps62
    go_wp2_with fail
    refine (C.out _ (by (repeat' (first | (with_reducible exact Below.refl _ _) | (with_reducible assumption) | (with_reducible refine Below.alloc ?_ ?_ _) | (with_reducible refine Below.drew ?_) | (with_reducible refine below_drewN ?_ _) | (with_reducible refine Below.setCell ?_ ?_ _) | (with_reducible exact Nat.le_refl _) | omega | (simp only [World.size_alloc, World.size_setCell, World.size_drew]; omega) | (simp; omega) | (simp; done))))).mono ?_
    rintro e w1 ⟨rfl, hb⟩
    have B1 := up (B := w.heap.size) (w := w) (by (repeat' (first | (with_reducible exact Below.refl _ _) | (with_reducible assumption) | (with_reducible refine Below.alloc ?_ ?_ _) | (with_reducible refine Below.drew ?_) | (with_reducible refine below_drewN ?_ _) | (with_reducible refine Below.setCell ?_ ?_ _) | (with_reducible exact Nat.le_refl _) | omega | (simp only [World.size_alloc, World.size_setCell, World.size_drew]; omega) | (simp; omega) | (simp; done)))) hb (by (first | (with_reducible exact Nat.le_refl _) | (with_reducible assumption) | omega | (simp only [World.size_alloc, World.size_setCell, World.size_drew]; omega) | (simp; omega) | (simp; done)))
    clear hb
    go_wp2_with fail
    go_ret
    exact ⟨by rw [HI.out, decide_eq_true HK.out]; rfl, B1⟩
  · have HK := Lib.hid hk
    have d1 : (x.kind == 1) = false := by simpa using hk
    clear hk
    have hf1 := matField1
    go_enter Try.func62, Try.ntmps62
    go_wp2_with fail
    refine (C.out _ (by (repeat' (first | (with_reducible exact Below.refl _ _) | (with_reducible assumption) | (with_reducible refine Below.alloc ?_ ?_ _) | (with_reducible refine Below.drew ?_) | (with_reducible refine below_drewN ?_ _) | (with_reducible refine Below.setCell ?_ ?_ _) | (with_reducible exact Nat.le_refl _) | omega | (simp only [World.size_alloc, World.size_setCell, World.size_drew]; omega) | (simp; omega) | (simp; done))))).mono ?_
    rintro e w1 ⟨rfl, hb⟩
    have B1 := up (B := w.heap.size) (w := w) (by (repeat' (first | (with_reducible exact Below.refl _ _) | (with_reducible assumption) | (with_reducible refine Below.alloc ?_ ?_ _) | (with_reducible refine Below.drew ?_) | (with_reducible refine below_drewN ?_ _) | (with_reducible refine Below.setCell ?_ ?_ _) | (with_reducible exact Nat.le_refl _) | omega | (simp only [World.size_alloc, World.size_setCell, World.size_drew]; omega) | (simp; omega) | (simp; done)))) hb (by (first | (with_reducible exact Nat.le_refl _) | (with_reducible assumption) | omega | (simp only [World.size_alloc, World.size_setCell, World.size_drew]; omega) | (simp; omega) | (simp; done)))
    clear hb
    go_wp2_with fail
    go_ret
    exact ⟨by rw [HI.out, decide_eq_false HK.out]; rfl, B1⟩
theorem row_bound {l : List Mat} (hm : ∀ x ∈ l, matF x = 0) (n : ByteArray) : 0 ≤ ((matOf l n).getD noMat).thick ∧ ((matOf l n).getD noMat).thick ≤ 2000 := by
  cases h : matOf l n with
  | none => simp [noMat]
  | some x =>
    have := matF_zero (hm x (matOf_mem h))
    simp only [Option.getD_some]
    omega
theorem rows_bound {l : List Mat} (hm : ∀ x ∈ l, matF x = 0) : ∀ s : List Lay, 0 ≤ thick (s.map (rowOf l)) ∧ thick (s.map (rowOf l)) ≤ 2000 * s.length
  | [] => by simp [thick]
  | y :: s => by
    have h1 := row_bound hm y.mat
    have h2 := rows_bound hm s
    simp only [List.map_cons, thick, rowOf, List.length_cons] at *
    omega
set_option maxHeartbeats 2000000 in
theorem rThick_any (A2 : Option Addr) (s : List Lay) (c2 : Nat) (hl : l.length ≤ 140737488355328) (hm : ∀ x ∈ l, matF x = 0) (hs : s.length ≤ 1000) (h : RdG 4 Mat.cs w A l) (h2 : RdG 2 Lay.cs w A2 s) :
    Calls Try.prog 56 #[.slice A l.length c, .slice A2 s.length c2] w fun e w' => e = .returned (.int .i64 (thick (s.map (rowOf l)))) ∧ Below w.heap.size w w' := by
  have H2 := Lib.hid h2
  have HM := Lib.hid hm
  have C := Lib.hid (fun n W hb => materialOf_any A l c n W hl (h.below hb) : ∀ n W, Below w.heap.size w W → _)
  clear h h2 hm
  have hf2 := matField2
  go_enter Try.func56, Try.ntmps56
  go_wp2_with fail
  go_loopw [5, 10] (fun t i wr => ∃ (k : Nat) (a : Int), k ≤ s.length ∧ i = .int .i64 k ∧ t = .int .i64 a ∧ thick (s.map (rowOf l)) = a + thick ((s.drop k).map (rowOf l)) ∧ 0 ≤ a ∧ a ≤ 2000 * k ∧ Below w.heap.size w wr) (fun _ i _ => s.length - (intOf i).toNat)
  case atStart => exact ⟨0, 0, Nat.zero_le _, rfl, rfl, by simp, by omega, by omega, by (repeat' (first | (with_reducible exact Below.refl _ _) | (with_reducible assumption) | (with_reducible refine Below.alloc ?_ ?_ _) | (with_reducible refine Below.drew ?_) | (with_reducible refine below_drewN ?_ _) | (with_reducible refine Below.setCell ?_ ?_ _) | (with_reducible exact Nat.le_refl _) | omega | (simp only [World.size_alloc, World.size_setCell, World.size_drew]; omega) | (simp; omega) | (simp; done)))⟩
  case round =>
    obtain ⟨k, a, hk, rfl, rfl, hf, ha0, ha1, hw⟩ := hrel
    have HF := Lib.hid hf
    have zw := hw.size
    clear hf
    have hkz : (0 : Int) ≤ (k : Int) := by omega
    by_cases hlt : k < s.length
    · obtain ⟨b, off, rfl, hblt, hcs⟩ := (H2.out.below hw) (by omega)
      have hi : s[k]? = some s[k] := List.getElem?_eq_getElem hlt
      have c0 := by simpa using hcs k _ hi 0 _ rfl
      have c1 := hcs k _ hi 1 _ rfl
      have hd : s.drop k = s[k] :: s.drop (k + 1) := List.drop_eq_getElem_cons hlt
      have HD := Lib.hid hd
      clear hd hi hcs
      generalize s[k] = y at *
      have CY := Lib.hid (C.out y.mat)
      obtain ⟨q0, q1⟩ := row_bound HM.out y.mat
      have HN := Lib.hid (show thick (s.map (rowOf l)) = a + ((matOf l y.mat).getD noMat).thick + thick ((s.drop (k + 1)).map (rowOf l)) by
        rw [HF.out, HD.out, List.map_cons, thick, rowOf, Int.add_assoc])
      generalize (matOf l y.mat).getD noMat = x at *
      have xs : IntKind.i64.wrap (a + x.thick) = a + x.thick := IntWalk.i64_in _ (by omega)
      go_wp2_with fail
      refine (CY.out _ (by (repeat' (first | (with_reducible exact Below.refl _ _) | (with_reducible assumption) | (with_reducible refine Below.alloc ?_ ?_ _) | (with_reducible refine Below.drew ?_) | (with_reducible refine below_drewN ?_ _) | (with_reducible refine Below.setCell ?_ ?_ _) | (with_reducible exact Nat.le_refl _) | omega | (simp only [World.size_alloc, World.size_setCell, World.size_drew]; omega) | (simp; omega) | (simp; done))))).mono ?_
      rintro e w1 ⟨rfl, hb⟩
      have B1 := Lib.hid (up (B := w.heap.size) (w := w) (by (repeat' (first | (with_reducible exact Below.refl _ _) | (with_reducible assumption) | (with_reducible refine Below.alloc ?_ ?_ _) | (with_reducible refine Below.drew ?_) | (with_reducible refine below_drewN ?_ _) | (with_reducible refine Below.setCell ?_ ?_ _) | (with_reducible exact Nat.le_refl _) | omega | (simp only [World.size_alloc, World.size_setCell, World.size_drew]; omega) | (simp; omega) | (simp; done)))) hb (by (first | (with_reducible exact Nat.le_refl _) | (with_reducible assumption) | omega | (simp only [World.size_alloc, World.size_setCell, World.size_drew]; omega) | (simp; omega) | (simp; done))))
      clear hb
      go_wp2_with fail
      go_roundw
      case rel => exact ⟨k + 1, a + x.thick, by omega, by go_num, rfl, HN.out, by omega, by omega, B1.out⟩
      case measure => simp [intOf]; omega
    · obtain rfl : k = s.length := by omega
      have HN := Lib.hid (show thick (s.map (rowOf l)) = a by rw [HF.out, List.drop_length]; simp [thick])
      go_wp2_with fail
      go_ret
      exact ⟨by rw [HN.out]; rfl, hw⟩
def placeI (R : List Row) (a : ByteArray) : Int := match placeOf R a with | none => -1 | some i => (i : Nat)
theorem place_drop {R : List Row} {a : ByteArray} {k : Nat} {r : Row} (h : R.drop k = r :: R.drop (k + 1)) : (placeOf (R.drop k) a).map (· + k) = if isCu r && decide (r.1 = a) then some k else (placeOf (R.drop (k + 1)) a).map (· + (k + 1)) := by
  rw [h]
  unfold placeOf
  rw [List.findIdx?_cons]
  cases isCu r && decide (r.1 = a)
  · simp only [Bool.false_eq_true, if_false, Option.map_map]
    congr 1
    funext x
    simp only [Function.comp]
    omega
  · simp
set_option maxHeartbeats 2000000 in
theorem rPlace_any (A2 : Option Addr) (s : List Lay) (c2 : Nat) (a : ByteArray) (hl : l.length ≤ 140737488355328) (hs : s.length ≤ 140737488355328) (h : RdG 4 Mat.cs w A l) (h2 : RdG 2 Lay.cs w A2 s) :
    Calls Try.prog 64 #[.slice A l.length c, .slice A2 s.length c2, .string a] w fun e w' => e = .returned (.int .i64 (placeI (s.map (rowOf l)) a)) ∧ Below w.heap.size w w' := by
  have H2 := Lib.hid h2
  have C := Lib.hid (fun y W hb => isCopper_any (c := c) y hl (h.below hb) : ∀ y W, Below w.heap.size w W → _)
  clear h h2
  go_enter Try.func64, Try.ntmps64
  go_wp2_with fail
  go_loopw [11] (fun i wr => ∃ k : Nat, k ≤ s.length ∧ i = .int .i64 k ∧ placeOf (s.map (rowOf l)) a = (placeOf ((s.map (rowOf l)).drop k) a).map (· + k) ∧ Below w.heap.size w wr) (fun i _ => s.length - (intOf i).toNat)
  case atStart => exact ⟨0, Nat.zero_le _, rfl, by simp, by (repeat' (first | (with_reducible exact Below.refl _ _) | (with_reducible assumption) | (with_reducible refine Below.alloc ?_ ?_ _) | (with_reducible refine Below.drew ?_) | (with_reducible refine below_drewN ?_ _) | (with_reducible refine Below.setCell ?_ ?_ _) | (with_reducible exact Nat.le_refl _) | omega | (simp only [World.size_alloc, World.size_setCell, World.size_drew]; omega) | (simp; omega) | (simp; done)))⟩
  case round =>
    obtain ⟨k, hk, rfl, hf, hw⟩ := hrel
    have HF := Lib.hid hf
    have zw := hw.size
    clear hf
    have hkz : (0 : Int) ≤ (k : Int) := by omega
    by_cases hlt : k < s.length
    · obtain ⟨b, off, rfl, hblt, hcs⟩ := (H2.out.below hw) (by omega)
      have hi : s[k]? = some s[k] := List.getElem?_eq_getElem hlt
      have c0 := by simpa using hcs k _ hi 0 _ rfl
      have c1 := hcs k _ hi 1 _ rfl
      have hd : (s.map (rowOf l)).drop k = rowOf l s[k] :: (s.map (rowOf l)).drop (k + 1) := by
        rw [← List.map_drop, List.drop_eq_getElem_cons hlt, List.map_cons, List.map_drop]
      have HP := Lib.hid (place_drop (a := a) hd)
      clear hd hi hcs
      generalize s[k] = y at *
      have CY := Lib.hid (C.out y)
      have hr1 : (rowOf l y).1 = y.name := rfl
      by_cases hn : y.name = a
      · have f1 : (y.name.toList == a.toList) = true := eqS_true.2 hn
        cases hc : isCu (rowOf l y)
        · rw [hc] at CY
          have HN := Lib.hid (show placeOf (s.map (rowOf l)) a = (placeOf ((s.map (rowOf l)).drop (k + 1)) a).map (· + (k + 1)) by rw [HF.out, HP.out, hc]; rfl)
          clear hn hc hr1
          go_wp2_with fail
          refine (CY.out _ (by (repeat' (first | (with_reducible exact Below.refl _ _) | (with_reducible assumption) | (with_reducible refine Below.alloc ?_ ?_ _) | (with_reducible refine Below.drew ?_) | (with_reducible refine below_drewN ?_ _) | (with_reducible refine Below.setCell ?_ ?_ _) | (with_reducible exact Nat.le_refl _) | omega | (simp only [World.size_alloc, World.size_setCell, World.size_drew]; omega) | (simp; omega) | (simp; done))))).mono ?_
          rintro e w1 ⟨rfl, hb⟩
          have B1 := Lib.hid (up (B := w.heap.size) (w := w) (by (repeat' (first | (with_reducible exact Below.refl _ _) | (with_reducible assumption) | (with_reducible refine Below.alloc ?_ ?_ _) | (with_reducible refine Below.drew ?_) | (with_reducible refine below_drewN ?_ _) | (with_reducible refine Below.setCell ?_ ?_ _) | (with_reducible exact Nat.le_refl _) | omega | (simp only [World.size_alloc, World.size_setCell, World.size_drew]; omega) | (simp; omega) | (simp; done)))) hb (by (first | (with_reducible exact Nat.le_refl _) | (with_reducible assumption) | omega | (simp only [World.size_alloc, World.size_setCell, World.size_drew]; omega) | (simp; omega) | (simp; done))))
          clear hb
          go_wp2_with fail
          go_roundw
          case rel => exact ⟨k + 1, by omega, by go_num, HN.out, B1.out⟩
          case measure => simp [intOf]; omega
        · rw [hc] at CY
          have HN := Lib.hid (show placeI (s.map (rowOf l)) a = k by unfold placeI; rw [HF.out, HP.out, hc, hr1, decide_eq_true hn]; rfl)
          clear hn hc hr1
          go_wp2_with fail
          refine (CY.out _ (by (repeat' (first | (with_reducible exact Below.refl _ _) | (with_reducible assumption) | (with_reducible refine Below.alloc ?_ ?_ _) | (with_reducible refine Below.drew ?_) | (with_reducible refine below_drewN ?_ _) | (with_reducible refine Below.setCell ?_ ?_ _) | (with_reducible exact Nat.le_refl _) | omega | (simp only [World.size_alloc, World.size_setCell, World.size_drew]; omega) | (simp; omega) | (simp; done))))).mono ?_
          rintro e w1 ⟨rfl, hb⟩
          have B1 := Lib.hid (up (B := w.heap.size) (w := w) (by (repeat' (first | (with_reducible exact Below.refl _ _) | (with_reducible assumption) | (with_reducible refine Below.alloc ?_ ?_ _) | (with_reducible refine Below.drew ?_) | (with_reducible refine below_drewN ?_ _) | (with_reducible refine Below.setCell ?_ ?_ _) | (with_reducible exact Nat.le_refl _) | omega | (simp only [World.size_alloc, World.size_setCell, World.size_drew]; omega) | (simp; omega) | (simp; done)))) hb (by (first | (with_reducible exact Nat.le_refl _) | (with_reducible assumption) | omega | (simp only [World.size_alloc, World.size_setCell, World.size_drew]; omega) | (simp; omega) | (simp; done))))
          clear hb
          go_wp2_with fail
          go_ret
          exact ⟨by rw [HN.out]; rfl, B1.out⟩
      · have f1 : (y.name.toList == a.toList) = false := eqS_false.2 hn
        have HN := Lib.hid (show placeOf (s.map (rowOf l)) a = (placeOf ((s.map (rowOf l)).drop (k + 1)) a).map (· + (k + 1)) by rw [HF.out, HP.out, hr1, decide_eq_false hn, Bool.and_false]; rfl)
        clear hn hr1
        go_wp2_with fail
        go_roundw
        case rel => exact ⟨k + 1, by omega, by go_num, HN.out, by (repeat' (first | (with_reducible exact Below.refl _ _) | (with_reducible assumption) | (with_reducible refine Below.alloc ?_ ?_ _) | (with_reducible refine Below.drew ?_) | (with_reducible refine below_drewN ?_ _) | (with_reducible refine Below.setCell ?_ ?_ _) | (with_reducible exact Nat.le_refl _) | omega | (simp only [World.size_alloc, World.size_setCell, World.size_drew]; omega) | (simp; omega) | (simp; done)))⟩
        case measure => simp [intOf]; omega
    · obtain rfl : k = s.length := by omega
      have HN := Lib.hid (show placeI (s.map (rowOf l)) a = -1 by unfold placeI; rw [HF.out, List.drop_of_length_le (by simp)]; rfl)
      go_wp2_with fail
      go_ret
      exact ⟨by rw [HN.out]; rfl, hw⟩
set_option maxHeartbeats 2000000 in
theorem rCoppers_any (A2 : Option Addr) (s : List Lay) (c2 : Nat) (hl : l.length ≤ 140737488355328) (hs : s.length ≤ 1000) (h : RdG 4 Mat.cs w A l) (h2 : RdG 2 Lay.cs w A2 s) :
    Calls Try.prog 61 #[.slice A l.length c, .slice A2 s.length c2] w fun e w' => ∃ v, e = .returned v ∧ w'.ownsRow w.heap.size 3 1 v (cus (s.map (rowOf l))).length ((cus (s.map (rowOf l))).map fun k => Value.int .i64 (k : Nat)) ∧ Below w.heap.size w w' := by
  obtain ⟨i1, hi1, hy0, hy1, hy2⟩ := info_parts infoInt
  have H2 := Lib.hid h2
  have C := Lib.hid (fun y W hb => isCopper_any (c := c) y hl (h.below hb) : ∀ y W, Below w.heap.size w W → _)
  clear h h2
  go_enter Try.func61, Try.ntmps61
  go_wp2_with fail
  go_loopw [5, 10] (fun v i wr => ∃ k : Nat, k ≤ s.length ∧ i = .int .i64 k ∧ wr.ownsRow w.heap.size 3 1 v (cus ((s.map (rowOf l)).take k)).length ((cus ((s.map (rowOf l)).take k)).map fun k => Value.int .i64 (k : Nat)) ∧ Below w.heap.size w wr) (fun _ i _ => s.length - (intOf i).toNat)
  case atStart => exact ⟨0, Nat.zero_le _, rfl, own_nil, by (repeat' (first | (with_reducible exact Below.refl _ _) | (with_reducible assumption) | (with_reducible refine Below.alloc ?_ ?_ _) | (with_reducible refine Below.drew ?_) | (with_reducible refine below_drewN ?_ _) | (with_reducible refine Below.setCell ?_ ?_ _) | (with_reducible exact Nat.le_refl _) | omega | (simp only [World.size_alloc, World.size_setCell, World.size_drew]; omega) | (simp; omega) | (simp; done)))⟩
  case round =>
    obtain ⟨k, hk, rfl, ho, hw⟩ := hrel
    have HO := Lib.hid ho
    have zw := hw.size
    obtain ⟨Av, cv, rfl, o1, o2, o3⟩ := own_cells ho
    have hfew : (cus ((s.map (rowOf l)).take k)).length ≤ 1000 := by
      have h1 := cus_few ((s.map (rowOf l)).take k) 0
      have h3 : ((s.map (rowOf l)).take k).length ≤ k := List.length_take_le _ _
      exact Nat.le_trans h1 (by omega)
    have o2' : cv ≤ 9223372036854775807 := o2
    clear ho o2 o3
    have hkz : (0 : Int) ≤ (k : Int) := by omega
    by_cases hlt : k < s.length
    · obtain ⟨b, off, rfl, hblt, hcs⟩ := (H2.out.below hw) (by omega)
      have hi : s[k]? = some s[k] := List.getElem?_eq_getElem hlt
      have c0 := by simpa using hcs k _ hi 0 _ rfl
      have c1 := hcs k _ hi 1 _ rfl
      have ht : (s.map (rowOf l)).take (k + 1) = (s.map (rowOf l)).take k ++ [rowOf l s[k]] := by
        rw [List.take_add_one, List.getElem?_map, hi]
        rfl
      have hlen : ((s.map (rowOf l)).take k).length = k := by rw [List.length_take, List.length_map]; omega
      have hc2 : cus ((s.map (rowOf l)).take (k + 1)) = cus ((s.map (rowOf l)).take k) ++ if isCu (rowOf l s[k]) then [k] else [] := by
        rw [ht, show cus ((s.map (rowOf l)).take k ++ [rowOf l s[k]]) = cusF 0 ((s.map (rowOf l)).take k ++ [rowOf l s[k]]) from rfl, cusF_append, hlen, Nat.zero_add]
      have HC2 := Lib.hid hc2
      clear hi hcs ht hlen hc2
      generalize s[k] = y at *
      have CY := Lib.hid (C.out y)
      generalize cus ((s.map (rowOf l)).take k) = Q at *
      cases hc : isCu (rowOf l y)
      · rw [hc] at CY
        have HN := Lib.hid (show cus ((s.map (rowOf l)).take (k + 1)) = Q by rw [HC2.out, hc]; simp)
        clear hc
        go_wp2_with fail
        refine (CY.out _ (by (repeat' (first | (with_reducible exact Below.refl _ _) | (with_reducible assumption) | (with_reducible refine Below.alloc ?_ ?_ _) | (with_reducible refine Below.drew ?_) | (with_reducible refine below_drewN ?_ _) | (with_reducible refine Below.setCell ?_ ?_ _) | (with_reducible exact Nat.le_refl _) | omega | (simp only [World.size_alloc, World.size_setCell, World.size_drew]; omega) | (simp; omega) | (simp; done))))).mono ?_
        rintro e w1 ⟨rfl, hb⟩
        have B1 := Lib.hid (up (B := w.heap.size) (w := w) (by (repeat' (first | (with_reducible exact Below.refl _ _) | (with_reducible assumption) | (with_reducible refine Below.alloc ?_ ?_ _) | (with_reducible refine Below.drew ?_) | (with_reducible refine below_drewN ?_ _) | (with_reducible refine Below.setCell ?_ ?_ _) | (with_reducible exact Nat.le_refl _) | omega | (simp only [World.size_alloc, World.size_setCell, World.size_drew]; omega) | (simp; omega) | (simp; done)))) hb (by (first | (with_reducible exact Nat.le_refl _) | (with_reducible assumption) | omega | (simp only [World.size_alloc, World.size_setCell, World.size_drew]; omega) | (simp; omega) | (simp; done))))
        have O1 := Lib.hid (own_below (HO.out.alloc _) hb)
        clear hb
        go_wp2_with fail
        go_roundw
        case rel => exact ⟨k + 1, by omega, by go_num, by rw [HN.out]; exact O1.out, B1.out⟩
        case measure => simp [intOf]; omega
      · rw [hc] at CY
        have HN := Lib.hid (show cus ((s.map (rowOf l)).take (k + 1)) = Q ++ [k] by rw [HC2.out, hc]; simp)
        clear hc
        go_wp2_with fail
        refine (CY.out _ (by (repeat' (first | (with_reducible exact Below.refl _ _) | (with_reducible assumption) | (with_reducible refine Below.alloc ?_ ?_ _) | (with_reducible refine Below.drew ?_) | (with_reducible refine below_drewN ?_ _) | (with_reducible refine Below.setCell ?_ ?_ _) | (with_reducible exact Nat.le_refl _) | omega | (simp only [World.size_alloc, World.size_setCell, World.size_drew]; omega) | (simp; omega) | (simp; done))))).mono ?_
        rintro e w1 ⟨rfl, hb⟩
        have B1 := Lib.hid (up (B := w.heap.size) (w := w) (by (repeat' (first | (with_reducible exact Below.refl _ _) | (with_reducible assumption) | (with_reducible refine Below.alloc ?_ ?_ _) | (with_reducible refine Below.drew ?_) | (with_reducible refine below_drewN ?_ _) | (with_reducible refine Below.setCell ?_ ?_ _) | (with_reducible exact Nat.le_refl _) | omega | (simp only [World.size_alloc, World.size_setCell, World.size_drew]; omega) | (simp; omega) | (simp; done)))) hb (by (first | (with_reducible exact Nat.le_refl _) | (with_reducible assumption) | omega | (simp only [World.size_alloc, World.size_setCell, World.size_drew]; omega) | (simp; omega) | (simp; done))))
        have O1 := Lib.hid (own_below (HO.out.alloc _) hb)
        have z1 := B1.out.size
        clear hb
        go_wp2_with (first
          | (at_builtin; refine wpList_append_lies _ rfl (.tmp 18) (.tmp 20) 43 rfl w.heap.size 3 i1 (.int .i64 0) 1 8 Try.underlying43 hi1 hy0 hy1 hy2 rfl (by omega) (.slice Av Q.length cv) Q.length (Q.map fun k => Value.int .i64 (k : Nat)) rfl (O1.out.alloc _) ⟨w1.heap.size, 0, none⟩ 1 1 [.int .i64 (k : Nat)] rfl rfl (one_new _ _ _) (by simp [Value.oneCell']) (by omega) (by unfold maxLen; omega) (by omega) (by simp; omega) (w1.heap.size + 1) (by simp) ?_; intro gg cap w5 hown5 hgrow hat5 hlt5; have HO5 := Lib.hid hown5; have B5 := Lib.hid (below_app (B1.out.alloc z1 _) (O1.out.alloc _) hgrow (Nat.le_refl _) (by simp; omega)); clear hown5 hgrow hat5))
        go_wp2_with fail
        go_roundw
        case rel => exact ⟨k + 1, by omega, by go_num, by rw [HN.out, List.length_append, List.map_append]; exact HO5.out, B5.out⟩
        case measure => simp [intOf]; omega
    · obtain rfl : k = s.length := by omega
      have ht : (s.map (rowOf l)).take s.length = s.map (rowOf l) := List.take_of_length_le (by simp)
      rw [ht] at HO
      clear hfew o1
      rw [ht]
      go_wp2_with fail
      go_ret
      exact ⟨_, rfl, HO.out, hw⟩
end
end Go.Proofs.Ytdlglnkhhbkndaa

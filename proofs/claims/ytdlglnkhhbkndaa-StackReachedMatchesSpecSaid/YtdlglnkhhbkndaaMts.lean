/- Materials: what package stack says of them, whatever the world. -/
import Derived.Test.YtdlglnkhhbkndaaStk
import Derived.Test.YtdlglnkhhbkndaaOpn
namespace Go.Proofs.Ytdlglnkhhbkndaa
open Go.RowKit
set_option linter.unusedSimpArgs false
set_option linter.unusedVariables false
set_option maxRecDepth 100000

theorem alloc_cells {W : World} {n : Nat} (hn : W.heap.size = n) (cs : Array Value) (t : TypeId) (i : Nat) : (W.alloc (.cells cs t)).cell? ⟨n, i, none⟩ = cs[i]? := by subst hn; simp [go_sem]
theorem last_take {α β : Type} (f : α → β) {l : List α} {k : Nat} {p : α} (h : l[k]? = some p) : (l.take (k + 1)).getLast?.toList.map f = [f p] := by
  rw [List.take_add_one, h]
  simp
theorem matF_cases (x : Mat) : (wordB x.name = false ∧ matF x = 5) ∨ (wordB x.name = true ∧ ((x.kind < 1 ∧ matF x = 4) ∨ (¬ x.kind < 1 ∧ 3 < x.kind ∧ matF x = 4) ∨ (¬ x.kind < 1 ∧ ¬ 3 < x.kind ∧ ((x.thick < 1 ∧ matF x = 1) ∨ (¬ x.thick < 1 ∧ 2000 < x.thick ∧ matF x = 1) ∨ (¬ x.thick < 1 ∧ ¬ 2000 < x.thick ∧ ((x.grow < 0 ∧ matF x = 1) ∨ (¬ x.grow < 0 ∧ 1000 < x.grow ∧ matF x = 1) ∨ (¬ x.grow < 0 ∧ ¬ 1000 < x.grow ∧ matF x = 0))))))) := by
  unfold matF
  cases wordB x.name
  · simp
  · by_cases h1 : x.kind < 1
    · simp [h1]
    · by_cases h2 : 3 < x.kind
      · simp [h1, h2]
      · by_cases h3 : x.thick < 1
        · simp [h1, h2, h3]
        · by_cases h4 : 2000 < x.thick
          · simp [h1, h2, h3, h4]
          · by_cases h5 : x.grow < 0
            · simp [h1, h2, h3, h4, h5]
            · by_cases h6 : 1000 < x.grow
              · simp [h1, h2, h3, h4, h5, h6]
              · simp [h1, h2, h3, h4, h5, h6]

set_option maxHeartbeats 4000000 in
theorem checkMaterials_any (A : Option Addr) (l : List Mat) (c : Nat) (w : World) (hl : l.length ≤ 140737488355328) (h : RdG 4 Mat.cs w A l) :
    Calls Try.prog 16 #[.slice A l.length c] w fun e w' => e = .returned (.int .i64 (matsF l)) ∧ Below w.heap.size w w' := by
  have H := Lib.hid h
  clear h
  by_cases h2 : 50 < l.length
  · have HG := Lib.hid (show matsF l = 2 from if_pos h2)
    go_enter Try.func16, Try.ntmps16
    go_wp2_with fail
    go_ret
    exact ⟨by rw [HG.out]; rfl, by (repeat' (first | (with_reducible exact Below.refl _ _) | (with_reducible assumption) | (with_reducible refine Below.alloc ?_ ?_ _) | (with_reducible refine Below.drew ?_) | (with_reducible refine below_drewN ?_ _) | (with_reducible refine Below.setCell ?_ ?_ _) | (with_reducible exact Nat.le_refl _) | omega | (simp only [World.size_alloc, World.size_setCell, World.size_drew]; omega) | (simp; omega) | (simp; done)))⟩
  · have HG := Lib.hid (show matsF l = matsGo [] l from if_neg h2)
    have h2b : decide (50 < (l.length : Int)) = false := by simp; omega
    go_enter Try.func16, Try.ntmps16
    go_wp2_with fail
    go_loopw [10] (fun i wr => ∃ k : Nat, k ≤ l.length ∧ i = .int .i64 k ∧ matsGo [] l = matsGo ((l.take k).getLast?.toList.map Mat.name) (l.drop k) ∧ Below w.heap.size w wr) (fun i _ => l.length - (intOf i).toNat)
    case atStart => exact ⟨0, Nat.zero_le _, rfl, rfl, Below.refl _ _⟩
    case round =>
      obtain ⟨k, hk, rfl, hf, hw⟩ := hrel
      have HF := Lib.hid hf
      have zw := hw.size
      clear hf
      have hkz : (0 : Int) ≤ (k : Int) := by omega
      by_cases hlt : k < l.length
      · obtain ⟨b, off, rfl, hblt, hcs⟩ := (H.out.below hw) (by omega)
        have hi : l[k]? = some l[k] := List.getElem?_eq_getElem hlt
        have c0 := by simpa using hcs k _ hi 0 _ rfl
        have c1 := hcs k _ hi 1 _ rfl
        have c2 := hcs k _ hi 2 _ rfl
        have c3 := hcs k _ hi 3 _ rfl
        have HCS := Lib.hid hcs
        have hd : l.drop k = l[k] :: l.drop (k + 1) := List.drop_eq_getElem_cons hlt
        have HD := Lib.hid hd
        have HI := Lib.hid hi
        clear hd hi hcs
        generalize l[k] = p at *
        have HBAD := Lib.hid (fun h => (HF.out.trans (HD.out ▸ matsGo_bad (p := p) h) : matsGo [] l = matF p))
        rcases matF_cases p with ⟨hwd, he⟩ | ⟨hwd, ⟨h1, he⟩ | ⟨h1, h2, he⟩ | ⟨h1, h2, ⟨h3, he⟩ | ⟨h3, h4, he⟩ | ⟨h3, h4, ⟨h5, he⟩ | ⟨h5, h6, he⟩ | ⟨h5, h6, he⟩⟩⟩⟩
        · have HN := Lib.hid ((HBAD.out (by rw [he]; decide)).trans he)
          have CW := Lib.hid (fun W => hwd ▸ isWord_any p.name W)
          clear hwd
          clear he HBAD
          go_wp2_with fail
          refine (CW.out _).mono ?_
          rintro e w2 ⟨rfl, rfl⟩
          go_wp2_with fail
          go_ret
          exact ⟨by rw [HG.out, HN.out]; rfl, by (repeat' (first | (with_reducible exact Below.refl _ _) | (with_reducible assumption) | (with_reducible refine Below.alloc ?_ ?_ _) | (with_reducible refine Below.drew ?_) | (with_reducible refine below_drewN ?_ _) | (with_reducible refine Below.setCell ?_ ?_ _) | (with_reducible exact Nat.le_refl _) | omega | (simp only [World.size_alloc, World.size_setCell, World.size_drew]; omega) | (simp; omega) | (simp; done)))⟩
        · have HN := Lib.hid ((HBAD.out (by rw [he]; decide)).trans he)
          have CW := Lib.hid (fun W => hwd ▸ isWord_any p.name W)
          clear hwd
          clear he HBAD
          go_wp2_with fail
          refine (CW.out _).mono ?_
          rintro e w2 ⟨rfl, rfl⟩
          go_wp2_with fail
          go_ret
          exact ⟨by rw [HG.out, HN.out]; rfl, by (repeat' (first | (with_reducible exact Below.refl _ _) | (with_reducible assumption) | (with_reducible refine Below.alloc ?_ ?_ _) | (with_reducible refine Below.drew ?_) | (with_reducible refine below_drewN ?_ _) | (with_reducible refine Below.setCell ?_ ?_ _) | (with_reducible exact Nat.le_refl _) | omega | (simp only [World.size_alloc, World.size_setCell, World.size_drew]; omega) | (simp; omega) | (simp; done)))⟩
        · have HN := Lib.hid ((HBAD.out (by rw [he]; decide)).trans he)
          have CW := Lib.hid (fun W => hwd ▸ isWord_any p.name W)
          clear hwd
          clear he HBAD
          go_wp2_with fail
          refine (CW.out _).mono ?_
          rintro e w2 ⟨rfl, rfl⟩
          go_wp2_with fail
          go_ret
          exact ⟨by rw [HG.out, HN.out]; rfl, by (repeat' (first | (with_reducible exact Below.refl _ _) | (with_reducible assumption) | (with_reducible refine Below.alloc ?_ ?_ _) | (with_reducible refine Below.drew ?_) | (with_reducible refine below_drewN ?_ _) | (with_reducible refine Below.setCell ?_ ?_ _) | (with_reducible exact Nat.le_refl _) | omega | (simp only [World.size_alloc, World.size_setCell, World.size_drew]; omega) | (simp; omega) | (simp; done)))⟩
        · have HN := Lib.hid ((HBAD.out (by rw [he]; decide)).trans he)
          have CW := Lib.hid (fun W => hwd ▸ isWord_any p.name W)
          clear hwd
          clear he HBAD
          go_wp2_with fail
          refine (CW.out _).mono ?_
          rintro e w2 ⟨rfl, rfl⟩
          go_wp2_with fail
          go_ret
          exact ⟨by rw [HG.out, HN.out]; rfl, by (repeat' (first | (with_reducible exact Below.refl _ _) | (with_reducible assumption) | (with_reducible refine Below.alloc ?_ ?_ _) | (with_reducible refine Below.drew ?_) | (with_reducible refine below_drewN ?_ _) | (with_reducible refine Below.setCell ?_ ?_ _) | (with_reducible exact Nat.le_refl _) | omega | (simp only [World.size_alloc, World.size_setCell, World.size_drew]; omega) | (simp; omega) | (simp; done)))⟩
        · have HN := Lib.hid ((HBAD.out (by rw [he]; decide)).trans he)
          have CW := Lib.hid (fun W => hwd ▸ isWord_any p.name W)
          clear hwd
          clear he HBAD
          go_wp2_with fail
          refine (CW.out _).mono ?_
          rintro e w2 ⟨rfl, rfl⟩
          go_wp2_with fail
          go_ret
          exact ⟨by rw [HG.out, HN.out]; rfl, by (repeat' (first | (with_reducible exact Below.refl _ _) | (with_reducible assumption) | (with_reducible refine Below.alloc ?_ ?_ _) | (with_reducible refine Below.drew ?_) | (with_reducible refine below_drewN ?_ _) | (with_reducible refine Below.setCell ?_ ?_ _) | (with_reducible exact Nat.le_refl _) | omega | (simp only [World.size_alloc, World.size_setCell, World.size_drew]; omega) | (simp; omega) | (simp; done)))⟩
        · have HN := Lib.hid ((HBAD.out (by rw [he]; decide)).trans he)
          have CW := Lib.hid (fun W => hwd ▸ isWord_any p.name W)
          clear hwd
          clear he HBAD
          go_wp2_with fail
          refine (CW.out _).mono ?_
          rintro e w2 ⟨rfl, rfl⟩
          go_wp2_with fail
          go_ret
          exact ⟨by rw [HG.out, HN.out]; rfl, by (repeat' (first | (with_reducible exact Below.refl _ _) | (with_reducible assumption) | (with_reducible refine Below.alloc ?_ ?_ _) | (with_reducible refine Below.drew ?_) | (with_reducible refine below_drewN ?_ _) | (with_reducible refine Below.setCell ?_ ?_ _) | (with_reducible exact Nat.le_refl _) | omega | (simp only [World.size_alloc, World.size_setCell, World.size_drew]; omega) | (simp; omega) | (simp; done)))⟩
        · have HN := Lib.hid ((HBAD.out (by rw [he]; decide)).trans he)
          have CW := Lib.hid (fun W => hwd ▸ isWord_any p.name W)
          clear hwd
          clear he HBAD
          go_wp2_with fail
          refine (CW.out _).mono ?_
          rintro e w2 ⟨rfl, rfl⟩
          go_wp2_with fail
          go_ret
          exact ⟨by rw [HG.out, HN.out]; rfl, by (repeat' (first | (with_reducible exact Below.refl _ _) | (with_reducible assumption) | (with_reducible refine Below.alloc ?_ ?_ _) | (with_reducible refine Below.drew ?_) | (with_reducible refine below_drewN ?_ _) | (with_reducible refine Below.setCell ?_ ?_ _) | (with_reducible exact Nat.le_refl _) | omega | (simp only [World.size_alloc, World.size_setCell, World.size_drew]; omega) | (simp; omega) | (simp; done)))⟩
        · have CW := Lib.hid (fun W => hwd ▸ isWord_any p.name W)
          have HB := Lib.hid he
          clear hwd he HBAD
          by_cases hz : k = 0
          · have hz1 : decide ((0 : Int) < (k : Int)) = false := by simp; omega
            have hz2 : decide (0 < k) = false := by simp; omega
            have HZ := Lib.hid (show (l.take k).getLast?.toList.map Mat.name = [] by rw [hz]; rfl)
            have HN := Lib.hid (show matsGo [] l = matsGo [p.name] (l.drop (k + 1)) by rw [HF.out, HD.out, HZ.out]; exact matsGo_go HB.out rfl)
            clear hz
            go_wp2_with fail
            refine (CW.out _).mono ?_
            rintro e w2 ⟨rfl, rfl⟩
            go_wp2_with fail
            go_quiet (fail)
            go_wp2_with fail
            go_roundw
            case rel => exact ⟨k + 1, by omega, by go_num, HN.out.trans (by rw [last_take Mat.name HI.out]), below_drewN (by (repeat' (first | (with_reducible exact Below.refl _ _) | (with_reducible assumption) | (with_reducible refine Below.alloc ?_ ?_ _) | (with_reducible refine Below.drew ?_) | (with_reducible refine below_drewN ?_ _) | (with_reducible refine Below.setCell ?_ ?_ _) | (with_reducible exact Nat.le_refl _) | omega | (simp only [World.size_alloc, World.size_setCell, World.size_drew]; omega) | (simp; omega) | (simp; done)))) _⟩
            case measure => simp [intOf]; omega
          · obtain ⟨j, rfl⟩ : ∃ j, k = j + 1 := ⟨k - 1, by omega⟩
            have hj : l[j]? = some l[j] := List.getElem?_eq_getElem (by omega)
            have d0 := by simpa using HCS.out j _ hj 0 _ rfl
            have HJ := Lib.hid hj
            clear hj hz
            generalize l[j] = q at *
            have HL := Lib.hid (last_take Mat.name HJ.out)
            have x1 : (j : Int) + 1 - 1 = j := by omega
            have x2 : (0 : Int) ≤ (j : Int) := by omega
            have x3 : (j : Int) < (l.length : Int) := by omega
            have x4 : j < l.length := by omega
            have x5 : IntKind.i64.wrap ((j : Int) + 1 - 1) = (j : Int) + 1 - 1 := IntWalk.i64_in _ (by omega)
            have x6 : IntKind.i64.wrap (j : Int) = (j : Int) := IntWalk.i64_in _ (by omega)
            have E0 : ∀ (cs : Array Value) (t : TypeId), (wr.alloc (.cells cs t)).cell? ⟨b, off + j * 4, none⟩ = some (.string q.name) := fun cs t => (World.cell?_alloc_lt _ _ _ hblt).trans d0
            rcases leS_cases (a := p.name) (b := q.name) rfl with ⟨_, o1⟩ | ⟨_, o1, o2⟩ | ⟨_, o1, o2⟩
            · have HN := Lib.hid (show matsGo [] l = 8 by rw [HF.out, HL.out, HD.out]; exact matsGo_order HB.out (by simp [leS, o1]))
              go_wp2_with fail
              refine (CW.out _).mono ?_
              rintro e w2 ⟨rfl, rfl⟩
              go_wp2_with fail
              go_region_held3 (fun w' => w'.cell? ⟨wr.heap.size, 0, none⟩ = some (.string p.name) ∧ w'.cell? ⟨b, off + j * 4, none⟩ = some (.string q.name)) (first | exact ⟨alloc_cells rfl _ _ _, E0 _ _⟩ | go_keep) (fail)
              go_wp2_with fail
              go_ret
              exact ⟨by rw [HG.out, HN.out]; rfl, by (repeat' (first | (with_reducible exact Below.refl _ _) | (with_reducible assumption) | (with_reducible refine Below.alloc ?_ ?_ _) | (with_reducible refine Below.drew ?_) | (with_reducible refine below_drewN ?_ _) | (with_reducible refine Below.setCell ?_ ?_ _) | (with_reducible exact Nat.le_refl _) | omega | (simp only [World.size_alloc, World.size_setCell, World.size_drew]; omega) | (simp; omega) | (simp; done)))⟩
            · have HN := Lib.hid (show matsGo [] l = 8 by rw [HF.out, HL.out, HD.out]; exact matsGo_order HB.out (by simp only [List.any_cons, leS, o1, o2]; rfl))
              go_wp2_with fail
              refine (CW.out _).mono ?_
              rintro e w2 ⟨rfl, rfl⟩
              go_wp2_with fail
              go_region_held3 (fun w' => w'.cell? ⟨wr.heap.size, 0, none⟩ = some (.string p.name) ∧ w'.cell? ⟨b, off + j * 4, none⟩ = some (.string q.name)) (first | exact ⟨alloc_cells rfl _ _ _, E0 _ _⟩ | go_keep) (fail)
              go_wp2_with fail
              go_ret
              exact ⟨by rw [HG.out, HN.out]; rfl, by (repeat' (first | (with_reducible exact Below.refl _ _) | (with_reducible assumption) | (with_reducible refine Below.alloc ?_ ?_ _) | (with_reducible refine Below.drew ?_) | (with_reducible refine below_drewN ?_ _) | (with_reducible refine Below.setCell ?_ ?_ _) | (with_reducible exact Nat.le_refl _) | omega | (simp only [World.size_alloc, World.size_setCell, World.size_drew]; omega) | (simp; omega) | (simp; done)))⟩
            · have HN := Lib.hid (show matsGo [] l = matsGo [p.name] (l.drop (j + 1 + 1)) by rw [HF.out, HL.out, HD.out]; exact matsGo_go HB.out (by simp only [List.any_cons, leS, o1, o2]; rfl))
              go_wp2_with fail
              refine (CW.out _).mono ?_
              rintro e w2 ⟨rfl, rfl⟩
              go_wp2_with fail
              go_region_held3 (fun w' => w'.cell? ⟨wr.heap.size, 0, none⟩ = some (.string p.name) ∧ w'.cell? ⟨b, off + j * 4, none⟩ = some (.string q.name)) (first | exact ⟨alloc_cells rfl _ _ _, E0 _ _⟩ | go_keep) (fail)
              go_wp2_with fail
              go_roundw
              case rel => exact ⟨j + 1 + 1, by omega, by go_num, HN.out.trans (by rw [last_take Mat.name HI.out]), by (repeat' (first | (with_reducible exact Below.refl _ _) | (with_reducible assumption) | (with_reducible refine Below.alloc ?_ ?_ _) | (with_reducible refine Below.drew ?_) | (with_reducible refine below_drewN ?_ _) | (with_reducible refine Below.setCell ?_ ?_ _) | (with_reducible exact Nat.le_refl _) | omega | (simp only [World.size_alloc, World.size_setCell, World.size_drew]; omega) | (simp; omega) | (simp; done)))⟩
              case measure => simp [intOf]; omega
      · obtain rfl : k = l.length := by omega
        have hend : matsGo [] l = 0 := by
          rw [HF.out, List.drop_length]
          rfl
        have HE := Lib.hid (HG.out.trans hend)
        clear hend
        go_wp2_with fail
        go_ret
        exact ⟨by rw [HE.out]; rfl, hw⟩
end Go.Proofs.Ytdlglnkhhbkndaa

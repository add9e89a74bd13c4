/- canonical and CheckRegion of package shape, of a slice with whatever room. -/
import Derived.Test.YtmcbjaefnhfopaaGreatShapeE
namespace Go.Proofs.YtmcbjaefnhfopaaGreat
open Go.RowKit
open Reg (R4)
set_option linter.unusedSimpArgs false
set_option linter.unusedVariables false

set_option maxHeartbeats 400000 in
theorem canonical_anyM (A : Option Addr) (l : List R4) (c : Nat) (w : World) (hl : l.length ≤ c) (hc : c ≤ 9223372036854775807) (hl2 : l.length ≤ 140737488355328) (h : Rd w A l) :
    Calls Tryz.prog 48 #[.slice A l.length c] w fun e w' => e = .returned (.bool (Reg.progC l.length [] l)) ∧ Below w.heap.size w w' := by
  have H0 := Lib.hid h
  clear h
  go_enter Tryz.func48, Tryz.ntmps48
  go_wp2_with fail
  go_loopw [0, 3] (fun v0 v3 wr => ∃ (bf rest : List R4) (A B : Option Addr) (cA cB fuel : Nat), v0 = .slice A rest.length cA ∧ v3 = .slice B bf.length cB ∧ rest.length ≤ cA ∧ cA ≤ 9223372036854775807 ∧ bf.length ≤ 140737488355328 ∧ rest.length ≤ fuel ∧ fuel ≤ 140737488355328 ∧
      Rd wr A rest ∧ Rd wr B bf ∧ Reg.progC l.length [] l = Reg.progC fuel bf rest ∧ Below w.heap.size w wr) (fun v0 _ _ => lenV v0)
  case atStart => exact ⟨[], l, A, none, c, 0, l.length, rfl, rfl, hl, hc, by simp, Nat.le_refl _, hl2, H0.out, Rd.none_, rfl, Below.refl _ _⟩
  case round =>
    obtain ⟨bf, rest, A, B, cA, cB, fuel, rfl, rfl, h1, h2, h3, h4, h5, hA, hB, hf, hbw⟩ := hrel
    have zw := hbw.size
    have HF := Lib.hid hf
    have HA := Lib.hid hA
    have HB := Lib.hid hB
    clear hf hA hB
    cases rest with
    | nil =>
      have hn : Reg.progC l.length [] l = true := by rw [HF.out]; cases fuel <;> rfl
      have HN := Lib.hid hn
      clear hn
      go_wp2_with fail
      go_ret
      exact ⟨by rw [HN.out]; rfl, hbw⟩
    | cons r t =>
      obtain ⟨b, off, rfl, hblt, hcs⟩ := HA.out (by simp)
      clear hcs
      obtain ⟨n, rfl⟩ : ∃ n, fuel = n + 1 := ⟨fuel - 1, by simp at h4; omega⟩
      have hpos := bandLen_pos (r :: t)
      have hle := bandLen_le r t
      have C1 := Lib.hid (fun W h => bandLength_any (some ⟨b, off, none⟩) r t cA W (by simp at *; omega) h)
      have hp : Reg.progC (n + 1) bf (r :: t) = (Reg.evenB ((r :: t).take (Reg.bandLen (r :: t))) && Reg.mayF bf ((r :: t).take (Reg.bandLen (r :: t))) && Reg.progC n ((r :: t).take (Reg.bandLen (r :: t))) ((r :: t).drop (Reg.bandLen (r :: t)))) := rfl
      have HP := Lib.hid (HF.out.trans hp)
      clear hp
      have htake : ((r :: t).take (Reg.bandLen (r :: t))).length = Reg.bandLen (r :: t) := by rw [List.length_take]; simp; omega
      obtain ⟨m, hm⟩ : ∃ m, (r :: t).take (Reg.bandLen (r :: t)) = r :: m := by
        obtain ⟨k, hk⟩ : ∃ k, Reg.bandLen (r :: t) = k + 1 := ⟨Reg.bandLen (r :: t) - 1, by omega⟩
        rw [hk]; exact ⟨_, rfl⟩
      rw [hm] at htake
      generalize Reg.bandLen (r :: t) = k at *
      have hkm : m.length + 1 = k := by simpa using htake
      have C2 := Lib.hid (show ∀ W, Rd W (some ⟨b, off, none⟩) (r :: m) → Calls Tryz.prog 70 #[.slice (some ⟨b, off, none⟩) k cA] W fun e w' => e = .returned (.bool (Reg.evenB (r :: m))) ∧ Below W.heap.size W w' from fun W h => hkm ▸ evenBand_any (some ⟨b, off, none⟩) r m cA W (by simp at *; omega) h)
      have C3 := Lib.hid (show ∀ W, Rd W B bf → Rd W (some ⟨b, off, none⟩) (r :: m) → Calls Tryz.prog 71 #[.slice B bf.length cB, .slice (some ⟨b, off, none⟩) k cA] W fun e w' => e = .returned (.bool (Reg.mayF bf (r :: m))) ∧ Below W.heap.size W w' from fun W hB hA => by
        cases bf with
        | nil =>
          have := mayFollow_nil B (some ⟨b, off, none⟩) (r :: m) cA cB W (by simp at *; omega)
          rw [htake] at this
          exact this
        | cons r0 t0 => exact hkm ▸ mayFollow_any B (some ⟨b, off, none⟩) r0 r t0 m cB cA W h3 (by simp at *; omega) hB hA)
      have HT := Lib.hid htake
      have HM := Lib.hid hm
      clear htake hm hkm
      rw [HM.out] at HP
      have HR := Lib.hid (show Rd wr (some ⟨b, off, none⟩) (r :: m) from HM.out ▸ HA.out.take k)
      simp only [List.length_cons] at h1 h4 ⊢
      have hk' : (k : Int) ≤ (t.length : Int) + 1 := by omega
      have hk0 : (0 : Int) ≤ (k : Int) := by omega
      have hkc : (k : Int) ≤ (cA : Int) := by omega
      have hlen0 : (0 : Int) < (t.length : Int) + 1 := by omega
      go_wp2_with fail
      refine (C1.out _ HA.out).mono ?_
      rintro e w1 ⟨rfl, hb⟩
      have HR1 := Lib.hid (HR.out.below hb)
      have HA1 := Lib.hid (HA.out.below hb)
      have HB1 := Lib.hid (HB.out.below hb)
      have B1 := up (B := w.heap.size) (w := w) (by (repeat' (first | (with_reducible exact Below.refl _ _) | (with_reducible assumption) | (with_reducible refine Below.alloc ?_ ?_ _) | (with_reducible refine Below.drew ?_) | (with_reducible refine below_drewN ?_ _) | (with_reducible refine Below.setCell ?_ ?_ _) | (with_reducible exact Nat.le_refl _) | omega | (simp only [World.size_alloc, World.size_setCell, World.size_drew]; omega) | (simp; omega) | (simp; done)))) hb (by (first | (with_reducible exact Nat.le_refl _) | (with_reducible assumption) | omega | (simp only [World.size_alloc, World.size_setCell, World.size_drew]; omega) | (simp; omega) | (simp; done)))
      have z1 := hb.size
      clear hb
      go_wp2_with fail
      refine (C2.out _ HR1.out).mono ?_
      rintro e w2 ⟨rfl, hb⟩
      have HR2 := Lib.hid (HR1.out.below hb)
      have HA2 := Lib.hid (HA1.out.below hb)
      have HB2 := Lib.hid (HB1.out.below hb)
      have B2 := up (B := w.heap.size) (w := w) (by (repeat' (first | (with_reducible exact Below.refl _ _) | (with_reducible assumption) | (with_reducible refine Below.alloc ?_ ?_ _) | (with_reducible refine Below.drew ?_) | (with_reducible refine below_drewN ?_ _) | (with_reducible refine Below.setCell ?_ ?_ _) | (with_reducible exact Nat.le_refl _) | omega | (simp only [World.size_alloc, World.size_setCell, World.size_drew]; omega) | (simp; omega) | (simp; done)))) hb (by (first | (with_reducible exact Nat.le_refl _) | (with_reducible assumption) | omega | (simp only [World.size_alloc, World.size_setCell, World.size_drew]; omega) | (simp; omega) | (simp; done)))
      have z2 := hb.size
      clear hb
      cases he : Reg.evenB (r :: m)
      · have hn : Reg.progC l.length [] l = false := by rw [HP.out, he]; rfl
        have HN := Lib.hid hn
        clear hn he
        go_wp2_with fail
        go_ret
        exact ⟨by rw [HN.out]; rfl, B2⟩
      · go_wp2_with fail
        refine (C3.out _ HB2.out HR2.out).mono ?_
        rintro e w3 ⟨rfl, hb⟩
        have HR3 := Lib.hid (HR2.out.below hb)
        have HA3 := Lib.hid (HA2.out.below hb)
        have B3 := up (B := w.heap.size) (w := w) (by (repeat' (first | (with_reducible exact Below.refl _ _) | (with_reducible assumption) | (with_reducible refine Below.alloc ?_ ?_ _) | (with_reducible refine Below.drew ?_) | (with_reducible refine below_drewN ?_ _) | (with_reducible refine Below.setCell ?_ ?_ _) | (with_reducible exact Nat.le_refl _) | omega | (simp only [World.size_alloc, World.size_setCell, World.size_drew]; omega) | (simp; omega) | (simp; done)))) hb (by (first | (with_reducible exact Nat.le_refl _) | (with_reducible assumption) | omega | (simp only [World.size_alloc, World.size_setCell, World.size_drew]; omega) | (simp; omega) | (simp; done)))
        have z3 := hb.size
        clear hb
        cases hmf : Reg.mayF bf (r :: m)
        · have hn : Reg.progC l.length [] l = false := by rw [HP.out, he, hmf]; rfl
          have HN := Lib.hid hn
          clear hn he hmf
          go_wp2_with fail
          go_ret
          exact ⟨by rw [HN.out]; rfl, B3⟩
        · have hn : Reg.progC l.length [] l = Reg.progC n (r :: m) ((r :: t).drop k) := by rw [HP.out, he, hmf]; simp
          have HN := Lib.hid hn
          clear hn he hmf
          go_wp2_with fail
          go_quiet (fail)
          have hdl : ((r :: t).drop k).length = t.length + 1 - k := by simp
          have hrd : Rd (w3.drewN nq) (if cA = k then some ⟨b, off, none⟩ else some ⟨b, off + k * 4, none⟩) ((r :: t).drop k) := by
            split
            · intro hn
              rw [hdl] at hn
              omega
            · exact (HA3.out.drewN nq).drop k
          go_wp2_with fail
          go_roundw
          case rel => exact ⟨r :: m, (r :: t).drop k, _, _, cA - k, cA, n, by rw [hdl], by rw [HT.out], by rw [hdl]; omega, by omega, by rw [HT.out]; omega, by rw [hdl]; omega, by omega, hrd, HR3.out.drewN nq, HN.out, by (repeat' (first | (with_reducible exact Below.refl _ _) | (with_reducible assumption) | (with_reducible refine Below.alloc ?_ ?_ _) | (with_reducible refine Below.drew ?_) | (with_reducible refine below_drewN ?_ _) | (with_reducible refine Below.setCell ?_ ?_ _) | (with_reducible exact Nat.le_refl _) | omega | (simp only [World.size_alloc, World.size_setCell, World.size_drew]; omega) | (simp; omega) | (simp; done)))⟩
          case measure => simp [lenV]; omega

set_option maxRecDepth 100000 in
set_option maxHeartbeats 1000000 in
theorem checkRegion_anyM (A : Option Addr) (l : List R4) (c : Nat) (w : World) (hl : l.length ≤ c) (hc : c ≤ 9223372036854775807) (hl2 : l.length ≤ 140737488355328) (h : Rd w A l) :
    Calls Tryz.prog 28 #[.slice A l.length c] w fun e w' => e = .returned (.int .i64 (regF l)) ∧ Below w.heap.size w w' := by
  have H0 := Lib.hid h
  have C1 := Lib.hid (fun W h => checkRects_any A l c W (by omega) h)
  clear h
  by_cases h0 : rectsF l = 0
  · have hreg : regF l = if ordB l then (if Reg.progC l.length [] l then 0 else 3) else 8 := if_pos h0
    have HG := Lib.hid hreg
    clear hreg
    rw [h0] at C1
    clear h0
    have C2 := Lib.hid (fun W h => canonical_anyM A l c W hl hc hl2 h)
    cases l with
    | nil =>
      go_enter Tryz.func28, Tryz.ntmps28
      go_wp2_with fail
      refine (C1.out _ H0.out).mono ?_
      rintro e w1 ⟨rfl, hb⟩
      have H1 := Lib.hid (H0.out.below hb)
      have B1 := up (B := w.heap.size) (w := w) (by (repeat' (first | (with_reducible exact Below.refl _ _) | (with_reducible assumption) | (with_reducible refine Below.alloc ?_ ?_ _) | (with_reducible refine Below.drew ?_) | (with_reducible refine below_drewN ?_ _) | (with_reducible refine Below.setCell ?_ ?_ _) | (with_reducible exact Nat.le_refl _) | omega | (simp only [World.size_alloc, World.size_setCell, World.size_drew]; omega) | (simp; omega) | (simp; done)))) hb (by (first | (with_reducible exact Nat.le_refl _) | (with_reducible assumption) | omega | (simp only [World.size_alloc, World.size_setCell, World.size_drew]; omega) | (simp; omega) | (simp; done)))
      have z1 := hb.size
      clear hb
      go_wp2_with fail
      refine wp_loop_rounds 1 ?_
      rw [rounds_succ]
      go_wp2_with fail
      refine (C2.out _ H1.out).mono ?_
      rintro e w2 ⟨rfl, hb⟩
      have B2 := up (B := w.heap.size) (w := w) (by (repeat' (first | (with_reducible exact Below.refl _ _) | (with_reducible assumption) | (with_reducible refine Below.alloc ?_ ?_ _) | (with_reducible refine Below.drew ?_) | (with_reducible refine below_drewN ?_ _) | (with_reducible refine Below.setCell ?_ ?_ _) | (with_reducible exact Nat.le_refl _) | omega | (simp only [World.size_alloc, World.size_setCell, World.size_drew]; omega) | (simp; omega) | (simp; done)))) hb (by (first | (with_reducible exact Nat.le_refl _) | (with_reducible assumption) | omega | (simp only [World.size_alloc, World.size_setCell, World.size_drew]; omega) | (simp; omega) | (simp; done)))
      clear hb
      go_wp2_with fail
      go_ret
      exact ⟨by rw [HG.out]; rfl, B2⟩
    | cons r t =>
      obtain ⟨b, off, rfl, hblt, hcs⟩ := H0.out (by simp)
      clear hcs
      go_enter Tryz.func28, Tryz.ntmps28
      go_wp2_with fail
      refine (C1.out _ H0.out).mono ?_
      rintro e w1 ⟨rfl, hb⟩
      have H1 := Lib.hid (H0.out.below hb)
      have B1 := up (B := w.heap.size) (w := w) (by (repeat' (first | (with_reducible exact Below.refl _ _) | (with_reducible assumption) | (with_reducible refine Below.alloc ?_ ?_ _) | (with_reducible refine Below.drew ?_) | (with_reducible refine below_drewN ?_ _) | (with_reducible refine Below.setCell ?_ ?_ _) | (with_reducible exact Nat.le_refl _) | omega | (simp only [World.size_alloc, World.size_setCell, World.size_drew]; omega) | (simp; omega) | (simp; done)))) hb (by (first | (with_reducible exact Nat.le_refl _) | (with_reducible assumption) | omega | (simp only [World.size_alloc, World.size_setCell, World.size_drew]; omega) | (simp; omega) | (simp; done)))
      have z1 := hb.size
      clear hb
      go_wp2_with fail
      go_loopw [4] (fun i wr => ∃ (k : Nat) (p : R4), k < t.length + 1 ∧ i = .int .i64 ((k : Int) + 1) ∧ (r :: t)[k]? = some p ∧ ordB (r :: t) = ordFrom p ((r :: t).drop (k + 1)) ∧ Below w.heap.size w wr) (fun i _ => t.length + 2 - (intOf i).toNat)
      case atStart => exact ⟨0, r, by omega, rfl, rfl, rfl, B1⟩
      case round =>
        obtain ⟨k, p, hk, rfl, hp, hf, hbw⟩ := hrel
        have zw := hbw.size
        have HF := Lib.hid hf
        clear hf
        have HR := Lib.hid (H0.out.below hbw)
        have hkz : (0 : Int) ≤ (k : Int) := by omega
        have hlc : t.length + 1 ≤ 140737488355328 := by simp at hl; omega
        by_cases hlt : k + 1 < t.length + 1
        · have hlt' : k + 1 < (r :: t).length := by simpa using hlt
          have hi : (r :: t)[k + 1]? = some (r :: t)[k + 1] := List.getElem?_eq_getElem hlt'
          have hd : (r :: t).drop (k + 1) = (r :: t)[k + 1] :: (r :: t).drop (k + 1 + 1) := List.drop_eq_getElem_cons hlt'
          have HD := Lib.hid hd
          have HI := Lib.hid hi
          obtain ⟨b', off', e, hb', hcs⟩ := HR.out (by simp)
          cases e
          obtain ⟨p0, p1, p2, p3⟩ := hcs k _ hp
          have hu := hcs (k + 1) _ hi
          generalize (r :: t)[k + 1] = u at *
          obtain ⟨u0, u1, u2, u3⟩ := hu
          clear hcs hi hd hp
          have hkz1 : (0 : Int) ≤ (k : Int) + 1 := by omega
          have hlz : (k : Int) + 1 < (t.length : Int) + 1 := by omega
          have hlz2 : (k : Int) < (t.length : Int) + 1 := by omega
          have hbr : b < wr.heap.size := by omega
          have hless := less_iff p u
          have hs1 : IntKind.i64.wrap (k : Int) = (k : Int) := IntWalk.i64_in _ (by omega)
          have hs2 : ((k : Int) + 1).toNat = k + 1 := by omega
          have C3 := Lib.hid (show ∀ W, Calls Tryz.prog 46 #[.agg #[.int .i64 p.x0, .int .i64 p.y0], .agg #[.int .i64 u.x0, .int .i64 u.y0]] W fun e w' => e = .returned (.int .i64 (orI (cmpI p.y0 u.y0) (cmpI p.x0 u.x0))) ∧ Below W.heap.size W w' from fun W => comparePoints_any _ _ _ _ W)
          generalize orI (cmpI p.y0 u.y0) (cmpI p.x0 u.x0) = z at *
          cases hle : lessYX p u
          · rw [hle] at hless
            have hn : ordB (r :: t) = false := by rw [HF.out, HD.out]; simp [ordFrom, hle]
            have HN := Lib.hid hn
            clear hn hle
            have hz : decide (0 ≤ z) = true := hless
            clear hless
            go_wp2_with fail
            go_region_held3 (fun w' => w'.cell? ⟨b, off + k * 4, none⟩ = some (.int .i64 p.x0) ∧ w'.cell? ⟨b, off + k * 4 + 1, none⟩ = some (.int .i64 p.y0) ∧ w'.cell? ⟨b, off + k * 4 + 2, none⟩ = some (.int .i64 p.x1) ∧ w'.cell? ⟨b, off + k * 4 + 3, none⟩ = some (.int .i64 p.y1) ∧
                w'.cell? ⟨b, off + (k + 1) * 4, none⟩ = some (.int .i64 u.x0) ∧ w'.cell? ⟨b, off + (k + 1) * 4 + 1, none⟩ = some (.int .i64 u.y0) ∧ w'.cell? ⟨b, off + (k + 1) * 4 + 2, none⟩ = some (.int .i64 u.x1) ∧ w'.cell? ⟨b, off + (k + 1) * 4 + 3, none⟩ = some (.int .i64 u.y1)) (go_keep)
              (first | (go_at_call 47; refine (corner_any _ _).mono ?_; rintro e wc ⟨rfl, hb⟩; have qc := kc hb b (by (first | (with_reducible exact Nat.le_refl _) | (with_reducible assumption) | omega | (simp only [World.size_alloc, World.size_setCell, World.size_drew]; omega) | (simp; omega) | (simp; done))); have zc := hb.size; (try simp only [World.size_alloc, World.size_setCell, World.size_drew] at zc); have Bc := up (B := w.heap.size) (w := w) (by (repeat' (first | (with_reducible exact Below.refl _ _) | (with_reducible assumption) | (with_reducible refine Below.alloc ?_ ?_ _) | (with_reducible refine Below.drew ?_) | (with_reducible refine below_drewN ?_ _) | (with_reducible refine Below.setCell ?_ ?_ _) | (with_reducible exact Nat.le_refl _) | omega | (simp only [World.size_alloc, World.size_setCell, World.size_drew]; omega) | (simp; omega) | (simp; done)))) hb (by (first | (with_reducible exact Nat.le_refl _) | (with_reducible assumption) | omega | (simp only [World.size_alloc, World.size_setCell, World.size_drew]; omega) | (simp; omega) | (simp; done))); clear hb) | (go_at_call 46; refine (C3.out _).mono ?_; rintro e wc ⟨rfl, hb⟩; have qc := kc hb b (by (first | (with_reducible exact Nat.le_refl _) | (with_reducible assumption) | omega | (simp only [World.size_alloc, World.size_setCell, World.size_drew]; omega) | (simp; omega) | (simp; done))); have zc := hb.size; (try simp only [World.size_alloc, World.size_setCell, World.size_drew] at zc); have Bc := up (B := w.heap.size) (w := w) (by (repeat' (first | (with_reducible exact Below.refl _ _) | (with_reducible assumption) | (with_reducible refine Below.alloc ?_ ?_ _) | (with_reducible refine Below.drew ?_) | (with_reducible refine below_drewN ?_ _) | (with_reducible refine Below.setCell ?_ ?_ _) | (with_reducible exact Nat.le_refl _) | omega | (simp only [World.size_alloc, World.size_setCell, World.size_drew]; omega) | (simp; omega) | (simp; done)))) hb (by (first | (with_reducible exact Nat.le_refl _) | (with_reducible assumption) | omega | (simp only [World.size_alloc, World.size_setCell, World.size_drew]; omega) | (simp; omega) | (simp; done))); clear hb))
            go_wp2_with fail
            go_ret
            exact ⟨by rw [HG.out, HN.out]; rfl, Bc⟩
          · rw [hle] at hless
            have hn : ordB (r :: t) = ordFrom u ((r :: t).drop (k + 1 + 1)) := by rw [HF.out, HD.out]; simp [ordFrom, hle]
            have HN := Lib.hid hn
            clear hn hle
            have hz : decide (0 ≤ z) = false := hless
            clear hless
            go_wp2_with fail
            go_region_held3 (fun w' => w'.cell? ⟨b, off + k * 4, none⟩ = some (.int .i64 p.x0) ∧ w'.cell? ⟨b, off + k * 4 + 1, none⟩ = some (.int .i64 p.y0) ∧ w'.cell? ⟨b, off + k * 4 + 2, none⟩ = some (.int .i64 p.x1) ∧ w'.cell? ⟨b, off + k * 4 + 3, none⟩ = some (.int .i64 p.y1) ∧
                w'.cell? ⟨b, off + (k + 1) * 4, none⟩ = some (.int .i64 u.x0) ∧ w'.cell? ⟨b, off + (k + 1) * 4 + 1, none⟩ = some (.int .i64 u.y0) ∧ w'.cell? ⟨b, off + (k + 1) * 4 + 2, none⟩ = some (.int .i64 u.x1) ∧ w'.cell? ⟨b, off + (k + 1) * 4 + 3, none⟩ = some (.int .i64 u.y1)) (go_keep)
              (first | (go_at_call 47; refine (corner_any _ _).mono ?_; rintro e wc ⟨rfl, hb⟩; have qc := kc hb b (by (first | (with_reducible exact Nat.le_refl _) | (with_reducible assumption) | omega | (simp only [World.size_alloc, World.size_setCell, World.size_drew]; omega) | (simp; omega) | (simp; done))); have zc := hb.size; (try simp only [World.size_alloc, World.size_setCell, World.size_drew] at zc); have Bc := up (B := w.heap.size) (w := w) (by (repeat' (first | (with_reducible exact Below.refl _ _) | (with_reducible assumption) | (with_reducible refine Below.alloc ?_ ?_ _) | (with_reducible refine Below.drew ?_) | (with_reducible refine below_drewN ?_ _) | (with_reducible refine Below.setCell ?_ ?_ _) | (with_reducible exact Nat.le_refl _) | omega | (simp only [World.size_alloc, World.size_setCell, World.size_drew]; omega) | (simp; omega) | (simp; done)))) hb (by (first | (with_reducible exact Nat.le_refl _) | (with_reducible assumption) | omega | (simp only [World.size_alloc, World.size_setCell, World.size_drew]; omega) | (simp; omega) | (simp; done))); clear hb) | (go_at_call 46; refine (C3.out _).mono ?_; rintro e wc ⟨rfl, hb⟩; have qc := kc hb b (by (first | (with_reducible exact Nat.le_refl _) | (with_reducible assumption) | omega | (simp only [World.size_alloc, World.size_setCell, World.size_drew]; omega) | (simp; omega) | (simp; done))); have zc := hb.size; (try simp only [World.size_alloc, World.size_setCell, World.size_drew] at zc); have Bc := up (B := w.heap.size) (w := w) (by (repeat' (first | (with_reducible exact Below.refl _ _) | (with_reducible assumption) | (with_reducible refine Below.alloc ?_ ?_ _) | (with_reducible refine Below.drew ?_) | (with_reducible refine below_drewN ?_ _) | (with_reducible refine Below.setCell ?_ ?_ _) | (with_reducible exact Nat.le_refl _) | omega | (simp only [World.size_alloc, World.size_setCell, World.size_drew]; omega) | (simp; omega) | (simp; done)))) hb (by (first | (with_reducible exact Nat.le_refl _) | (with_reducible assumption) | omega | (simp only [World.size_alloc, World.size_setCell, World.size_drew]; omega) | (simp; omega) | (simp; done))); clear hb))
            go_wp2_with fail
            go_roundw
            case rel => exact ⟨k + 1, u, by omega, by go_num, HI.out, HN.out, Bc⟩
            case measure => simp [intOf]; omega
        · obtain rfl : k = t.length := by omega
          have hn : ordB (r :: t) = true := by rw [HF.out]; simp [ordFrom]
          have HN := Lib.hid hn
          clear hn hp
          go_wp2_with fail
          refine (C2.out _ HR.out).mono ?_
          rintro e w2 ⟨rfl, hb⟩
          have B2 := up (B := w.heap.size) (w := w) (by (repeat' (first | (with_reducible exact Below.refl _ _) | (with_reducible assumption) | (with_reducible refine Below.alloc ?_ ?_ _) | (with_reducible refine Below.drew ?_) | (with_reducible refine below_drewN ?_ _) | (with_reducible refine Below.setCell ?_ ?_ _) | (with_reducible exact Nat.le_refl _) | omega | (simp only [World.size_alloc, World.size_setCell, World.size_drew]; omega) | (simp; omega) | (simp; done)))) hb (by (first | (with_reducible exact Nat.le_refl _) | (with_reducible assumption) | omega | (simp only [World.size_alloc, World.size_setCell, World.size_drew]; omega) | (simp; omega) | (simp; done)))
          clear hb
          cases hpc : Reg.progC (r :: t).length [] (r :: t)
          · have HP := Lib.hid hpc
            clear hpc
            go_wp2_with fail
            go_ret
            exact ⟨by rw [HG.out, HN.out, HP.out]; rfl, B2⟩
          · have HP := Lib.hid hpc
            clear hpc
            go_wp2_with fail
            go_ret
            exact ⟨by rw [HG.out, HN.out, HP.out]; rfl, B2⟩
  · have hreg : regF l = rectsF l := if_neg h0
    rw [hreg]
    have hd : (rectsF l == 0) = false := by simpa using h0
    clear hreg h0
    generalize rectsF l = d at *
    go_enter Tryz.func28, Tryz.ntmps28
    go_wp2_with fail
    refine (C1.out _ H0.out).mono ?_
    rintro e w1 ⟨rfl, hb⟩
    have B1 := up (B := w.heap.size) (w := w) (by (repeat' (first | (with_reducible exact Below.refl _ _) | (with_reducible assumption) | (with_reducible refine Below.alloc ?_ ?_ _) | (with_reducible refine Below.drew ?_) | (with_reducible refine below_drewN ?_ _) | (with_reducible refine Below.setCell ?_ ?_ _) | (with_reducible exact Nat.le_refl _) | omega | (simp only [World.size_alloc, World.size_setCell, World.size_drew]; omega) | (simp; omega) | (simp; done)))) hb (by (first | (with_reducible exact Nat.le_refl _) | (with_reducible assumption) | omega | (simp only [World.size_alloc, World.size_setCell, World.size_drew]; omega) | (simp; omega) | (simp; done)))
    clear hb
    go_wp2_with fail
    go_ret
    exact ⟨rfl, B1⟩
end Go.Proofs.YtmcbjaefnhfopaaGreat

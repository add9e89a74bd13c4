/- checkGaps of the program, whatever the world. -/
import Derived.Test.YtkjbllhobannpaaRdM
import Derived.Test.YtkjbllhobannpaaShapeG
namespace Go.Proofs.Ytkjbllhobannpaa
open Go.RowKit
open Reg (R4)
set_option linter.unusedSimpArgs false
set_option linter.unusedVariables false

def regsF : List (List R4) → Int
  | [] => 0
  | l :: t => if regF l = 0 then regsF t else regF l
def totL : List (List R4) → Nat
  | [] => 0
  | l :: t => l.length + totL t
/-- The fault of a list of regions and a number. -/
def cgF (L : List (List R4)) (below : Int) : Int := if 2000 < L.length ∨ 2000 < totL L then 2 else if regsF L = 0 then (if 0 ≤ below ∧ below ≤ 100000 then 0 else 1) else regsF L
theorem totL_append (a b : List (List R4)) : totL (a ++ b) = totL a + totL b := by
  induction a with
  | nil => simp [totL]
  | cons l a ih => simp only [List.cons_append, totL, ih]; omega
theorem totL_snoc (L : List (List R4)) (k : Nat) (h : k < L.length) : totL (L.take (k + 1)) = totL (L.take k) + L[k].length := by
  rw [List.take_succ_eq_append_getElem h, totL_append]
  simp [totL]
theorem totL_le {M : Nat} : ∀ L : List (List R4), (∀ l, l ∈ L → l.length ≤ M) → totL L ≤ L.length * M
  | [], _ => by simp [totL]
  | l :: L, h => by
    have h1 := h l List.mem_cons_self
    have h2 := totL_le L (fun x hx => h x (List.mem_cons_of_mem _ hx))
    simp only [totL, List.length_cons, Nat.add_mul, Nat.one_mul]
    omega
theorem totL_take (L : List (List R4)) (k : Nat) : totL (L.take k) ≤ totL L := by
  have := totL_append (L.take k) (L.drop k)
  rw [List.take_append_drop] at this
  omega
theorem regsF_zero : ∀ {L : List (List R4)}, regsF L = 0 ↔ ∀ l, l ∈ L → regF l = 0
  | [] => by simp [regsF]
  | l :: L => by
    simp only [regsF, List.mem_cons, forall_eq_or_imp]
    by_cases h : regF l = 0
    · rw [if_pos h, regsF_zero]; simp [h]
    · rw [if_neg h]; simp [h]
theorem regsF_drop {L : List (List R4)} {k : Nat} (h : k < L.length) : regsF (L.drop k) = if regF L[k] = 0 then regsF (L.drop (k + 1)) else regF L[k] := by
  rw [List.drop_eq_getElem_cons h]; rfl
theorem cgF_zero {L : List (List R4)} {below : Int} (h : cgF L below = 0) : L.length ≤ 2000 ∧ totL L ≤ 2000 ∧ (∀ l, l ∈ L → regF l = 0) ∧ 0 ≤ below ∧ below ≤ 100000 := by
  unfold cgF at h
  split at h
  · cases h
  · rename_i h1
    split at h
    · rename_i h2
      split at h
      · rename_i h3
        exact ⟨by omega, by omega, regsF_zero.1 h2, h3.1, h3.2⟩
      · cases h
    · rename_i h2; exact absurd h h2
theorem rdM_len {w : World} {A : Option Addr} {L : List (List R4)} {hd : Nat → Option Addr × Nat} (h : RdM w A L hd) : ∀ l, l ∈ L → l.length ≤ 140737488355328 := by
  intro l hl
  obtain ⟨i, hi, e⟩ := List.getElem_of_mem hl
  obtain ⟨_, h2, h3⟩ := h.2 i l (by rw [List.getElem?_eq_getElem hi, e])
  omega

set_option maxRecDepth 100000 in
set_option maxHeartbeats 2000000 in
theorem checkGaps_any (A : Option Addr) (L : List (List R4)) (c : Nat) (hd : Nat → Option Addr × Nat) (below : Int) (w : World) (hl : L.length ≤ 140737488355328) (h : RdM w A L hd) :
    Calls Try.prog 34 #[.slice A L.length c, .int .i64 below] w fun e w' => e = .returned (.int .i64 (cgF L below)) ∧ Below w.heap.size w w' := by
  have H0 := Lib.hid h
  have CR := Lib.hid (fun A' l c' W (hl : l.length ≤ c') (hc : c' ≤ 140737488355328) h => checkRegion_any A' l c' W hl hc h)
  have hlen := rdM_len h
  clear h
  obtain ⟨V, hV⟩ : ∃ V, V = cgF L below := ⟨_, rfl⟩
  rw [← hV]
  by_cases hbig : 2000 < L.length
  · have hv : V = 2 := by rw [hV]; unfold cgF; rw [if_pos (.inl hbig)]
    subst hv
    have hb' : (2000 : Int) < (L.length : Int) := by omega
    clear hV hlen
    go_enter Try.func34, Try.ntmps34
    go_wp2_with fail
    go_ret
    exact ⟨rfl, Below.refl _ _⟩
  have hb' : ¬ (2000 : Int) < (L.length : Int) := by omega
  have htot : ∀ k, totL (L.take k) ≤ 2000 * 140737488355328 := fun k => by
    have h1 := totL_take L k
    have h2 := totL_le L hlen
    have h3 : L.length * 140737488355328 ≤ 2000 * 140737488355328 := Nat.mul_le_mul_right _ (by omega)
    omega
  have HT := Lib.hid htot
  have HV := Lib.hid hV
  clear hV htot
  have hVV : (2000 < totL L ∧ V = 2) ∨ (totL L ≤ 2000 ∧ V = if regsF L = 0 then (if 0 ≤ below ∧ below ≤ 100000 then 0 else 1) else regsF L) := by
    rw [HV.out]
    unfold cgF
    by_cases ht : 2000 < totL L
    · rw [if_pos (.inr ht)]; exact .inl ⟨ht, rfl⟩
    · rw [if_neg (by omega)]; exact .inr ⟨by omega, rfl⟩
  have HVV := Lib.hid hVV
  clear hVV HV
  go_enter Try.func34, Try.ntmps34
  go_wp2_with fail
  go_loopw [5, 16] (fun n i wr => ∃ k : Nat, k ≤ L.length ∧ i = .int .i64 k ∧ n = .int .i64 (totL (L.take k) : Nat) ∧ Below w.heap.size w wr) (fun _ i _ => L.length - (intOf i).toNat)
  case atStart => exact ⟨0, Nat.zero_le _, rfl, rfl, Below.refl _ _⟩
  case round =>
    obtain ⟨k, hk, rfl, rfl, hbw⟩ := hrel
    have zw := hbw.size
    have hkz : (0 : Int) ≤ (k : Int) := by omega
    by_cases hlt : k < L.length
    · have hM := H0.out.below hbw
      obtain ⟨b, off, e, hb, hc⟩ := hM.1 (by omega)
      subst e
      have hi := List.getElem?_eq_getElem hlt
      have c0 := hc k _ hi
      have hle := hlen _ (List.getElem_mem hlt)
      have HS := Lib.hid (totL_snoc L k hlt)
      have ht := HT.out k
      clear hc hi hM
      generalize L[k] = x at *
      have hklt : (k : Int) < (L.length : Int) := by omega
      obtain ⟨T, hT⟩ : ∃ T, T = totL (L.take k) := ⟨_, rfl⟩
      rw [← hT] at HS ht
      rw [← hT]
      clear hT
      go_wp2_with fail
      go_roundw
      case rel => exact ⟨k + 1, by omega, by go_num, by rw [HS.out]; go_num, hbw⟩
      case measure => simp [intOf]; omega
    · obtain rfl : k = L.length := by omega
      rw [List.take_length]
      rcases HVV.out with ⟨ht, rfl⟩ | ⟨ht, hv⟩
      · have ht' : (2000 : Int) < (totL L : Int) := by omega
        go_wp2_with fail
        go_ret
        exact ⟨rfl, hbw⟩
      · have ht' : ¬ (2000 : Int) < (totL L : Int) := by omega
        have HV2 := Lib.hid hv
        clear hv
        obtain ⟨w8, rfl⟩ : ∃ w8, w8 = wr := ⟨wr, rfl⟩
        go_wp2_with fail
        go_loopw [29] (fun i wr => ∃ k : Nat, k ≤ L.length ∧ i = .int .i64 k ∧ regsF L = regsF (L.drop k) ∧ Below w.heap.size w wr) (fun i _ => L.length - (intOf i).toNat)
        case atStart => exact ⟨0, Nat.zero_le _, rfl, rfl, hbw⟩
        case round =>
          obtain ⟨k, hk, rfl, hr, hbi⟩ := hrel
          have HR := Lib.hid hr
          clear hr
          have zi := hbi.size
          have hkz : (0 : Int) ≤ (k : Int) := by omega
          by_cases hlt : k < L.length
          · have hM := H0.out.below hbi
            obtain ⟨b, off, e, hb, hc⟩ := hM.1 (by omega)
            subst e
            have hi := List.getElem?_eq_getElem hlt
            have c0 := hc k _ hi
            obtain ⟨r1, r2, r3⟩ := hM.2 k _ hi
            have HS := Lib.hid (regsF_drop hlt)
            have R1 := Lib.hid r1
            clear hc hi hM r1 hlen
            generalize L[k] = x at *
            have C1 := Lib.hid (fun W h => CR.out (hd k).1 x (hd k).2 W r2 r3 h)
            have hklt : (k : Int) < (L.length : Int) := by omega
            by_cases hz : regF x = 0
            · have HN := Lib.hid (show regsF L = regsF (L.drop (k + 1)) from by rw [HR.out, HS.out, if_pos hz])
              rw [hz] at C1
              clear hz
              go_wp2_with fail
              refine (C1.out _ R1.out).mono ?_
              rintro e w2 ⟨rfl, hb2⟩
              have B2 := up (B := w.heap.size) hbi hb2 (by (first | (with_reducible exact Nat.le_refl _) | (with_reducible assumption) | omega | (simp only [World.size_alloc, World.size_setCell, World.size_drew]; omega) | (simp; omega) | (simp; done)))
              clear hb2
              go_wp2_with fail
              go_roundw
              case rel => exact ⟨k + 1, by omega, by go_num, HN.out, B2⟩
              case measure => simp [intOf]; omega
            · have HN := Lib.hid (show V = regF x from by rw [HV2.out, HR.out, HS.out, if_neg hz, if_neg hz])
              have hd : (regF x == 0) = false := by simpa using hz
              have hd' : (regF x != 0) = true := by simpa using hz
              clear hz
              generalize regF x = F at *
              have e9 := HN.out
              subst e9
              clear HN
              go_wp2_with fail
              refine (C1.out _ R1.out).mono ?_
              rintro e w2 ⟨rfl, hb2⟩
              have B2 := up (B := w.heap.size) hbi hb2 (by (first | (with_reducible exact Nat.le_refl _) | (with_reducible assumption) | omega | (simp only [World.size_alloc, World.size_setCell, World.size_drew]; omega) | (simp; omega) | (simp; done)))
              clear hb2
              go_wp2_with fail
              go_ret
              exact ⟨rfl, B2⟩
          · obtain rfl : k = L.length := by omega
            have hz : regsF L = 0 := by rw [HR.out, List.drop_length]; rfl
            have hv := HV2.out
            rw [if_pos hz] at hv
            clear hz
            by_cases h1 : below < 0
            · obtain rfl : V = 1 := by rw [hv, if_neg (by omega)]
              clear hv
              go_wp2_with fail
              go_ret
              exact ⟨rfl, hbi⟩
            · by_cases h2 : 100000 < below
              · obtain rfl : V = 1 := by rw [hv, if_neg (by omega)]
                clear hv
                go_wp2_with fail
                go_ret
                exact ⟨rfl, hbi⟩
              · obtain rfl : V = 0 := by rw [hv, if_pos (by omega)]
                clear hv
                go_wp2_with fail
                go_ret
                exact ⟨rfl, hbi⟩
end Go.Proofs.Ytkjbllhobannpaa

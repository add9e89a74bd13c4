/- The reference's Has and Bounds, whatever the world. -/
import Derived.Test.YtmcbjaefnhfopaaGreatRefH
import Derived.Test.YtmcbjaefnhfopaaGreatShapeG
import Derived.RegionTactic
import Derived.BigRegion
namespace Go.Proofs.YtmcbjaefnhfopaaGreat
open Go.RowKit
open Reg (R4 Span Band)
set_option linter.unusedSimpArgs false
set_option linter.unusedVariables false

def insB (l : List Span) (x : Int) : Bool := l.any fun s => decide (s.1 ≤ x) && decide (x < s.2)
theorem insB_iff {l : List Span} {x : Int} : insB l x = true ↔ Reg.inS l x := by
  unfold insB Reg.inS
  rw [List.any_eq_true]
  simp only [Bool.and_eq_true, decide_eq_true_eq]
theorem IsS.open_ {w : World} {v : Value} {l : List Span} (h : IsS w v l) : ∃ A c, v = .slice A l.length c ∧ (0 < l.length → ∃ b off, A = some ⟨b, off, none⟩ ∧ b < w.heap.size ∧ ∀ i s, l[i]? = some s → w.cell? ⟨b, off + i * 2, none⟩ = some (.int .i64 s.1) ∧ w.cell? ⟨b, off + i * 2 + 1, none⟩ = some (.int .i64 s.2)) := by
  rcases h with ⟨rfl, rfl⟩ | ⟨_, b, off, c, e, _, _, h3, h4⟩
  · exact ⟨none, 0, rfl, fun h => by simp at h⟩
  · exact ⟨_, _, e, fun _ => ⟨b, off, rfl, h3, h4⟩⟩

set_option maxRecDepth 100000 in
set_option maxHeartbeats 1000000 in
theorem inside_any (v : Value) (l : List Span) (x : Int) (w : World) (h : IsS w v l) (hl : l.length ≤ 1000000) : Calls Tryz.prog 83 #[v, .int .i64 x] w fun e w' => e = .returned (.bool (insB l x)) ∧ Below w.heap.size w w' := by
  obtain ⟨A, c, rfl, hcell⟩ := h.open_
  clear h
  have HC := Lib.hid hcell
  clear hcell
  go_enter Tryz.func83, Tryz.ntmps83
  go_wp2_with fail
  go_loopw [5] (fun i wr => ∃ k : Nat, k ≤ l.length ∧ i = .int .i64 k ∧ insB l x = insB (l.drop k) x ∧ Below w.heap.size w wr) (fun i _ => l.length - (intOf i).toNat)
  case atStart => exact ⟨0, Nat.zero_le _, rfl, rfl, Below.refl _ _⟩
  case round =>
    obtain ⟨k, hk, rfl, hf, hbw⟩ := hrel
    have zw := hbw.size
    have HF := Lib.hid hf
    clear hf
    have hkz : (0 : Int) ≤ (k : Int) := by omega
    by_cases hlt : k < l.length
    · obtain ⟨b, off, rfl, hblt, hcs⟩ := HC.out (by omega)
      have hi : l[k]? = some l[k] := List.getElem?_eq_getElem hlt
      have c0 := ((bcell hbw).1 _ _ hblt).trans (hcs k _ hi).1
      have c1 := ((bcell hbw).1 _ _ hblt).trans (hcs k _ hi).2
      have hd : l.drop k = l[k] :: l.drop (k + 1) := List.drop_eq_getElem_cons hlt
      have HD := Lib.hid hd
      clear hd hi hcs
      generalize l[k] = s at *
      have hklt : (k : Int) < (l.length : Int) := by omega
      by_cases h1 : s.1 ≤ x
      · by_cases h2 : x < s.2
        · have hn : insB l x = true := by rw [HF.out, HD.out]; simp [insB, h1, h2]
          have HN := Lib.hid hn
          clear hn
          go_wp2_with fail
          go_ret
          exact ⟨by rw [HN.out]; rfl, hbw⟩
        · have hn : insB l x = insB (l.drop (k + 1)) x := by rw [HF.out, HD.out]; simp [insB, h2]
          have HN := Lib.hid hn
          clear hn
          go_wp2_with fail
          go_roundw
          case rel => exact ⟨k + 1, by omega, by go_num, HN.out, hbw⟩
          case measure => simp [intOf]; omega
      · have hn : insB l x = insB (l.drop (k + 1)) x := by rw [HF.out, HD.out]; simp [insB, h1]
        have HN := Lib.hid hn
        clear hn
        go_wp2_with fail
        go_roundw
        case rel => exact ⟨k + 1, by omega, by go_num, HN.out, hbw⟩
        case measure => simp [intOf]; omega
    · obtain rfl : k = l.length := by omega
      have hn : insB l x = false := by rw [HF.out, List.drop_length]; rfl
      have HN := Lib.hid hn
      clear hn
      go_wp2_with fail
      go_ret
      exact ⟨by rw [HN.out]; rfl, hbw⟩

theorem hasB_row {l : List R4} (hg : Reg.Good l) (x y : Int) : insB (Reg.rowL l y) x = hasB l x y := by
  rw [Bool.eq_iff_iff, insB_iff, hasB_iff, (Reg.rowL_ok hg y).2 x]

end Go.Proofs.YtmcbjaefnhfopaaGreat

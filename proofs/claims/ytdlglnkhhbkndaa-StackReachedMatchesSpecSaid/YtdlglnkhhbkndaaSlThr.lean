/- slices.clone, reverse, equal of api.Through, whatever the world. -/
import Derived.Test.YtdlglnkhhbkndaaThr
import Derived.Test.YtdlglnkhhbkndaaSl2
import Derived.BigRegion
namespace Go.Proofs.Ytdlglnkhhbkndaa
open Go.RowKit
set_option linter.unusedSimpArgs false
set_option linter.unusedVariables false
set_option maxRecDepth 100000

abbrev thr1 : Thr → Value := (fun x : Thr => Value.int .i64 x.a)
abbrev thr2 : Thr → Value := (fun x : Thr => Value.int .i64 x.b)
theorem infoThr : (Try.prog.info? 64).map (fun i => (i.zero, i.size, i.bytes)) = some (some (.agg #[.int .i64 0, .int .i64 0]), 2, 16) := by kernel_rfl
set_option maxHeartbeats 1000000 in
theorem cloneThr_any (A : Option Addr) (l : List Thr) (c : Nat) (w : World) (hl : l.length ≤ 1000000) (h : RdG 2 Thr.cs w A l) :
    Calls Try.prog 83 #[.slice A l.length c] w fun e w' => ∃ v, e = .returned v ∧ w'.ownsRow w.heap.size 64 2 v l.length (fm thr1 thr2 l) ∧ Below w.heap.size w w' := by
  obtain ⟨i0, hi0, hz0, hz1, hz2⟩ := info_parts infoThr
  cases A with
  | none =>
    have hl0 : l = [] := by
      cases l with
      | nil => rfl
      | cons r t => obtain ⟨b, off, e, _⟩ := h (by simp); cases e
    subst hl0
    have heq : ∀ n c W, (binOp .eql 52 (.slice none n c) (.slice none 0 0)).run Try.prog W = .ok (.bool true) W := fun n c W => Lib.run_eql_slice_nil W _ _ none n c 0 0 Try.underlying52
    go_enter Try.func83, Try.ntmps83
    go_wp2_with fail
    go_ret
    exact ⟨_, rfl, own_nil, Below.refl _ _⟩
  | some ad =>
    have H0 := Lib.hid h
    clear h
    have heq : ∀ n c W, (binOp .eql 52 (.slice (some ad) n c) (.slice none 0 0)).run Try.prog W = .ok (.bool false) W := fun n c W => Lib.run_eql_slice_nil W _ _ (some ad) n c 0 0 Try.underlying52
    go_enter Try.func83, Try.ntmps83
    have HX := Lib.hid (show (w.alloc (.cells #[] 64)).ownsRow w.heap.size 64 2 (.slice (some ⟨w.heap.size, 0, none⟩) 0 0) 0 [] from own_mk (cur := #[]) (Nat.le_refl _) (by show (w.heap.push _)[w.heap.size]? = some _; exact Array.getElem?_push_size) (Nat.le_refl _) (Nat.zero_le _) rfl rfl)
    have HN := Lib.hid (fun (W : World) hb => rd_cells2 (c1 := thr1) (c2 := thr2) (H0.out.below (w' := W) hb) rfl)
    go_wp2_with (first | (at_builtin; refine wpList_append_own _ rfl (.tmp 5) (.tmp 6) 52 rfl w.heap.size 64 i0 (.agg #[.int .i64 0, .int .i64 0]) 2 16 Try.underlying52 hi0 hz0 hz1 hz2 rfl (by decide) (.slice (some ⟨w.heap.size, 0, none⟩) 0 0) 0 [] rfl HX.out ad l.length c (fm thr1 thr2 l) rfl ?nl ?nw ?o2 ?q4 ?q5 ?b2 ?_; (case nl => exact fm_len l); (case nw => exact HN.out _ (by (repeat' (first | (with_reducible exact Below.refl _ _) | (with_reducible assumption) | (with_reducible refine Below.alloc ?_ ?_ _) | (with_reducible refine Below.drew ?_) | (with_reducible refine below_drewN ?_ _) | (with_reducible refine Below.setCell ?_ ?_ _) | (with_reducible exact Nat.le_refl _) | omega | (simp only [World.size_alloc, World.size_setCell, World.size_drew]; omega) | (simp; omega) | (simp; done))))); (case o2 => exact fm_one (fun _ => rfl) (fun _ => rfl) l); (case q4 => simp only [maxLen]; omega); (case q5 => omega); (case b2 => simp); intro v2 w2 hown2 hg2 hnil2; have HO2 := Lib.hid hown2; have BB := Lib.hid (((Below.refl w.heap.size w).alloc (Nat.le_refl _) (.cells #[] 64)).trans (below_gb hg2 (by simp) (fun x hx => by simp [Value.ownBlock] at hx; omega))); clear hown2 hg2 hnil2))
    go_ret
    refine ⟨v2, rfl, ?_, BB.out⟩
    have h := HO2.out
    rwa [Nat.zero_add, List.nil_append] at h
theorem thr_ext {r s : Thr} : r = s ↔ r.a = s.a ∧ r.b = s.b := by
  obtain ⟨a, b⟩ := r
  obtain ⟨a', b'⟩ := s
  simp
set_option maxHeartbeats 2000000 in
theorem equalThr_any (A1 A2 : Option Addr) (l1 l2 : List Thr) (c1 c2 : Nat) (w : World) (hl1 : l1.length ≤ 140737488355328) (hl2 : l2.length ≤ 140737488355328) (h1 : RdG 2 Thr.cs w A1 l1) (h2 : RdG 2 Thr.cs w A2 l2) :
    Calls Try.prog 52 #[.slice A1 l1.length c1, .slice A2 l2.length c2] w fun e w' => ∃ G : Bool, (G = true ↔ l1 = l2) ∧ e = .returned (.bool G) ∧ Below w.heap.size w w' := by
  have H1 := Lib.hid h1
  have H2 := Lib.hid h2
  clear h1 h2
  by_cases hlen : l1.length = l2.length
  · have hne : ((l1.length : Int) != (l2.length : Int)) = false := by simp [hlen]
    have HLEN := Lib.hid hlen
    clear hlen
    go_enter Try.func52, Try.ntmps52
    go_wp2_with fail
    go_loopw [13] (fun i wr => ∃ k : Nat, k ≤ l1.length ∧ i = .int .i64 k ∧ (l1 = l2 ↔ l1.drop k = l2.drop k) ∧ Below w.heap.size w wr) (fun i _ => l1.length - (intOf i).toNat)
    case atStart => exact ⟨0, Nat.zero_le _, rfl, Iff.rfl, by (repeat' (first | (with_reducible exact Below.refl _ _) | (with_reducible assumption) | (with_reducible refine Below.alloc ?_ ?_ _) | (with_reducible refine Below.drew ?_) | (with_reducible refine below_drewN ?_ _) | (with_reducible refine Below.setCell ?_ ?_ _) | (with_reducible exact Nat.le_refl _) | omega | (simp only [World.size_alloc, World.size_setCell, World.size_drew]; omega) | (simp; omega) | (simp; done)))⟩
    case round =>
      obtain ⟨k, hk, rfl, hg, hbw⟩ := hrel
      have HGK := Lib.hid hg
      have zw := hbw.size
      clear hg
      have hkz : (0 : Int) ≤ (k : Int) := by omega
      by_cases hlt : k < l1.length
      · have hlt2 : k < l2.length := by have := HLEN.out; omega
        obtain ⟨b1, o1, rfl, hb1, hc1⟩ := (H1.out.below hbw) (by omega)
        obtain ⟨b2, o2, rfl, hb2, hc2⟩ := (H2.out.below hbw) (by omega)
        have a0 := by simpa using hc1 k _ (List.getElem?_eq_getElem hlt) 0 _ rfl
        have a1 := hc1 k _ (List.getElem?_eq_getElem hlt) 1 _ rfl
        have d0 := by simpa using hc2 k _ (List.getElem?_eq_getElem hlt2) 0 _ rfl
        have d1 := hc2 k _ (List.getElem?_eq_getElem hlt2) 1 _ rfl
        have e1 : l1.drop k = l1[k] :: l1.drop (k + 1) := List.drop_eq_getElem_cons hlt
        have e2 : l2.drop k = l2[k] :: l2.drop (k + 1) := List.drop_eq_getElem_cons hlt2
        have HE1 := Lib.hid e1
        have HE2 := Lib.hid e2
        clear hc1 hc2 e1 e2
        generalize l1[k] = r at *
        generalize l2[k] = s at *
        have hklt : (k : Int) < (l1.length : Int) := by omega
        have hklt2 : (k : Int) < (l2.length : Int) := by omega
        have HNE := Lib.hid (fun (h : r ≠ s) => show ¬ l1 = l2 from fun e => by
          have := HGK.out.1 e
          rw [HE1.out, HE2.out] at this
          exact h (List.cons.inj this).1)
        cases t0 : (r.a == s.a) <;> cases t1 : (r.b == s.b)
        case true.true =>
          have hrs : r = s := thr_ext.2 ⟨by simpa using t0, by simpa using t1⟩
          have HG2 := Lib.hid (show l1 = l2 ↔ l1.drop (k + 1) = l2.drop (k + 1) from by rw [HGK.out, HE1.out, HE2.out, hrs]; simp)
          clear hrs
          go_wp2_with fail
          go_quiet (fail)
          go_wp2_with fail
          go_roundw
          case rel => exact ⟨k + 1, by omega, by go_num, HG2.out, below_drewN hbw _⟩
          case measure => simp [intOf]; omega
        all_goals
          have HN := Lib.hid (HNE.out (fun e => by subst e; simp at t0 t1))
          go_wp2_with fail
          go_quiet (fail)
          go_wp2_with fail
          go_ret
          exact ⟨false, ⟨fun h => absurd h (by decide), fun h => absurd h HN.out⟩, rfl, below_drewN hbw _⟩
      · obtain rfl : k = l1.length := by omega
        have HG2 := Lib.hid (HGK.out.2 (by rw [List.drop_length, HLEN.out, List.drop_length]))
        go_wp2_with fail
        go_ret
        exact ⟨true, ⟨fun _ => HG2.out, fun _ => rfl⟩, rfl, hbw⟩
  · have hne : ((l1.length : Int) != (l2.length : Int)) = true := by simp; omega
    have HN := Lib.hid hlen
    clear hlen
    go_enter Try.func52, Try.ntmps52
    go_wp2_with fail
    go_ret
    exact ⟨false, ⟨fun h => absurd h (by decide), fun h => absurd (by rw [h]) HN.out⟩, rfl, Below.refl _ _⟩
end Go.Proofs.Ytdlglnkhhbkndaa

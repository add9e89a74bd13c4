/- slices.clone, reverse, equal of api.Layer, whatever the world. -/
import Derived.Test.YtnjcahdelcdcfaaStk
import Derived.Test.YtnjcahdelcdcfaaSl2
import Derived.BigRegion
namespace Go.Proofs.Ytnjcahdelcdcfaa
open Go.RowKit
set_option linter.unusedSimpArgs false
set_option linter.unusedVariables false
set_option maxRecDepth 100000

abbrev lay1 : Lay → Value := (fun x : Lay => Value.string x.name)
abbrev lay2 : Lay → Value := (fun x : Lay => Value.string x.mat)
theorem infoLay : (Try.prog.info? 35).map (fun i => (i.zero, i.size, i.bytes)) = some (some (.agg #[.string ⟨#[]⟩, .string ⟨#[]⟩]), 2, 32) := by kernel_rfl
set_option maxHeartbeats 1000000 in
theorem cloneLay_any (A : Option Addr) (l : List Lay) (c : Nat) (w : World) (hl : l.length ≤ 1000000) (h : RdG 2 Lay.cs w A l) :
    Calls Try.prog 66 #[.slice A l.length c] w fun e w' => ∃ v, e = .returned v ∧ w'.ownsRow w.heap.size 35 2 v l.length (fm lay1 lay2 l) ∧ Below w.heap.size w w' := by
  obtain ⟨i0, hi0, hz0, hz1, hz2⟩ := info_parts infoLay
  cases A with
  | none =>
    have hl0 : l = [] := by
      cases l with
      | nil => rfl
      | cons r t => obtain ⟨b, off, e, _⟩ := h (by simp); cases e
    subst hl0
    have heq : ∀ n c W, (binOp .eql 23 (.slice none n c) (.slice none 0 0)).run Try.prog W = .ok (.bool true) W := fun n c W => Lib.run_eql_slice_nil W _ _ none n c 0 0 Try.underlying23
    go_enter Try.func66, Try.ntmps66
    go_wp2_with fail
    go_ret
    exact ⟨_, rfl, own_nil, Below.refl _ _⟩
  | some ad =>
    have H0 := Lib.hid h
    clear h
    have heq : ∀ n c W, (binOp .eql 23 (.slice (some ad) n c) (.slice none 0 0)).run Try.prog W = .ok (.bool false) W := fun n c W => Lib.run_eql_slice_nil W _ _ (some ad) n c 0 0 Try.underlying23
    go_enter Try.func66, Try.ntmps66
    have HX := Lib.hid (show (w.alloc (.cells #[] 35)).ownsRow w.heap.size 35 2 (.slice (some ⟨w.heap.size, 0, none⟩) 0 0) 0 [] from own_mk (cur := #[]) (Nat.le_refl _) (by show (w.heap.push _)[w.heap.size]? = some _; exact Array.getElem?_push_size) (Nat.le_refl _) (Nat.zero_le _) rfl rfl)
    have HN := Lib.hid (fun (W : World) hb => rd_cells2 (c1 := lay1) (c2 := lay2) (H0.out.below (w' := W) hb) rfl)
    go_wp2_with (first | (at_builtin; refine wpList_append_own _ rfl (.tmp 5) (.tmp 6) 23 rfl w.heap.size 35 i0 (.agg #[.string ⟨#[]⟩, .string ⟨#[]⟩]) 2 32 Try.underlying23 hi0 hz0 hz1 hz2 rfl (by decide) (.slice (some ⟨w.heap.size, 0, none⟩) 0 0) 0 [] rfl HX.out ad l.length c (fm lay1 lay2 l) rfl ?nl ?nw ?o2 ?q4 ?q5 ?b2 ?_; (case nl => exact fm_len l); (case nw => exact HN.out _ (by (repeat' (first | (with_reducible exact Below.refl _ _) | (with_reducible assumption) | (with_reducible refine Below.alloc ?_ ?_ _) | (with_reducible refine Below.drew ?_) | (with_reducible refine below_drewN ?_ _) | (with_reducible refine Below.setCell ?_ ?_ _) | (with_reducible exact Nat.le_refl _) | omega | (simp only [World.size_alloc, World.size_setCell, World.size_drew]; omega) | (simp; omega) | (simp; done))))); (case o2 => exact fm_one (fun _ => rfl) (fun _ => rfl) l); (case q4 => simp only [maxLen]; omega); (case q5 => omega); (case b2 => simp); intro v2 w2 hown2 hg2 hnil2; have HO2 := Lib.hid hown2; have BB := Lib.hid (((Below.refl w.heap.size w).alloc (Nat.le_refl _) (.cells #[] 35)).trans (below_gb hg2 (by simp) (fun x hx => by simp [Value.ownBlock] at hx; omega))); clear hown2 hg2 hnil2))
    go_ret
    refine ⟨v2, rfl, ?_, BB.out⟩
    have h := HO2.out
    rwa [Nat.zero_add, List.nil_append] at h
set_option maxHeartbeats 2000000 in
theorem reverseLay_any (base : Nat) (v : Value) (l : List Lay) (w : World) (hl : l.length ≤ 1000000) (hown : w.ownsRow base 35 2 v l.length (fm lay1 lay2 l)) :
    Calls Try.prog 67 #[v] w fun e w' => e = .returned (.tuple #[]) ∧ w'.ownsRow base 35 2 v l.length (fm lay1 lay2 l.reverse) ∧ w.grownBy w' v.ownBlock := by
  rcases own_open hown with ⟨rfl, hn⟩ | ⟨g, cap, cur, rfl, hg1, hb2, hcap, hmax, hsize, htake⟩
  · obtain rfl : l = [] := List.length_eq_zero_iff.1 hn
    clear hn
    go_enter Try.func67, Try.ntmps67
    go_wp2_with fail
    go_loopw [2, 3] (fun i j wr => i = .int .i64 0 ∧ j = .int .i64 (-1) ∧ wr = w) (fun _ _ _ => 0)
    case atStart => exact ⟨rfl, rfl, rfl⟩
    case round =>
      obtain ⟨rfl, rfl, rfl⟩ := hrel
      go_wp2_with fail
      go_end0
      exact ⟨rfl, hown, gb_refl _ _⟩
  · have HO := Lib.hid hown
    clear hown hb2 htake
    go_enter Try.func67, Try.ntmps67
    go_wp2_with fail
    go_loopw [2, 3] (fun vi vj wr => ∃ (i : Nat) (j : Int) (m : List Lay), vi = .int .i64 i ∧ vj = .int .i64 j ∧ j + i + 1 = l.length ∧ i ≤ l.length ∧ RevAt l m i ∧ wr.ownsRow base 35 2 (.slice (some ⟨g, 0, none⟩) m.length cap) m.length (fm lay1 lay2 m) ∧ w.grownBy wr (some g)) (fun vi _ _ => l.length - (intOf vi).toNat)
    case atStart => exact ⟨0, _, l, rfl, rfl, by omega, Nat.zero_le _, RevAt.start l, HO.out, gb_refl _ _⟩
    case round =>
      obtain ⟨i, j, m, rfl, rfl, hji, hil, hre, hok, hgr⟩ := hrel
      have OK := Lib.hid hok
      have RE := Lib.hid hre
      have GR := Lib.hid hgr
      have hml := hre.1
      clear hok hre hgr
      have hiz : (0 : Int) ≤ (i : Int) := by omega
      by_cases hlt : (i : Int) < j
      · obtain ⟨jn, rfl⟩ : ∃ jn : Nat, j = (jn : Int) := ⟨j.toNat, by omega⟩
        have hjz : (0 : Int) ≤ (jn : Int) := by omega
        have hil' : (i : Int) < (l.length : Int) := by omega
        have hjl' : (jn : Int) < (l.length : Int) := by omega
        obtain ⟨r, hr⟩ : ∃ r, m[i]? = some r := ⟨_, List.getElem?_eq_getElem (by omega)⟩
        obtain ⟨s, hs⟩ : ∃ s, m[jn]? = some s := ⟨_, List.getElem?_eq_getElem (by omega)⟩
        obtain ⟨a0, a1⟩ := fm_at (c1 := lay1) (c2 := lay2) hr
        obtain ⟨d0, d1⟩ := fm_at (c1 := lay1) (c2 := lay2) hs
        obtain ⟨a0, f0⟩ := own_cellC OK.out a0
        obtain ⟨a1, f1⟩ := own_cellC OK.out a1
        obtain ⟨d0, g0⟩ := own_cellC OK.out d0
        obtain ⟨d1, g1⟩ := own_cellC OK.out d1
        have HR := Lib.hid hr
        have HS := Lib.hid hs
        have HML := Lib.hid hml
        have P2 := Lib.hid (own_put2 (own_put2 OK.out (i := i) (by omega) s) (i := jn) (by rw [List.length_set]; omega) r)
        have n00 : ¬ i * 2 = jn * 2 := by omega
        have m00 : ¬ jn * 2 = i * 2 := by omega
        have n02 : ¬ i * 2 = jn * 2 + 1 := by omega
        have m02 : ¬ jn * 2 + 1 = i * 2 := by omega
        have n20 : ¬ i * 2 + 1 = jn * 2 := by omega
        have m20 : ¬ jn * 2 = i * 2 + 1 := by omega
        have n22 : ¬ i * 2 + 1 = jn * 2 + 1 := by omega
        have m22 : ¬ jn * 2 + 1 = i * 2 + 1 := by omega
        clear hr hs hml
        go_wp2_with fail
        go_region
        all_goals
          go_wp2_with fail
          go_roundw
          case rel => exact ⟨i + 1, (jn : Int) - 1, (m.set i s).set jn r, by go_num, by go_num, by omega, by omega, RE.out.step (by omega) (by omega) HR.out HS.out, own_drewC P2.out, gb_drew (gb_set (gb_set (gb_set (gb_set GR.out (.inl rfl) _) (.inl rfl) _) (.inl rfl) _) (.inl rfl) _)⟩
          case measure => simp [intOf]; omega
      · have HD := Lib.hid (RE.out.done (by omega))
        go_wp2_with fail
        go_end0
        have h := OK.out
        rw [HD.out, List.length_reverse] at h
        exact ⟨rfl, h, GR.out⟩
theorem lay_ext {r s : Lay} : r = s ↔ r.name = s.name ∧ r.mat = s.mat := by
  obtain ⟨a, b⟩ := r
  obtain ⟨a', b'⟩ := s
  simp
set_option maxHeartbeats 2000000 in
theorem equalLay_any (A1 A2 : Option Addr) (l1 l2 : List Lay) (c1 c2 : Nat) (w : World) (hl1 : l1.length ≤ 140737488355328) (hl2 : l2.length ≤ 140737488355328) (h1 : RdG 2 Lay.cs w A1 l1) (h2 : RdG 2 Lay.cs w A2 l2) :
    Calls Try.prog 28 #[.slice A1 l1.length c1, .slice A2 l2.length c2] w fun e w' => ∃ G : Bool, (G = true ↔ l1 = l2) ∧ e = .returned (.bool G) ∧ Below w.heap.size w w' := by
  have H1 := Lib.hid h1
  have H2 := Lib.hid h2
  clear h1 h2
  by_cases hlen : l1.length = l2.length
  · have hne : ((l1.length : Int) != (l2.length : Int)) = false := by simp [hlen]
    have HLEN := Lib.hid hlen
    clear hlen
    go_enter Try.func28, Try.ntmps28
    go_wp2_with fail
    go_loopw [13] (fun i wr => ∃ k : Nat, k ≤ l1.length ∧ i = .int .i64 k ∧ (l1 = l2 ↔ l1.drop k = l2.drop k) ∧ Below w.heap.size w wr) (fun i _ => l1.length - (intOf i).toNat)
    case atStart => exact ⟨0, Nat.zero_le _, rfl, Iff.rfl, by (repeat' (first | (with_reducible exact Below.refl _ _) | (with_reducible assumption) | (with_reducible refine Below.alloc ?_ ?_ _) | (with_reducible refine Below.drew ?_) | (with_reducible refine below_drewN ?_ _) | (with_reducible refine Below.setCell ?_ ?_ _) | (with_reducible exact Nat.le_refl _) | omega | (simp only [World.size_alloc, World.size_setCell, World.size_drew]; omega) | (simp; omega) | (simp; done)))⟩
    case round =>
      obtain ⟨k, hk, rfl, hg, hbw⟩ := hrel
      have HGK := Lib.hid hg
      have zw := hbw.size
      clear hg
      have hkz : (0 : Int) ≤ (k : Int) := by omega
      by_cases hlt : k < l1.length
      · have hlt2 : k < l2.length := by have := HLEN.out; omega
        obtain ⟨b1, o1, rfl, hb1, hc1⟩ := (H1.out.below hbw) (by omega)
        obtain ⟨b2, o2, rfl, hb2, hc2⟩ := (H2.out.below hbw) (by omega)
        have a0 := by simpa using hc1 k _ (List.getElem?_eq_getElem hlt) 0 _ rfl
        have a1 := hc1 k _ (List.getElem?_eq_getElem hlt) 1 _ rfl
        have d0 := by simpa using hc2 k _ (List.getElem?_eq_getElem hlt2) 0 _ rfl
        have d1 := hc2 k _ (List.getElem?_eq_getElem hlt2) 1 _ rfl
        have e1 : l1.drop k = l1[k] :: l1.drop (k + 1) := List.drop_eq_getElem_cons hlt
        have e2 : l2.drop k = l2[k] :: l2.drop (k + 1) := List.drop_eq_getElem_cons hlt2
        have HE1 := Lib.hid e1
        have HE2 := Lib.hid e2
        clear hc1 hc2 e1 e2
        generalize l1[k] = r at *
        generalize l2[k] = s at *
        have hklt : (k : Int) < (l1.length : Int) := by omega
        have hklt2 : (k : Int) < (l2.length : Int) := by omega
        have HNE := Lib.hid (fun (h : r ≠ s) => show ¬ l1 = l2 from fun e => by
          have := HGK.out.1 e
          rw [HE1.out, HE2.out] at this
          exact h (List.cons.inj this).1)
        cases t0 : (r.name.toList == s.name.toList) <;> cases t1 : (r.mat.toList == s.mat.toList)
        case true.true =>
          have hrs : r = s := lay_ext.2 ⟨eqS_true.1 t0, eqS_true.1 t1⟩
          have HG2 := Lib.hid (show l1 = l2 ↔ l1.drop (k + 1) = l2.drop (k + 1) from by rw [HGK.out, HE1.out, HE2.out, hrs]; simp)
          clear hrs
          go_wp2_with fail
          go_quiet (fail)
          go_wp2_with fail
          go_roundw
          case rel => exact ⟨k + 1, by omega, by go_num, HG2.out, below_drewN hbw _⟩
          case measure => simp [intOf]; omega
        all_goals
          have HN := Lib.hid (HNE.out (fun e => by subst e; simp at t0 t1))
          go_wp2_with fail
          go_quiet (fail)
          go_wp2_with fail
          go_ret
          exact ⟨false, ⟨fun h => absurd h (by decide), fun h => absurd h HN.out⟩, rfl, below_drewN hbw _⟩
      · obtain rfl : k = l1.length := by omega
        have HG2 := Lib.hid (HGK.out.2 (by rw [List.drop_length, HLEN.out, List.drop_length]))
        go_wp2_with fail
        go_ret
        exact ⟨true, ⟨fun _ => HG2.out, fun _ => rfl⟩, rfl, hbw⟩
  · have hne : ((l1.length : Int) != (l2.length : Int)) = true := by simp; omega
    have HN := Lib.hid hlen
    clear hlen
    go_enter Try.func28, Try.ntmps28
    go_wp2_with fail
    go_ret
    exact ⟨false, ⟨fun h => absurd h (by decide), fun h => absurd (by rw [h]) HN.out⟩, rfl, Below.refl _ _⟩
end Go.Proofs.Ytnjcahdelcdcfaa

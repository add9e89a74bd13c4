/- merged of package shape: a row of sides of the call's own and more sides, both ordered, in one ordered row, whatever the world. -/
import Derived.Test.YtmcbjaefnhfopaaGreatSweepE
import Derived.Maps.AppendAt
namespace Go.Proofs.YtmcbjaefnhfopaaGreat
open Go.RowKit
open Reg (R4 E5)
set_option linter.unusedSimpArgs false
set_option linter.unusedVariables false

abbrev SortX (l : List E5) : Prop := l.Pairwise (fun d e => d.x ≤ e.x)
/-- Where the merge stands: i of l, j of more are still to come; S is at its place. -/
structure MergeI (l more : List E5) (i j : Nat) (S : List E5) : Prop where
  hi : i ≤ l.length
  hj : j ≤ more.length
  perm : (l.drop i ++ more.drop j).Perm S
  sort : SortX l → SortX more → SortX S ∧ (∀ t e s, t < i → l[t]? = some e → s ∈ S → e.x ≤ s.x) ∧ ∀ t e s, t < j → more[t]? = some e → s ∈ S → e.x ≤ s.x
theorem MergeI.start (l more : List E5) : MergeI l more l.length more.length [] :=
  ⟨Nat.le_refl _, Nat.le_refl _, by simp, fun _ _ => ⟨List.Pairwise.nil, fun _ _ _ _ _ h => absurd h (by simp), fun _ _ _ _ _ h => absurd h (by simp)⟩⟩
theorem MergeI.len {l more S : List E5} {i j : Nat} (h : MergeI l more i j S) : S.length + i + j = l.length + more.length := by
  have := h.perm.length_eq
  have := h.hi
  have := h.hj
  simp at *
  omega
theorem sortX_le {l : List E5} (h : SortX l) {t k : Nat} {e f : E5} (ht : l[t]? = some e) (hk : l[k]? = some f) (hle : t < k) : e.x ≤ f.x := by
  obtain ⟨h1, rfl⟩ := List.getElem?_eq_some_iff.1 ht
  obtain ⟨h2, rfl⟩ := List.getElem?_eq_some_iff.1 hk
  rw [SortX, List.pairwise_iff_getElem] at h
  exact h t k h1 h2 hle
theorem MergeI.takeL {l more S : List E5} {i j : Nat} {p q : E5} (h : MergeI l more (i + 1) j S) (hp : l[i]? = some p) (hj : 0 < j) (hq : more[j - 1]? = some q) (hlt : q.x < p.x) : MergeI l more i j (p :: S) := by
  refine ⟨by have := h.hi; omega, h.hj, ?_, fun s1 s2 => ?_⟩
  · have hd : l.drop i = p :: l.drop (i + 1) := by
      obtain ⟨h1, rfl⟩ := List.getElem?_eq_some_iff.1 hp
      exact List.drop_eq_getElem_cons h1
    rw [hd, List.cons_append]
    exact h.perm.cons _
  · obtain ⟨a1, a2, a3⟩ := h.sort s1 s2
    refine ⟨List.pairwise_cons.2 ⟨fun s hs => a2 i p s (by omega) hp hs, a1⟩, fun t e s ht he hs => ?_, fun t e s ht he hs => ?_⟩
    · rcases List.mem_cons.1 hs with rfl | hs
      · exact sortX_le s1 he hp ht
      · exact a2 t e s (by omega) he hs
    · rcases List.mem_cons.1 hs with rfl | hs
      · by_cases hb : t = j - 1
        · subst hb
          rw [hq] at he
          injection he with he
          subst he
          omega
        · have := sortX_le s2 he hq (by omega)
          omega
      · exact a3 t e s ht he hs
theorem MergeI.takeM {l more S : List E5} {i j : Nat} {p : E5} (h : MergeI l more i (j + 1) S) (hp : more[j]? = some p) (hle : ∀ q, 0 < i → l[i - 1]? = some q → q.x ≤ p.x) : MergeI l more i j (p :: S) := by
  refine ⟨h.hi, by have := h.hj; omega, ?_, fun s1 s2 => ?_⟩
  · have hd : more.drop j = p :: more.drop (j + 1) := by
      obtain ⟨h1, rfl⟩ := List.getElem?_eq_some_iff.1 hp
      exact List.drop_eq_getElem_cons h1
    rw [hd]
    exact List.perm_middle.trans (h.perm.cons _)
  · obtain ⟨a1, a2, a3⟩ := h.sort s1 s2
    refine ⟨List.pairwise_cons.2 ⟨fun s hs => a3 j p s (by omega) hp hs, a1⟩, fun t e s ht he hs => ?_, fun t e s ht he hs => ?_⟩
    · rcases List.mem_cons.1 hs with rfl | hs
      · have hi := h.hi
        have hq : l[i - 1]? = some l[i - 1] := List.getElem?_eq_getElem (by omega)
        have h1 := hle _ (by omega) hq
        by_cases hb : t = i - 1
        · subst hb
          rw [hq] at he
          injection he with he
          subst he
          exact h1
        · have := sortX_le s1 he hq (by omega)
          omega
      · exact a2 t e s ht he hs
    · rcases List.mem_cons.1 hs with rfl | hs
      · exact sortX_le s2 he hp ht
      · exact a3 t e s (by omega) he hs
theorem MergeI.done {l more S : List E5} {i : Nat} (h : MergeI l more i 0 S) : (l.take i ++ S).Perm (l ++ more) ∧ (SortX l → SortX more → SortX (l.take i ++ S)) ∧ (l.take i ++ S).length = l.length + more.length := by
  have hlen := h.len
  have hi := h.hi
  refine ⟨?_, fun s1 s2 => ?_, by simp; omega⟩
  · have := h.perm
    simp only [List.drop_zero] at this
    refine (List.Perm.append_left (l.take i) this.symm).trans ?_
    rw [← List.append_assoc, List.take_append_drop]
  · obtain ⟨a1, a2, _⟩ := h.sort s1 s2
    rw [SortX, List.pairwise_append]
    refine ⟨s1.sublist (List.take_sublist _ _), a1, fun e he s hs => ?_⟩
    obtain ⟨t, ht⟩ := List.getElem?_of_mem he
    have hlt : t < i := by
      have := (List.getElem?_eq_some_iff.1 ht).1
      simp at this
      omega
    rw [List.getElem?_take_of_lt hlt] at ht
    exact a2 t e s hlt ht hs
theorem Blk.drewN {w : World} {g : Nat} {T : TypeId} {cur : Array Value} (b : Blk w g T cur) (n : Nat) : Blk (w.drewN n) g T cur := b
theorem gb_drewN {w w1 : World} {o : Option Nat} (h : w.grownBy w1 o) (n : Nat) : w.grownBy (w1.drewN n) o := ⟨h.os, h.tape, h.output, h.size, h.block⟩
/-- How the merge stands in the row. -/
def MergeAt (cur : Array Value) (l : List E5) (i j : Nat) (S : List E5) : Prop := (∀ t e, t < i → l[t]? = some e → At5 cur t e) ∧ ∀ t e, S[t]? = some e → At5 cur (i + j + t) e
theorem MergeAt.takeL {cur : Array Value} {l S : List E5} {i j : Nat} {p : E5} (h : MergeAt cur l (i + 1) j S) (hj : 0 < j) (hs : (i + j) * 5 + 5 ≤ cur.size) : MergeAt (set5 cur (i + j) p) l i j (p :: S) := by
  refine ⟨fun t e ht he => (h.1 t e (by omega) he).set_other (by omega), fun t e he => ?_⟩
  cases t with
  | zero => simp at he; subst he; exact At5.set_same hs
  | succ t =>
    have := h.2 t e (by simpa using he)
    rw [show i + 1 + j + t = i + j + (t + 1) from by omega] at this
    exact this.set_other (by omega)
theorem MergeAt.takeM {cur : Array Value} {l S : List E5} {i j : Nat} {p : E5} (h : MergeAt cur l i (j + 1) S) (hs : (i + j) * 5 + 5 ≤ cur.size) : MergeAt (set5 cur (i + j) p) l i j (p :: S) := by
  refine ⟨fun t e ht he => (h.1 t e (by omega) he).set_other (by omega), fun t e he => ?_⟩
  cases t with
  | zero => simp at he; subst he; exact At5.set_same hs
  | succ t =>
    have := h.2 t e (by simpa using he)
    rw [show i + (j + 1) + t = i + j + (t + 1) from by omega] at this
    exact this.set_other (by omega)
theorem MergeAt.done {cur : Array Value} {l S : List E5} {i : Nat} (h : MergeAt cur l i 0 S) (hi : i ≤ l.length) : InE cur (l.take i ++ S) := by
  intro t e he
  by_cases hlt : t < i
  · rw [List.getElem?_append_left (by simp; omega), List.getElem?_take_of_lt hlt] at he
    exact h.1 t e hlt he
  · rw [List.getElem?_append_right (by simp; omega)] at he
    have := h.2 _ e he
    simp only [List.length_take, Nat.min_eq_left hi] at this
    rwa [show i + 0 + (t - i) = t from by omega] at this

/-- Sides that lie in a row of another block. -/
def LieE (w : World) (bm om : Nat) (l : List E5) : Prop := bm < w.heap.size ∧ ∀ i e, l[i]? = some e →
  w.cell? ⟨bm, om + i * 5, none⟩ = some (.int .i64 e.x) ∧ w.cell? ⟨bm, om + i * 5 + 1, none⟩ = some (.int .i64 e.y0) ∧ w.cell? ⟨bm, om + i * 5 + 2, none⟩ = some (.int .i64 e.y1) ∧ w.cell? ⟨bm, om + i * 5 + 3, none⟩ = some (.int .i64 e.li) ∧ w.cell? ⟨bm, om + i * 5 + 4, none⟩ = some (.int .i64 e.st)
theorem lieE_cells {w : World} {bm om : Nat} {l : List E5} (h : LieE w bm om l) : ∀ j u, (cE l)[j]? = some u → w.cell? ((⟨bm, om, none⟩ : Addr).add j) = some u := by
  intro t u hu
  have e : (⟨bm, om, none⟩ : Addr).add t = ⟨bm, om + t, none⟩ := by unfold Addr.add; split <;> simp_all
  rw [e]
  have ht : t < l.length * 5 := by rw [← cE_len]; exact (List.getElem?_eq_some_iff.1 hu).1
  have hq : t / 5 < l.length := by omega
  have hi : l[t / 5]? = some l[t / 5] := List.getElem?_eq_getElem hq
  obtain ⟨a0, a1, a2, a3, a4⟩ := h.2 _ _ hi
  obtain ⟨c0, c1, c2, c3, c4⟩ := cE_at hi
  have hm : t % 5 < 5 := Nat.mod_lt _ (by decide)
  have hd : t = t / 5 * 5 + t % 5 := by omega
  generalize t / 5 = q at *
  generalize t % 5 = m at *
  subst hd
  rw [← hu]
  match m, hm with
  | 0, _ => exact a0.trans c0.symm
  | 1, _ => exact a1.trans c1.symm
  | 2, _ => exact a2.trans c2.symm
  | 3, _ => exact a3.trans c3.symm
  | 4, _ => exact a4.trans c4.symm
theorem cell_gb {w w' : World} {o : Option Nat} (h : w.grownBy w' o) {b : Nat} (hb : b < w.heap.size) (hn : o ≠ some b) (j : Nat) : w'.cell? ⟨b, j, none⟩ = w.cell? ⟨b, j, none⟩ := by
  simp only [World.cell?, h.block b hb (Ne.symm hn)]
theorem LieE.gb {w w' : World} {bm om : Nat} {l : List E5} (h : LieE w bm om l) {o : Option Nat} (hg : w.grownBy w' o) (hn : o ≠ some bm) : LieE w' bm om l :=
  ⟨Nat.lt_of_lt_of_le h.1 hg.size, fun i e hi => by
    obtain ⟨a0, a1, a2, a3, a4⟩ := h.2 i e hi
    simp only [cell_gb hg h.1 hn]
    exact ⟨a0, a1, a2, a3, a4⟩⟩
theorem cE_one (l : List E5) : ∀ u ∈ cE l, u.oneCell' = true := by
  intro u hu
  simp only [cE, List.mem_flatMap, cE1] at hu
  obtain ⟨e, _, hu⟩ := hu
  simp at hu
  rcases hu with rfl | rfl | rfl | rfl | rfl <;> rfl

set_option maxRecDepth 100000 in
set_option maxHeartbeats 2000000 in
theorem merged_any (base : Nat) (v : Value) (l more : List E5) (bm om cm : Nat) (w : World) (hbase : base ≤ w.heap.size) (hl : l.length ≤ 1000000) (hm : more.length ≤ 1000000)
    (hown : w.ownsRow base 75 5 v l.length (cE l)) (hmo : LieE w bm om more) (hne : v.ownBlock ≠ some bm) :
    Calls Tryz.prog 77 #[v, .slice (some ⟨bm, om, none⟩) more.length cm] w fun e w' => ∃ v' l', e = .returned v' ∧ l'.Perm (l ++ more) ∧ (SortX l → SortX more → SortX l') ∧
      w'.ownsRow base 75 5 v' l'.length (cE l') ∧ w.grownBy w' v.ownBlock ∧ (v'.ownBlock = v.ownBlock ∨ v'.ownBlock = some w.heap.size) := by
  obtain ⟨i0, hi, hz0, hz1, hz2⟩ := info_parts infoE
  obtain ⟨A, c, rfl, hlc, hcm, -, -⟩ := rdE_own hown
  have HO := Lib.hid hown
  have HM := Lib.hid hmo
  have HNE := Lib.hid hne
  have hbl := hmo.1
  clear hown hmo hne
  go_enter Tryz.func77, Tryz.ntmps77
  go_wp2_with (first | (at_builtin; refine wpList_append_own_at _ rfl (.tmp 13) (.tmp 14) 71 rfl base 75 i0 (.agg #[.int .i64 0, .int .i64 0, .int .i64 0, .int .i64 0, .int .i64 0]) 5 40 Tryz.underlying71 hi hz0 hz1 hz2 rfl (by decide) (.slice A l.length c) l.length (cE l) rfl HO.out ⟨bm, om, none⟩ more.length cm (cE more) rfl ?nl ?nw ?o2 ?q4 ?q5 ?b2 ?_; (case nl => exact cE_len more); (case nw => exact lieE_cells HM.out); (case o2 => exact cE_one more); (case q4 => simp only [maxLen]; omega); (case q5 => omega); (case b2 => exact hbase); intro v2 w2 hown2 hg2 hnil2 hat2; have HG2 := Lib.hid hg2; have HO2 := Lib.hid hown2; have HN2 := Lib.hid hnil2; have HA2 := Lib.hid hat2; have z2 := hg2.size; clear hown2 hg2 hnil2 hat2))
  have hlenE : (cE (l ++ more)).length = (l.length + more.length) * 5 := by rw [cE_len, List.length_append]
  rcases own_open HO2.out with ⟨rfl, hn0⟩ | ⟨g, cap, cur, rfl, hg1, hb2, hcap, hmax, hsize, htake⟩
  · obtain rfl : l = [] := List.length_eq_zero_iff.1 (by omega)
    obtain rfl : more = [] := List.length_eq_zero_iff.1 (by omega)
    clear hn0 hlenE
    simp only [List.length_nil] at *
    go_loopw [6] (fun s6 wr => s6 = .int .i64 0 ∧ wr = w2) (fun _ _ => 0)
    case atStart => exact ⟨rfl, rfl⟩
    case round =>
      obtain ⟨rfl, rfl⟩ := hrel
      go_wp2_with fail
      go_ret
      exact ⟨_, [], rfl, List.Perm.refl _, fun h _ => h, HO2.out, HG2.out, HA2.out⟩
  · have hin : InE cur (l ++ more) := (take_cE (by rw [List.length_append, hsize]; exact Nat.mul_le_mul_right _ hcap)).1 (by rw [List.length_append, cE_append]; exact htake)
    have hgm : g ≠ bm := by
      rcases HA2.out with h | h
      · exact fun e => HNE.out (by rw [← h, ← e]; rfl)
      · simp [Value.ownBlock] at h; omega
    have hglt := hb2.lt
    have hat0 : MergeAt cur l l.length more.length [] := ⟨fun t e ht he => hin t e (by rw [List.getElem?_append_left ht]; exact he), fun t e he => by simp at he⟩
    have HAT := Lib.hid hat0
    have HB2 := Lib.hid hb2
    have HM2 := Lib.hid (HM.out.gb HG2.out HNE.out)
    have HMI := Lib.hid (MergeI.start l more)
    clear hin hb2 htake hat0
    go_loopw [5, 6, 8] (fun s5 s6 s8 wr => ∃ (i j : Nat) (a : Int) (S : List E5) (cr : Array Value), s5 = .int .i64 i ∧ s6 = .int .i64 j ∧ s8 = .int .i64 a ∧ a = (i : Int) + j - 1 ∧ i ≤ 1000000 ∧ j ≤ 1000000 ∧ Blk wr g 75 cr ∧ cr.size = cap * 5 ∧ MergeI l more i j S ∧ MergeAt cr l i j S ∧ w2.grownBy wr (some g)) (fun s5 s6 _ _ => (intOf s5).toNat + (intOf s6).toNat)
    case atStart => exact ⟨l.length, more.length, _, [], cur, rfl, rfl, rfl, by omega, hl, hm, HB2.out, hsize, HMI.out, HAT.out, gb_refl _ _⟩
    case round =>
      obtain ⟨i, j, a, S, cr, rfl, rfl, rfl, ha, hi6, hj6, bR, hsr, hmi, hma, gR⟩ := hrel
      have BR := Lib.hid bR
      have HMI2 := Lib.hid hmi
      have HMA := Lib.hid hma
      have GR := Lib.hid gR
      have HMR := Lib.hid (HM2.out.gb gR (fun e => hgm (by injection e)))
      have zr := gR.size
      have hglt' := bR.lt
      have hlen := hmi.len
      have hil := hmi.hi
      have hjl := hmi.hj
      clear bR hmi hma gR
      have hiz : (0 : Int) ≤ (i : Int) := by omega
      by_cases hj0 : j = 0
      · subst hj0
        obtain ⟨d1, d2, d3⟩ := HMI2.out.done
        have hIn := HMA.out.done hil
        have D1 := Lib.hid d1
        have D2 := Lib.hid d2
        have D3 := Lib.hid d3
        have HIN := Lib.hid hIn
        clear d1 d2 d3 hIn
        go_wp2_with fail
        go_ret
        have hown := own_cE hg1 BR.out (l := l.take i ++ S) (by rw [D3.out]; exact hcap) hmax hsr HIN.out
        rw [D3.out] at hown
        refine ⟨_, l.take i ++ S, rfl, D1.out, D2.out, by rw [D3.out]; exact hown, ?_, HA2.out⟩
        refine ⟨GR.out.os.trans HG2.out.os, GR.out.tape.trans HG2.out.tape, GR.out.output.trans HG2.out.output, Nat.le_trans z2 zr, fun k hk hkn => ?_⟩
        refine (GR.out.block k (by omega) (fun e => ?_)).trans (HG2.out.block k hk hkn)
        rcases HA2.out with h | h
        · exact hkn (by rw [← h]; exact e)
        · simp [Value.ownBlock] at h; cases e; omega
      · obtain ⟨j', rfl⟩ : ∃ j', j = j' + 1 := ⟨j - 1, by omega⟩
        obtain ⟨N, hN⟩ : ∃ N : Nat, N = i + j' := ⟨_, rfl⟩
        obtain rfl : a = (N : Int) := by omega
        have hjp : (0 : Int) < ((j' + 1 : Nat) : Int) := by omega
        have hjs : ((j' + 1 : Nat) : Int) - 1 = (j' : Int) := by omega
        have HNN := Lib.hid hN
        generalize hJ : ((j' + 1 : Nat) : Int) = J at *
        have HJ := Lib.hid hJ
        clear hJ
        have hNl : (N : Int) < ((l.length + more.length : Nat) : Int) := by omega
        have hjm : (j' : Int) < (more.length : Int) := by omega
        have hjz : (0 : Int) ≤ (j' : Int) := by omega
        have hNz : (0 : Int) ≤ (N : Int) := by omega
        have hNs : N * 5 + 5 ≤ cr.size := by rw [hsr]; omega
        have o0 := (BR.out.cell (N * 5)).trans (Array.getElem?_eq_getElem (by omega))
        have e0 := BR.out.frozen (N * 5)
        have o1 := (BR.out.cell (N * 5 + 1)).trans (Array.getElem?_eq_getElem (by omega))
        have e1 := BR.out.frozen (N * 5 + 1)
        have o2 := (BR.out.cell (N * 5 + 2)).trans (Array.getElem?_eq_getElem (by omega))
        have e2 := BR.out.frozen (N * 5 + 2)
        have o3 := (BR.out.cell (N * 5 + 3)).trans (Array.getElem?_eq_getElem (by omega))
        have e3 := BR.out.frozen (N * 5 + 3)
        have o4 := (BR.out.cell (N * 5 + 4)).trans (Array.getElem?_eq_getElem (by omega))
        have e4 := BR.out.frozen (N * 5 + 4)
        clear hN ha hlen
        have hq : more[j']? = some more[j'] := List.getElem?_eq_getElem (by omega)
        obtain ⟨c0, c1, c2, c3, c4⟩ := HMR.out.2 j' _ hq
        have HQ := Lib.hid hq
        clear hq
        generalize more[j'] = q at *
        by_cases hi0 : i = 0
        · subst hi0
          go_wp2_with fail
          go_quiet (fail)
          go_wp2_with fail
          go_roundw
          case rel =>
            have ht : MergeAt (set5 cr N q) l 0 j' (q :: S) := by
              have h := HMA.out.takeM (p := q) (by rw [← HNN.out]; exact hNs)
              rw [← HNN.out] at h
              exact h
            have hNN := HNN.out
            refine ⟨0, j', _, q :: S, set5 cr N q, rfl, rfl, rfl, by omega, by omega, by omega, ?_, by rw [set5_size]; exact hsr, HMI2.out.takeM HQ.out (fun _ h _ => (Nat.lt_irrefl 0 h).elim), ht, ?_⟩
            · exact (BR.out.drewN _).set5 N q
            · exact gb_set (gb_set (gb_set (gb_set (gb_set (gb_drewN GR.out _) (.inl rfl) _) (.inl rfl) _) (.inl rfl) _) (.inl rfl) _) (.inl rfl) _
          case measure => simp [intOf]; rw [← HJ.out]; omega
        · obtain ⟨i', rfl⟩ : ∃ i', i = i' + 1 := ⟨i - 1, by omega⟩
          have his : ((i' + 1 : Nat) : Int) - 1 = (i' : Int) := by omega
          have hip : (0 : Int) < ((i' + 1 : Nat) : Int) := by omega
          have hin : (i' : Int) < ((l.length + more.length : Nat) : Int) := by omega
          have hiz' : (0 : Int) ≤ (i' : Int) := by omega
          generalize hI : ((i' + 1 : Nat) : Int) = I at *
          have HI := Lib.hid hI
          clear hI
          have hp : l[i']? = some l[i'] := List.getElem?_eq_getElem (by omega)
          obtain ⟨a0, a1, a2, a3, a4⟩ := HMA.out.1 i' _ (by omega) hp
          rw [← BR.out.cell] at a0 a1 a2 a3 a4
          have HP := Lib.hid hp
          clear hp
          generalize l[i'] = p at *
          cases hlt : decide (q.x < p.x)
          · go_wp2_with fail
            go_quiet (fail)
            go_wp2_with fail
            go_roundw
            case rel =>
              have ht := HMA.out.takeM (p := q) (by rw [← HNN.out]; exact hNs)
              rw [← HNN.out] at ht
              refine ⟨i' + 1, j', _, q :: S, set5 cr N q, by rw [HI.out], rfl, rfl, by have := HNN.out; omega, by omega, by omega, ?_, by rw [set5_size]; exact hsr, HMI2.out.takeM HQ.out (fun z _ hz => ?_), ht, ?_⟩
              · exact (BR.out.drewN _).set5 N q
              · rw [Nat.add_sub_cancel, HP.out] at hz
                injection hz with hz
                subst hz
                simpa using hlt
              · exact gb_set (gb_set (gb_set (gb_set (gb_set (gb_drewN GR.out _) (.inl rfl) _) (.inl rfl) _) (.inl rfl) _) (.inl rfl) _) (.inl rfl) _
            case measure => simp [intOf]; rw [← HJ.out]; omega
          · go_wp2_with fail
            go_quiet (fail)
            go_wp2_with fail
            go_roundw
            case rel =>
              have hNe : N = i' + (j' + 1) := by have := HNN.out; omega
              have ht := HMA.out.takeL (p := p) (by omega) (by rw [← hNe]; exact hNs)
              rw [← hNe] at ht
              refine ⟨i', j' + 1, _, p :: S, set5 cr N p, rfl, by rw [HJ.out], rfl, by omega, by omega, by omega, ?_, by rw [set5_size]; exact hsr, HMI2.out.takeL HP.out (by omega) (by rw [Nat.add_sub_cancel]; exact HQ.out) (by simpa using hlt), ht, ?_⟩
              · exact (BR.out.drewN _).set5 N p
              · exact gb_set (gb_set (gb_set (gb_set (gb_set (gb_drewN GR.out _) (.inl rfl) _) (.inl rfl) _) (.inl rfl) _) (.inl rfl) _) (.inl rfl) _
            case measure => simp [intOf]; rw [← HI.out]; omega
end Go.Proofs.YtmcbjaefnhfopaaGreat

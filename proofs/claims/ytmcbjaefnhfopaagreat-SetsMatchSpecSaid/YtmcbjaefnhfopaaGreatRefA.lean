/- The reference's put: a number put to others in order, once, whatever the world. -/
import Derived.Test.YtmcbjaefnhfopaaGreatShapeE
import Derived.OwnWalk
import Derived.Laws.OwnMore
import Derived.Laws.AppendOwnNone
import Derived.Maps.AppendAt
namespace Go.Proofs.YtmcbjaefnhfopaaGreat
open Go.RowKit
open Reg (R4)
set_option linter.unusedSimpArgs false
set_option linter.unusedVariables false

/-- A slice of integers reads as a list. -/
def RdI (w : World) (A : Option Addr) (l : List Int) : Prop :=
  0 < l.length → ∃ b off, A = some ⟨b, off, none⟩ ∧ b < w.heap.size ∧ ∀ i v, l[i]? = some v → w.cell? ⟨b, off + i, none⟩ = some (.int .i64 v)
theorem RdI.below {w w' : World} {A : Option Addr} {l : List Int} (h : RdI w A l) (hb : Below w.heap.size w w') : RdI w' A l := fun hn => by
  obtain ⟨b, off, e, hlt, hc⟩ := h hn
  exact ⟨b, off, e, Nat.lt_of_lt_of_le hlt hb.size, fun i r hi => ((bcell hb).1 _ _ hlt).trans (hc i r hi)⟩
theorem RdI.none_ {w : World} {A : Option Addr} : RdI w A [] := fun h => absurd h (by simp)

/-- A slice of integers came back: it reads as l, and nothing that was there has turned. -/
def GotI (w : World) (l : List Int) (e : Ending) (w' : World) : Prop :=
  ∃ A c, e = .returned (.slice A l.length c) ∧ l.length ≤ c ∧ c ≤ 9223372036854775807 ∧ RdI w' A l ∧ Below w.heap.size w w'

theorem info3 : (Tryz.prog.info? 3).map (fun i => (i.zero, i.size, i.bytes)) = some (some (.int .i64 0), 1, 8) := by kernel_rfl

theorem put_plain (l : List Int) : ∀ (n : Int) (low : Nat), low ≤ l.length → (∀ i v, l[i]? = some v → i < low → v < n) → (∀ i v, l[i]? = some v → low ≤ i → n ≤ v) → l.Pairwise (· < ·) →
    Reg.putL l n = if l[low]? = some n then l else l.take low ++ n :: l.drop low := by
  induction l with
  | nil => intro n low h _ _ _; simp at h; subst h; rfl
  | cons a l ih =>
    intro n low h h1 h2 hp
    have hp' := List.pairwise_cons.1 hp
    cases low with
    | zero =>
      have ha : n ≤ a := h2 0 a rfl (Nat.le_refl _)
      simp only [Reg.putL]
      rw [if_neg (by omega)]
      by_cases he : a = n
      · subst he; simp
      · simp [he]
    | succ low =>
      have ha : a < n := h1 0 a rfl (by omega)
      simp only [Reg.putL]
      rw [if_pos ha, ih n low (by simpa using h) (fun i v hi hl => h1 (i + 1) v (by simpa using hi) (by omega)) (fun i v hi hl => h2 (i + 1) v (by simpa using hi) (by omega)) hp'.2]
      simp only [List.getElem?_cons_succ, List.take_succ_cons, List.drop_succ_cons]
      split <;> simp

theorem own_cells {w : World} {base n size : Nat} {e : TypeId} {v : Value} {xs : List Value} (h : w.ownsRow base e size v n xs) : ∃ A c, v = .slice A n c ∧ n ≤ c ∧ c ≤ maxLen ∧ (0 < n → ∃ g, A = some ⟨g, 0, none⟩ ∧ base ≤ g ∧ g < w.heap.size ∧ ∀ j u, xs[j]? = some u → w.cell? ⟨g, j, none⟩ = some u) := by
  have hlt := h.lt
  rcases h.2 with ⟨rfl, rfl⟩ | ⟨g, cap, cur, rfl, hb, hh, hn, hm, _, _⟩
  · exact ⟨none, 0, rfl, Nat.le_refl _, by simp [maxLen], fun h => absurd h (by omega)⟩
  · refine ⟨_, cap, rfl, hn, hm, fun _ => ⟨g, rfl, hb, (hlt g rfl).2, fun j u hj => ?_⟩⟩
    have := h.cells (g := g) rfl j u hj
    by_cases h0 : j = 0
    · subst h0; simpa [Addr.add] using this
    · simpa [Addr.add, h0] using this

theorem maxLen_eq : maxLen = 9223372036854775807 := rfl

theorem news_ints {w : World} {b off : Nat} {l : List Int} (h : ∀ i v, l[i]? = some v → w.cell? ⟨b, off + i, none⟩ = some (.int .i64 v)) :
    ∀ j u, (l.map (Value.int .i64))[j]? = some u → w.cell? ((⟨b, off, none⟩ : Addr).add j) = some u := by
  intro j u hj
  rw [List.getElem?_map] at hj
  obtain ⟨v, hv, rfl⟩ := Option.map_eq_some_iff.1 hj
  have := h j v hv
  by_cases h0 : j = 0
  · subst h0; simpa [Addr.add] using this
  · simpa [Addr.add, h0] using this
theorem one_ints (l : List Int) : ∀ u ∈ l.map (Value.int .i64), u.oneCell' = true := by
  intro u hu
  obtain ⟨v, _, rfl⟩ := List.mem_map.1 hu
  rfl
theorem own_far {w : World} {base n size b : Nat} {e : TypeId} {v : Value} {xs : List Value} (h : w.ownsRow base e size v n xs) (hb : b < base) : some b ≠ v.ownBlock := fun e => by
  have := (h.lt b e.symm).1
  omega
theorem none_far {b : Nat} : some b ≠ (Value.slice none 0 0).ownBlock := by simp [Value.ownBlock]
theorem below_app {B : Nat} {w0 w w' : World} {base n size : Nat} {e : TypeId} {v : Value} {xs : List Value} (h : Below B w0 w) (ho : w.ownsRow base e size v n xs) (hg : w.grownBy w' v.ownBlock) (hB : B ≤ base) (hs : B ≤ w.heap.size) : Below B w0 w' :=
  h.grown hg hs (fun k hk => Nat.le_trans hB (ho.lt k hk).1)
theorem alloc_cell {w : World} {b o : Nat} {v : Value} (h : w.cell? ⟨b, o, none⟩ = some v) (hb : b < w.heap.size) (x : Obj) : (w.alloc x).cell? ⟨b, o, none⟩ = some v := (World.cell?_alloc_lt w x _ hb).trans h

theorem gotI_own {w w' : World} {l : List Int} {v : Value} (h : w'.ownsRow w.heap.size 3 1 v l.length (l.map (Value.int .i64))) (hb : Below w.heap.size w w') : GotI w l (.returned v) w' := by
  obtain ⟨A, c, rfl, h1, h2, h3⟩ := own_cells h
  refine ⟨A, c, rfl, h1, h2, fun hn => ?_, hb⟩
  obtain ⟨g, rfl, hg, hlt, hc⟩ := h3 hn
  refine ⟨g, 0, rfl, hlt, fun i v hi => ?_⟩
  rw [Nat.zero_add]
  exact hc i _ (by rw [List.getElem?_map, hi]; rfl)

set_option maxRecDepth 100000 in
set_option maxHeartbeats 1000000 in
theorem put_loop (b off c : Nat) (l : List Int) (n : Int) (w : World) (hl0 : 0 < l.length) (hl : l.length ≤ c) (hc : c ≤ 9223372036854775807) (hsmall : l.length ≤ 1000000) (hblt : b < w.heap.size) (hp : l.Pairwise (· < ·))
    (hcs : ∀ i v, l[i]? = some v → w.cell? ⟨b, off + i, none⟩ = some (.int .i64 v)) :
    Calls Tryz.prog 81 #[.slice (some ⟨b, off, none⟩) l.length c, .int .i64 n] w (GotI w (Reg.putL l n)) := by
  obtain ⟨i0, hi, hz0, hz1, hz2⟩ := info_parts info3
  have HC := Lib.hid hcs
  have HP := Lib.hid hp
  clear hcs hp
  go_enter Tryz.func81, Tryz.ntmps81
  go_wp2_with fail
  go_loop [5, 6] (fun u v => ∃ low high : Nat, u = .int .i64 low ∧ v = .int .i64 high ∧ low ≤ high ∧ high ≤ l.length ∧ Hid (∀ i v, l[i]? = some v → i < low → v < n) ∧ Hid (∀ i v, l[i]? = some v → high ≤ i → n ≤ v)) (fun u v => (intOf v).toNat - (intOf u).toNat)
  case atStart => exact ⟨0, l.length, rfl, rfl, by omega, Nat.le_refl _, fun i v _ h => absurd h (by omega), fun i v hi h => by have := (List.getElem?_eq_some_iff.1 hi).1; omega⟩
  case round =>
    obtain ⟨low, high, rfl, rfl, h1, h2, h3, h4⟩ := hrel
    by_cases hlt : low < high
    · have hmid : (low + high) / 2 < l.length := by omega
      have hi2 : l[(low + high) / 2]? = some l[(low + high) / 2] := List.getElem?_eq_getElem hmid
      have hcell := HC.out _ _ hi2
      have HI := Lib.hid hi2
      clear hi2
      generalize hx : l[(low + high) / 2] = x at *
      clear hx
      have hge : ∀ i v, l[i]? = some v → ((low + high) / 2 ≤ i → x ≤ v) ∧ (i ≤ (low + high) / 2 → v ≤ x) := by
        intro i v hv
        have hpp := List.pairwise_iff_getElem.1 HP.out
        obtain ⟨k1, rfl⟩ := List.getElem?_eq_some_iff.1 hv
        obtain ⟨k2, rfl⟩ := List.getElem?_eq_some_iff.1 HI.out
        constructor
        · intro hle
          rcases Nat.lt_or_eq_of_le hle with hh | hh
          · have := hpp _ _ k2 k1 hh; omega
          · subst hh; exact Int.le_refl _
        · intro hle
          rcases Nat.lt_or_eq_of_le hle with hh | hh
          · have := hpp _ _ k1 k2 hh; omega
          · subst hh; exact Int.le_refl _
      have HGE := Lib.hid hge
      clear hge
      by_cases hxn : x < n
      · have h3' : Hid (∀ i v, l[i]? = some v → i < (low + high) / 2 + 1 → v < n) := fun i v hv hlt => by have := (HGE.out i v hv).2 (by omega); omega
        go_wp2_with fail
        refine ⟨⟨(low + high) / 2 + 1, high, by go_num, rfl, by omega, h2, h3', h4⟩, ?_⟩
        simp [intOf]
        omega
      · have h4' : Hid (∀ i v, l[i]? = some v → (low + high) / 2 ≤ i → n ≤ v) := fun i v hv hlt => by have := (HGE.out i v hv).1 (by omega); omega
        go_wp2_with fail
        refine ⟨⟨low, (low + high) / 2, rfl, by go_num, by omega, by omega, h3, h4'⟩, ?_⟩
        simp [intOf]
        omega
    · obtain rfl : low = high := by omega
      have hput := put_plain l n low h2 h3 h4 HP.out
      have HPUT := Lib.hid hput
      clear hput h3 h4
      by_cases hin : l[low]? = some n
      · have hlow := (List.getElem?_eq_some_iff.1 hin).1
        have hcell := HC.out _ _ hin
        have he : Reg.putL l n = l := by rw [HPUT.out, if_pos hin]
        have HE := Lib.hid he
        clear he hin
        go_wp2_with fail
        go_ret
        refine ⟨some ⟨b, off, none⟩, c, by rw [HE.out]; rfl, by rw [HE.out]; exact hl, hc, ?_, Below.refl _ _⟩
        rw [HE.out]
        exact fun _ => ⟨b, off, rfl, hblt, HC.out⟩
      · have he : Reg.putL l n = l.take low ++ n :: l.drop low := by rw [HPUT.out, if_neg hin]
        have HE := Lib.hid he
        clear he
        have hlow : (low : Int) ≤ (c : Int) := by omega
        have hw0 : w.ownsRow w.heap.size 3 1 (.slice none 0 0) 0 [] := ⟨rfl, .inl ⟨rfl, rfl⟩⟩
        have HW0 := Lib.hid hw0
        have P1 : ((l.take low).map (Value.int .i64)).length = low * 1 := by simp; omega
        have HP1 := Lib.hid P1
        have P2 := news_ints (w := w) (b := b) (off := off) (l := l.take low) (fun i v hi => HC.out i v (by rw [List.getElem?_take] at hi; split at hi; exact hi; cases hi))
        have HP2 := Lib.hid P2
        have P4 : 0 + low ≤ maxLen := by simp only [maxLen]; omega
        have P5 : (0 + low) * 8 ≤ 140737488355328 := by omega
        have Q4 : 0 + low + 1 ≤ maxLen := by simp only [maxLen]; omega
        have Q5 : (0 + low + 1) * 8 ≤ 140737488355328 := by omega
        have R4' : 0 + low + 1 + (l.length - low) ≤ maxLen := by simp only [maxLen]; omega
        have R5 : (0 + low + 1 + (l.length - low)) * 8 ≤ 140737488355328 := by omega
        have R1 : ((l.drop low).map (Value.int .i64)).length = (l.length - low) * 1 := by simp
        have HR1 := Lib.hid R1
        have HB := Lib.hid (And.intro P4 (And.intro P5 (And.intro Q4 (And.intro Q5 (And.intro R4' R5)))))
        clear P1 P2 P4 P5 Q4 Q5 R4' R5 R1 hw0
        have fin_ : ∀ (v : Value) (w' : World), w'.ownsRow w.heap.size 3 1 v (0 + low + 1 + (l.length - low)) ([] ++ (l.take low).map (Value.int .i64) ++ [.int .i64 n] ++ (l.drop low).map (Value.int .i64)) → Below w.heap.size w w' → GotI w (Reg.putL l n) (.returned v) w' := by
          intro v w' ho hb
          rw [HE.out]
          refine gotI_own ?_ hb
          have e1 : (l.take low ++ n :: l.drop low).length = 0 + low + 1 + (l.length - low) := by simp; omega
          have e2 : (l.take low ++ n :: l.drop low).map (Value.int .i64) = [] ++ (l.take low).map (Value.int .i64) ++ [.int .i64 n] ++ (l.drop low).map (Value.int .i64) := by simp
          rw [e1, e2]
          exact ho
        have FIN := Lib.hid fin_
        clear fin_
        by_cases hll : low < l.length
        · have hi2 : l[low]? = some l[low] := List.getElem?_eq_getElem hll
          have hcell := HC.out _ _ hi2
          have hne : (l[low] == n) = false := by
            rw [beq_eq_false_iff_ne]
            intro h
            exact hin (by rw [hi2, h])
          clear hi2 hin
          generalize l[low] = x at *
          have hcl : ¬ c = low := by omega
          go_wp2_with (first
            | (at_builtin; refine wpList_append_own _ rfl (.tmp 40) (.tmp 43) 59 rfl w.heap.size 3 i0 (.int .i64 0) 1 8 Tryz.underlying59 hi hz0 hz1 hz2 rfl (by decide) (.slice none 0 0) 0 [] rfl HW0.out ⟨b, off, none⟩ low c ((l.take low).map (Value.int .i64)) rfl HP1.out HP2.out (one_ints _) HB.out.1 HB.out.2.1 (Nat.le_refl _) ?_; intro v1 w1 hown1 hg1 _; have zg1 := hg1.size; have HO1 := Lib.hid hown1; have B1 := below_app (Below.refl w.heap.size w) HW0.out hg1 (Nat.le_refl _) (Nat.le_refl _); have K1 := Lib.hid (fun i v hi => hg1.cell (HC.out i v hi) none_far); clear hown1 hg1)
            | (at_builtin; refine wpList_append_own _ rfl (.tmp 45) (.tmp 47) 59 rfl w.heap.size 3 i0 (.int .i64 0) 1 8 Tryz.underlying59 hi hz0 hz1 hz2 rfl (by decide) v1 (0 + low) ([] ++ (l.take low).map (Value.int .i64)) rfl (HO1.out.alloc _) ⟨w1.heap.size, 0, none⟩ 1 1 [.int .i64 n] rfl rfl (cell_one_new _ _ _) ?o2 HB.out.2.2.1 HB.out.2.2.2.1 ?b2 ?_; (case o2 => simp [Value.oneCell']); (case b2 => simp; omega); intro v2 w2 hown2 hg2 _; have zg2 := hg2.size; have HO2 := Lib.hid hown2; have B2 := below_app (B1.alloc (by omega) _) (HO1.out.alloc _) hg2 (Nat.le_refl _) (by simp; omega); have K2 := Lib.hid (fun i v hi => hg2.cell (alloc_cell (K1.out i v hi) (by omega) _) (own_far HO1.out hblt)); clear hown2 hg2)
            | (at_builtin; refine wpList_append_own _ rfl (.tmp 49) (.tmp 52) 59 rfl w.heap.size 3 i0 (.int .i64 0) 1 8 Tryz.underlying59 hi hz0 hz1 hz2 rfl (by decide) v2 (0 + low + 1) ([] ++ (l.take low).map (Value.int .i64) ++ [.int .i64 n]) rfl HO2.out ⟨b, off + low, none⟩ (l.length - low) (c - low) ((l.drop low).map (Value.int .i64)) rfl HR1.out ?n3 (one_ints _) HB.out.2.2.2.2.1 HB.out.2.2.2.2.2 ?b3 ?_; (case n3 => exact news_ints (fun i v hi => (by rw [Nat.add_assoc]; exact K2.out _ v (by rw [← hi, List.getElem?_drop])))); (case b3 => simp at zg2; omega); intro v3 w3 hown3 hg3 _; have HO3 := Lib.hid hown3; have B3 := below_app B2 HO2.out hg3 (Nat.le_refl _) (by simp at zg2; omega); clear hown3 hg3))
          go_ret
          exact FIN.out _ _ HO3.out B3
        · obtain rfl : low = l.length := by omega
          have hnone : ¬ (l.length : Int) < (l.length : Int) := by omega
          have hdn : (l.drop l.length).map (Value.int .i64) = [] := by simp
          have HDN := Lib.hid hdn
          clear hdn hin
          have f0 : ∀ (v : Value) (w' : World), w'.ownsRow w.heap.size 3 1 v (0 + l.length + 1) ([] ++ (l.take l.length).map (Value.int .i64) ++ [.int .i64 n] ++ []) → Below w.heap.size w w' → GotI w (Reg.putL l n) (.returned v) w' := fun v w' ho hb => FIN.out v w' (by rw [HDN.out, Nat.sub_self]; exact ho) hb
          have F0 := Lib.hid f0
          clear f0
          by_cases hcl : c = l.length
          · subst hcl
            go_wp2_with (first
              | (at_builtin; refine wpList_append_own _ rfl (.tmp 40) (.tmp 43) 59 rfl w.heap.size 3 i0 (.int .i64 0) 1 8 Tryz.underlying59 hi hz0 hz1 hz2 rfl (by decide) (.slice none 0 0) 0 [] rfl HW0.out ⟨b, off, none⟩ l.length l.length ((l.take l.length).map (Value.int .i64)) rfl HP1.out HP2.out (one_ints _) HB.out.1 HB.out.2.1 (Nat.le_refl _) ?_; intro v1 w1 hown1 hg1 _; have zg1 := hg1.size; have HO1 := Lib.hid hown1; have B1 := below_app (Below.refl w.heap.size w) HW0.out hg1 (Nat.le_refl _) (Nat.le_refl _); have K1 := Lib.hid (fun i v hi => hg1.cell (HC.out i v hi) none_far); clear hown1 hg1)
              | (at_builtin; refine wpList_append_own _ rfl (.tmp 45) (.tmp 47) 59 rfl w.heap.size 3 i0 (.int .i64 0) 1 8 Tryz.underlying59 hi hz0 hz1 hz2 rfl (by decide) v1 (0 + l.length) ([] ++ (l.take l.length).map (Value.int .i64)) rfl (HO1.out.alloc _) ⟨w1.heap.size, 0, none⟩ 1 1 [.int .i64 n] rfl rfl (cell_one_new _ _ _) ?o2 HB.out.2.2.1 HB.out.2.2.2.1 ?b2 ?_; (case o2 => simp [Value.oneCell']); (case b2 => simp; omega); intro v2 w2 hown2 hg2 _; have zg2 := hg2.size; have HO2 := Lib.hid hown2; have B2 := below_app (B1.alloc (by omega) _) (HO1.out.alloc _) hg2 (Nat.le_refl _) (by simp; omega); have K2 := Lib.hid (fun i v hi => hg2.cell (alloc_cell (K1.out i v hi) (by omega) _) (own_far HO1.out hblt)); clear hown2 hg2)
              | (at_builtin; refine wpList_append_own _ rfl (.tmp 49) (.tmp 52) 59 rfl w.heap.size 3 i0 (.int .i64 0) 1 8 Tryz.underlying59 hi hz0 hz1 hz2 rfl (by decide) v2 (0 + l.length + 1) ([] ++ (l.take l.length).map (Value.int .i64) ++ [.int .i64 n]) rfl HO2.out ⟨b, off, none⟩ 0 0 [] rfl rfl ?n3 ?o3 HB.out.2.2.1 HB.out.2.2.2.1 ?b3 ?_; (case n3 => intro j u hj; simp at hj); (case o3 => simp); (case b3 => simp at zg2; omega); intro v3 w3 hown3 hg3 _; have HO3 := Lib.hid hown3; have B3 := below_app B2 HO2.out hg3 (Nat.le_refl _) (by simp at zg2; omega); clear hown3 hg3))
            go_ret
            exact F0.out _ _ HO3.out B3
          · have hcl2 : (l.length : Int) ≤ (c : Int) := by omega
            go_wp2_with (first
              | (at_builtin; refine wpList_append_own _ rfl (.tmp 40) (.tmp 43) 59 rfl w.heap.size 3 i0 (.int .i64 0) 1 8 Tryz.underlying59 hi hz0 hz1 hz2 rfl (by decide) (.slice none 0 0) 0 [] rfl HW0.out ⟨b, off, none⟩ l.length c ((l.take l.length).map (Value.int .i64)) rfl HP1.out HP2.out (one_ints _) HB.out.1 HB.out.2.1 (Nat.le_refl _) ?_; intro v1 w1 hown1 hg1 _; have zg1 := hg1.size; have HO1 := Lib.hid hown1; have B1 := below_app (Below.refl w.heap.size w) HW0.out hg1 (Nat.le_refl _) (Nat.le_refl _); have K1 := Lib.hid (fun i v hi => hg1.cell (HC.out i v hi) none_far); clear hown1 hg1)
              | (at_builtin; refine wpList_append_own _ rfl (.tmp 45) (.tmp 47) 59 rfl w.heap.size 3 i0 (.int .i64 0) 1 8 Tryz.underlying59 hi hz0 hz1 hz2 rfl (by decide) v1 (0 + l.length) ([] ++ (l.take l.length).map (Value.int .i64)) rfl (HO1.out.alloc _) ⟨w1.heap.size, 0, none⟩ 1 1 [.int .i64 n] rfl rfl (cell_one_new _ _ _) ?o2 HB.out.2.2.1 HB.out.2.2.2.1 ?b2 ?_; (case o2 => simp [Value.oneCell']); (case b2 => simp; omega); intro v2 w2 hown2 hg2 _; have zg2 := hg2.size; have HO2 := Lib.hid hown2; have B2 := below_app (B1.alloc (by omega) _) (HO1.out.alloc _) hg2 (Nat.le_refl _) (by simp; omega); have K2 := Lib.hid (fun i v hi => hg2.cell (alloc_cell (K1.out i v hi) (by omega) _) (own_far HO1.out hblt)); clear hown2 hg2)
              | (at_builtin; refine wpList_append_own _ rfl (.tmp 49) (.tmp 52) 59 rfl w.heap.size 3 i0 (.int .i64 0) 1 8 Tryz.underlying59 hi hz0 hz1 hz2 rfl (by decide) v2 (0 + l.length + 1) ([] ++ (l.take l.length).map (Value.int .i64) ++ [.int .i64 n]) rfl HO2.out ⟨b, off + l.length, none⟩ 0 (c - l.length) [] rfl rfl ?n3 ?o3 HB.out.2.2.1 HB.out.2.2.2.1 ?b3 ?_; (case n3 => intro j u hj; simp at hj); (case o3 => simp); (case b3 => simp at zg2; omega); intro v3 w3 hown3 hg3 _; have HO3 := Lib.hid hown3; have B3 := below_app B2 HO2.out hg3 (Nat.le_refl _) (by simp at zg2; omega); clear hown3 hg3))
            go_ret
            exact F0.out _ _ HO3.out B3

set_option maxRecDepth 100000 in
theorem put_nil (n : Int) (w : World) : Calls Tryz.prog 81 #[.slice none 0 0, .int .i64 n] w (GotI w (Reg.putL [] n)) := by
  obtain ⟨i0, hi, hz0, hz1, hz2⟩ := info_parts info3
  have hw0 : w.ownsRow w.heap.size 3 1 (.slice none 0 0) 0 [] := ⟨rfl, .inl ⟨rfl, rfl⟩⟩
  have HW0 := Lib.hid hw0
  clear hw0
  go_enter Tryz.func81, Tryz.ntmps81
  go_wp2_with fail
  refine wp_loop_rounds 1 ?_
  rw [rounds_succ]
  go_wp2_with (first
    | (at_builtin; refine wpList_append_own _ rfl (.tmp 45) (.tmp 47) 59 rfl w.heap.size 3 i0 (.int .i64 0) 1 8 Tryz.underlying59 hi hz0 hz1 hz2 rfl (by decide) (.slice none 0 0) 0 [] rfl (HW0.out.alloc _) ⟨w.heap.size, 0, none⟩ 1 1 [.int .i64 n] rfl rfl (cell_one_new _ _ _) ?o2 ?q4 ?q5 ?b2 ?_; (case o2 => simp [Value.oneCell']); (case q4 => simp [maxLen]); (case q5 => omega); (case b2 => simp); intro v2 w2 hown2 hg2 _; have HO2 := Lib.hid hown2; have B2 := below_app ((Below.refl w.heap.size w).alloc (Nat.le_refl _) _) (HW0.out.alloc _) hg2 (Nat.le_refl _) (by simp); clear hown2 hg2)
    | (at_builtin; refine wpList_append_own_none rfl (.tmp 49) (.tmp 52) 59 rfl w.heap.size 3 i0 1 Tryz.underlying59 hi v2 (0 + 1) ([] ++ [.int .i64 n]) rfl HO2.out rfl ?_))
  go_ret
  exact gotI_own (l := [n]) HO2.out B2
end Go.Proofs.YtmcbjaefnhfopaaGreat

/- A row of sides of the call's own, sorted; the heights of sides. -/
import Derived.Test.YtmcbjaefnhfopaaSweepB
import Derived.Sort.OwnSortedInts
import Derived.Shelf.SlicesE.Compact
import Derived.Shelf.SortM.Plain
import Derived.Ground.SlgmProg
import Derived.Ground.SlgnProg
namespace Go.Proofs
open Go.Shelf
def Try.sortInts_ren : Go.Shelf.Ren := ⟨fun | 5 => 98 | 8 => 97 | 7 => 113 | 19 => 111 | 20 => 112 | 10 => 122 | 11 => 123 | 12 => 124 | 13 => 125 | 14 => 126 | 15 => 127 | 16 => 128 | 17 => 129 | 18 => 130 | 30 => 132 | 31 => 118 | 32 => 119 | 33 => 133 | 34 => 134 | 35 => 91 | 40 => 135 | n => n, fun | 23 => 67 | 25 => 3 | 3 => 3 | 32 => 111 | 22 => 67 | 0 => 0 | 44 => 129 | 46 => 131 | 4 => 4 | 36 => 123 | 35 => 122 | 41 => 106 | 5 => 5 | 9 => 9 | 53 => 136 | 57 => 140 | 63 => 147 | 64 => 148 | n => n, fun | n => n⟩
theorem Try.sortInts : Go.Proofs.SlLaysM.n5 Try.prog Try.sortInts_ren := {
  mixed := by kernel_rfl
  f5 := ⟨Try.f98.name, by decide, Try.func98.trans (congrArg some (by kernel_rfl))⟩
  f7 := ⟨Try.f113.name, by decide, Try.func113.trans (congrArg some (by kernel_rfl))⟩
  f8 := Try.func97.trans (congrArg some (by kernel_rfl))
  f10 := ⟨Try.f122.name, by decide, Try.func122.trans (congrArg some (by kernel_rfl))⟩
  f11 := ⟨Try.f123.name, by decide, Try.func123.trans (congrArg some (by kernel_rfl))⟩
  f12 := ⟨Try.f124.name, by decide, Try.func124.trans (congrArg some (by kernel_rfl))⟩
  f13 := ⟨Try.f125.name, by decide, Try.func125.trans (congrArg some (by kernel_rfl))⟩
  f14 := ⟨Try.f126.name, by decide, Try.func126.trans (congrArg some (by kernel_rfl))⟩
  f15 := ⟨Try.f127.name, by decide, Try.func127.trans (congrArg some (by kernel_rfl))⟩
  f16 := ⟨Try.f128.name, by decide, Try.func128.trans (congrArg some (by kernel_rfl))⟩
  f17 := ⟨Try.f129.name, by decide, Try.func129.trans (congrArg some (by kernel_rfl))⟩
  f18 := ⟨Try.f130.name, by decide, Try.func130.trans (congrArg some (by kernel_rfl))⟩
  f19 := Try.func111.trans (congrArg some (by kernel_rfl))
  f20 := Try.func112.trans (congrArg some (by kernel_rfl))
  f30 := ⟨Try.f132.name, by decide, Try.func132.trans (congrArg some (by kernel_rfl))⟩
  f31 := Try.func118.trans (congrArg some (by kernel_rfl))
  f32 := Try.func119.trans (congrArg some (by kernel_rfl))
  f33 := ⟨Try.f133.name, by decide, Try.func133.trans (congrArg some (by kernel_rfl))⟩
  f34 := ⟨Try.f134.name, by decide, Try.func134.trans (congrArg some (by kernel_rfl))⟩
  f35 := ⟨Try.f91.name, by decide, Try.func91.trans (congrArg some (by kernel_rfl))⟩
  f40 := ⟨Try.f135.name, by decide, Try.func135.trans (congrArg some (by kernel_rfl))⟩
  t0 := Try.underlying0
  a0 := Try.isAgg0
  z0 := Try.sizeOf0
  v0 := Try.zeroValue0
  t3 := Try.underlying3
  a3 := Try.isAgg3
  z3 := Try.sizeOf3
  v3 := Try.zeroValue3
  t4 := Try.underlying4
  a4 := Try.isAgg4
  z4 := Try.sizeOf4
  v4 := Try.zeroValue4
  t5 := Try.underlying5
  a5 := Try.isAgg5
  z5 := Try.sizeOf5
  v5 := Try.zeroValue5
  t9 := Try.underlying9
  a9 := Try.isAgg9
  z9 := Try.sizeOf9
  v9 := Try.zeroValue9
  t22 := Try.underlying67
  a22 := Try.isAgg67
  z22 := Try.sizeOf67
  v22 := Try.zeroValue67
  t23 := Try.underlying67
  a23 := Try.isAgg67
  z23 := Try.sizeOf67
  v23 := Try.zeroValue67
  t25 := Try.underlying3
  a25 := Try.isAgg3
  z25 := Try.sizeOf3
  v25 := Try.zeroValue3
  t32 := Try.underlying111
  a32 := Try.isAgg111
  z32 := Try.sizeOf111
  v32 := Try.zeroValue111
  t35 := Try.underlying122
  a35 := Try.isAgg122
  z35 := Try.sizeOf122
  v35 := Try.zeroValue122
  t36 := Try.underlying123
  a36 := Try.isAgg123
  z36 := Try.sizeOf123
  v36 := Try.zeroValue123
  t41 := Try.underlying106
  a41 := Try.isAgg106
  z41 := Try.sizeOf106
  v41 := Try.zeroValue106
  t44 := Try.underlying129
  a44 := Try.isAgg129
  z44 := Try.sizeOf129
  v44 := Try.zeroValue129
  t46 := Try.underlying131
  a46 := Try.isAgg131
  z46 := Try.sizeOf131
  v46 := Try.zeroValue131
  t53 := Try.underlying136
  a53 := Try.isAgg136
  z53 := Try.sizeOf136
  v53 := Try.zeroValue136
  t57 := Try.underlying140
  a57 := Try.isAgg140
  z57 := Try.sizeOf140
  v57 := Try.zeroValue140
  t63 := Try.underlying147
  a63 := Try.isAgg147
  z63 := Try.sizeOf147
  v63 := Try.zeroValue147
  t64 := Try.underlying148
  a64 := Try.isAgg148
  z64 := Try.sizeOf148
  v64 := Try.zeroValue148 }
def Try.compactInts_ren : Go.Shelf.Ren := ⟨fun | 43 => 99 | n => n, fun | 22 => 67 | 23 => 3 | 3 => 3 | 4 => 4 | 0 => 0 | n => n, fun | n => n⟩
theorem Try.compactInts : Go.Proofs.SlLaysE.n43 Try.prog Try.compactInts_ren := {
  mixed := by kernel_rfl
  f43 := ⟨Try.f99.name, by decide, Try.func99.trans (congrArg some (by kernel_rfl))⟩
  t0 := Try.underlying0
  a0 := Try.isAgg0
  z0 := Try.sizeOf0
  v0 := Try.zeroValue0
  t3 := Try.underlying3
  a3 := Try.isAgg3
  z3 := Try.sizeOf3
  v3 := Try.zeroValue3
  t4 := Try.underlying4
  a4 := Try.isAgg4
  z4 := Try.sizeOf4
  v4 := Try.zeroValue4
  t22 := Try.underlying67
  a22 := Try.isAgg67
  z22 := Try.sizeOf67
  v22 := Try.zeroValue67
  a23 := Try.isAgg3
  z23 := Try.sizeOf3 }
end Go.Proofs
namespace Go.Proofs.Ytmcbjaefnhfopaa
open Go.RowKit Go.Shelf Go.Lib Go.Sort
open Reg (R4 E5)
set_option linter.unusedSimpArgs false
set_option linter.unusedVariables false

theorem holds_own {α : Type} [Inhabited α] (enc : α → Value) {w : World} {g : Nat} {cur : Array Value} {e : TypeId} {F : Array α} (hb : w.heap[g]? = some (.cells cur e (0, 0))) (ht : cur.toList.take F.size = F.toList.map enc) : Holds enc w g 0 F := by
  intro j hj
  refine ⟨?_, by simp [World.frozen?, hb]⟩
  have h1 : (cur.toList.take F.size)[j]? = (F.toList.map enc)[j]? := by rw [ht]
  rw [List.getElem?_take_of_lt hj] at h1
  simp only [World.cell?, hb, Nat.zero_add]
  simp only [Option.isSome_none, Bool.false_eq_true, if_false]
  rw [← Array.getElem?_toList, h1]
  simp [hj]
theorem heap_put {α : Type} [Inhabited α] (enc : α → Value) {w : World} {g n : Nat} {os : Array Obj} {cur : Array Value} {e : TypeId} {fr : Nat × Nat} (d : Array α) (hb : w.heap[g]? = some (.cells cur e fr)) :
    (grow (putRow enc (Sort.ahead w n) g 0 d) os).heap[g]? = some (.cells (putCells enc 0 d cur) e fr) := by
  have hg : g < w.heap.size := (Array.getElem?_eq_some_iff.1 hb).1
  rw [heap_grow_old _ _ (by simpa using hg)]
  simp [putRow, mapBlock, Sort.ahead, Array.getElem?_modify, hb, onCells]
theorem grownBy_put {α : Type} [Inhabited α] (enc : α → Value) {w : World} {g n : Nat} {os : Array Obj} (d : Array α) : w.grownBy (grow (putRow enc (Sort.ahead w n) g 0 d) os) (some g) := by
  refine ⟨rfl, rfl, rfl, by simp, fun k hk hne => ?_⟩
  rw [heap_grow_old _ _ (by simpa using hk)]
  have : g ≠ k := fun e => hne (by rw [e])
  simp [putRow, mapBlock, Sort.ahead, Array.getElem?_modify, this]
theorem take_put {α : Type} [Inhabited α] (enc : α → Value) (cur : Array Value) (F : Array α) (h : F.size ≤ cur.size) : (putCells enc 0 F cur).toList.take F.size = F.toList.map enc := by
  apply List.ext_getElem?
  intro j
  by_cases hj : j < F.size
  · rw [List.getElem?_take_of_lt hj, Array.getElem?_toList]
    simp [putCells, hj, show j < cur.size by omega]
  · rw [List.getElem?_take_eq_none (by omega), List.getElem?_eq_none (by simp; omega)]
theorem own_put {α : Type} [Inhabited α] (enc : α → Value) {w : World} {base g cap n k size : Nat} {e : TypeId} {os : Array Obj} {cur : Array Value} {F : Array α} {xs : List Value} (hF : F.toList.map enc = xs) (hl : F.size = k * size) (hbase : base ≤ g) (hb : w.heap[g]? = some (.cells cur e (0, 0)))
    (h1 : k ≤ cap) (h2 : cap ≤ maxLen) (h3 : cur.size = cap * size) :
    (grow (putRow enc (Sort.ahead w n) g 0 F) os).ownsRow base e size (.slice (some ⟨g, 0, none⟩) k cap) k xs := by
  refine ⟨by rw [← hF]; simpa using hl, .inr ⟨g, cap, _, rfl, hbase, heap_put enc _ hb, h1, h2, by simp [putCells, h3], ?_⟩⟩
  rw [← hl, ← hF]
  exact take_put enc cur F (by rw [hl, h3]; exact Nat.mul_le_mul_right _ h1)

theorem cE_get (l : List E5) : ∀ t, t < l.length * 5 → (cE l)[t]? = some ((cE1 l[t / 5]!)[t % 5]!) := by
  induction l with
  | nil => intro t h; simp at h
  | cons a l ih =>
    intro t h
    match t, h with
    | 0, _ => rfl
    | 1, _ => rfl
    | 2, _ => rfl
    | 3, _ => rfl
    | 4, _ => rfl
    | t + 5, h =>
      simp only [List.length_cons] at h
      have := ih t (by omega)
      have e1 : (t + 5) / 5 = t / 5 + 1 := by omega
      have e2 : (t + 5) % 5 = t % 5 := by omega
      rw [e1, e2]
      simp only [cE, List.flatMap_cons] at this ⊢
      have e3 : (cE1 a ++ List.flatMap cE1 l)[t + 5]? = (List.flatMap cE1 l)[t]? := by
        rw [List.getElem?_append_right (by simp [cE1])]
        simp [cE1]
      rw [e3, this]
      simp
theorem flatK_cE (d : Array E5) : flatK cE1 5 d = (cE d.toList).toArray := by
  apply Array.ext
  · simp [cE_len]
  · intro t h1 h2
    have ht : t < d.size * 5 := by simpa using h1
    have e1 := get_flatK cE1 5 d t ht
    have e2 := cE_get d.toList t (by simpa using ht)
    rw [getElem!_pos _ t h1] at e1
    rw [e1]
    have e3 : (cE d.toList).toArray[t]? = some ((cE1 d.toList[t / 5]!)[t % 5]!) := by simpa using e2
    rw [Array.getElem?_eq_getElem h2] at e3
    injection e3 with e3
    rw [e3]
    have hq : t / 5 < d.size := by omega
    rw [getElem!_pos d _ hq, getElem!_pos d.toList _ (by simpa using hq), Array.getElem_toList]

set_option maxRecDepth 100000 in
/-- The sort of a row of sides of the call's own. -/
theorem sortOwn_any (base : Nat) (v : Value) (l : List E5) (w : World) (hnn : v ≠ .slice none 0 0) (hown : w.ownsRow base 87 5 v l.length (cE l)) (hsz : l.length < 4611686018427387904) :
    Calls Try.prog 80 #[v, .func (.func 81) #[] #[]] w fun e w' =>
      e = .returned (.tuple #[]) ∧ ∃ l' : List E5, l'.Perm l ∧ l'.Pairwise (fun d e => d.y0 < e.y0 ∨ (d.y0 = e.y0 ∧ d.x ≤ e.x)) ∧ w'.ownsRow base 87 5 v l'.length (cE l') ∧ w.grownBy w' v.ownBlock := by
  rcases hown.2 with ⟨hnil, _⟩ | ⟨g, cap, cur, rfl, hbase, hb, h1, h2, h3, h4⟩
  · exact absurd hnil hnn
  · have hH : HoldsK cE1 5 w g 0 l.toArray := by
      unfold HoldsK
      rw [flatK_cE]
      refine holds_own id hb ?_
      simp only [List.map_id]
      rw [show (cE l.toArray.toList).toArray.size = l.length * 5 from by simp [cE_len]]
      exact h4
    have hlt : g < w.heap.size := (Array.getElem?_eq_some_iff.1 hb).1
    have := sortE_any g 0 cap l.toArray w hH hlt (by simpa using hsz)
    rw [show l.toArray.size = l.length from by simp] at this
    refine this.mono ?_
    rintro e w' ⟨rfl, d', n, os, hp, hs, rfl⟩
    have hsize : d'.size = l.length := by have := hp.1; simpa using this
    refine ⟨rfl, d'.toList, ?_, ?_, ?_, ?_⟩
    · have := hp.2.2
      have e1 : d'.extract 0 l.length = d' := by rw [← hsize]; simp
      have e2 : l.toArray.extract 0 l.length = l.toArray := by simp
      rw [e1, e2] at this
      simpa using this
    · rw [List.pairwise_iff_getElem]
      intro i j hi hj hij
      have hi' : i < d'.size := by simpa using hi
      have hj' : j < d'.size := by simpa using hj
      have := hs i j (Nat.zero_le _) hij (by omega)
      rw [getElem!_pos d' i hi', getElem!_pos d' j hj', ltE] at this
      simp only [Bool.or_eq_false_iff, Bool.and_eq_false_iff, decide_eq_false_iff_not] at this
      simp only [Array.getElem_toList]
      omega
    · unfold sortWorldK putRowK
      rw [flatK_cE]
      have := own_put (w := w) (g := g) (cap := cap) (n := n) (k := d'.toList.length) (size := 5) (os := os) (xs := cE d'.toList) id (F := (cE d'.toList).toArray) (by simp) (by simp [cE_len]) hbase hb (by simpa [hsize] using h1) h2 h3
      simpa [hsize] using this
    · unfold sortWorldK putRowK
      exact grownBy_put id _
end Go.Proofs.Ytmcbjaefnhfopaa

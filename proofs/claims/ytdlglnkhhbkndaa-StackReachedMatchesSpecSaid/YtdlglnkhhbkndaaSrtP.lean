/- A row of sub-boards of the call's own, sorted (slices.SortFunc by compareBoards). -/
import Derived.Test.YtdlglnkhhbkndaaPrC
import Derived.Test.YtdlglnkhhbkndaaLaidP
namespace Go.Proofs.Ytdlglnkhhbkndaa
open Go.RowKit Go.Maps Go.Sort Go.Shelf Go.Lib
set_option linter.unusedSimpArgs false
set_option linter.unusedVariables false
set_option maxRecDepth 100000

theorem holds_own {α : Type} [Inhabited α] (enc : α → Value) {w : World} {g : Nat} {cur : Array Value} {e : TypeId} {F : Array α} (hb : w.heap[g]? = some (.cells cur e (0, 0))) (ht : cur.toList.take F.size = F.toList.map enc) : Holds enc w g 0 F := by
  intro j hj
  refine ⟨?_, by simp [World.frozen?, hb]⟩
  have h1 : (cur.toList.take F.size)[j]? = (F.toList.map enc)[j]? := by rw [ht]
  rw [List.getElem?_take_of_lt hj] at h1
  simp only [World.cell?, hb, Nat.zero_add]
  simp only [Option.isSome_none, Bool.false_eq_true, if_false]
  rw [← Array.getElem?_toList, h1]
  simp [hj]
theorem heap_put {α : Type} [Inhabited α] (enc : α → Value) {w : World} {g n : Nat} {os : Array Obj} {cur : Array Value} {e : TypeId} {fr : Nat × Nat} (d : Array α) (hb : w.heap[g]? = some (.cells cur e fr)) :
    (grow (putRow enc (Sort.ahead w n) g 0 d) os).heap[g]? = some (.cells (putCells enc 0 d cur) e fr) := by
  have hg : g < w.heap.size := (Array.getElem?_eq_some_iff.1 hb).1
  rw [heap_grow_old _ _ (by simpa using hg)]
  simp [putRow, mapBlock, Sort.ahead, Array.getElem?_modify, hb, onCells]
theorem grownBy_put {α : Type} [Inhabited α] (enc : α → Value) {w : World} {g n : Nat} {os : Array Obj} (d : Array α) : w.grownBy (grow (putRow enc (Sort.ahead w n) g 0 d) os) (some g) := by
  refine ⟨rfl, rfl, rfl, by simp, fun k hk hne => ?_⟩
  rw [heap_grow_old _ _ (by simpa using hk)]
  have : g ≠ k := fun e => hne (by rw [e])
  simp [putRow, mapBlock, Sort.ahead, Array.getElem?_modify, this]
theorem take_put {α : Type} [Inhabited α] (enc : α → Value) (cur : Array Value) (F : Array α) (h : F.size ≤ cur.size) : (putCells enc 0 F cur).toList.take F.size = F.toList.map enc := by
  apply List.ext_getElem?
  intro j
  by_cases hj : j < F.size
  · rw [List.getElem?_take_of_lt hj, Array.getElem?_toList]
    simp [putCells, hj, show j < cur.size by omega]
  · rw [List.getElem?_take_eq_none (by omega), List.getElem?_eq_none (by simp; omega)]
theorem own_put {α : Type} [Inhabited α] (enc : α → Value) {w : World} {base g cap n k size : Nat} {e : TypeId} {os : Array Obj} {cur : Array Value} {F : Array α} {xs : List Value} (hF : F.toList.map enc = xs) (hl : F.size = k * size) (hbase : base ≤ g) (hb : w.heap[g]? = some (.cells cur e (0, 0)))
    (h1 : k ≤ cap) (h2 : cap ≤ maxLen) (h3 : cur.size = cap * size) :
    (grow (putRow enc (Sort.ahead w n) g 0 F) os).ownsRow base e size (.slice (some ⟨g, 0, none⟩) k cap) k xs := by
  refine ⟨by rw [← hF]; simpa using hl, .inr ⟨g, cap, _, rfl, hbase, heap_put enc _ hb, h1, h2, by simp [putCells, h3], ?_⟩⟩
  rw [← hl, ← hF]
  exact take_put enc cur F (by rw [hl, h3]; exact Nat.mul_le_mul_right _ h1)


abbrev Bo : Type := { x : Bq // okQ x }
instance : Inhabited Bo := ⟨⟨⟨0, 0, false, .slice none 0 0⟩, by refine ⟨?_, ?_, ?_, ?_, rfl⟩ <;> decide⟩⟩
def cB1 (x : Bo) : List Value := x.1.cs
def cB (l : List Bo) : List Value := l.flatMap cB1
theorem cB_len (l : List Bo) : (cB l).length = l.length * 4 := by induction l <;> simp [cB, cB1, Bq.cs] at *; omega
theorem cB_get (l : List Bo) : ∀ t, t < l.length * 4 → (cB l)[t]? = some ((cB1 l[t / 4]!)[t % 4]!) := by
  induction l with
  | nil => intro t h; simp at h
  | cons a l ih =>
    intro t h
    match t, h with
    | 0, _ => rfl
    | 1, _ => rfl
    | 2, _ => rfl
    | 3, _ => rfl
    | t + 4, h =>
      simp only [List.length_cons] at h
      have := ih t (by omega)
      have e1 : (t + 4) / 4 = t / 4 + 1 := by omega
      have e2 : (t + 4) % 4 = t % 4 := by omega
      rw [e1, e2]
      simp only [cB, List.flatMap_cons] at this ⊢
      have e3 : (cB1 a ++ List.flatMap cB1 l)[t + 4]? = (List.flatMap cB1 l)[t]? := by
        rw [List.getElem?_append_right (by simp [cB1, Bq.cs])]
        simp [cB1, Bq.cs]
      rw [e3, this]
      simp
theorem flatK_cB (d : Array Bo) : flatK cB1 4 d = (cB d.toList).toArray := by
  apply Array.ext
  · simp [cB_len]
  · intro t h1 h2
    have ht : t < d.size * 4 := by simpa using h1
    have e1 := get_flatK cB1 4 d t ht
    have e2 := cB_get d.toList t (by simpa using ht)
    rw [getElem!_pos _ t h1] at e1
    rw [e1]
    have e3 : (cB d.toList).toArray[t]? = some ((cB1 d.toList[t / 4]!)[t % 4]!) := by simpa using e2
    rw [Array.getElem?_eq_getElem h2] at e3
    injection e3 with e3
    rw [e3]
    have hq : t / 4 < d.size := by omega
    rw [getElem!_pos d _ hq, getElem!_pos d.toList _ (by simpa using hq), Array.getElem_toList]
theorem cB1_one (x : Bo) : ∀ v ∈ cB1 x, v.oneCell' = true := by
  intro v hv
  simp [cB1, Bq.cs] at hv
  rcases hv with rfl | rfl | rfl | rfl
  · rfl
  · rfl
  · rfl
  · exact x.2.2.2.2.2
def cmpB (x y : Bo) : Int := cmpQ x.1 y.1
theorem swoB : SWO (ltOf cmpB) where
  irrefl x := swoQ.irrefl x.1
  trans x y z := swoQ.trans x.1 y.1 z.1
  ntrans x y z := swoQ.ntrans x.1 y.1 z.1
theorem sortB_any (blk off cap : Nat) (d : Array Bo) (w : World) (hH : HoldsK cB1 4 w blk off d) (hblk : blk < w.heap.size) (hsz : d.size < 4611686018427387904) :
    Calls Try.prog 104 #[.slice (some ⟨blk, off, none⟩) d.size cap, .func (.func 105) #[] #[]] w fun e w' =>
      e = .returned (.tuple #[]) ∧ ∃ d' n os, PermIn 0 d.size d d' ∧ SortedIn (ltOf cmpB) 0 d.size d' ∧ w' = sortWorldK cB1 4 w blk off n d' os := by
  have eg : ∀ args w, (callFunc 105 args).run Try.prog w = .ok (.enter 105 args) w := enters_of Try.func105 (by kernel_rfl) rfl
  exact AnyQ.slices_SortFunc Try.sortP 4 Try.isAgg62 Try.sizeOf62 cB1 (fun _ => rfl) cB1_one cmpB swoB 105 #[] blk off cap d w eg (fun _ _ _ _ x y => cmpPress_any x.1 y.1 x.2 y.2 _) hH hblk hsz
/-- The sort of a row of sub-boards of the call's own. -/
theorem sortOwnB_any (base : Nat) (v : Value) (l : List Bo) (w : World) (hnn : v ≠ .slice none 0 0) (hown : w.ownsRow base 62 4 v l.length (cB l)) (hsz : l.length < 4611686018427387904) :
    Calls Try.prog 104 #[v, .func (.func 105) #[] #[]] w fun e w' =>
      e = .returned (.tuple #[]) ∧ ∃ l' : List Bo, l'.Perm l ∧ l'.Pairwise (fun d e => turnQ d.1 < turnQ e.1 ∨ (turnQ d.1 = turnQ e.1 ∧ d.1.a ≤ e.1.a)) ∧ w'.ownsRow base 62 4 v l'.length (cB l') ∧ w.grownBy w' v.ownBlock := by
  rcases hown.2 with ⟨hnil, _⟩ | ⟨g, cap, cur, rfl, hbase, hb, h1, h2, h3, h4⟩
  · exact absurd hnil hnn
  · have hH : HoldsK cB1 4 w g 0 l.toArray := by
      unfold HoldsK
      rw [flatK_cB]
      refine holds_own id hb ?_
      simp only [List.map_id]
      rw [show (cB l.toArray.toList).toArray.size = l.length * 4 from by simp [cB_len]]
      exact h4
    have hlt : g < w.heap.size := (Array.getElem?_eq_some_iff.1 hb).1
    have := sortB_any g 0 cap l.toArray w hH hlt (by simpa using hsz)
    rw [show l.toArray.size = l.length from by simp] at this
    refine this.mono ?_
    rintro e w' ⟨rfl, d', n, os, hp, hs, rfl⟩
    have hsize : d'.size = l.length := by have := hp.1; simpa using this
    refine ⟨rfl, d'.toList, ?_, ?_, ?_, ?_⟩
    · have := hp.2.2
      have e1 : d'.extract 0 l.length = d' := by rw [← hsize]; simp
      have e2 : l.toArray.extract 0 l.length = l.toArray := by simp
      rw [e1, e2] at this
      simpa using this
    · rw [List.pairwise_iff_getElem]
      intro i j hi hj hij
      have hi' : i < d'.size := by simpa using hi
      have hj' : j < d'.size := by simpa using hj
      have := hs i j (Nat.zero_le _) hij (by omega)
      rw [getElem!_pos d' i hi', getElem!_pos d' j hj'] at this
      have h7 := (ltQ (d'[j]).1 (d'[i]).1).symm.trans this
      simp only [Bool.or_eq_false_iff, Bool.and_eq_false_iff, decide_eq_false_iff_not] at h7
      simp only [Array.getElem_toList]
      omega
    · unfold sortWorldK putRowK
      rw [flatK_cB]
      have := own_put (w := w) (g := g) (cap := cap) (n := n) (k := d'.toList.length) (size := 4) (os := os) (xs := cB d'.toList) id (F := (cB d'.toList).toArray) (by simp) (by simp [cB_len]) hbase hb (by simpa [hsize] using h1) h2 h3
      simpa [hsize] using this
    · unfold sortWorldK putRowK
      exact grownBy_put id _
end Go.Proofs.Ytdlglnkhhbkndaa

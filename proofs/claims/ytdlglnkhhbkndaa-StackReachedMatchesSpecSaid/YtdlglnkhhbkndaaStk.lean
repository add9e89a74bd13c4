/- Stacks, as plain mathematics. -/
import Derived.Test.YtdlglnkhhbkndaaOrd
import Derived.Test.YtdlglnkhhbkndaaTWord
namespace Go.Proofs.Ytdlglnkhhbkndaa
open Go.RowKit
set_option linter.unusedSimpArgs false
set_option linter.unusedVariables false

/-- A material. -/
structure Mat where
  name : ByteArray
  kind : Int
  thick : Int
  grow : Int
abbrev Mat.cs (x : Mat) : List Value := [.string x.name, .int .i64 x.kind, .int .i64 x.thick, .int .i64 x.grow]
abbrev Mat.v (x : Mat) : Value := .agg #[.string x.name, .int .i64 x.kind, .int .i64 x.thick, .int .i64 x.grow]
/-- A layer. -/
structure Lay where
  name : ByteArray
  mat : ByteArray
abbrev Lay.cs (x : Lay) : List Value := [.string x.name, .string x.mat]
abbrev Lay.v (x : Lay) : Value := .agg #[.string x.name, .string x.mat]
def matF (x : Mat) : Int := if wordB x.name = false then 5 else if x.kind < 1 ∨ 3 < x.kind then 4 else if x.thick < 1 ∨ 2000 < x.thick ∨ x.grow < 0 ∨ 1000 < x.grow then 1 else 0
def matsGo : List ByteArray → List Mat → Int
  | _, [] => 0
  | q, p :: l => if matF p = 0 then (if q.any (fun b => leS p.name b) then 8 else matsGo [p.name] l) else matF p
def matsF (l : List Mat) : Int := if 50 < l.length then 2 else matsGo [] l
theorem matsGo_go {q : List ByteArray} {p : Mat} {l : List Mat} (h : matF p = 0) (hq : q.any (fun b => leS p.name b) = false) : matsGo q (p :: l) = matsGo [p.name] l := by
  rw [matsGo, if_pos h, hq]
  rfl
theorem matsGo_order {q : List ByteArray} {p : Mat} {l : List Mat} (h : matF p = 0) (hq : q.any (fun b => leS p.name b) = true) : matsGo q (p :: l) = 8 := by
  rw [matsGo, if_pos h, hq]
  rfl
theorem matsGo_bad {q : List ByteArray} {p : Mat} {l : List Mat} (h : matF p ≠ 0) : matsGo q (p :: l) = matF p := by
  rw [matsGo, if_neg h]
theorem matsGo_zero : ∀ (l : List Mat) (q : List ByteArray), matsGo q l = 0 → (∀ b ∈ q, ∀ x ∈ l, ltS b x.name = true) ∧ l.Pairwise (fun x y => ltS x.name y.name = true) ∧ ∀ x ∈ l, matF x = 0
  | [], q, _ => ⟨by simp, .nil, by simp⟩
  | p :: l, q, h => by
    by_cases hp : matF p = 0
    · cases hq : q.any (fun b => leS p.name b)
      · rw [matsGo_go hp hq] at h
        obtain ⟨i1, i2, i3⟩ := matsGo_zero l _ h
        rw [List.any_eq_false] at hq
        have hb : ∀ b ∈ q, ltS b p.name = true := fun b hb => leS_false (by simpa using hq b hb)
        refine ⟨fun b hb' x hx => ?_, List.pairwise_cons.2 ⟨fun y hy => i1 _ (.head _) y hy, i2⟩, fun x hx => ?_⟩
        · rcases List.mem_cons.1 hx with rfl | hx
          · exact hb b hb'
          · exact ltS_trans (hb b hb') (i1 _ (.head _) x hx)
        · rcases List.mem_cons.1 hx with rfl | hx
          · exact hp
          · exact i3 x hx
      · rw [matsGo_order hp hq] at h
        cases h
    · rw [matsGo_bad hp] at h
      exact absurd h hp
def matOf (m : List Mat) (n : ByteArray) : Option Mat := m.find? fun x => decide (x.name = n)
theorem matOf_name {m : List Mat} {n : ByteArray} {x : Mat} (h : matOf m n = some x) : x.name = n := by simpa using List.find?_some h
theorem matOf_mem {m : List Mat} {n : ByteArray} {x : Mat} (h : matOf m n = some x) : x ∈ m := List.mem_of_find?_eq_some h
theorem matOf_take {m : List Mat} (hm : m.Pairwise (fun x y => ltS x.name y.name = true)) {k : Nat} {p : Mat} (h : m[k]? = some p) (a : ByteArray) : matOf (m.take (k + 1)) a = if a = p.name then some p else matOf (m.take k) a := by
  unfold matOf
  have hk := (List.getElem?_eq_some_iff.1 h).1
  rw [List.take_add_one, h, List.find?_append]
  by_cases ha : a = p.name
  · rw [if_pos ha]
    have : (m.take k).find? (fun x => decide (x.name = a)) = none := by
      rw [List.find?_eq_none]
      intro x hx
      obtain ⟨j, hj, rfl⟩ := List.mem_take_iff_getElem.1 hx
      have h1 := List.pairwise_iff_getElem.1 hm j k (by omega) hk (by omega)
      have h2 := (List.getElem?_eq_some_iff.1 h).2
      rw [h2] at h1
      rw [ha]
      simpa using ltS_ne h1
    rw [this]
    simp [ha]
  · rw [if_neg ha]
    simp only [List.find?_cons, List.find?_nil, Option.toList_some]
    rw [decide_eq_false (fun e : p.name = a => ha e.symm)]
    simp

abbrev Row := ByteArray × Mat
def isCu (r : Row) : Bool := decide (r.2.kind = 1)
def meetB (a b : Int) : Bool := if a = 1 ∨ b = 1 then decide (a ≠ b) else decide (a = 3) && decide (b = 3)
def rowF (R : List Row) (r : Row) : Int :=
  if (isCu r && !wordB r.1) || (!isCu r && decide (r.1 ≠ ByteArray.empty)) then 5
  else if isCu r && R.any (fun q => isCu q && decide (q.1 = r.1)) then 7
  else if R.getLast?.all (fun q => meetB q.2.kind r.2.kind) then 0 else 8
def rowsGo (m : List Mat) : List Row → List Lay → Int × List Row
  | R, [] => (0, R)
  | R, l :: s => match matOf m l.mat with
    | none => (9, R)
    | some x => if rowF R (l.name, x) = 0 then rowsGo m (R ++ [(l.name, x)]) s else (rowF R (l.name, x), R)
def cusF : Nat → List Row → List Nat
  | _, [] => []
  | i, r :: l => if isCu r then i :: cusF (i + 1) l else cusF (i + 1) l
theorem cusF_append : ∀ (R : List Row) (i : Nat) (r : Row), cusF i (R ++ [r]) = cusF i R ++ if isCu r then [i + R.length] else []
  | [], i, r => by cases h : isCu r <;> simp [cusF, h]
  | q :: R, i, r => by
    have := cusF_append R (i + 1) r
    have e : i + 1 + R.length = i + (R.length + 1) := by omega
    cases h : isCu q <;> simp [cusF, h, this, e]
abbrev cus (R : List Row) : List Nat := cusF 0 R
def nms (R : List Row) : List ByteArray := (R.filter isCu).map (·.1)
theorem nms_append (R : List Row) (r : Row) : nms (R ++ [r]) = nms R ++ if isCu r then [r.1] else [] := by
  cases h : isCu r <;> simp [nms, List.filter_append, h]
theorem cus_nms : ∀ (R : List Row) (i : Nat), (cusF i R).length = (nms R).length
  | [], _ => rfl
  | q :: R, i => by
    have := cus_nms R (i + 1)
    cases h : isCu q <;> simp [cusF, nms, List.filter_cons, h] <;> simpa [nms] using this
theorem cusF_get : ∀ (R : List Row) (i k j : Nat), (cusF i R)[k]? = some j → i ≤ j ∧ ∃ r, R[j - i]? = some r ∧ isCu r = true ∧ (nms R)[k]? = some r.1
  | [], _, _, _, h => by simp [cusF] at h
  | q :: R, i, k, j, h => by
    cases hq : isCu q
    · simp only [cusF, hq, Bool.false_eq_true, if_false] at h
      obtain ⟨h1, r, h2, h3, h4⟩ := cusF_get R (i + 1) k j h
      refine ⟨by omega, r, ?_, h3, by simpa [nms, List.filter_cons, hq] using h4⟩
      rw [show j - i = j - (i + 1) + 1 by omega]
      simpa using h2
    · simp only [cusF, hq, if_true] at h
      cases k with
      | zero =>
        simp at h
        subst h
        exact ⟨Nat.le_refl _, q, by simp, hq, by simp [nms, List.filter_cons, hq]⟩
      | succ k =>
        simp at h
        obtain ⟨h1, r, h2, h3, h4⟩ := cusF_get R (i + 1) k j h
        refine ⟨by omega, r, ?_, h3, by simpa [nms, List.filter_cons, hq] using h4⟩
        rw [show j - i = j - (i + 1) + 1 by omega]
        simpa using h2
theorem cus_get {R : List Row} {k j : Nat} (h : (cus R)[k]? = some j) : ∃ r, R[j]? = some r ∧ isCu r = true ∧ (nms R)[k]? = some r.1 := by
  obtain ⟨_, r, h2⟩ := cusF_get R 0 k j h
  exact ⟨r, h2⟩
def thick : List Row → Int
  | [] => 0
  | r :: l => r.2.thick + thick l
theorem thick_append : ∀ (R S : List Row), thick (R ++ S) = thick R + thick S
  | [], S => by simp [thick]
  | r :: R, S => by
    have := thick_append R S
    simp only [List.cons_append, thick]
    omega
def topsF : Int → List Row → List Int
  | t, [] => [t]
  | t, r :: l => t :: topsF (t + r.2.thick) l
theorem topsF_append : ∀ (R : List Row) (t : Int) (r : Row), topsF t (R ++ [r]) = topsF t R ++ [t + thick (R ++ [r])]
  | [], t, r => by simp [topsF, thick]
  | q :: R, t, r => by
    have := topsF_append R (t + q.2.thick) r
    simp only [List.cons_append, topsF, thick]
    rw [this, Int.add_assoc]
theorem topsF_length : ∀ (R : List Row) (t : Int), (topsF t R).length = R.length + 1
  | [], _ => rfl
  | q :: R, t => by simp [topsF, topsF_length R]
theorem topsF_get : ∀ (R : List Row) (t : Int) (i : Nat), i ≤ R.length → (topsF t R)[i]? = some (t + thick (R.take i))
  | [], t, i, h => by
    have : i = 0 := by simpa using h
    subst this
    simp [topsF, thick]
  | q :: R, t, 0, h => by simp [topsF, thick]
  | q :: R, t, i + 1, h => by
    have := topsF_get R (t + q.2.thick) i (by simpa using h)
    simp only [topsF, List.getElem?_cons_succ, this, List.take_succ_cons, thick]
    congr 1
    omega
abbrev tops (R : List Row) : List Int := topsF 0 R
theorem tops_get {R : List Row} {i : Nat} (h : i ≤ R.length) : (tops R)[i]? = some (thick (R.take i)) := by
  rw [topsF_get R 0 i h]
  simp
/-- All rows have materials that are right. -/
def RowsOk (R : List Row) : Prop := ∀ r ∈ R, matF r.2 = 0
theorem matF_zero {x : Mat} (h : matF x = 0) : wordB x.name = true ∧ 1 ≤ x.kind ∧ x.kind ≤ 3 ∧ 1 ≤ x.thick ∧ x.thick ≤ 2000 ∧ 0 ≤ x.grow ∧ x.grow ≤ 1000 := by
  unfold matF at h
  split at h
  · cases h
  · split at h
    · cases h
    · split at h
      · cases h
      · rename_i h1 h2 h3
        exact ⟨by simpa using h1, by omega, by omega, by omega, by omega, by omega, by omega⟩
theorem thick_bound : ∀ R : List Row, RowsOk R → (R.length : Int) ≤ thick R ∧ thick R ≤ 2000 * R.length
  | [], _ => by simp [thick]
  | r :: R, h => by
    have i := thick_bound R fun q hq => h q (.tail _ hq)
    have := matF_zero (h r (.head _))
    simp only [thick, List.length_cons]
    omega
def formB (R : List Row) : Bool := decide (2 ≤ (cus R).length) && R.head?.any isCu && R.getLast?.any isCu
def stackF (m : List Mat) (s : List Lay) : Int :=
  if matsF m = 0 then (if 60 < s.length then 2 else if (rowsGo m [] s).1 = 0 then (if formB (rowsGo m [] s).2 then 0 else 3) else (rowsGo m [] s).1) else matsF m
abbrev rowsOf (m : List Mat) (s : List Lay) : List Row := (rowsGo m [] s).2
theorem rowsGo_none {m : List Mat} {R : List Row} {l : Lay} {s : List Lay} (h : matOf m l.mat = none) : rowsGo m R (l :: s) = (9, R) := by rw [rowsGo, h]
theorem rowsGo_bad {m : List Mat} {R : List Row} {l : Lay} {s : List Lay} {x : Mat} (h : matOf m l.mat = some x) (hf : rowF R (l.name, x) ≠ 0) : rowsGo m R (l :: s) = (rowF R (l.name, x), R) := by
  rw [rowsGo, h]
  simp [hf]
theorem rowsGo_go {m : List Mat} {R : List Row} {l : Lay} {s : List Lay} {x : Mat} (h : matOf m l.mat = some x) (hf : rowF R (l.name, x) = 0) : rowsGo m R (l :: s) = rowsGo m (R ++ [(l.name, x)]) s := by
  rw [rowsGo, h]
  simp [hf]
end Go.Proofs.Ytdlglnkhhbkndaa

/- How layers of glue become thicker, as plain lists: what one layer more makes of the fewest sheets, and what follows for all of them. -/
import Derived.Test.YtdlglnkhhbkndaaBas
namespace Go.Proofs.Ytdlglnkhhbkndaa
set_option linter.unusedSimpArgs false
set_option linter.unusedVariables false

def neverN : Int := 1073741824
/-- What a layer of thickness `g`, of which at most `m` sheets are taken, makes of the fewest sheets `F`: `F'`, and what it has itself `C`. -/
structure TopOk (F : List Int) (g m : Nat) (F' : List Int) (C : List Nat) : Prop where
  len : F'.length = F.length + (m - 1) * g
  clen : C.length = F'.length
  lo : ∀ (x : Nat) (v : Int), F'[x]? = some v → 0 ≤ v ∧ v ≤ neverN
  pick : ∀ (x : Nat) (v : Int), F'[x]? = some v → v < neverN → ∃ (n y : Nat) (k : Int), C[x]? = some n ∧ n < m ∧ x = y + n * g ∧ F[y]? = some k ∧ k + (n : Int) = v
  best : ∀ (y n : Nat) (k : Int), F[y]? = some k → n < m → k + (n : Int) < neverN → ∃ v, F'[y + n * g]? = some v ∧ v ≤ k + (n : Int)
  least : ∀ (x n : Nat) (v : Int), C[x]? = some n → F'[x]? = some v → v < neverN → ∀ (n' y : Nat) (k : Int), n' < n → x = y + n' * g → F[y]? = some k → v < k + (n' : Int)
inductive Chain (m : Nat) : List Nat → List Int → List (List Nat) → Prop
  | nil : Chain m [] [0] []
  | cons {gs : List Nat} {F : List Int} {Cs : List (List Nat)} {g : Nat} {F' : List Int} {C : List Nat} : Chain m gs F Cs → TopOk F g m F' C → Chain m (g :: gs) F' (C :: Cs)
def sumG : List Nat → List Nat → Nat
  | g :: gs, n :: ns => n * g + sumG gs ns
  | _, _ => 0
theorem chain_lo {m : Nat} {gs : List Nat} {F : List Int} {Cs : List (List Nat)} (h : Chain m gs F Cs) : ∀ (x : Nat) (v : Int), F[x]? = some v → 0 ≤ v ∧ v ≤ neverN := by
  cases h with
  | nil =>
    intro x v hx
    match x, hx with
    | 0, hx =>
      simp at hx
      subst hx
      exact ⟨Int.le_refl _, by decide⟩
    | x + 1, hx => simp at hx
  | cons _ ht => exact ht.lo
theorem chain_len {m : Nat} {gs : List Nat} {F : List Int} {Cs : List (List Nat)} (h : Chain m gs F Cs) : Cs.length = gs.length := by
  induction h with
  | nil => rfl
  | cons _ _ ih => simp [ih]
theorem chain_pos {m : Nat} {gs : List Nat} {F : List Int} {Cs : List (List Nat)} (h : Chain m gs F Cs) : 0 < F.length := by
  induction h with
  | nil => exact Nat.one_pos
  | cons _ ht ih => rw [ht.len]; omega
/-- How many sheets more than one each layer has. -/
def numsF : List Nat → List (List Nat) → Nat → List Nat
  | g :: gs, C :: Cs, x => (C[x]?).getD 0 :: numsF gs Cs (x - (C[x]?).getD 0 * g)
  | _, _, _ => []
theorem nums_ok {m : Nat} {gs : List Nat} {F : List Int} {Cs : List (List Nat)} (h : Chain m gs F Cs) : ∀ {x : Nat} {v : Int}, F[x]? = some v → v < neverN → (numsF gs Cs x).length = gs.length ∧ (∀ n ∈ numsF gs Cs x, n < m) ∧ sumG gs (numsF gs Cs x) = x := by
  induction h with
  | nil =>
    intro x v hx _
    match x, hx with
    | 0, _ => exact ⟨rfl, (fun n hn => by simp [numsF] at hn), rfl⟩
    | x + 1, hx => simp at hx
  | @cons gs F Cs g F' C hc ht ih =>
    intro x v hx hv
    obtain ⟨n, y, k, h1, h2, h3, h4, h5⟩ := ht.pick x v hx hv
    have hk := chain_lo hc y k h4
    obtain ⟨i1, i2, i3⟩ := ih h4 (by omega)
    have e : numsF (g :: gs) (C :: Cs) x = n :: numsF gs Cs y := by
      rw [numsF, h1]
      simp only [Option.getD_some]
      rw [h3, Nat.add_sub_cancel]
    rw [e]
    refine ⟨by simp [i1], fun z hz => ?_, ?_⟩
    · rcases List.mem_cons.1 hz with rfl | hz
      · exact h2
      · exact i2 z hz
    · rw [sumG, i3, h3]
      omega
/-- Whatever number of sheets the layers have, as few as these suffice to become so thick. -/
theorem reach_ok {m : Nat} {gs : List Nat} {F : List Int} {Cs : List (List Nat)} (h : Chain m gs F Cs) : ∀ {ns : List Nat}, ns.length = gs.length → (∀ n ∈ ns, n < m) → (ns.length : Int) * m < neverN → ∃ v, F[sumG gs ns]? = some v ∧ v ≤ (ns.length : Int) * m := by
  induction h with
  | nil =>
    intro ns hl _ _
    cases ns with
    | nil => exact ⟨0, rfl, by simp⟩
    | cons n ns => simp at hl
  | @cons gs F Cs g F' C hc ht ih =>
    intro ns hl hm hb
    cases ns with
    | nil => simp at hl
    | cons n ns =>
      have hn := hm n (List.mem_cons_self ..)
      have e9 : (((n :: ns).length : Nat) : Int) * m = (ns.length : Int) * m + m := by
        rw [List.length_cons, Int.natCast_add, Int.add_mul]
        omega
      rw [e9] at hb ⊢
      obtain ⟨k, h1, h2⟩ := ih (ns := ns) (by simpa using hl) (fun z hz => hm z (List.mem_cons_of_mem _ hz)) (by omega)
      obtain ⟨v, h3, h4⟩ := ht.best _ n k h1 hn (by omega)
      refine ⟨v, ?_, by omega⟩
      rw [sumG, Nat.add_comm]
      exact h3
/-- What can be is few. -/
theorem chain_few {m : Nat} {gs : List Nat} {F : List Int} {Cs : List (List Nat)} (h : Chain m gs F Cs) : ∀ (x : Nat) (v : Int), F[x]? = some v → v < neverN → v ≤ (gs.length : Int) * m := by
  induction h with
  | nil =>
    intro x v hx _
    match x, hx with
    | 0, hx => simp at hx; subst hx; simp
    | x + 1, hx => simp at hx
  | @cons gs F Cs g F' C hc ht ih =>
    intro x v hx hv
    obtain ⟨n, y, k, h1, h2, h3, h4, h5⟩ := ht.pick x v hx hv
    have hk := ih y k h4 (by omega)
    rw [List.length_cons, Int.natCast_add, Int.add_mul]
    omega
end Go.Proofs.Ytdlglnkhhbkndaa

/- Stacks as package stack lays them up (pile), in memory. -/
import Derived.Test.YtdlglnkhhbkndaaMts
import Derived.Test.YtdlglnkhhbkndaaOwn
namespace Go.Proofs.Ytdlglnkhhbkndaa
open Go.RowKit
set_option linter.unusedSimpArgs false
set_option linter.unusedVariables false
set_option maxRecDepth 100000

/-- A pile in block p, part by part: its names in the map of block q. -/
structure PileG (base p q kn : Nat) (mv tv cv nv : Value) (f : Lit → Option Value) (ms : List Mat) (ts : List Int) (cs : List Nat) (ns : List ByteArray) (w : World) : Prop where
  b : w.heap[p]? = some (.cells #[mv, tv, cv, nv, .map (some q)] 88 (0, 0))
  p : base ≤ p
  m : w.ownsRow base 37 4 mv ms.length (ms.flatMap Mat.cs)
  t : w.ownsRow base 3 1 tv ts.length (ts.map (Value.int .i64))
  c : w.ownsRow base 3 1 cv cs.length (cs.map fun k => Value.int .i64 (k : Nat))
  n : w.ownsRow base 9 1 nv ns.length (ns.map Value.string)
  k : MapV Try.prog 9 w q kn f
  q : base ≤ q
  tc : ∀ g, tv.ownBlock = some g → cv.ownBlock ≠ some g
section
variable {base p q kn : Nat} {mv tv cv nv : Value} {f : Lit → Option Value} {ms : List Mat} {ts : List Int} {cs : List Nat} {ns : List ByteArray} {w w' : World}
theorem PileG.old (h : PileG base p q kn mv tv cv nv f ms ts cs ns w) (hb : Below w.heap.size w w') : PileG base p q kn mv tv cv nv f ms ts cs ns w' :=
  ⟨(hb.block p (blk_lt h.b)).trans h.b, h.p, own_below h.m hb, own_below h.t hb, own_below h.c hb, own_below h.n hb, h.k.below hb, h.q, h.tc⟩
theorem PileG.pq (h : PileG base p q kn mv tv cv nv f ms ts cs ns w) : p ≠ q := by
  intro e
  subst e
  obtain ⟨D, ⟨es, clock, hb, _⟩, _⟩ := h.k
  rw [h.b] at hb
  cases hb
theorem PileG.mp (h : PileG base p q kn mv tv cv nv f ms ts cs ns w) : mv.ownBlock ≠ some p := own_block h.m h.b (by decide)
theorem PileG.tp (h : PileG base p q kn mv tv cv nv f ms ts cs ns w) : tv.ownBlock ≠ some p := own_block h.t h.b (by decide)
theorem PileG.cp (h : PileG base p q kn mv tv cv nv f ms ts cs ns w) : cv.ownBlock ≠ some p := own_block h.c h.b (by decide)
theorem PileG.np (h : PileG base p q kn mv tv cv nv f ms ts cs ns w) : nv.ownBlock ≠ some p := own_block h.n h.b (by decide)
theorem gb_p {W : World} (p i : Nat) (v : Value) : W.grownBy (W.setCell ⟨p, i, none⟩ v) (some p) := gb_set (gb_refl W _) (.inl rfl) v
/-- A part is put back behind an append. -/
theorem PileG.setC (h : PileG base p q kn mv tv cv nv f ms ts cs ns w) {cv' : Value} {cs' : List Nat} (hg : w.grownBy w' cv.ownBlock) (ho : w'.ownsRow base 3 1 cv' cs'.length (cs'.map fun k => Value.int .i64 (k : Nat)))
    (hn : ∀ g, cv'.ownBlock = some g → cv.ownBlock = some g ∨ w.heap.size ≤ g) : PileG base p q kn mv tv cv' nv f ms ts cs' ns (w'.setCell ⟨p, 2, none⟩ cv') := by
  have hb := (hg.block p (blk_lt h.b) (fun e => h.cp e.symm)).trans h.b
  have G := gb_p (W := w') p 2 cv'
  refine ⟨by simpa using blk_set hb 2 cv', h.p, ?_, ?_, ?_, ?_, ?_, h.q, ?_⟩
  · exact own_grown (own_grown h.m hg (fun g e e' => own_types h.m h.c (by decide) g e e')) G (fun g e e' => h.mp (e.trans e'.symm))
  · exact own_grown (own_grown h.t hg (fun g e e' => h.tc g e e')) G (fun g e e' => h.tp (e.trans e'.symm))
  · refine own_grown ho G (fun g e e' => ?_)
    cases e'
    exact own_block ho hb (by decide) e
  · exact own_grown (own_grown h.n hg (fun g e e' => own_types h.n h.c (by decide) g e e')) G (fun g e e' => h.np (e.trans e'.symm))
  · exact (h.k.kept hg (fun e => own_map h.c h.k e.symm)).kept G (fun e => h.pq (Option.some.inj e.symm))
  · intro g e e'
    rcases hn g e' with h1 | h1
    · exact h.tc g e h1
    · have := (h.t.lt g e).2
      omega
theorem PileG.setT (h : PileG base p q kn mv tv cv nv f ms ts cs ns w) {tv' : Value} {ts' : List Int} (hg : w.grownBy w' tv.ownBlock) (ho : w'.ownsRow base 3 1 tv' ts'.length (ts'.map (Value.int .i64)))
    (hn : ∀ g, tv'.ownBlock = some g → tv.ownBlock = some g ∨ w.heap.size ≤ g) : PileG base p q kn mv tv' cv nv f ms ts' cs ns (w'.setCell ⟨p, 1, none⟩ tv') := by
  have hb := (hg.block p (blk_lt h.b) (fun e => h.tp e.symm)).trans h.b
  have G := gb_p (W := w') p 1 tv'
  refine ⟨by simpa using blk_set hb 1 tv', h.p, ?_, ?_, ?_, ?_, ?_, h.q, ?_⟩
  · exact own_grown (own_grown h.m hg (fun g e e' => own_types h.m h.t (by decide) g e e')) G (fun g e e' => h.mp (e.trans e'.symm))
  · refine own_grown ho G (fun g e e' => ?_)
    cases e'
    exact own_block ho hb (by decide) e
  · exact own_grown (own_grown h.c hg (fun g e e' => h.tc g e' e)) G (fun g e e' => h.cp (e.trans e'.symm))
  · exact own_grown (own_grown h.n hg (fun g e e' => own_types h.n h.t (by decide) g e e')) G (fun g e e' => h.np (e.trans e'.symm))
  · exact (h.k.kept hg (fun e => own_map h.t h.k e.symm)).kept G (fun e => h.pq (Option.some.inj e.symm))
  · intro g e e'
    rcases hn g e with h1 | h1
    · exact h.tc g h1 e'
    · have := (h.c.lt g e').2
      omega
theorem PileG.setM (h : PileG base p q kn mv tv cv nv f ms ts cs ns w) {mv' : Value} {ms' : List Mat} (hg : w.grownBy w' mv.ownBlock) (ho : w'.ownsRow base 37 4 mv' ms'.length (ms'.flatMap Mat.cs)) :
    PileG base p q kn mv' tv cv nv f ms' ts cs ns (w'.setCell ⟨p, 0, none⟩ mv') := by
  have hb := (hg.block p (blk_lt h.b) (fun e => h.mp e.symm)).trans h.b
  have G := gb_p (W := w') p 0 mv'
  refine ⟨by simpa using blk_set hb 0 mv', h.p, ?_, ?_, ?_, ?_, ?_, h.q, h.tc⟩
  · refine own_grown ho G (fun g e e' => ?_)
    cases e'
    exact own_block ho hb (by decide) e
  · exact own_grown (own_grown h.t hg (fun g e e' => own_types h.t h.m (by decide) g e e')) G (fun g e e' => h.tp (e.trans e'.symm))
  · exact own_grown (own_grown h.c hg (fun g e e' => own_types h.c h.m (by decide) g e e')) G (fun g e e' => h.cp (e.trans e'.symm))
  · exact own_grown (own_grown h.n hg (fun g e e' => own_types h.n h.m (by decide) g e e')) G (fun g e e' => h.np (e.trans e'.symm))
  · exact (h.k.kept hg (fun e => own_map h.m h.k e.symm)).kept G (fun e => h.pq (Option.some.inj e.symm))
theorem PileG.setN (h : PileG base p q kn mv tv cv nv f ms ts cs ns w) {nv' : Value} {ns' : List ByteArray} (hg : w.grownBy w' nv.ownBlock) (ho : w'.ownsRow base 9 1 nv' ns'.length (ns'.map Value.string)) :
    PileG base p q kn mv tv cv nv' f ms ts cs ns' (w'.setCell ⟨p, 3, none⟩ nv') := by
  have hb := (hg.block p (blk_lt h.b) (fun e => h.np e.symm)).trans h.b
  have G := gb_p (W := w') p 3 nv'
  refine ⟨by simpa using blk_set hb 3 nv', h.p, ?_, ?_, ?_, ?_, ?_, h.q, h.tc⟩
  · exact own_grown (own_grown h.m hg (fun g e e' => own_types h.m h.n (by decide) g e e')) G (fun g e e' => h.mp (e.trans e'.symm))
  · exact own_grown (own_grown h.t hg (fun g e e' => own_types h.t h.n (by decide) g e e')) G (fun g e e' => h.tp (e.trans e'.symm))
  · exact own_grown (own_grown h.c hg (fun g e e' => own_types h.c h.n (by decide) g e e')) G (fun g e e' => h.cp (e.trans e'.symm))
  · refine own_grown ho G (fun g e e' => ?_)
    cases e'
    exact own_block ho hb (by decide) e
  · exact (h.k.kept hg (fun e => own_map h.n h.k e.symm)).kept G (fun e => h.pq (Option.some.inj e.symm))
theorem PileG.setK (h : PileG base p q kn mv tv cv nv f ms ts cs ns w) {kn' : Nat} {f' : Lit → Option Value} (hg : w.grownBy w' (some q)) (hk : MapV Try.prog 9 w' q kn' f') : PileG base p q kn' mv tv cv nv f' ms ts cs ns w' := by
  have hb := (hg.block p (blk_lt h.b) (fun e => h.pq (Option.some.inj e))).trans h.b
  refine ⟨hb, h.p, ?_, ?_, ?_, ?_, hk, h.q, h.tc⟩
  · exact own_grown h.m hg (fun g e e' => own_map h.m h.k (e.trans e'.symm))
  · exact own_grown h.t hg (fun g e e' => own_map h.t h.k (e.trans e'.symm))
  · exact own_grown h.c hg (fun g e e' => own_map h.c h.k (e.trans e'.symm))
  · exact own_grown h.n hg (fun g e e' => own_map h.n h.k (e.trans e'.symm))
end
/-- The map of names is right: the place of each copper's name. -/
def NumOk (f : Lit → Option Value) (ns : List ByteArray) : Prop := ∀ a : ByteArray, f (.string a.data.toList) = (ns.findIdx? fun b => decide (b = a)).map fun i => Value.int .i64 (i : Nat)
theorem NumOk.nil : NumOk (fun _ => none) [] := fun a => rfl
theorem str_lit {a b : ByteArray} (h : a ≠ b) : Lit.string a.data.toList ≠ Lit.string b.data.toList := fun e => h (data_inj (by injection e))
theorem NumOk.put {f : Lit → Option Value} {ns : List ByteArray} (h : NumOk f ns) {a : ByteArray} (ha : a ∉ ns) : NumOk (putF f (.string a.data.toList) (.int .i64 (ns.length : Nat))) (ns ++ [a]) := by
  intro b
  rw [List.findIdx?_append]
  by_cases e : b = a
  · subst e
    rw [putF_same]
    have : ns.findIdx? (fun c => decide (c = b)) = none := by
      rw [List.findIdx?_eq_none_iff]
      intro x hx
      have : ¬ x = b := fun e => ha (by rw [← e]; exact hx)
      simpa using this
    rw [this]
    simp
  · rw [putF_other (str_lit e), h b]
    cases hq : ns.findIdx? (fun c => decide (c = b)) with
    | some i => simp
    | none =>
      have : ¬ a = b := fun e' => e e'.symm
      simp [List.findIdx?_cons, this]
/-- A pile of these rows. -/
def PileW (base p q kn : Nat) (mv tv cv nv : Value) (f : Lit → Option Value) (R : List Row) (w : World) : Prop :=
  PileG base p q kn mv tv cv nv f (R.map (·.2)) (tops R) (cus R) (nms R) w ∧ NumOk f (nms R) ∧ kn ≤ R.length
end Go.Proofs.Ytdlglnkhhbkndaa

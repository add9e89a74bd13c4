/- Several texts in one: RegInv, RefJ. -/
import Derived.Orders
import Derived.Below
import Derived.Test.YtjcbngpgmgeanaaGreatRefI
/- A region that draws its order, proved operation by operation: what the frame is in the end is said ahead, and a relation of the world that knows what has come up. -/
namespace Go.Proofs.YtjcbngpgmgeanaaGreat
open Go
set_option linter.unusedSimpArgs false
set_option linter.unusedVariables false

def upTo (o : Oper) (aF : Act) (R : World → Prop) : Result Next → Prop
  | .ok (.value v) w' => aF.put o.dst v = aF ∧ R w'
  | .ok .skip w' => aF.put o.dst undef = aF ∧ R w'
  | _ => False
/-- What has come up, with one more. -/
def upd (L : Nat → Bool) (i : Nat) : Nat → Bool := fun k => if k = i then true else L k
/-- Whatever has come up has come up behind what it waits for. -/
def ClosedL (ops : Array Oper) (L : Nat → Bool) : Prop := ∀ (k : Nat) (o : Oper), ops[k]? = some o → L k = true → ∀ e ∈ o.after, Region.binds .any e = true → L e.on = true
/-- Operations wait for earlier ones alone, and for whatever they look at. -/
def regOk (ops : Array Oper) : Bool := (List.range ops.size).all fun i => match ops[i]? with
  | none => true
  | some o => (o.after.all fun e => !Region.binds .any e || decide (e.on < i)) && (match o.op with | .select .. => false | _ => true) &&
    ((o.looksAt ops).all fun d => (List.range ops.size).all fun k => match ops[k]? with
      | none => true
      | some ok => ok.dst != some d || o.after.any fun e => Region.binds .any e && e.on == k)

theorem regOk_spec {ops : Array Oper} (h : regOk ops = true) {i : Nat} {o : Oper} (hi : ops[i]? = some o) :
    (∀ e ∈ o.after, Region.binds .any e = true → e.on < i) ∧ (∀ cs b, o.op ≠ .select cs b) ∧ ∀ d, d ∈ o.looksAt ops → ∀ k ok, ops[k]? = some ok → ok.dst = some d → ∃ e ∈ o.after, Region.binds .any e = true ∧ e.on = k := by
  unfold regOk at h
  rw [List.all_eq_true] at h
  have h1 := h i (by simpa using (Array.getElem?_eq_some_iff.1 hi).1)
  rw [hi] at h1
  simp only [Bool.and_eq_true] at h1
  obtain ⟨⟨h2, h3⟩, h4⟩ := h1
  refine ⟨fun e he hb => ?_, fun cs b hs => ?_, fun d hd k ok hk hdst => ?_⟩
  · have := Array.all_eq_true_iff_forall_mem.1 h2 e he
    simpa [hb] using this
  · rw [hs] at h3
    cases h3
  · rw [List.all_eq_true] at h4
    have h5 := h4 d hd
    rw [List.all_eq_true] at h5
    have h6 := h5 k (by simpa using (Array.getElem?_eq_some_iff.1 hk).1)
    rw [hk] at h6
    simp only [hdst, bne_self_eq_false, Bool.false_or] at h6
    obtain ⟨e, he, hb⟩ := Array.any_eq_true'.1 h6
    simp only [Bool.and_eq_true, beq_iff_eq] at hb
    exact ⟨e, he, hb.1, hb.2⟩

section
variable {P : Program} {ops : Array Oper} {Q : Exit → Act → World → Prop} {a0 aF : Act} {WI : (Nat → Bool) → World → Prop}

def Lof (listed : Array Bool) : Nat → Bool := fun k => listed.getD k false
/-- The frame is that of the end, but for what has not come up. -/
structure InvR (ops : Array Oper) (aF : Act) (WI : (Nat → Bool) → World → Prop) (listed : Array Bool) (a : Act) (w : World) : Prop where
  size : listed.size = ops.size
  defers : a.defers = aF.defers
  tsize : a.tmps.size = aF.tmps.size
  tmps : ∀ d : Nat, a.tmps[d]? = aF.tmps[d]? ∨ ∃ (k : Nat) (o : Oper), ops[k]? = some o ∧ o.dst = some d ∧ Lof listed k = false
  closed : ClosedL ops (Lof listed)
  world : WI (Lof listed) w

theorem Lof_set {listed : Array Bool} {i : Nat} (h : i < listed.size) : Lof (listed.setIfInBounds i true) = upd (Lof listed) i := by
  funext k
  unfold Lof upd
  by_cases hk : k = i
  · subst hk; simp [h]
  · rw [if_neg hk, getD_set_ne false (Ne.symm hk)]

theorem same_looks (hok : regOk ops = true) {listed : Array Bool} {a : Act} {w : World} (hI : InvR ops aF WI listed a w) {i : Nat} {o : Oper} (hi : ops[i]? = some o)
    (hdeps : ∀ e ∈ o.after, Region.binds .any e = true → Lof listed e.on = true) : ∀ d ∈ o.looksAt ops, a.tmps[d]? = aF.tmps[d]? := by
  intro d hd
  rcases hI.tmps d with h | ⟨k, ok, hk, hdst, hun⟩
  · exact h
  · obtain ⟨e, he, hb, rfl⟩ := (regOk_spec hok hi).2.2 d hd k ok hk hdst
    rw [hdeps e he hb] at hun
    cases hun

theorem put_tmps {dst : Option Tmp} {v : Value} (h : aF.put dst v = aF) {d : Tmp} (hd : dst = some d) : ∀ {a : Act}, a.tmps.size = aF.tmps.size → (a.put dst v).tmps[d]? = aF.tmps[d]? := by
  intro a hs
  subst hd
  have h1 : (aF.put (some d) v).tmps[d]? = aF.tmps[d]? := by rw [h]
  rw [← h1]
  simp only [Act.put]
  by_cases hlt : d < aF.tmps.size
  · simp [hlt, hs]
  · simp [Array.getElem?_eq_none (Nat.le_of_not_lt hlt), hs, hlt]

theorem inv_put {listed : Array Bool} {a : Act} {w w' : World} (hI : InvR ops aF WI listed a w) {i : Nat} {o : Oper} (hi : ops[i]? = some o)
    (hdeps : ∀ e ∈ o.after, Region.binds .any e = true → Lof listed e.on = true) {v : Value} (hp : aF.put o.dst v = aF) (hw : WI (upd (Lof listed) i) w') :
    InvR ops aF WI (listed.setIfInBounds i true) (a.put o.dst v) w' := by
  have hlt : i < listed.size := by rw [hI.size]; exact (Array.getElem?_eq_some_iff.1 hi).1
  have hts : (a.put o.dst v).tmps.size = a.tmps.size := by
    unfold Act.put
    cases o.dst <;> simp
  refine ⟨by simpa using hI.size, ?_, hts.trans hI.tsize, fun d => ?_, ?_, ?_⟩
  · rw [← hI.defers]
    unfold Act.put
    cases o.dst <;> rfl
  · by_cases hd : o.dst = some d
    · exact .inl (put_tmps hp hd hI.tsize)
    · have hne : (a.put o.dst v).tmps[d]? = a.tmps[d]? := by
        unfold Act.put
        cases hod : o.dst with
        | none => rfl
        | some e =>
          have : e ≠ d := fun he => hd (by rw [hod, he])
          simp [Array.getElem?_setIfInBounds_ne this]
      rw [hne]
      rcases hI.tmps d with h | ⟨k, ok, hk, hdst, hun⟩
      · exact .inl h
      · refine .inr ⟨k, ok, hk, hdst, ?_⟩
        rw [Lof_set hlt]
        unfold upd
        rw [if_neg]
        · exact hun
        · intro hki
          subst hki
          rw [hi] at hk
          injection hk with hk
          subst hk
          exact hd hdst
  · rw [Lof_set hlt]
    intro k ok hk hL e he hb
    unfold upd at hL ⊢
    by_cases h1 : e.on = i
    · rw [if_pos h1]
    · rw [if_neg h1]
      by_cases h2 : k = i
      · subst h2
        rw [hi] at hk
        injection hk with hk
        subst hk
        exact hdeps e he hb
      · rw [if_neg h2] at hL
        exact hI.closed k ok hk hL e he hb
  · rw [Lof_set hlt]; exact hw

theorem count_set : ∀ {l : List Bool} {i : Nat} (h : i < l.length), l[i] = false → (l.set i true).countP (fun b => !b) + 1 = l.countP (fun b => !b)
  | [], _, h, _ => by simp at h
  | b :: l, 0, _, hf => by simp at hf; subst hf; simp
  | b :: l, i + 1, h, hf => by
    simp only [List.length_cons, Nat.add_lt_add_iff_right] at h
    simp only [List.getElem_cons_succ] at hf
    have := count_set h hf
    simp only [List.set_cons_succ, List.countP_cons]
    omega
theorem wpAny_inv (hok : regOk ops = true)
    (step : ∀ (i : Nat) (o : Oper), ops[i]? = some o → ∀ (L : Nat → Bool) (w : World), ClosedL ops L → L i = false → (∀ e ∈ o.after, Region.binds .any e = true → L e.on = true) → WI L w →
      Region.wanted o (yielded ops aF.tmps) = true ∧ upTo o aF (WI (upd L i)) ((execOp aF.eval o).run P w))
    (fin : ∀ (L : Nat → Bool) (w : World), (∀ k, k < ops.size → L k = true) → WI L w → Q .normal aF w) :
    ∀ (fuel : Nat) (listed : Array Bool) (a : Act) (w : World), (listed.toList.countP (fun b => !b)) ≤ fuel → InvR ops aF WI listed a w → wpAny P .any ops Q fuel listed a w := by
  have done : ∀ (listed : Array Bool) (a : Act) (w : World), InvR ops aF WI listed a w → Region.ready .any ops listed = [] → Q .normal a w := by
    intro listed a w hI hr
    have hall : ∀ n k, k < n → k < ops.size → Lof listed k = true := by
      intro n
      induction n with
      | zero => intro k h; omega
      | succ n ih =>
        intro k hk hlt
        cases hL : Lof listed k with
        | true => rfl
        | false =>
          exfalso
          have ho : ops[k]? = some ops[k] := Array.getElem?_eq_getElem hlt
          have hmem : k ∈ Region.ready .any ops listed := by
            rw [mem_ready]
            refine ⟨?_, _, ho, fun e he hb => ?_⟩
            · have hlt' : k < listed.size := by rw [hI.size]; exact hlt
              simpa [Lof, hlt'] using hL
            · have h1 := (regOk_spec hok ho).1 e he hb
              exact ih e.on (by omega) (by omega)
          rw [hr] at hmem
          cases hmem
    have ha : a = aF := by
      have ht : a.tmps = aF.tmps := by
        apply Array.ext_getElem?
        intro d
        rcases hI.tmps d with h | ⟨k, o, hk, _, hun⟩
        · exact h
        · have := hall ops.size k (Array.getElem?_eq_some_iff.1 hk).1 (Array.getElem?_eq_some_iff.1 hk).1
          rw [this] at hun
          cases hun
      obtain ⟨t, d⟩ := a
      obtain ⟨tF, dF⟩ := aF
      have := hI.defers
      simp only at ht this
      rw [ht, this]
    rw [ha]
    exact fin _ w (fun k hk => hall ops.size k hk hk) hI.world
  have one : ∀ (listed : Array Bool) (a : Act) (w : World), InvR ops aF WI listed a w → ∀ i ∈ Region.ready .any ops listed, wpOp P ops Q i (InvR ops aF WI (listed.setIfInBounds i true)) a w := by
    intro listed a w hI i hi
    obtain ⟨hun, o, ho, hdeps⟩ := mem_ready.1 hi
    have hlt : i < listed.size := by rw [hI.size]; exact (Array.getElem?_eq_some_iff.1 ho).1
    have hun' : Lof listed i = false := by simpa [Lof, hlt] using hun
    have hdeps' : ∀ e ∈ o.after, Region.binds .any e = true → Lof listed e.on = true := hdeps
    obtain ⟨hw, hu⟩ := step i o ho (Lof listed) w hI.closed hun' hdeps' hI.world
    have hsame := same_looks hok hI ho hdeps'
    have hev : execOp a.eval o = execOp aF.eval o := by
      refine execOp_congr o (regOk_spec hok ho).2.1 fun x hx => ?_
      cases x with
      | tmp t =>
        have hm : t ∈ o.looksAt ops := List.mem_append_left _ (List.mem_filterMap.2 ⟨.tmp t, by simpa using hx, rfl⟩)
        have := hsame t hm
        simp only [Act.eval, Array.getD_eq_getD_getElem?, this]
      | _ => rfl
    have hwt : Region.wanted o (yielded ops a.tmps) = true := by
      rw [← hw]
      unfold Region.wanted
      cases hg : o.guard with
      | none => rfl
      | some gw =>
        obtain ⟨g, want⟩ := gw
        have hy : yielded ops a.tmps g = yielded ops aF.tmps g := by
          unfold yielded
          cases ht : (ops[g]?).bind (·.dst) with
          | none => rfl
          | some t =>
            have hm : t ∈ o.looksAt ops := List.mem_append_right _ (by simp [hg, ht])
            simp [hsame t hm]
        simp only [hy]
    unfold wpOp
    simp only [ho, hwt, if_true]
    left
    unfold Oper.wp
    rw [hev]
    generalize (execOp aF.eval o).run P w = r at *
    cases r with
    | ok n w' =>
      cases n <;> simp only [upTo] at hu <;> simp only [Oper.upon]
      all_goals first | exact inv_put hI ho hdeps' hu.1 hu.2 | exact hu.elim
    | halt x w' => simp only [upTo] at hu
  intro fuel
  induction fuel with
  | zero =>
    intro listed a w hc hI
    have hr : Region.ready .any ops listed = [] := by
      rw [List.eq_nil_iff_forall_not_mem]
      intro i hi
      obtain ⟨hun, o, ho, _⟩ := mem_ready.1 hi
      have hlt : i < listed.size := by rw [hI.size]; exact (Array.getElem?_eq_some_iff.1 ho).1
      have h0 : listed.toList.countP (fun b => !b) = 0 := by omega
      rw [List.countP_eq_zero] at h0
      have := h0 listed[i] (by simp)
      simp [hlt] at hun
      simp [hun] at this
    exact ⟨hr, done listed a w hI hr⟩
  | succ fuel ih =>
    intro listed a w hc hI
    refine ⟨fun hr => done listed a w hI hr, fun i hi => wpOp_mono (fun a' w' h => ih _ a' w' ?_ h) (one listed a w hI i hi)⟩
    obtain ⟨hun, o, ho, _⟩ := mem_ready.1 hi
    have hlt : i < listed.size := by rw [hI.size]; exact (Array.getElem?_eq_some_iff.1 ho).1
    have hfalse : listed[i] = false := by simpa [hlt] using hun
    have := count_set (l := listed.toList) (i := i) (by simpa using hlt) (by simpa using hfalse)
    simp only [Array.toList_setIfInBounds]
    omega

theorem Lof_none (n k : Nat) : Lof (Array.replicate n false) k = false := by
  unfold Lof
  simp [Array.getElem?_replicate]
  split <;> rfl
/-- THE LAW. -/
theorem region_inv {id : Nat} {w : World} (aF : Act) (WI : (Nat → Bool) → World → Prop) (hm : P.follows .mixedOrders = true) (hok : regOk ops = true)
    (hd : a0.defers = aF.defers) (hs : a0.tmps.size = aF.tmps.size) (ht : ∀ d : Nat, a0.tmps[d]? = aF.tmps[d]? ∨ ∃ (k : Nat) (o : Oper), ops[k]? = some o ∧ o.dst = some d)
    (start : WI (fun _ => false) w.drew)
    (step : ∀ (i : Nat) (o : Oper), ops[i]? = some o → ∀ (L : Nat → Bool) (w : World), ClosedL ops L → L i = false → (∀ e ∈ o.after, Region.binds .any e = true → L e.on = true) → WI L w →
      Region.wanted o (yielded ops aF.tmps) = true ∧ upTo o aF (WI (upd L i)) ((execOp aF.eval o).run P w))
    (fin : ∀ (L : Nat → Bool) (w : World), (∀ k, k < ops.size → L k = true) → WI L w → Q .normal aF w) : (Code.region id ops true).wp P Q a0 w := by
  refine wp_region_any hm (wpAny_inv hok step fin _ _ _ _ ?_ ⟨by simp, hd, hs, fun d => (ht d).imp (fun h => h) fun ⟨k, o, hk, hdst⟩ => ⟨k, o, hk, hdst, Lof_none _ k⟩, fun k o hk hL => ?_, ?_⟩)
  · simpa using List.countP_le_length (p := fun b => !b) (l := (Array.replicate ops.size false).toList)
  · rw [Lof_none] at hL
    cases hL
  · have : Lof (Array.replicate ops.size false) = fun _ => false := funext (Lof_none _)
    rw [this]
    exact start

/-- Values put into slots, one behind the other. -/
def putL (a : Act) : List (Nat × Value) → Act
  | [] => a
  | p :: l => putL (a.put (some p.1) p.2) l
def AllOps (p : Nat → Oper → Prop) : Nat → List Oper → Prop
  | _, [] => True
  | n, o :: l => p n o ∧ AllOps p (n + 1) l
theorem AllOps.get {p : Nat → Oper → Prop} : ∀ {l : List Oper} {n i : Nat} {o : Oper}, AllOps p n l → l[i]? = some o → p (n + i) o
  | [], _, _, _, _, h => by simp at h
  | x :: l, n, 0, o, h, e => by simp at e; subst e; exact h.1
  | x :: l, n, i + 1, o, h, e => by
    have := AllOps.get h.2 (by simpa using e)
    rwa [show n + 1 + i = n + (i + 1) from by omega] at this
theorem putL_defers : ∀ (l : List (Nat × Value)) (a : Act), (putL a l).defers = a.defers
  | [], _ => rfl
  | p :: l, a => putL_defers l _
theorem putL_size : ∀ (l : List (Nat × Value)) (a : Act), (putL a l).tmps.size = a.tmps.size
  | [], _ => rfl
  | p :: l, a => (putL_size l _).trans (by simp [Act.put])
theorem putL_tmps : ∀ (l : List (Nat × Value)) (a : Act) (d : Nat), (∀ p, p ∈ l → p.1 ≠ d) → (putL a l).tmps[d]? = a.tmps[d]?
  | [], _, _, _ => rfl
  | p :: l, a, d, h => (putL_tmps l _ d fun q hq => h q (List.mem_cons_of_mem _ hq)).trans (by
      have := h p List.mem_cons_self
      simp [Act.put, Array.getElem?_setIfInBounds_ne this])

/-- THE LAW AS IT IS USED: what the slots hold in the end is a list; the steps, one for each operation. -/
theorem region_steps {id : Nat} {w : World} (l : List (Nat × Value)) (WI : (Nat → Bool) → World → Prop) (hm : P.follows .mixedOrders = true) (hok : regOk ops = true)
    (hl : (l.all fun p => ops.any fun o => o.dst == some p.1) = true) (start : WI (fun _ => false) w.drew)
    (rest : ∀ aF, aF = putL a0 l → AllOps (fun i o => ∀ (L : Nat → Bool) (w : World), ClosedL ops L → L i = false → (∀ e ∈ o.after, Region.binds .any e = true → L e.on = true) → WI L w →
      Region.wanted o (yielded ops aF.tmps) = true ∧ upTo o aF (WI (upd L i)) ((execOp aF.eval o).run P w)) 0 ops.toList ∧
      ∀ (L : Nat → Bool) (w : World), (∀ k, k < ops.size → L k = true) → WI L w → Q .normal aF w) : (Code.region id ops true).wp P Q a0 w := by
  obtain ⟨h1, h2⟩ := rest _ rfl
  refine region_inv (putL a0 l) WI hm hok (putL_defers _ _).symm (putL_size _ _).symm (fun d => ?_) start (fun i o hi => ?_) h2
  · by_cases hd : ∃ p, p ∈ l ∧ p.1 = d
    · obtain ⟨p, hp, rfl⟩ := hd
      right
      rw [List.all_eq_true] at hl
      obtain ⟨k, hk, he⟩ := Array.any_eq_true.1 (hl p hp)
      exact ⟨k, ops[k], Array.getElem?_eq_getElem hk, by simpa using he⟩
    · exact .inl (putL_tmps l a0 d fun p hp he => hd ⟨p, hp, he⟩).symm
  · have := AllOps.get h1 (i := i) (o := o) (by simpa using hi)
    rwa [Nat.zero_add] at this
/-- What waits has not come up before what it waits for. -/
theorem ClosedL.not {L : Nat → Bool} (h : ClosedL ops L) {k i : Nat} {o : Oper} (hk : ops[k]? = some o) (hb : (o.after.any fun e => Region.binds .any e && e.on == i) = true) (hi : L i = false) : L k = false := by
  cases hL : L k with
  | false => rfl
  | true =>
    obtain ⟨e, he, h1⟩ := Array.any_eq_true'.1 hb
    simp only [Bool.and_eq_true, beq_iff_eq] at h1
    have := h k o hk hL e he h1.1
    rw [h1.2, hi] at this
    cases this
end
end Go.Proofs.YtjcbngpgmgeanaaGreat
/- The reference's Bounds, whatever the world. -/
namespace Go.Proofs.YtjcbngpgmgeanaaGreat
open Go.RowKit
open Reg (R4 Span Band)
set_option linter.unusedSimpArgs false
set_option linter.unusedVariables false

/-- The world while the corners are set, one behind the other. -/
def BndW (w wr : World) (b : Nat) (a m : R4) (L : Nat → Bool) (w' : World) : Prop :=
  (∀ i, w'.cell? ⟨w.heap.size + 1, i, none⟩ = (#[Value.int .i64 (if L 33 then m.x0 else a.x0), .int .i64 (if L 35 then m.y0 else a.y0), .int .i64 (if L 37 then m.x1 else a.x1), .int .i64 (if L 39 then m.y1 else a.y1)])[i]?) ∧
  (∀ i, w'.frozen? ⟨w.heap.size + 1, i, none⟩ = false) ∧ (∀ i, w'.cell? ⟨w.heap.size, i, none⟩ = (#[Value.int .i64 0, .int .i64 0, .int .i64 0, .int .i64 0])[i]?) ∧ (∀ i, w'.frozen? ⟨w.heap.size, i, none⟩ = false) ∧
  (∀ o, w'.cell? ⟨b, o, none⟩ = wr.cell? ⟨b, o, none⟩) ∧ w.heap.size + 2 ≤ w'.heap.size ∧ Below w.heap.size w w'
theorem BndW.upd {w wr w' : World} {b : Nat} {a m : R4} {L : Nat → Bool} (h : BndW w wr b a m L w') {i : Nat} (h1 : ¬ 33 = i) (h2 : ¬ 35 = i) (h3 : ¬ 37 = i) (h4 : ¬ 39 = i) : BndW w wr b a m (upd L i) w' := by
  unfold BndW at *
  simp only [_root_.Go.Proofs.YtjcbngpgmgeanaaGreat.upd, h1, h2, h3, h4, if_false]
  exact h
theorem BndW.set {w wr w' : World} {b : Nat} {a m : R4} {L L' : Nat → Bool} (h : BndW w wr b a m L w') {j : Nat} (v : Value) (hj : j < 4) (hb : ¬ w.heap.size + 1 = b)
    (he : #[Value.int .i64 (if L' 33 then m.x0 else a.x0), .int .i64 (if L' 35 then m.y0 else a.y0), .int .i64 (if L' 37 then m.x1 else a.x1), .int .i64 (if L' 39 then m.y1 else a.y1)] = (#[Value.int .i64 (if L 33 then m.x0 else a.x0), .int .i64 (if L 35 then m.y0 else a.y0), .int .i64 (if L 37 then m.x1 else a.x1), .int .i64 (if L 39 then m.y1 else a.y1)]).setIfInBounds j v) :
    BndW w wr b a m L' (w'.setCell ⟨w.heap.size + 1, j, none⟩ v) := by
  obtain ⟨h1, h2, h3, h4, h5, h6, h7⟩ := h
  refine ⟨?_, fun i => by rw [World.frozen?_setCell]; exact h2 i, fun i => (World.cell?_setCell_far _ _ _ _ (by simp)).trans (h3 i), fun i => by rw [World.frozen?_setCell]; exact h4 i, fun o => (World.cell?_setCell_far _ _ _ _ hb).trans (h5 o), by simpa using h6, ?_⟩
  · rw [he]; exact one_set h1 (by simpa using hj)
  · exact h7.setCell (by simp) _

set_option maxRecDepth 100000 in
set_option maxHeartbeats 0 in
theorem boundsOf_any (A : Option Addr) (l : List R4) (c : Nat) (w : World) (hpos : 0 < l.length) (hl : l.length ≤ 140737488355328) (h : Rd w A l) :
    Calls Tryz.prog 57 #[.slice A l.length c] w fun e w' => e = .returned (rv (aroundR l)) ∧ Below w.heap.size w w' := by
  have H0 := Lib.hid h
  obtain ⟨b, off, rfl, hblt, hcs⟩ := h hpos
  have hmx : ∀ x y : Int, (if x < y then y else x) = maxI x y := fun _ _ => rfl
  have hmn : ∀ x y : Int, (if y < x then y else x) = minI x y := fun _ _ => rfl
  have hmx' : ∀ x y : Int, (if x < y then Value.int .i64 y else Value.int .i64 x) = Value.int .i64 (maxI x y) := fun _ _ => by unfold maxI; split <;> rfl
  have hmn' : ∀ x y : Int, (if y < x then Value.int .i64 y else Value.int .i64 x) = Value.int .i64 (minI x y) := fun _ _ => by unfold minI; split <;> rfl
  obtain ⟨r, t, rfl⟩ : ∃ r t, l = r :: t := by cases l with
    | nil => simp at hpos
    | cons r t => exact ⟨r, t, rfl⟩
  obtain ⟨c0, c1, c2, c3⟩ := hcs 0 r rfl
  simp only [Nat.zero_mul, Nat.add_zero] at c0 c1 c2 c3
  clear hcs
  have hll : (r :: t).length = t.length + 1 := rfl
  have hz0 : (0 : Int) < (t.length : Int) + 1 := by omega
  rw [hll] at hl ⊢
  have HLL := Lib.hid hll
  clear hll hpos
  go_enter Tryz.func57, Tryz.ntmps57
  go_wp2_with fail
  go_loopw [4] (fun i wr => ∃ (k : Nat) (a : R4), k ≤ t.length + 1 ∧ i = .int .i64 k ∧ aroundR (r :: t) = aroundF a ((r :: t).drop k) ∧ (∀ i, wr.cell? ⟨w.heap.size + 1, i, none⟩ = (#[Value.int .i64 a.x0, .int .i64 a.y0, .int .i64 a.x1, .int .i64 a.y1])[i]?) ∧ (∀ i, wr.frozen? ⟨w.heap.size + 1, i, none⟩ = false) ∧ (∀ i, wr.cell? ⟨w.heap.size, i, none⟩ = (#[Value.int .i64 0, .int .i64 0, .int .i64 0, .int .i64 0])[i]?) ∧ (∀ i, wr.frozen? ⟨w.heap.size, i, none⟩ = false) ∧ w.heap.size + 2 ≤ wr.heap.size ∧ Below w.heap.size w wr) (fun i _ => t.length + 1 - (intOf i).toNat)
  case atStart => exact ⟨0, r, by omega, rfl, rfl, fun i => by simp [go_sem], fun i => by simp [go_sem], fun i => by simp [go_sem], fun i => by simp [go_sem], by simp, by (repeat' (first | (with_reducible exact Below.refl _ _) | (with_reducible assumption) | (with_reducible refine Below.alloc ?_ ?_ _) | (with_reducible refine Below.drew ?_) | (with_reducible refine below_drewN ?_ _) | (with_reducible refine Below.setCell ?_ ?_ _) | (with_reducible exact Nat.le_refl _) | omega | (simp only [World.size_alloc, World.size_setCell, World.size_drew]; omega) | (simp; omega) | (simp; done)))⟩
  case round =>
    obtain ⟨k, a, hk, rfl, hf, ka, fa, kb, fb, hsz, hbw⟩ := hrel
    have zw := hbw.size
    have HF := Lib.hid hf
    clear hf
    have hkz : (0 : Int) ≤ (k : Int) := by omega
    have l1 : w.heap.size + 1 < wr.heap.size := by omega
    have l0 : w.heap.size < wr.heap.size := by omega
    by_cases hlt : k < t.length + 1
    · have hlt' : k < (r :: t).length := by simpa using hlt
      obtain ⟨b', off', e, hblt', hcs⟩ := (H0.out.below hbw) (by simp)
      cases e
      have hi : (r :: t)[k]? = some (r :: t)[k] := List.getElem?_eq_getElem hlt'
      obtain ⟨d0, d1, d2, d3⟩ := hcs k _ hi
      have hd : (r :: t).drop k = (r :: t)[k] :: (r :: t).drop (k + 1) := List.drop_eq_getElem_cons hlt'
      have HD := Lib.hid hd
      clear hd hi hcs
      generalize (r :: t)[k] = u at *
      have hklt : (k : Int) < (t.length : Int) + 1 := by omega
      have hn : aroundR (r :: t) = aroundF (joinR a u) ((r :: t).drop (k + 1)) := by rw [HF.out, HD.out]; rfl
      have HN := Lib.hid hn
      clear hn
      have p0 : wr.cell? ⟨w.heap.size + 1, 0, none⟩ = some (.int .i64 a.x0) := by rw [ka]; rfl
      have p1 : wr.cell? ⟨w.heap.size + 1, 1, none⟩ = some (.int .i64 a.y0) := by rw [ka]; rfl
      have p2 : wr.cell? ⟨w.heap.size + 1, 2, none⟩ = some (.int .i64 a.x1) := by rw [ka]; rfl
      have p3 : wr.cell? ⟨w.heap.size + 1, 3, none⟩ = some (.int .i64 a.y1) := by rw [ka]; rfl
      have KA := Lib.hid ka
      have KB := Lib.hid kb
      have FB := Lib.hid fb
      have FA := Lib.hid fa
      have f0 := fa 0
      have f1 := fa 1
      have f2 := fa 2
      have f3 := fa 3
      clear ka kb fb fa h c0 c1 c2 c3 hsz
      have nb1 : ¬ b = w.heap.size + 1 := by omega
      have nb2 : ¬ w.heap.size + 1 = b := by omega
      go_wp2_with fail
      refine region_steps (l := [(14, .pointer (some ⟨w.heap.size + 1, 0, none⟩)), (15, .int .i64 (a.x0)), (16, .slice (some ⟨b, off, none⟩) (t.length + 1) c), (17, .int .i64 (k)), (18, .pointer (some ⟨b, off + k * 4, none⟩)), (19, .pointer (some ⟨b, off + k * 4, none⟩)), (20, .int .i64 (u.x0)), (21, .int .i64 (minI a.x0 u.x0)), (22, .pointer (some ⟨w.heap.size + 1, 1, none⟩)), (23, .int .i64 (a.y0)), (24, .slice (some ⟨b, off, none⟩) (t.length + 1) c), (25, .int .i64 (k)), (26, .pointer (some ⟨b, off + k * 4, none⟩)), (27, .pointer (some ⟨b, off + k * 4 + 1, none⟩)), (28, .int .i64 (u.y0)), (29, .int .i64 (minI a.y0 u.y0)), (30, .pointer (some ⟨w.heap.size + 1, 2, none⟩)), (31, .int .i64 (a.x1)), (32, .slice (some ⟨b, off, none⟩) (t.length + 1) c), (33, .int .i64 (k)), (34, .pointer (some ⟨b, off + k * 4, none⟩)), (35, .pointer (some ⟨b, off + k * 4 + 2, none⟩)), (36, .int .i64 (u.x1)), (37, .int .i64 (maxI a.x1 u.x1)), (38, .pointer (some ⟨w.heap.size + 1, 3, none⟩)), (39, .int .i64 (a.y1)), (40, .slice (some ⟨b, off, none⟩) (t.length + 1) c), (41, .int .i64 (k)), (42, .pointer (some ⟨b, off + k * 4, none⟩)), (43, .pointer (some ⟨b, off + k * 4 + 3, none⟩)), (44, .int .i64 (u.y1)), (45, .int .i64 (maxI a.y1 u.y1)), (46, .pointer (some ⟨w.heap.size + 1, 0, none⟩)), (47, .pointer (some ⟨w.heap.size + 1, 1, none⟩)), (48, .pointer (some ⟨w.heap.size + 1, 2, none⟩)), (49, .pointer (some ⟨w.heap.size + 1, 3, none⟩))]) (BndW w wr b a (joinR a u)) (by kernel_rfl) (by kernel_rfl) (by kernel_rfl) ?_ ?_
      · exact ⟨fun i => by simpa using KA.out i, fun i => by simpa using FA.out i, fun i => by simpa using KB.out i, fun i => by simpa using FB.out i, fun o => by simp, by simp; omega, hbw.drew⟩
      intro aF haF
      simp only [putL, Act.put, List.setIfInBounds_toArray, List.set_cons_zero, List.set_cons_succ] at haF
      subst haF
      refine ⟨⟨?_, ?_, ?_, ?_, ?_, ?_, ?_, ?_, ?_, ?_, ?_, ?_, ?_, ?_, ?_, ?_, ?_, ?_, ?_, ?_, ?_, ?_, ?_, ?_, ?_, ?_, ?_, ?_, ?_, ?_, ?_, ?_, ?_, ?_, ?_, ?_, ?_, ?_, ?_, ?_, trivial⟩, ?_⟩
      -- 0
      · intro L W hcl hun hdep hW
        refine ⟨rfl, ?_⟩
        exact ⟨rfl, (hW.upd (i := 0) (by decide) (by decide) (by decide) (by decide))⟩
      -- 1
      · intro L W hcl hun hdep hW
        refine ⟨rfl, ?_⟩
        have hL : L 33 = false := hcl.not (k := 33) (i := 1) rfl (by kernel_rfl) hun
        have hc : W.cell? ⟨w.heap.size + 1, 0, none⟩ = some (.int .i64 a.x0) := by rw [hW.1]; simp [hL]
        have hU := (hW.upd (i := 1) (by decide) (by decide) (by decide) (by decide))
        simp [go_sem, upTo, hc]
        exact hU
      -- 2
      · intro L W hcl hun hdep hW
        refine ⟨rfl, ?_⟩
        exact ⟨rfl, (hW.upd (i := 2) (by decide) (by decide) (by decide) (by decide))⟩
      -- 3
      · intro L W hcl hun hdep hW
        refine ⟨rfl, ?_⟩
        exact ⟨rfl, (hW.upd (i := 3) (by decide) (by decide) (by decide) (by decide))⟩
      -- 4
      · intro L W hcl hun hdep hW
        refine ⟨rfl, ?_⟩
        have hU := (hW.upd (i := 4) (by decide) (by decide) (by decide) (by decide))
        simp [go_sem, upTo, hklt, hkz, hlt]
        exact hU
      -- 5
      · intro L W hcl hun hdep hW
        refine ⟨rfl, ?_⟩
        exact ⟨rfl, (hW.upd (i := 5) (by decide) (by decide) (by decide) (by decide))⟩
      -- 6
      · intro L W hcl hun hdep hW
        refine ⟨rfl, ?_⟩
        have hc : W.cell? ⟨b, off + k * 4, none⟩ = some (.int .i64 u.x0) := (hW.2.2.2.2.1 _).trans d0
        have hU := (hW.upd (i := 6) (by decide) (by decide) (by decide) (by decide))
        simp [go_sem, upTo, hc]
        exact hU
      -- 7
      · intro L W hcl hun hdep hW
        refine ⟨rfl, ?_⟩
        have hU := (hW.upd (i := 7) (by decide) (by decide) (by decide) (by decide))
        simp [go_sem, upTo, hmx, hmn, hmx', hmn']
        exact hU
      -- 8
      · intro L W hcl hun hdep hW
        refine ⟨rfl, ?_⟩
        exact ⟨rfl, (hW.upd (i := 8) (by decide) (by decide) (by decide) (by decide))⟩
      -- 9
      · intro L W hcl hun hdep hW
        refine ⟨rfl, ?_⟩
        have hL : L 35 = false := hcl.not (k := 35) (i := 9) rfl (by kernel_rfl) hun
        have hc : W.cell? ⟨w.heap.size + 1, 1, none⟩ = some (.int .i64 a.y0) := by rw [hW.1]; simp [hL]
        have hU := (hW.upd (i := 9) (by decide) (by decide) (by decide) (by decide))
        simp [go_sem, upTo, hc]
        exact hU
      -- 10
      · intro L W hcl hun hdep hW
        refine ⟨rfl, ?_⟩
        exact ⟨rfl, (hW.upd (i := 10) (by decide) (by decide) (by decide) (by decide))⟩
      -- 11
      · intro L W hcl hun hdep hW
        refine ⟨rfl, ?_⟩
        exact ⟨rfl, (hW.upd (i := 11) (by decide) (by decide) (by decide) (by decide))⟩
      -- 12
      · intro L W hcl hun hdep hW
        refine ⟨rfl, ?_⟩
        have hU := (hW.upd (i := 12) (by decide) (by decide) (by decide) (by decide))
        simp [go_sem, upTo, hklt, hkz, hlt]
        exact hU
      -- 13
      · intro L W hcl hun hdep hW
        refine ⟨rfl, ?_⟩
        exact ⟨rfl, (hW.upd (i := 13) (by decide) (by decide) (by decide) (by decide))⟩
      -- 14
      · intro L W hcl hun hdep hW
        refine ⟨rfl, ?_⟩
        have hc : W.cell? ⟨b, off + k * 4 + 1, none⟩ = some (.int .i64 u.y0) := (hW.2.2.2.2.1 _).trans d1
        have hU := (hW.upd (i := 14) (by decide) (by decide) (by decide) (by decide))
        simp [go_sem, upTo, hc]
        exact hU
      -- 15
      · intro L W hcl hun hdep hW
        refine ⟨rfl, ?_⟩
        have hU := (hW.upd (i := 15) (by decide) (by decide) (by decide) (by decide))
        simp [go_sem, upTo, hmx, hmn, hmx', hmn']
        exact hU
      -- 16
      · intro L W hcl hun hdep hW
        refine ⟨rfl, ?_⟩
        exact ⟨rfl, (hW.upd (i := 16) (by decide) (by decide) (by decide) (by decide))⟩
      -- 17
      · intro L W hcl hun hdep hW
        refine ⟨rfl, ?_⟩
        have hL : L 37 = false := hcl.not (k := 37) (i := 17) rfl (by kernel_rfl) hun
        have hc : W.cell? ⟨w.heap.size + 1, 2, none⟩ = some (.int .i64 a.x1) := by rw [hW.1]; simp [hL]
        have hU := (hW.upd (i := 17) (by decide) (by decide) (by decide) (by decide))
        simp [go_sem, upTo, hc]
        exact hU
      -- 18
      · intro L W hcl hun hdep hW
        refine ⟨rfl, ?_⟩
        exact ⟨rfl, (hW.upd (i := 18) (by decide) (by decide) (by decide) (by decide))⟩
      -- 19
      · intro L W hcl hun hdep hW
        refine ⟨rfl, ?_⟩
        exact ⟨rfl, (hW.upd (i := 19) (by decide) (by decide) (by decide) (by decide))⟩
      -- 20
      · intro L W hcl hun hdep hW
        refine ⟨rfl, ?_⟩
        have hU := (hW.upd (i := 20) (by decide) (by decide) (by decide) (by decide))
        simp [go_sem, upTo, hklt, hkz, hlt]
        exact hU
      -- 21
      · intro L W hcl hun hdep hW
        refine ⟨rfl, ?_⟩
        exact ⟨rfl, (hW.upd (i := 21) (by decide) (by decide) (by decide) (by decide))⟩
      -- 22
      · intro L W hcl hun hdep hW
        refine ⟨rfl, ?_⟩
        have hc : W.cell? ⟨b, off + k * 4 + 2, none⟩ = some (.int .i64 u.x1) := (hW.2.2.2.2.1 _).trans d2
        have hU := (hW.upd (i := 22) (by decide) (by decide) (by decide) (by decide))
        simp [go_sem, upTo, hc]
        exact hU
      -- 23
      · intro L W hcl hun hdep hW
        refine ⟨rfl, ?_⟩
        have hU := (hW.upd (i := 23) (by decide) (by decide) (by decide) (by decide))
        simp [go_sem, upTo, hmx, hmn, hmx', hmn']
        exact hU
      -- 24
      · intro L W hcl hun hdep hW
        refine ⟨rfl, ?_⟩
        exact ⟨rfl, (hW.upd (i := 24) (by decide) (by decide) (by decide) (by decide))⟩
      -- 25
      · intro L W hcl hun hdep hW
        refine ⟨rfl, ?_⟩
        have hL : L 39 = false := hcl.not (k := 39) (i := 25) rfl (by kernel_rfl) hun
        have hc : W.cell? ⟨w.heap.size + 1, 3, none⟩ = some (.int .i64 a.y1) := by rw [hW.1]; simp [hL]
        have hU := (hW.upd (i := 25) (by decide) (by decide) (by decide) (by decide))
        simp [go_sem, upTo, hc]
        exact hU
      -- 26
      · intro L W hcl hun hdep hW
        refine ⟨rfl, ?_⟩
        exact ⟨rfl, (hW.upd (i := 26) (by decide) (by decide) (by decide) (by decide))⟩
      -- 27
      · intro L W hcl hun hdep hW
        refine ⟨rfl, ?_⟩
        exact ⟨rfl, (hW.upd (i := 27) (by decide) (by decide) (by decide) (by decide))⟩
      -- 28
      · intro L W hcl hun hdep hW
        refine ⟨rfl, ?_⟩
        have hU := (hW.upd (i := 28) (by decide) (by decide) (by decide) (by decide))
        simp [go_sem, upTo, hklt, hkz, hlt]
        exact hU
      -- 29
      · intro L W hcl hun hdep hW
        refine ⟨rfl, ?_⟩
        exact ⟨rfl, (hW.upd (i := 29) (by decide) (by decide) (by decide) (by decide))⟩
      -- 30
      · intro L W hcl hun hdep hW
        refine ⟨rfl, ?_⟩
        have hc : W.cell? ⟨b, off + k * 4 + 3, none⟩ = some (.int .i64 u.y1) := (hW.2.2.2.2.1 _).trans d3
        have hU := (hW.upd (i := 30) (by decide) (by decide) (by decide) (by decide))
        simp [go_sem, upTo, hc]
        exact hU
      -- 31
      · intro L W hcl hun hdep hW
        refine ⟨rfl, ?_⟩
        have hU := (hW.upd (i := 31) (by decide) (by decide) (by decide) (by decide))
        simp [go_sem, upTo, hmx, hmn, hmx', hmn']
        exact hU
      -- 32
      · intro L W hcl hun hdep hW
        refine ⟨rfl, ?_⟩
        exact ⟨rfl, (hW.upd (i := 32) (by decide) (by decide) (by decide) (by decide))⟩
      -- 33
      · intro L W hcl hun hdep hW
        refine ⟨rfl, ?_⟩
        have hc : ∃ v, W.cell? ⟨w.heap.size + 1, 0, none⟩ = some v := ⟨_, hW.1 0⟩
        obtain ⟨v0, hc⟩ := hc
        have hf := hW.2.1 0
        have hU := hW.set (L' := upd L 33) (j := 0) (.int .i64 (minI a.x0 u.x0)) (by decide) nb2 (by simp [upd, joinR])
        simp [go_sem, upTo, hc, hf]
        exact hU
      -- 34
      · intro L W hcl hun hdep hW
        refine ⟨rfl, ?_⟩
        exact ⟨rfl, (hW.upd (i := 34) (by decide) (by decide) (by decide) (by decide))⟩
      -- 35
      · intro L W hcl hun hdep hW
        refine ⟨rfl, ?_⟩
        have hc : ∃ v, W.cell? ⟨w.heap.size + 1, 1, none⟩ = some v := ⟨_, hW.1 1⟩
        obtain ⟨v0, hc⟩ := hc
        have hf := hW.2.1 1
        have hU := hW.set (L' := upd L 35) (j := 1) (.int .i64 (minI a.y0 u.y0)) (by decide) nb2 (by simp [upd, joinR])
        simp [go_sem, upTo, hc, hf]
        exact hU
      -- 36
      · intro L W hcl hun hdep hW
        refine ⟨rfl, ?_⟩
        exact ⟨rfl, (hW.upd (i := 36) (by decide) (by decide) (by decide) (by decide))⟩
      -- 37
      · intro L W hcl hun hdep hW
        refine ⟨rfl, ?_⟩
        have hc : ∃ v, W.cell? ⟨w.heap.size + 1, 2, none⟩ = some v := ⟨_, hW.1 2⟩
        obtain ⟨v0, hc⟩ := hc
        have hf := hW.2.1 2
        have hU := hW.set (L' := upd L 37) (j := 2) (.int .i64 (maxI a.x1 u.x1)) (by decide) nb2 (by simp [upd, joinR])
        simp [go_sem, upTo, hc, hf]
        exact hU
      -- 38
      · intro L W hcl hun hdep hW
        refine ⟨rfl, ?_⟩
        exact ⟨rfl, (hW.upd (i := 38) (by decide) (by decide) (by decide) (by decide))⟩
      -- 39
      · intro L W hcl hun hdep hW
        refine ⟨rfl, ?_⟩
        have hc : ∃ v, W.cell? ⟨w.heap.size + 1, 3, none⟩ = some v := ⟨_, hW.1 3⟩
        obtain ⟨v0, hc⟩ := hc
        have hf := hW.2.1 3
        have hU := hW.set (L' := upd L 39) (j := 3) (.int .i64 (maxI a.y1 u.y1)) (by decide) nb2 (by simp [upd, joinR])
        simp [go_sem, upTo, hc, hf]
        exact hU
      intro L W hall hW
      have e33 := hall 33 (by decide)
      have e35 := hall 35 (by decide)
      have e37 := hall 37 (by decide)
      have e39 := hall 39 (by decide)
      clear hall
      obtain ⟨q1, q2, q3, q4, q5, q6, q7⟩ := hW
      simp only [e33, e35, e37, e39, if_true] at q1
      have Q1 := Lib.hid q1
      have Q2 := Lib.hid q2
      have Q3 := Lib.hid q3
      have Q4 := Lib.hid q4
      clear q1 q2 q3 q4 q5 p0 p1 p2 p3 d0 d1 d2 d3 f0 f1 f2 f3 e33 e35 e37 e39 L
      go_wp2_with fail
      go_roundw
      case rel =>
        exact ⟨k + 1, joinR a u, by omega, by go_num, HN.out, Q1.out, Q2.out, Q3.out, Q4.out, q6, q7⟩
      case measure => simp [intOf]; omega
    · obtain rfl : k = t.length + 1 := by omega
      have hn : aroundR (r :: t) = a := by rw [HF.out, List.drop_of_length_le (by simp)]; rfl
      have HN := Lib.hid hn
      clear hn
      go_wp2_with fail
      have kz := set4 (a := .int .i64 a.x0) (b := .int .i64 a.y0) (c := .int .i64 a.x1) (d := .int .i64 a.y1) kb
      rw [HN.out]
      exact bodyPost_ret (v := rv a) (by simp [results, Tryz.results57, go_sem, kz]) rfl ⟨rfl, by (repeat' (first | (with_reducible exact Below.refl _ _) | (with_reducible assumption) | (with_reducible refine Below.alloc ?_ ?_ _) | (with_reducible refine Below.drew ?_) | (with_reducible refine below_drewN ?_ _) | (with_reducible refine Below.setCell ?_ ?_ _) | (with_reducible exact Nat.le_refl _) | omega | (simp only [World.size_alloc, World.size_setCell, World.size_drew]; omega) | (simp; omega) | (simp; done)))⟩
end Go.Proofs.YtjcbngpgmgeanaaGreat

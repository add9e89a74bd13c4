/- A region that draws its order, proved operation by operation: what the frame is in the end is said ahead, and a relation of the world that knows what has come up. -/
import Derived.Orders
import Derived.Below
namespace Go.Proofs.YtmcbjaefnhfopaaGreat
open Go
set_option linter.unusedSimpArgs false
set_option linter.unusedVariables false

def upTo (o : Oper) (aF : Act) (R : World → Prop) : Result Next → Prop
  | .ok (.value v) w' => aF.put o.dst v = aF ∧ R w'
  | .ok .skip w' => aF.put o.dst undef = aF ∧ R w'
  | _ => False
/-- What has come up, with one more. -/
def upd (L : Nat → Bool) (i : Nat) : Nat → Bool := fun k => if k = i then true else L k
/-- Whatever has come up has come up behind what it waits for. -/
def ClosedL (ops : Array Oper) (L : Nat → Bool) : Prop := ∀ (k : Nat) (o : Oper), ops[k]? = some o → L k = true → ∀ e ∈ o.after, Region.binds .any e = true → L e.on = true
/-- Operations wait for earlier ones alone, and for whatever they look at. -/
def regOk (ops : Array Oper) : Bool := (List.range ops.size).all fun i => match ops[i]? with
  | none => true
  | some o => (o.after.all fun e => !Region.binds .any e || decide (e.on < i)) && (match o.op with | .select .. => false | _ => true) &&
    ((o.looksAt ops).all fun d => (List.range ops.size).all fun k => match ops[k]? with
      | none => true
      | some ok => ok.dst != some d || o.after.any fun e => Region.binds .any e && e.on == k)

theorem regOk_spec {ops : Array Oper} (h : regOk ops = true) {i : Nat} {o : Oper} (hi : ops[i]? = some o) :
    (∀ e ∈ o.after, Region.binds .any e = true → e.on < i) ∧ (∀ cs b, o.op ≠ .select cs b) ∧ ∀ d, d ∈ o.looksAt ops → ∀ k ok, ops[k]? = some ok → ok.dst = some d → ∃ e ∈ o.after, Region.binds .any e = true ∧ e.on = k := by
  unfold regOk at h
  rw [List.all_eq_true] at h
  have h1 := h i (by simpa using (Array.getElem?_eq_some_iff.1 hi).1)
  rw [hi] at h1
  simp only [Bool.and_eq_true] at h1
  obtain ⟨⟨h2, h3⟩, h4⟩ := h1
  refine ⟨fun e he hb => ?_, fun cs b hs => ?_, fun d hd k ok hk hdst => ?_⟩
  · have := Array.all_eq_true_iff_forall_mem.1 h2 e he
    simpa [hb] using this
  · rw [hs] at h3
    cases h3
  · rw [List.all_eq_true] at h4
    have h5 := h4 d hd
    rw [List.all_eq_true] at h5
    have h6 := h5 k (by simpa using (Array.getElem?_eq_some_iff.1 hk).1)
    rw [hk] at h6
    simp only [hdst, bne_self_eq_false, Bool.false_or] at h6
    obtain ⟨e, he, hb⟩ := Array.any_eq_true'.1 h6
    simp only [Bool.and_eq_true, beq_iff_eq] at hb
    exact ⟨e, he, hb.1, hb.2⟩

section
variable {P : Program} {ops : Array Oper} {Q : Exit → Act → World → Prop} {a0 aF : Act} {WI : (Nat → Bool) → World → Prop}

def Lof (listed : Array Bool) : Nat → Bool := fun k => listed.getD k false
/-- The frame is that of the end, but for what has not come up. -/
structure InvR (ops : Array Oper) (aF : Act) (WI : (Nat → Bool) → World → Prop) (listed : Array Bool) (a : Act) (w : World) : Prop where
  size : listed.size = ops.size
  defers : a.defers = aF.defers
  tsize : a.tmps.size = aF.tmps.size
  tmps : ∀ d : Nat, a.tmps[d]? = aF.tmps[d]? ∨ ∃ (k : Nat) (o : Oper), ops[k]? = some o ∧ o.dst = some d ∧ Lof listed k = false
  closed : ClosedL ops (Lof listed)
  world : WI (Lof listed) w

theorem Lof_set {listed : Array Bool} {i : Nat} (h : i < listed.size) : Lof (listed.setIfInBounds i true) = upd (Lof listed) i := by
  funext k
  unfold Lof upd
  by_cases hk : k = i
  · subst hk; simp [h]
  · rw [if_neg hk, getD_set_ne false (Ne.symm hk)]

theorem same_looks (hok : regOk ops = true) {listed : Array Bool} {a : Act} {w : World} (hI : InvR ops aF WI listed a w) {i : Nat} {o : Oper} (hi : ops[i]? = some o)
    (hdeps : ∀ e ∈ o.after, Region.binds .any e = true → Lof listed e.on = true) : ∀ d ∈ o.looksAt ops, a.tmps[d]? = aF.tmps[d]? := by
  intro d hd
  rcases hI.tmps d with h | ⟨k, ok, hk, hdst, hun⟩
  · exact h
  · obtain ⟨e, he, hb, rfl⟩ := (regOk_spec hok hi).2.2 d hd k ok hk hdst
    rw [hdeps e he hb] at hun
    cases hun

theorem put_tmps {dst : Option Tmp} {v : Value} (h : aF.put dst v = aF) {d : Tmp} (hd : dst = some d) : ∀ {a : Act}, a.tmps.size = aF.tmps.size → (a.put dst v).tmps[d]? = aF.tmps[d]? := by
  intro a hs
  subst hd
  have h1 : (aF.put (some d) v).tmps[d]? = aF.tmps[d]? := by rw [h]
  rw [← h1]
  simp only [Act.put]
  by_cases hlt : d < aF.tmps.size
  · simp [hlt, hs]
  · simp [Array.getElem?_eq_none (Nat.le_of_not_lt hlt), hs, hlt]

theorem inv_put {listed : Array Bool} {a : Act} {w w' : World} (hI : InvR ops aF WI listed a w) {i : Nat} {o : Oper} (hi : ops[i]? = some o)
    (hdeps : ∀ e ∈ o.after, Region.binds .any e = true → Lof listed e.on = true) {v : Value} (hp : aF.put o.dst v = aF) (hw : WI (upd (Lof listed) i) w') :
    InvR ops aF WI (listed.setIfInBounds i true) (a.put o.dst v) w' := by
  have hlt : i < listed.size := by rw [hI.size]; exact (Array.getElem?_eq_some_iff.1 hi).1
  have hts : (a.put o.dst v).tmps.size = a.tmps.size := by
    unfold Act.put
    cases o.dst <;> simp
  refine ⟨by simpa using hI.size, ?_, hts.trans hI.tsize, fun d => ?_, ?_, ?_⟩
  · rw [← hI.defers]
    unfold Act.put
    cases o.dst <;> rfl
  · by_cases hd : o.dst = some d
    · exact .inl (put_tmps hp hd hI.tsize)
    · have hne : (a.put o.dst v).tmps[d]? = a.tmps[d]? := by
        unfold Act.put
        cases hod : o.dst with
        | none => rfl
        | some e =>
          have : e ≠ d := fun he => hd (by rw [hod, he])
          simp [Array.getElem?_setIfInBounds_ne this]
      rw [hne]
      rcases hI.tmps d with h | ⟨k, ok, hk, hdst, hun⟩
      · exact .inl h
      · refine .inr ⟨k, ok, hk, hdst, ?_⟩
        rw [Lof_set hlt]
        unfold upd
        rw [if_neg]
        · exact hun
        · intro hki
          subst hki
          rw [hi] at hk
          injection hk with hk
          subst hk
          exact hd hdst
  · rw [Lof_set hlt]
    intro k ok hk hL e he hb
    unfold upd at hL ⊢
    by_cases h1 : e.on = i
    · rw [if_pos h1]
    · rw [if_neg h1]
      by_cases h2 : k = i
      · subst h2
        rw [hi] at hk
        injection hk with hk
        subst hk
        exact hdeps e he hb
      · rw [if_neg h2] at hL
        exact hI.closed k ok hk hL e he hb
  · rw [Lof_set hlt]; exact hw

theorem count_set : ∀ {l : List Bool} {i : Nat} (h : i < l.length), l[i] = false → (l.set i true).countP (fun b => !b) + 1 = l.countP (fun b => !b)
  | [], _, h, _ => by simp at h
  | b :: l, 0, _, hf => by simp at hf; subst hf; simp
  | b :: l, i + 1, h, hf => by
    simp only [List.length_cons, Nat.add_lt_add_iff_right] at h
    simp only [List.getElem_cons_succ] at hf
    have := count_set h hf
    simp only [List.set_cons_succ, List.countP_cons]
    omega
theorem wpAny_inv (hok : regOk ops = true)
    (step : ∀ (i : Nat) (o : Oper), ops[i]? = some o → ∀ (L : Nat → Bool) (w : World), ClosedL ops L → L i = false → (∀ e ∈ o.after, Region.binds .any e = true → L e.on = true) → WI L w →
      Region.wanted o (yielded ops aF.tmps) = true ∧ upTo o aF (WI (upd L i)) ((execOp aF.eval o).run P w))
    (fin : ∀ (L : Nat → Bool) (w : World), (∀ k, k < ops.size → L k = true) → WI L w → Q .normal aF w) :
    ∀ (fuel : Nat) (listed : Array Bool) (a : Act) (w : World), (listed.toList.countP (fun b => !b)) ≤ fuel → InvR ops aF WI listed a w → wpAny P .any ops Q fuel listed a w := by
  have done : ∀ (listed : Array Bool) (a : Act) (w : World), InvR ops aF WI listed a w → Region.ready .any ops listed = [] → Q .normal a w := by
    intro listed a w hI hr
    have hall : ∀ n k, k < n → k < ops.size → Lof listed k = true := by
      intro n
      induction n with
      | zero => intro k h; omega
      | succ n ih =>
        intro k hk hlt
        cases hL : Lof listed k with
        | true => rfl
        | false =>
          exfalso
          have ho : ops[k]? = some ops[k] := Array.getElem?_eq_getElem hlt
          have hmem : k ∈ Region.ready .any ops listed := by
            rw [mem_ready]
            refine ⟨?_, _, ho, fun e he hb => ?_⟩
            · have hlt' : k < listed.size := by rw [hI.size]; exact hlt
              simpa [Lof, hlt'] using hL
            · have h1 := (regOk_spec hok ho).1 e he hb
              exact ih e.on (by omega) (by omega)
          rw [hr] at hmem
          cases hmem
    have ha : a = aF := by
      have ht : a.tmps = aF.tmps := by
        apply Array.ext_getElem?
        intro d
        rcases hI.tmps d with h | ⟨k, o, hk, _, hun⟩
        · exact h
        · have := hall ops.size k (Array.getElem?_eq_some_iff.1 hk).1 (Array.getElem?_eq_some_iff.1 hk).1
          rw [this] at hun
          cases hun
      obtain ⟨t, d⟩ := a
      obtain ⟨tF, dF⟩ := aF
      have := hI.defers
      simp only at ht this
      rw [ht, this]
    rw [ha]
    exact fin _ w (fun k hk => hall ops.size k hk hk) hI.world
  have one : ∀ (listed : Array Bool) (a : Act) (w : World), InvR ops aF WI listed a w → ∀ i ∈ Region.ready .any ops listed, wpOp P ops Q i (InvR ops aF WI (listed.setIfInBounds i true)) a w := by
    intro listed a w hI i hi
    obtain ⟨hun, o, ho, hdeps⟩ := mem_ready.1 hi
    have hlt : i < listed.size := by rw [hI.size]; exact (Array.getElem?_eq_some_iff.1 ho).1
    have hun' : Lof listed i = false := by simpa [Lof, hlt] using hun
    have hdeps' : ∀ e ∈ o.after, Region.binds .any e = true → Lof listed e.on = true := hdeps
    obtain ⟨hw, hu⟩ := step i o ho (Lof listed) w hI.closed hun' hdeps' hI.world
    have hsame := same_looks hok hI ho hdeps'
    have hev : execOp a.eval o = execOp aF.eval o := by
      refine execOp_congr o (regOk_spec hok ho).2.1 fun x hx => ?_
      cases x with
      | tmp t =>
        have hm : t ∈ o.looksAt ops := List.mem_append_left _ (List.mem_filterMap.2 ⟨.tmp t, by simpa using hx, rfl⟩)
        have := hsame t hm
        simp only [Act.eval, Array.getD_eq_getD_getElem?, this]
      | _ => rfl
    have hwt : Region.wanted o (yielded ops a.tmps) = true := by
      rw [← hw]
      unfold Region.wanted
      cases hg : o.guard with
      | none => rfl
      | some gw =>
        obtain ⟨g, want⟩ := gw
        have hy : yielded ops a.tmps g = yielded ops aF.tmps g := by
          unfold yielded
          cases ht : (ops[g]?).bind (·.dst) with
          | none => rfl
          | some t =>
            have hm : t ∈ o.looksAt ops := List.mem_append_right _ (by simp [hg, ht])
            simp [hsame t hm]
        simp only [hy]
    unfold wpOp
    simp only [ho, hwt, if_true]
    left
    unfold Oper.wp
    rw [hev]
    generalize (execOp aF.eval o).run P w = r at *
    cases r with
    | ok n w' =>
      cases n <;> simp only [upTo] at hu <;> simp only [Oper.upon]
      all_goals first | exact inv_put hI ho hdeps' hu.1 hu.2 | exact hu.elim
    | halt x w' => simp only [upTo] at hu
  intro fuel
  induction fuel with
  | zero =>
    intro listed a w hc hI
    have hr : Region.ready .any ops listed = [] := by
      rw [List.eq_nil_iff_forall_not_mem]
      intro i hi
      obtain ⟨hun, o, ho, _⟩ := mem_ready.1 hi
      have hlt : i < listed.size := by rw [hI.size]; exact (Array.getElem?_eq_some_iff.1 ho).1
      have h0 : listed.toList.countP (fun b => !b) = 0 := by omega
      rw [List.countP_eq_zero] at h0
      have := h0 listed[i] (by simp)
      simp [hlt] at hun
      simp [hun] at this
    exact ⟨hr, done listed a w hI hr⟩
  | succ fuel ih =>
    intro listed a w hc hI
    refine ⟨fun hr => done listed a w hI hr, fun i hi => wpOp_mono (fun a' w' h => ih _ a' w' ?_ h) (one listed a w hI i hi)⟩
    obtain ⟨hun, o, ho, _⟩ := mem_ready.1 hi
    have hlt : i < listed.size := by rw [hI.size]; exact (Array.getElem?_eq_some_iff.1 ho).1
    have hfalse : listed[i] = false := by simpa [hlt] using hun
    have := count_set (l := listed.toList) (i := i) (by simpa using hlt) (by simpa using hfalse)
    simp only [Array.toList_setIfInBounds]
    omega

theorem Lof_none (n k : Nat) : Lof (Array.replicate n false) k = false := by
  unfold Lof
  simp [Array.getElem?_replicate]
  split <;> rfl
/-- THE LAW. -/
theorem region_inv {id : Nat} {w : World} (aF : Act) (WI : (Nat → Bool) → World → Prop) (hm : P.follows .mixedOrders = true) (hok : regOk ops = true)
    (hd : a0.defers = aF.defers) (hs : a0.tmps.size = aF.tmps.size) (ht : ∀ d : Nat, a0.tmps[d]? = aF.tmps[d]? ∨ ∃ (k : Nat) (o : Oper), ops[k]? = some o ∧ o.dst = some d)
    (start : WI (fun _ => false) w.drew)
    (step : ∀ (i : Nat) (o : Oper), ops[i]? = some o → ∀ (L : Nat → Bool) (w : World), ClosedL ops L → L i = false → (∀ e ∈ o.after, Region.binds .any e = true → L e.on = true) → WI L w →
      Region.wanted o (yielded ops aF.tmps) = true ∧ upTo o aF (WI (upd L i)) ((execOp aF.eval o).run P w))
    (fin : ∀ (L : Nat → Bool) (w : World), (∀ k, k < ops.size → L k = true) → WI L w → Q .normal aF w) : (Code.region id ops true).wp P Q a0 w := by
  refine wp_region_any hm (wpAny_inv hok step fin _ _ _ _ ?_ ⟨by simp, hd, hs, fun d => (ht d).imp (fun h => h) fun ⟨k, o, hk, hdst⟩ => ⟨k, o, hk, hdst, Lof_none _ k⟩, fun k o hk hL => ?_, ?_⟩)
  · simpa using List.countP_le_length (p := fun b => !b) (l := (Array.replicate ops.size false).toList)
  · rw [Lof_none] at hL
    cases hL
  · have : Lof (Array.replicate ops.size false) = fun _ => false := funext (Lof_none _)
    rw [this]
    exact start

/-- Values put into slots, one behind the other. -/
def putL (a : Act) : List (Nat × Value) → Act
  | [] => a
  | p :: l => putL (a.put (some p.1) p.2) l
def AllOps (p : Nat → Oper → Prop) : Nat → List Oper → Prop
  | _, [] => True
  | n, o :: l => p n o ∧ AllOps p (n + 1) l
theorem AllOps.get {p : Nat → Oper → Prop} : ∀ {l : List Oper} {n i : Nat} {o : Oper}, AllOps p n l → l[i]? = some o → p (n + i) o
  | [], _, _, _, _, h => by simp at h
  | x :: l, n, 0, o, h, e => by simp at e; subst e; exact h.1
  | x :: l, n, i + 1, o, h, e => by
    have := AllOps.get h.2 (by simpa using e)
    rwa [show n + 1 + i = n + (i + 1) from by omega] at this
theorem putL_defers : ∀ (l : List (Nat × Value)) (a : Act), (putL a l).defers = a.defers
  | [], _ => rfl
  | p :: l, a => putL_defers l _
theorem putL_size : ∀ (l : List (Nat × Value)) (a : Act), (putL a l).tmps.size = a.tmps.size
  | [], _ => rfl
  | p :: l, a => (putL_size l _).trans (by simp [Act.put])
theorem putL_tmps : ∀ (l : List (Nat × Value)) (a : Act) (d : Nat), (∀ p, p ∈ l → p.1 ≠ d) → (putL a l).tmps[d]? = a.tmps[d]?
  | [], _, _, _ => rfl
  | p :: l, a, d, h => (putL_tmps l _ d fun q hq => h q (List.mem_cons_of_mem _ hq)).trans (by
      have := h p List.mem_cons_self
      simp [Act.put, Array.getElem?_setIfInBounds_ne this])

/-- THE LAW AS IT IS USED: what the slots hold in the end is a list; the steps, one for each operation. -/
theorem region_steps {id : Nat} {w : World} (l : List (Nat × Value)) (WI : (Nat → Bool) → World → Prop) (hm : P.follows .mixedOrders = true) (hok : regOk ops = true)
    (hl : (l.all fun p => ops.any fun o => o.dst == some p.1) = true) (start : WI (fun _ => false) w.drew)
    (rest : ∀ aF, aF = putL a0 l → AllOps (fun i o => ∀ (L : Nat → Bool) (w : World), ClosedL ops L → L i = false → (∀ e ∈ o.after, Region.binds .any e = true → L e.on = true) → WI L w →
      Region.wanted o (yielded ops aF.tmps) = true ∧ upTo o aF (WI (upd L i)) ((execOp aF.eval o).run P w)) 0 ops.toList ∧
      ∀ (L : Nat → Bool) (w : World), (∀ k, k < ops.size → L k = true) → WI L w → Q .normal aF w) : (Code.region id ops true).wp P Q a0 w := by
  obtain ⟨h1, h2⟩ := rest _ rfl
  refine region_inv (putL a0 l) WI hm hok (putL_defers _ _).symm (putL_size _ _).symm (fun d => ?_) start (fun i o hi => ?_) h2
  · by_cases hd : ∃ p, p ∈ l ∧ p.1 = d
    · obtain ⟨p, hp, rfl⟩ := hd
      right
      rw [List.all_eq_true] at hl
      obtain ⟨k, hk, he⟩ := Array.any_eq_true.1 (hl p hp)
      exact ⟨k, ops[k], Array.getElem?_eq_getElem hk, by simpa using he⟩
    · exact .inl (putL_tmps l a0 d fun p hp he => hd ⟨p, hp, he⟩).symm
  · have := AllOps.get h1 (i := i) (o := o) (by simpa using hi)
    rwa [Nat.zero_add] at this
/-- What waits has not come up before what it waits for. -/
theorem ClosedL.not {L : Nat → Bool} (h : ClosedL ops L) {k i : Nat} {o : Oper} (hk : ops[k]? = some o) (hb : (o.after.any fun e => Region.binds .any e && e.on == i) = true) (hi : L i = false) : L k = false := by
  cases hL : L k with
  | false => rfl
  | true =>
    obtain ⟨e, he, h1⟩ := Array.any_eq_true'.1 hb
    simp only [Bool.and_eq_true, beq_iff_eq] at h1
    have := h k o hk hL e he h1.1
    rw [h1.2, hi] at this
    cases this
end
end Go.Proofs.YtmcbjaefnhfopaaGreat

/- Right stacks, as plain mathematics: their rows. -/
import Derived.Test.YtdlglnkhhbkndaaStkG
namespace Go.Proofs.Ytdlglnkhhbkndaa
open Go.RowKit
set_option linter.unusedSimpArgs false
set_option linter.unusedVariables false

def noMat : Mat := ⟨ByteArray.empty, 0, 0, 0⟩
def rowOf (m : List Mat) (y : Lay) : Row := (y.name, (matOf m y.mat).getD noMat)
/-- Rows that were laid one behind the other. -/
structure GoodR (R : List Row) : Prop where
  w : ∀ r ∈ R, isCu r = true → wordB r.1 = true
  e : ∀ r ∈ R, isCu r = false → r.1 = ByteArray.empty
  d : R.Pairwise (fun q r => isCu q = true → isCu r = true → q.1 ≠ r.1)
  m : ∀ i q r, R[i]? = some q → R[i + 1]? = some r → meetB q.2.kind r.2.kind = true
theorem GoodR.nil : GoodR [] := ⟨fun r h => by (cases h), fun r h => by (cases h), .nil, fun i q r h => by simp at h⟩
theorem rowF_zero {R : List Row} {r : Row} (h : rowF R r = 0) : (isCu r = true → wordB r.1 = true ∧ ∀ q ∈ R, isCu q = true → q.1 ≠ r.1) ∧ (isCu r = false → r.1 = ByteArray.empty) ∧ ∀ q, R.getLast? = some q → meetB q.2.kind r.2.kind = true := by
  unfold rowF at h
  split at h
  · cases h
  · split at h
    · cases h
    · split at h
      · rename_i h1 h2 h3
        refine ⟨fun hc => ⟨?_, fun q hq hcq e => ?_⟩, fun hc => ?_, fun q hq => ?_⟩
        · simp [hc] at h1
          exact h1
        · apply h2
          rw [hc, Bool.true_and, List.any_eq_true]
          exact ⟨q, hq, by simp [hcq, e]⟩
        · simp [hc] at h1
          exact h1
        · rw [hq] at h3
          exact h3
      · cases h
theorem GoodR.snoc {R : List Row} (h : GoodR R) {r : Row} (hf : rowF R r = 0) : GoodR (R ++ [r]) := by
  obtain ⟨h1, h2, h3⟩ := rowF_zero hf
  refine ⟨fun q hq hc => ?_, fun q hq hc => ?_, ?_, fun i q r' hi hi' => ?_⟩
  · rcases List.mem_append.1 hq with hq | hq
    · exact h.w q hq hc
    · rw [List.mem_singleton.1 hq] at hc ⊢
      exact (h1 hc).1
  · rcases List.mem_append.1 hq with hq | hq
    · exact h.e q hq hc
    · rw [List.mem_singleton.1 hq] at hc ⊢
      exact h2 hc
  · refine List.pairwise_append.2 ⟨h.d, List.pairwise_singleton _ _, fun q hq r' hr' hcq hcr => ?_⟩
    rw [List.mem_singleton.1 hr'] at hcr ⊢
    exact (h1 hcr).2 q hq hcq
  · rcases Nat.lt_trichotomy (i + 1) R.length with hlt | heq | hgt
    · rw [List.getElem?_append_left (by omega)] at hi
      rw [List.getElem?_append_left hlt] at hi'
      exact h.m i q r' hi hi'
    · rw [List.getElem?_append_left (by omega)] at hi
      rw [List.getElem?_append_right (by omega), show i + 1 - R.length = 0 by omega] at hi'
      simp at hi'
      subst hi'
      refine h3 q ?_
      rw [List.getLast?_eq_getElem?, show R.length - 1 = i by omega]
      exact hi
    · rw [List.getElem?_eq_none (by simp; omega)] at hi'
      cases hi'
theorem rowsGo_all {m : List Mat} : ∀ (s : List Lay) (R : List Row), GoodR R → (rowsGo m R s).1 = 0 → (rowsGo m R s).2 = R ++ s.map (rowOf m) ∧ (∀ y ∈ s, (matOf m y.mat).isSome = true) ∧ GoodR (rowsGo m R s).2
  | [], R, hg, h => ⟨by simp [rowsGo], fun y hy => by (cases hy), hg⟩
  | y :: s, R, hg, h => by
    cases hx : matOf m y.mat with
    | none => rw [rowsGo_none hx] at h; cases h
    | some x =>
      by_cases hf : rowF R (y.name, x) = 0
      · rw [rowsGo_go hx hf] at h ⊢
        obtain ⟨i1, i2, i3⟩ := rowsGo_all s _ (hg.snoc hf) h
        refine ⟨?_, fun z hz => ?_, i3⟩
        · rw [i1]
          simp [rowOf, hx]
        · rcases List.mem_cons.1 hz with rfl | hz
          · rw [hx]; rfl
          · exact i2 z hz
      · rw [rowsGo_bad hx hf] at h
        exact absurd h hf
theorem stackF_go {m : List Mat} {s : List Lay} (h : stackF m s = 0) : matsF m = 0 ∧ s.length ≤ 60 ∧ (rowsGo m [] s).1 = 0 ∧ formB (rowsOf m s) = true := by
  unfold stackF at h
  split at h
  · split at h
    · cases h
    · split at h
      · split at h
        · exact ⟨by assumption, by omega, by assumption, by assumption⟩
        · cases h
      · rename_i h1
        exact absurd h h1
  · rename_i h1
    exact absurd h h1
theorem rows_eq {m : List Mat} {s : List Lay} (h : stackF m s = 0) : rowsOf m s = s.map (rowOf m) := by
  have := (rowsGo_all (m := m) s [] GoodR.nil (stackF_go h).2.2.1).1
  rwa [List.nil_append] at this
theorem rows_found {m : List Mat} {s : List Lay} (h : stackF m s = 0) : ∀ y ∈ s, (matOf m y.mat).isSome = true := (rowsGo_all (m := m) s [] GoodR.nil (stackF_go h).2.2.1).2.1
theorem rows_good {m : List Mat} {s : List Lay} (h : stackF m s = 0) : GoodR (rowsOf m s) := (rowsGo_all (m := m) s [] GoodR.nil (stackF_go h).2.2.1).2.2
theorem mats_sorted {m : List Mat} (h : matsF m = 0) : m.Pairwise (fun x y => ltS x.name y.name = true) := by
  refine (matsGo_zero m [] ?_).2.1
  unfold matsF at h
  split at h
  · cases h
  · exact h
/-- Whether the first layer of the name a stands above that of b. -/
def upB (a b : ByteArray) : List Lay → Bool
  | [] => false
  | y :: s => if y.name = a then true else if y.name = b then false else upB a b s
def hitB (s : List Lay) (a b : ByteArray) (y : Lay) (x : Mat) : Bool := decide (x.name = y.mat) && ((decide (y.name = a) && decide (x.kind = 1) && upB a b s) || (decide (y.name = b) && decide (x.kind = 1) && upB b a s))
def innF (s : List Lay) (a b : ByteArray) (y : Lay) : Int → List Mat → Int
  | t, [] => t
  | t, x :: m => innF s a b y (if hitB s a b y x then x.thick else t) m
def outF (s : List Lay) (a b : ByteArray) (m : List Mat) : Int → List Lay → Int
  | t, [] => t
  | t, y :: l => outF s a b m (innF s a b y t m) l
theorem innF_none {s : List Lay} {a b : ByteArray} {y : Lay} : ∀ (m : List Mat) (t : Int), (∀ x ∈ m, hitB s a b y x = false) → innF s a b y t m = t
  | [], t, _ => rfl
  | x :: m, t, h => by
    rw [innF, h x (.head _)]
    exact innF_none m t fun z hz => h z (.tail _ hz)
theorem innF_one {s : List Lay} {a b : ByteArray} {y : Lay} {x : Mat} : ∀ (m : List Mat) (t : Int), m.Pairwise (fun x y => ltS x.name y.name = true) → matOf m y.mat = some x → (∀ z ∈ m, hitB s a b y z = decide (z.name = y.mat) ∨ z.name ≠ y.mat) → (hitB s a b y x = true) → innF s a b y t m = x.thick
  | [], t, _, h, _, _ => by simp [matOf] at h
  | z :: m, t, hp, h, hh, hx => by
    obtain ⟨hp1, hp2⟩ := List.pairwise_cons.1 hp
    by_cases hz : z.name = y.mat
    · have e : z = x := by
        unfold matOf at h
        rw [List.find?_cons, decide_eq_true hz] at h
        exact Option.some.inj h
      subst e
      rw [innF, hx, if_pos rfl]
      refine innF_none m _ fun u hu => ?_
      have hne : u.name ≠ y.mat := fun e => ltS_ne (hp1 u hu) (hz.trans e.symm)
      simp [hitB, hne]
    · have hf : hitB s a b y z = false := by simp [hitB, hz]
      rw [innF, hf]
      refine innF_one m t hp2 ?_ (fun u hu => hh u (.tail _ hu)) hx
      unfold matOf at h ⊢
      rwa [List.find?_cons, decide_eq_false hz] at h
theorem outF_none {s : List Lay} {a b : ByteArray} {m : List Mat} : ∀ (l : List Lay) (t : Int), (∀ y ∈ l, ∀ x ∈ m, hitB s a b y x = false) → outF s a b m t l = t
  | [], t, _ => rfl
  | y :: l, t, h => by
    rw [outF, innF_none m t (h y (.head _))]
    exact outF_none l t fun z hz => h z (.tail _ hz)
theorem outF_append (s : List Lay) (a b : ByteArray) (m : List Mat) : ∀ (l l' : List Lay) (t : Int), outF s a b m t (l ++ l') = outF s a b m (outF s a b m t l) l'
  | [], l', t => rfl
  | y :: l, l', t => by rw [List.cons_append, outF, outF, outF_append s a b m l l']
theorem upB_pre {a b : ByteArray} : ∀ (l l' : List Lay), (∀ y ∈ l, y.name ≠ a ∧ y.name ≠ b) → upB a b (l ++ l') = upB a b l'
  | [], l', _ => rfl
  | y :: l, l', h => by
    rw [List.cons_append, upB, if_neg (h y (.head _)).1, if_neg (h y (.head _)).2]
    exact upB_pre l l' fun z hz => h z (.tail _ hz)
/-- The layers of a right stack that have the name of a copper. -/
theorem place_only {m : List Mat} {s : List Lay} (h : stackF m s = 0) {a : ByteArray} {i : Nat} (hi : placeOf (rowsOf m s) a = some i) : ∃ y x, s[i]? = some y ∧ y.name = a ∧ matOf m y.mat = some x ∧ x.kind = 1 ∧ (rowsOf m s)[i]? = some (a, x) ∧ ∀ k z, s[k]? = some z → z.name = a → k = i := by
  have he := rows_eq h
  have hg := rows_good h
  obtain ⟨hlt, hp, hnot⟩ := List.findIdx?_eq_some_iff_getElem.1 hi
  have hs : i < s.length := by rw [he] at hlt; simpa using hlt
  have hrow : (rowsOf m s)[i] = rowOf m s[i] := by
    have : (rowsOf m s)[i]? = some (rowOf m s[i]) := by rw [he, List.getElem?_map, List.getElem?_eq_getElem hs]; rfl
    rw [List.getElem?_eq_getElem hlt] at this
    exact Option.some.inj this
  rw [hrow] at hp
  obtain ⟨x, hx⟩ := Option.isSome_iff_exists.1 (rows_found h s[i] (List.getElem_mem hs))
  have hro : rowOf m s[i] = (s[i].name, x) := by simp [rowOf, hx]
  rw [hro] at hp
  simp only [Bool.and_eq_true, decide_eq_true_eq] at hp
  obtain ⟨hcu, hna⟩ := hp
  have hk : x.kind = 1 := by simpa [isCu] using hcu
  refine ⟨s[i], x, List.getElem?_eq_getElem hs, hna, hx, hk, by rw [List.getElem?_eq_getElem hlt, hrow, hro, hna], fun k z hkz hzn => ?_⟩
  have hks := (List.getElem?_eq_some_iff.1 hkz).1
  obtain ⟨x', hx'⟩ := Option.isSome_iff_exists.1 (rows_found h z (List.mem_of_getElem? hkz))
  have hro' : rowOf m z = (z.name, x') := by simp [rowOf, hx']
  have hrk : (rowsOf m s)[k]? = some (z.name, x') := by rw [he, List.getElem?_map, hkz]; exact congrArg some hro'
  have hri : (rowsOf m s)[i]? = some (s[i].name, x) := by rw [List.getElem?_eq_getElem hlt, hrow, hro]
  have hword : wordB s[i].name = true := hg.w _ (List.mem_of_getElem? hri) hcu
  have hck : isCu (z.name, x') = true := by
    cases hc : isCu (z.name, x')
    · have := hg.e _ (List.mem_of_getElem? hrk) hc
      simp only at this
      rw [hna, ← hzn, this] at hword
      cases hword
    · rfl
  rcases Nat.lt_trichotomy k i with hlt' | heq | hgt
  · obtain ⟨ek, rk⟩ := List.getElem?_eq_some_iff.1 hrk
    obtain ⟨ei, ri⟩ := List.getElem?_eq_some_iff.1 hri
    have := List.pairwise_iff_getElem.1 hg.d k i ek ei hlt'
    rw [rk, ri] at this
    exact absurd (hzn.trans hna.symm) (this hck hcu)
  · exact heq
  · obtain ⟨ek, rk⟩ := List.getElem?_eq_some_iff.1 hrk
    obtain ⟨ei, ri⟩ := List.getElem?_eq_some_iff.1 hri
    have := List.pairwise_iff_getElem.1 hg.d i k ei ek hgt
    rw [rk, ri] at this
    exact absurd (hna.trans hzn.symm) (this hcu hck)
theorem up_of_places {m : List Mat} {s : List Lay} (h : stackF m s = 0) {a b : ByteArray} {i j : Nat} (hi : placeOf (rowsOf m s) a = some i) (hj : placeOf (rowsOf m s) b = some j) (hlt : i < j) : upB a b s = true ∧ upB b a s = false := by
  obtain ⟨y, x, h1, h2, _, _, _, h5⟩ := place_only h hi
  obtain ⟨z, x', g1, g2, _, _, _, g5⟩ := place_only h hj
  have hs : s = s.take i ++ y :: s.drop (i + 1) := by
    have hil := (List.getElem?_eq_some_iff.1 h1).1
    rw [← (List.getElem?_eq_some_iff.1 h1).2, ← List.drop_eq_getElem_cons hil, List.take_append_drop]
  have hpre : ∀ u ∈ s.take i, u.name ≠ a ∧ u.name ≠ b := by
    intro u hu
    obtain ⟨k, hk, rfl⟩ := List.mem_take_iff_getElem.1 hu
    have hks : k < s.length := by omega
    refine ⟨fun e => ?_, fun e => ?_⟩
    · have := h5 k _ (List.getElem?_eq_getElem hks) e
      omega
    · have := g5 k _ (List.getElem?_eq_getElem hks) e
      omega
  have hab : a ≠ b := by
    intro e
    subst e
    rw [hi] at hj
    cases hj
    omega
  constructor
  · rw [hs, upB_pre _ _ hpre, upB, if_pos h2]
  · rw [hs, upB_pre _ _ (fun u hu => ⟨(hpre u hu).2, (hpre u hu).1⟩), upB, if_neg (by rw [h2]; exact hab), if_pos h2]
theorem outF_val {m : List Mat} {s : List Lay} (h : stackF m s = 0) {a b : ByteArray} {i j : Nat} (hi : placeOf (rowsOf m s) a = some i) (hj : placeOf (rowsOf m s) b = some j) (hne : i ≠ j) :
    ∃ x, (rowsOf m s)[min i j]? = some x ∧ outF s a b m 0 s = x.2.thick := by
  have hm := mats_sorted (stackF_go h).1
  -- the upper one
  have key : ∀ (a b : ByteArray) (i j : Nat), placeOf (rowsOf m s) a = some i → placeOf (rowsOf m s) b = some j → i < j → ∃ x, (rowsOf m s)[i]? = some x ∧ outF s a b m 0 s = x.2.thick ∧ outF s b a m 0 s = x.2.thick := by
    intro a b i j hi hj hlt
    obtain ⟨y, x, h1, h2, h3, h4, h6, h5⟩ := place_only h hi
    obtain ⟨z, x', g1, g2, _, _, _, g5⟩ := place_only h hj
    obtain ⟨u1, u2⟩ := up_of_places h hi hj hlt
    have hab : a ≠ b := by
      intro e
      subst e
      rw [hi] at hj
      cases hj
      omega
    have hs : s = s.take i ++ y :: s.drop (i + 1) := by
      have hil := (List.getElem?_eq_some_iff.1 h1).1
      rw [← (List.getElem?_eq_some_iff.1 h1).2, ← List.drop_eq_getElem_cons hil, List.take_append_drop]
    have hother : ∀ k z, s[k]? = some z → k ≠ i → ∀ x ∈ m, hitB s a b z x = false ∧ hitB s b a z x = false := by
      intro k z hk hki x hx
      have hza : z.name ≠ a := fun e => hki (h5 k z hk e)
      constructor <;> simp [hitB, hza, u2]
    have hyes : ∀ w ∈ m, (hitB s a b y w = decide (w.name = y.mat) ∨ w.name ≠ y.mat) ∧ (hitB s b a y w = decide (w.name = y.mat) ∨ w.name ≠ y.mat) := by
      intro w hw
      by_cases hwn : w.name = y.mat
      · have hwx : w = x := by
          have hmo : matOf m w.name = some w := by
            unfold matOf
            cases hf : m.find? fun q => decide (q.name = w.name) with
            | none =>
              rw [List.find?_eq_none] at hf
              simpa using hf w hw
            | some q =>
              have hqn : q.name = w.name := by simpa using List.find?_some hf
              have hqm := List.mem_of_find?_eq_some hf
              obtain ⟨iq, eq, rfl⟩ := List.getElem_of_mem hqm
              obtain ⟨iw, ew, rfl⟩ := List.getElem_of_mem hw
              rcases Nat.lt_trichotomy iq iw with hl | hl | hl
              · exact absurd hqn (ltS_ne (List.pairwise_iff_getElem.1 hm iq iw eq ew hl))
              · subst hl; rfl
              · exact absurd hqn.symm (ltS_ne (List.pairwise_iff_getElem.1 hm iw iq ew eq hl))
          rw [hwn, h3] at hmo
          exact (Option.some.inj hmo).symm
        subst hwx
        exact ⟨.inl (by simp [hitB, hwn, h2, h4, u1]), .inl (by simp [hitB, hwn, h2, h4, u1])⟩
      · exact ⟨.inr hwn, .inr hwn⟩
    have hx1 : hitB s a b y x = true ∧ hitB s b a y x = true := by
      have := matOf_name h3
      constructor <;> simp [hitB, this, h2, h4, u1]
    have idx : ∀ k z, (s.take i)[k]? = some z → s[k]? = some z ∧ k ≠ i := fun k z hk => by
      have hki : k < i := by
        have := (List.getElem?_eq_some_iff.1 hk).1
        rw [List.length_take] at this
        omega
      rw [List.getElem?_take_of_lt hki] at hk
      exact ⟨hk, by omega⟩
    have idx2 : ∀ k z, (s.drop (i + 1))[k]? = some z → s[i + 1 + k]? = some z := fun k z hk => by rwa [List.getElem?_drop] at hk
    refine ⟨(a, x), h6, ?_, ?_⟩
    · have e1 : outF s a b m 0 (s.take i) = 0 := outF_none _ _ fun z hz w hw => by
        obtain ⟨k, hk⟩ := List.getElem?_of_mem hz
        obtain ⟨q1, q2⟩ := idx k z hk
        exact (hother k z q1 q2 w hw).1
      have e2 : ∀ t, outF s a b m t (s.drop (i + 1)) = t := fun t => outF_none _ _ fun z hz w hw => by
        obtain ⟨k, hk⟩ := List.getElem?_of_mem hz
        exact (hother _ z (idx2 k z hk) (by omega) w hw).1
      have e3 := innF_one (s := s) (a := a) (b := b) m 0 hm h3 (fun w hw => (hyes w hw).1) hx1.1
      have : outF s a b m 0 (s.take i ++ y :: s.drop (i + 1)) = x.thick := by rw [outF_append, e1, outF, e3, e2]
      rwa [← hs] at this
    · have e1 : outF s b a m 0 (s.take i) = 0 := outF_none _ _ fun z hz w hw => by
        obtain ⟨k, hk⟩ := List.getElem?_of_mem hz
        obtain ⟨q1, q2⟩ := idx k z hk
        exact (hother k z q1 q2 w hw).2
      have e2 : ∀ t, outF s b a m t (s.drop (i + 1)) = t := fun t => outF_none _ _ fun z hz w hw => by
        obtain ⟨k, hk⟩ := List.getElem?_of_mem hz
        exact (hother _ z (idx2 k z hk) (by omega) w hw).2
      have e3 := innF_one (s := s) (a := b) (b := a) m 0 hm h3 (fun w hw => (hyes w hw).2) hx1.2
      have : outF s b a m 0 (s.take i ++ y :: s.drop (i + 1)) = x.thick := by rw [outF_append, e1, outF, e3, e2]
      rwa [← hs] at this
  rcases Nat.lt_or_gt_of_ne hne with hlt | hgt
  · obtain ⟨x, h1, h2, _⟩ := key a b i j hi hj hlt
    exact ⟨x, by rw [Nat.min_eq_left (by omega)]; exact h1, h2⟩
  · obtain ⟨x, h1, _, h2⟩ := key b a j i hj hi hgt
    exact ⟨x, by rw [Nat.min_eq_right (by omega)]; exact h1, h2⟩
end Go.Proofs.Ytdlglnkhhbkndaa

/- Several texts in one: RchA, RchW, RchS. -/
import Derived.Test.YtdlglnkhhbkndaaThr
import Derived.Test.YtdlglnkhhbkndaaRep
import Derived.Deep.LoopGhost
import Derived.Test.YtdlglnkhhbkndaaLaid
/- What can be joined with a copper, as the reference looks for it: plain lists. -/
namespace Go.Proofs.Ytdlglnkhhbkndaa
set_option linter.unusedSimpArgs false
set_option linter.unusedVariables false

/-- A span has a copper. -/
def inS (x : Thr) (c : Nat) : Prop := x.a ≤ (c : Int) ∧ (c : Int) ≤ x.b
/-- One copper can be joined with another one. -/
inductive Rel (t : List Thr) (s : Nat) : Nat → Prop
  | self : Rel t s s
  | step {x : Thr} {c d : Nat} : Rel t s c → x ∈ t → inS x c → inS x d → Rel t s d
def atB (E : List Bool) (c : Nat) : Bool := E.getD c false
def hitF (E : List Bool) (a d : Nat) : Bool := (List.range d).any fun i => atB E (a + i)
def allF (E : List Bool) (a d : Nat) : Bool := (List.range d).all fun i => atB E (a + i)
def setR (E : List Bool) (a d : Nat) : List Bool := (List.range E.length).map fun i => atB E i || (decide (a ≤ i) && decide (i < a + d))
theorem hit_step (E : List Bool) (a d : Nat) : hitF E a (d + 1) = (hitF E a d || atB E (a + d)) := by
  unfold hitF
  rw [List.range_succ, List.any_append]
  simp
theorem all_step (E : List Bool) (a d : Nat) : allF E a (d + 1) = (allF E a d && atB E (a + d)) := by
  unfold allF
  rw [List.range_succ, List.all_append]
  simp
theorem setR_len (E : List Bool) (a d : Nat) : (setR E a d).length = E.length := by simp [setR]
theorem at_get {E : List Bool} {c : Nat} (h : c < E.length) : E[c]? = some (atB E c) := by
  unfold atB
  rw [List.getD_eq_getElem?_getD, List.getElem?_eq_getElem h]
  rfl
theorem at_len {E : List Bool} {c : Nat} (h : atB E c = true) : c < E.length := by
  by_cases hc : c < E.length
  · exact hc
  · unfold atB at h
    rw [List.getD_eq_getElem?_getD, List.getElem?_eq_none (by omega)] at h
    simp at h
theorem at_setR (E : List Bool) (a d i : Nat) (h : i < E.length) : atB (setR E a d) i = (atB E i || (decide (a ≤ i) && decide (i < a + d))) := by
  have h1 : (setR E a d)[i]? = some (atB (setR E a d) i) := at_get (by rw [setR_len]; exact h)
  unfold setR at h1
  rw [List.getElem?_map, List.getElem?_range h] at h1
  simp only [Option.map_some, Option.some.injEq] at h1
  unfold setR
  exact h1.symm
theorem ext_at {E E' : List Bool} (hl : E.length = E'.length) (h : ∀ i, i < E.length → atB E i = atB E' i) : E = E' := by
  apply List.ext_getElem?
  intro i
  by_cases hi : i < E.length
  · rw [at_get hi, at_get (by rw [← hl]; exact hi), h i hi]
  · rw [List.getElem?_eq_none (by omega), List.getElem?_eq_none (by omega)]
theorem setR_zero (E : List Bool) (a : Nat) : setR E a 0 = E := by
  refine ext_at (setR_len _ _ _) fun i hi => ?_
  rw [at_setR _ _ _ _ (by rw [setR_len] at hi; exact hi)]
  have : (decide (a ≤ i) && decide (i < a + 0)) = false := by simp <;> omega
  rw [this, Bool.or_false]
theorem setR_step {E : List Bool} {a d : Nat} (h : a + d < E.length) : (setR E a d).set (a + d) true = setR E a (d + 1) := by
  refine ext_at (by rw [List.length_set, setR_len, setR_len]) fun i hi => ?_
  rw [List.length_set, setR_len] at hi
  rw [at_setR _ _ _ _ hi]
  by_cases e : a + d = i
  · subst e
    have h1 : ((setR E a d).set (a + d) true)[a + d]? = some true := by rw [List.getElem?_set, if_pos rfl, if_pos (by rw [setR_len]; exact h)]
    unfold atB
    rw [List.getD_eq_getElem?_getD, h1]
    simp
  · have h1 : ((setR E a d).set (a + d) true)[i]? = (setR E a d)[i]? := by rw [List.getElem?_set, if_neg e]
    have h2 : atB ((setR E a d).set (a + d) true) i = atB (setR E a d) i := by
      unfold atB
      rw [List.getD_eq_getElem?_getD, h1, ← List.getD_eq_getElem?_getD]
    rw [h2, at_setR _ _ _ _ hi]
    have : decide (i < a + d) = decide (i < a + (d + 1)) := by
      rw [decide_eq_decide]
      omega
    rw [this]
theorem hit_true {E : List Bool} {a d : Nat} : hitF E a d = true ↔ ∃ c, a ≤ c ∧ c < a + d ∧ atB E c = true := by
  unfold hitF
  rw [List.any_eq_true]
  refine ⟨fun ⟨i, hi, h⟩ => ⟨a + i, by omega, by rw [List.mem_range] at hi; omega, h⟩, fun ⟨c, h1, h2, h⟩ => ⟨c - a, List.mem_range.2 (by omega), by rw [show a + (c - a) = c by omega]; exact h⟩⟩
theorem all_true {E : List Bool} {a d : Nat} : allF E a d = true ↔ ∀ c, a ≤ c → c < a + d → atB E c = true := by
  unfold allF
  rw [List.all_eq_true]
  refine ⟨fun h c h1 h2 => ?_, fun h i hi => h _ (by omega) (by rw [List.mem_range] at hi; omega)⟩
  have := h (c - a) (List.mem_range.2 (by omega))
  rw [show a + (c - a) = c by omega] at this
  exact this
/-- How many have not been reached. -/
def falses (E : List Bool) : Nat := E.countP fun b => !b
theorem falses_le : ∀ {E E' : List Bool}, E.length = E'.length → (∀ i, atB E i = true → atB E' i = true) → falses E' ≤ falses E
  | [], [], _, _ => Nat.le_refl _
  | [], _ :: _, h, _ => by simp at h
  | _ :: _, [], h, _ => by simp at h
  | a :: E, b :: E', h, hi => by
    have ih := falses_le (E := E) (E' := E') (by simpa using h) (fun i hh => by have := hi (i + 1); simpa [atB] using this (by simpa [atB] using hh))
    have h0 : a = true → b = true := by have := hi 0; simpa [atB] using this
    unfold falses at *
    rw [List.countP_cons, List.countP_cons]
    cases a <;> cases b <;> simp_all <;> omega
theorem falses_lt : ∀ {E E' : List Bool}, E.length = E'.length → (∀ i, atB E i = true → atB E' i = true) → ∀ i, atB E i = false → atB E' i = true → falses E' < falses E
  | [], [], _, _, i, _, h2 => by simp [atB] at h2
  | [], _ :: _, h, _, _, _, _ => by simp at h
  | _ :: _, [], h, _, _, _, _ => by simp at h
  | a :: E, b :: E', h, hi, i, h1, h2 => by
    have hl : E.length = E'.length := by simpa using h
    have hs : ∀ i, atB E i = true → atB E' i = true := fun i hh => by have := hi (i + 1); simpa [atB] using this (by simpa [atB] using hh)
    have h0 : a = true → b = true := by have := hi 0; simpa [atB] using this
    match i, h1, h2 with
    | 0, h1, h2 =>
      have e1 : a = false := by simpa [atB] using h1
      have e2 : b = true := by simpa [atB] using h2
      subst e1 e2
      have ih := falses_le hl hs
      unfold falses at *
      rw [List.countP_cons, List.countP_cons]
      simp
      omega
    | i + 1, h1, h2 =>
      have ih := falses_lt hl hs i (by simpa [atB] using h1) (by simpa [atB] using h2)
      unfold falses at *
      rw [List.countP_cons, List.countP_cons]
      cases a <;> cases b <;> simp_all <;> omega
theorem falses_len (E : List Bool) : falses E ≤ E.length := List.countP_le_length
/-- What has been reached so far can be joined, and the copper itself is. -/
structure RelInv (t : List Thr) (n s : Nat) (E : List Bool) : Prop where
  len : E.length = n + 1
  self : atB E s = true
  rel : ∀ c, atB E c = true → Rel t s c
/-- A span has been looked at: all or none of its coppers are reached. -/
def Shut (E : List Bool) (x : Thr) : Prop := (∃ c, inS x c ∧ atB E c = true) → ∀ d, inS x d → atB E d = true
theorem shut_no {E : List Bool} {x : Thr} {a d : Nat} (ha : x.a = (a : Int)) (hb : x.b + 1 = ((a + d : Nat) : Int)) (h : (hitF E a d && !allF E a d) = false) : Shut E x := by
  rintro ⟨c, ⟨h1, h2⟩, hc⟩ e ⟨h3, h4⟩
  have hh : hitF E a d = true := hit_true.2 ⟨c, by omega, by omega, hc⟩
  rw [hh, Bool.true_and, Bool.not_eq_false'] at h
  exact all_true.1 h e (by omega) (by omega)
theorem set_yes {t : List Thr} {n s : Nat} {E : List Bool} (hi : RelInv t n s E) {x : Thr} {a d : Nat} (hx : x ∈ t) (ha : x.a = (a : Int)) (hb : x.b + 1 = ((a + d : Nat) : Int)) (hn : a + d ≤ n + 1) (h : (hitF E a d && !allF E a d) = true) : RelInv t n s (setR E a d) ∧ falses (setR E a d) < falses E := by
  rw [Bool.and_eq_true, Bool.not_eq_true'] at h
  obtain ⟨c, h1, h2, hc⟩ := hit_true.1 h.1
  have hrc := hi.rel c hc
  have hmono : ∀ i, atB E i = true → atB (setR E a d) i = true := fun i he => by rw [at_setR _ _ _ _ (at_len he), he, Bool.true_or]
  refine ⟨⟨by rw [setR_len]; exact hi.len, hmono _ hi.self, fun e he => ?_⟩, ?_⟩
  · have hel := at_len he
    rw [setR_len] at hel
    rw [at_setR _ _ _ _ hel, Bool.or_eq_true] at he
    rcases he with he | he
    · exact hi.rel e he
    · rw [Bool.and_eq_true, decide_eq_true_eq, decide_eq_true_eq] at he
      exact Rel.step hrc hx ⟨by omega, by omega⟩ ⟨by omega, by omega⟩
  · have hna : ∃ e, a ≤ e ∧ e < a + d ∧ atB E e = false := by
      refine Classical.byContradiction fun hno => ?_
      have : allF E a d = true := all_true.2 fun e h3 h4 => by
        cases hE : atB E e
        · exact absurd ⟨e, h3, h4, hE⟩ hno
        · rfl
      rw [this] at h
      exact absurd h.2 (by decide)
    obtain ⟨e, h3, h4, he⟩ := hna
    exact falses_lt (setR_len _ _ _).symm hmono e he (by rw [at_setR _ _ _ _ (by rw [hi.len]; omega), decide_eq_true h3, decide_eq_true h4]; simp)
theorem rel_end {t : List Thr} {n s : Nat} {E : List Bool} (hi : RelInv t n s E) (hs : ∀ x ∈ t, Shut E x) : ∀ c, atB E c = true ↔ Rel t s c := by
  refine fun c => ⟨hi.rel c, fun h => ?_⟩
  induction h with
  | self => exact hi.self
  | step hr hx h1 h2 ih => exact hs _ hx ⟨_, h1, ih⟩ _ h2
theorem rel_start (t : List Thr) (n s : Nat) (hs : s ≤ n) : RelInv t n s ((List.replicate (n + 1) false).set s true) where
  len := by simp
  self := by
    unfold atB
    rw [List.getD_eq_getElem?_getD, List.getElem?_set, if_pos rfl, if_pos (by simp; omega)]
    rfl
  rel c h := by
    by_cases e : s = c
    · subst e; exact Rel.self
    · unfold atB at h
      rw [List.getD_eq_getElem?_getD, List.getElem?_set, if_neg e, List.getElem?_replicate] at h
      split at h <;> simp at h
end Go.Proofs.Ytdlglnkhhbkndaa
/- What can be joined with a copper (reach of the reference), whatever the world. -/
namespace Go.Proofs.Ytdlglnkhhbkndaa
open Go.RowKit Go.Maps
set_option linter.unusedSimpArgs false
set_option linter.unusedVariables false
set_option maxRecDepth 100000

theorem infoBoolR : (Try.prog.info? 4).map (fun i => (i.zero, i.size, i.bytes)) = some (some (.bool false), 1, 1) := by kernel_rfl
theorem made_boolsR (n : Nat) : (madeCells (Value.bool false).cells (n * 1)).toList = (List.replicate n false).map Value.bool := by
  rw [List.map_replicate, Nat.mul_one]
  simp [madeCells, Value.cells]
  rw [show (fun x : Nat => [Value.bool false][x % 1]?.getD default) = fun _ => Value.bool false from by funext x; simp [Nat.mod_one], List.map_const', List.length_range]
theorem made_own {w : World} {B g N : Nat} (h : w.ownsRow B 4 1 (.slice (some ⟨g, 0, none⟩) N N) N (madeCells (Value.bool false).cells (N * 1)).toList) : w.ownsRow B 4 1 (.slice (some ⟨g, 0, none⟩) N N) N ((List.replicate N false).map Value.bool) := by
  rw [← made_boolsR]
  exact h
/-- How the search stands between two rounds over the spans. -/
def OutOk (t : List Thr) (E : List Bool) (b : Bool) (k : Nat) : Prop := (b = false → ∀ x ∈ t, Shut E x) ∧ falses E + (if b then 1 else 0) ≤ k
/-- How it stands within a round. -/
def InOk (t : List Thr) (E E' : List Bool) (b : Bool) (k : Nat) : Prop := (b = false → E' = E ∧ ∀ x ∈ t.take k, Shut E x) ∧ (b = true → falses E' < falses E)
theorem inOk_start (t : List Thr) (E : List Bool) : InOk t E E false 0 := ⟨fun _ => ⟨rfl, fun x hx => by rw [List.take_zero] at hx; cases hx⟩, fun h => by cases h⟩
theorem inOk_keep {t : List Thr} {E E' : List Bool} {b : Bool} {k : Nat} {y : Thr} (h : InOk t E E' b k) (ht : t.take (k + 1) = t.take k ++ [y]) (hy : Shut E' y) : InOk t E E' b (k + 1) := by
  refine ⟨fun hb => ?_, h.2⟩
  obtain ⟨h1, h2⟩ := h.1 hb
  refine ⟨h1, fun x hx => ?_⟩
  rw [ht] at hx
  rcases List.mem_append.1 hx with hx | hx
  · exact h2 x hx
  · rw [List.mem_singleton.1 hx, ← h1]
    exact hy
theorem inOk_set {t : List Thr} {E E' E'' : List Bool} {b : Bool} {k j : Nat} (h : InOk t E E' b k) (hf : falses E'' < falses E') : InOk t E E'' true j := by
  refine ⟨fun hb => (by cases hb), fun _ => ?_⟩
  cases b
  · rw [(h.1 rfl).1] at hf
    exact hf
  · have := h.2 rfl
    omega
theorem outOk_of {t : List Thr} {E E' : List Bool} {b : Bool} {k : Nat} (h : InOk t E E' b t.length) (hk : falses E + 1 ≤ k) : ∃ k', k' < k ∧ OutOk t E' b k' := by
  cases b
  · obtain ⟨h1, h2⟩ := h.1 rfl
    rw [List.take_length] at h2
    refine ⟨falses E, by omega, fun _ => by rw [h1]; exact h2, ?_⟩
    rw [h1]
    simp
  · have := h.2 rfl
    exact ⟨falses E' + 1, by omega, fun hb => (by cases hb), by simp⟩
/-- What reach returns. -/
def ReachRet (t : List Thr) (n s : Nat) (w : World) (e : Ending) (w' : World) : Prop :=
  ∃ (g : Nat) (E : List Bool), e = .returned (.slice (some ⟨g, 0, none⟩) (n + 1) (n + 1)) ∧ E.length = n + 1 ∧ (∀ c, atB E c = true ↔ Rel t s c) ∧
      w'.ownsRow w.heap.size 4 1 (.slice (some ⟨g, 0, none⟩) (n + 1) (n + 1)) (n + 1) (E.map Value.bool) ∧ Below w.heap.size w w'
set_option maxHeartbeats 8000000 in
theorem reach_any (A : Option Addr) (t : List Thr) (c n s : Nat) (w : World) (hn : n ≤ 1000) (hs : s ≤ n) (hl : t.length ≤ 1000) (hok : ∀ x ∈ t, 1 ≤ x.a ∧ x.a < x.b ∧ x.b ≤ (n : Int)) (hd : RdG 2 Thr.cs w A t) :
    Calls Try.prog 81 #[.slice A t.length c, .int .i64 (n : Nat), .int .i64 (s : Nat)] w (ReachRet t n s w) := by
  have HOK := Lib.hid hok
  have HD := Lib.hid hd
  obtain ⟨i0, hi0, hz0, hz1, hz2⟩ := info_parts infoBoolR
  have HST := Lib.hid (rel_start t n s hs)
  obtain ⟨N, hN⟩ : ∃ N, N = n + 1 := ⟨_, rfl⟩
  rw [← hN] at HST
  have y0 : IntKind.i64.wrap ((n : Int) + 1) = (N : Int) := (IntWalk.i64_in _ (by omega)).trans (by omega)
  have hsN : s < N := by omega
  have x1 : (0 : Int) ≤ (s : Int) := by omega
  have x2 : (s : Int) < (N : Int) := by omega
  have hNb : N ≤ 1001 := by omega
  have HN := Lib.hid hN
  clear hok hd hN
  go_enter Try.func81, Try.ntmps81
  go_wp2_with (first | (at_make; go_loud (refine wpList_make_full _ rfl (.tmp 16) (.tmp 16) 111 rfl w.heap.size 4 i0 (.bool false) 1 Try.underlying111 hi0 hz0 hz1 .i64 .i64 (N : Int) (N : Int) N rfl rfl rfl rfl ?m1 ?m2 ?m3 ?_); (case m1 => rw [hz2]; omega); (case m2 => simp only [maxLen]; omega); (case m3 => omega); intro w2 hown hg; have HO := Lib.hid (made_own hown); have HG := Lib.hid hg; obtain ⟨d1, d2⟩ := own_cellC (j := s) (v := .bool false) (made_own hown) (by rw [List.getElem?_map, List.getElem?_replicate, if_pos hsN]; rfl); clear hown hg))
  have lt0 := (HO.out.lt w.heap.size rfl).2
  have BW := Lib.hid ((Below.refl w.heap.size w).grown HG.out (Nat.le_refl _) (fun j hj => by cases hj))
  have zz0 := BW.out.size
  have H0 := own_setC (j := s) HO.out (.bool true)
  rw [← List.map_set] at H0
  have B0 := Lib.hid (BW.out.trans (below_gb (gb_set (p := ⟨w.heap.size, s, none⟩) (gb_refl w2 (some w.heap.size)) (.inl rfl) (.bool true)) zz0 (fun g e => by cases e; exact Nat.le_refl _)))
  have H0 := Lib.hid H0
  have hfl : falses ((List.replicate N false).set s true) + 1 ≤ N + 1 := by
    have := falses_len ((List.replicate N false).set s true)
    simp at this
    omega
  clear d1 d2
  go_loopg [8] (N + 1) (fun k cv wr => ∃ (E : List Bool) (b : Bool), cv = .bool b ∧ RelInv t n s E ∧ OutOk t E b k ∧ wr.ownsRow w.heap.size 4 1 (.slice (some ⟨w.heap.size, 0, none⟩) N N) N (E.map Value.bool) ∧ Below w.heap.size w wr)
  case atStart => exact ⟨_, true, rfl, HST.out, ⟨fun h => (by cases h), hfl⟩, H0.out, B0.out⟩
  case round =>
    obtain ⟨E, b, rfl, hi, hsk, ho, hw⟩ := hrel
    have HI := Lib.hid hi
    have HSK := Lib.hid hsk
    have HO1 := Lib.hid ho
    have HW1 := Lib.hid hw
    have zw := hw.size
    cases b
    · clear hi hsk ho hw
      go_wp2_with fail
      go_ret
      unfold ReachRet
      rw [← HN.out]
      exact ⟨w.heap.size, E, rfl, by rw [HN.out]; exact HI.out.len, rel_end HI.out (HSK.out.1 rfl), HO1.out, HW1.out⟩
    · have HK := Lib.hid (show falses E + 1 ≤ gk from hsk.2)
      clear hi hsk ho
      go_wp2_with fail
      go_loopw [8, 24] (fun cv iv wx => ∃ (k : Nat) (E' : List Bool) (b' : Bool), k ≤ t.length ∧ iv = .int .i64 (k : Nat) ∧ cv = .bool b' ∧ RelInv t n s E' ∧ InOk t E E' b' k ∧
        wx.ownsRow w.heap.size 4 1 (.slice (some ⟨w.heap.size, 0, none⟩) N N) N (E'.map Value.bool) ∧ Below w.heap.size w wx) (fun _ iv _ => t.length - (intOf iv).toNat)
      case atStart => exact ⟨0, E, false, Nat.zero_le _, rfl, rfl, HI.out, inOk_start t E, HO1.out, HW1.out⟩
      case round =>
        obtain ⟨w7, rfl⟩ : ∃ x, x = wr := ⟨wr, rfl⟩
        obtain ⟨k, E', b', hkl, rfl, rfl, hi, hf, ho, hw⟩ := hrel
        have HI7 := Lib.hid hi
        have HF7 := Lib.hid hf
        have HO7 := Lib.hid ho
        have HW7 := Lib.hid hw
        have z7 := hw.size
        have lg := (ho.lt w.heap.size rfl).2
        have hkz : (0 : Int) ≤ (k : Int) := by omega
        clear hi hf ho
        by_cases hlt : k < t.length
        · obtain ⟨bb, off, rfl, hblt, hcs⟩ := (HD.out.below hw) (by omega)
          have hik : t[k]? = some t[k] := List.getElem?_eq_getElem hlt
          have c0 := by simpa using hcs k _ hik 0 _ rfl
          have c1 := hcs k _ hik 1 _ rfl
          have hin := HOK.out t[k] (List.getElem_mem hlt)
          have hmem := List.getElem_mem hlt
          have ht2 : t.take (k + 1) = t.take k ++ [t[k]] := by rw [List.take_add_one, hik]; rfl
          have HT2 := Lib.hid ht2
          have HMEM := Lib.hid hmem
          clear hik hcs ht2 hw hmem
          generalize t[k] = y at *
          obtain ⟨a, ha⟩ : ∃ a : Nat, y.a = (a : Int) := ⟨y.a.toNat, by omega⟩
          obtain ⟨D, hD⟩ : ∃ D : Nat, y.b + 1 = ((a + D : Nat) : Int) := ⟨(y.b + 1 - y.a).toNat, by omega⟩
          have HA := Lib.hid ha
          have HDD := Lib.hid hD
          have hDn : a + D ≤ N := by have := HN.out; omega
          have ha1 : 1 ≤ a := by omega
          have hb : y.b = ((a + D - 1 : Nat) : Int) := by omega
          obtain ⟨z, hz⟩ : ∃ z, z = a + D - 1 := ⟨_, rfl⟩
          rw [← hz] at hb
          have hzD : z + 1 = a + D := by omega
          rw [ha] at c0
          rw [hb] at c1
          have HZD := Lib.hid hzD
          have x9 : IntKind.i64.wrap (z : Int) = (z : Int) := IntWalk.i64_in _ (by omega)
          clear ha hD hb hz hin hzD
          go_wp2_with fail
          have k8 := anc9 w7 #[.int .i64 (a : Nat), .int .i64 (z : Nat)] 64 0 rfl
          have k9 := anc9 w7 #[.int .i64 (a : Nat), .int .i64 (z : Nat)] 64 1 rfl
          have HO8 := Lib.hid (HO7.out.alloc (.cells #[.int .i64 (a : Nat), .int .i64 (z : Nat)] 64))
          have HW8 := Lib.hid (HW7.out.alloc z7 (.cells #[.int .i64 (a : Nat), .int .i64 (z : Nat)] 64))
          have sz8 : (w7.alloc (.cells #[.int .i64 (a : Nat), .int .i64 (z : Nat)] 64)).heap.size = w7.heap.size + 1 := by simp
          have HS8 := Lib.hid sz8
          clear sz8
          go_wp2_with fail
          generalize hw8 : w7.alloc (.cells #[.int .i64 (a : Nat), .int .i64 (z : Nat)] 64) = w8 at *
          have K8 := Lib.hid k8
          have K9 := Lib.hid k9
          have l78 : w7.heap.size < w8.heap.size := by have := HS8.out; omega
          clear hw8 k8 k9
          go_loopw [11, 12, 13] (fun hv av cv wy => ∃ (d C : Nat), d ≤ D ∧ C = a + d ∧ cv = .int .i64 (C : Nat) ∧ hv = .bool (hitF E' a d) ∧ av = .bool (allF E' a d) ∧ Below w8.heap.size w8 wy) (fun _ _ cv _ => a + D - (intOf cv).toNat)
          case atStart => exact ⟨0, a, Nat.zero_le _, rfl, rfl, rfl, rfl, Below.refl _ _⟩
          case round =>
            obtain ⟨w6, rfl⟩ : ∃ x, x = wr := ⟨wr, rfl⟩
            obtain ⟨d, C, hdD, hC, rfl, rfl, rfl, hw6⟩ := hrel
            have HB6 := Lib.hid hw6
            have HC6 := Lib.hid hC
            have z6 := hw6.size
            have k8 := (hw6.cell (p := ⟨w7.heap.size, 0, none⟩) l78).trans K8.out
            have k9 := (hw6.cell (p := ⟨w7.heap.size, 1, none⟩) l78).trans K9.out
            have ho6 := own_below HO8.out hw6
            have HO6 := Lib.hid ho6
            have hzz := HZD.out
            by_cases hdl : d < D
            · have hCN : C < N := by omega
              have hEl : C < E'.length := by have := HI7.out.len; have := HN.out; omega
              obtain ⟨f1, -⟩ := own_cellC (j := C) (v := .bool (atB E' C)) ho6 (by rw [List.getElem?_map, at_get hEl]; rfl)
              have HH := Lib.hid (show hitF E' a (d + 1) = (hitF E' a d || atB E' C) by rw [hit_step, hC])
              have HL := Lib.hid (show allF E' a (d + 1) = (allF E' a d && atB E' C) by rw [all_step, hC])
              have y1 : decide ((C : Int) ≤ (z : Int)) = true := decide_eq_true (by omega)
              have y2 : C ≤ z := by omega
              have y3 : (0 : Int) ≤ (C : Int) := by omega
              have y4 : (C : Int) < (N : Int) := by omega
              have y5 : IntKind.i64.wrap ((C : Int) + 1) = (C : Int) + 1 := IntWalk.i64_in _ (by omega)
              clear hC hw6 ho6 hzz
              generalize hitF E' a d = hb at *
              generalize allF E' a d = ab at *
              generalize atB E' C = eb at *
              cases hb <;> cases ab <;> cases eb
              all_goals
                go_wp2_with fail
                go_quiet (fail)
                go_wp2_with fail
                go_roundw
                case rel => exact ⟨d + 1, C + 1, by omega, by have := HC6.out; omega, by go_num, by rw [HH.out]; rfl, by rw [HL.out]; rfl, below_drewN HB6.out _⟩
                case measure => (have := HC6.out; simp [intOf] <;> omega)
            · obtain rfl : d = D := by omega
              have y1 : decide ((C : Int) ≤ (z : Int)) = false := decide_eq_false (by omega)
              have y2 : ¬ C ≤ z := by omega
              obtain ⟨hb, hhb⟩ : ∃ x, hitF E' a d = x := ⟨_, rfl⟩
              obtain ⟨ab, hab⟩ : ∃ x, allF E' a d = x := ⟨_, rfl⟩
              rw [hhb, hab]
              have HHB := Lib.hid hhb
              have HAB := Lib.hid hab
              have HW6 := Lib.hid (HW8.out.trans (hw6.mono (by omega)))
              clear hC hw6 ho6 hhb hab
              by_cases hset : hb = true ∧ ab = false
              · obtain ⟨rfl, rfl⟩ := hset
                have HSY := Lib.hid (set_yes HI7.out HMEM.out HA.out HDD.out (by rw [← HN.out]; exact hDn) (by rw [HHB.out, HAB.out]; rfl))
                clear hzz
                go_wp2_with fail
                go_loopw [14] (fun cv wy => ∃ (e C : Nat), e ≤ d ∧ C = a + e ∧ cv = .int .i64 (C : Nat) ∧ wy.ownsRow w.heap.size 4 1 (.slice (some ⟨w.heap.size, 0, none⟩) N N) N ((setR E' a e).map Value.bool) ∧ wy.cell? ⟨w7.heap.size, 1, none⟩ = some (.int .i64 (z : Nat)) ∧ Below w.heap.size w wy) (fun cv _ => a + d - (intOf cv).toNat)
                case atStart => exact ⟨0, a, Nat.zero_le _, rfl, rfl, by rw [setR_zero]; exact HO6.out, k9, HW6.out⟩
                case round =>
                  obtain ⟨w5, rfl⟩ : ∃ x, x = wr := ⟨wr, rfl⟩
                  obtain ⟨e, Z, hee, hZ, rfl, ho5, h9, hw5⟩ := hrel
                  have HO5 := Lib.hid ho5
                  have HW5 := Lib.hid hw5
                  have H9 := Lib.hid h9
                  have z5 := hw5.size
                  have hzz := HZD.out
                  have HZ5 := Lib.hid hZ
                  by_cases hel : e < d
                  · have hZN : Z < N := by omega
                    have hEl : Z < (setR E' a e).length := by rw [setR_len, HI7.out.len]; have := HN.out; omega
                    obtain ⟨f1, f2⟩ := own_cellC (j := Z) (v := .bool (atB (setR E' a e) Z)) ho5 (by rw [List.getElem?_map, at_get hEl]; rfl)
                    have hst := own_setC (j := Z) ho5 (.bool true)
                    rw [← List.map_set, hZ, setR_step (by rw [setR_len] at hEl; omega), ← hZ] at hst
                    have HST5 := Lib.hid hst
                    have y1 : decide ((Z : Int) ≤ (z : Int)) = true := decide_eq_true (by omega)
                    have y2 : Z ≤ z := by omega
                    have y3 : (0 : Int) ≤ (Z : Int) := by omega
                    have y4 : (Z : Int) < (N : Int) := by omega
                    have y5 : IntKind.i64.wrap ((Z : Int) + 1) = (Z : Int) + 1 := IntWalk.i64_in _ (by omega)
                    clear hZ hw5 ho5 hst hzz
                    generalize atB (setR E' a e) Z = eb at *
                    go_wp2_with fail
                    go_roundw
                    case rel =>
                      refine ⟨e + 1, Z + 1, by omega, by have := HZ5.out; omega, by go_num, HST5.out, ?_, HW5.out.trans (below_gb (gb_set (p := ⟨w.heap.size, Z, none⟩) (gb_refl w5 (some w.heap.size)) (.inl rfl) (.bool true)) z5 (fun g e => by cases e; exact Nat.le_refl _))⟩
                      rw [World.cell?_setCell_far _ _ _ _ (show w.heap.size ≠ w7.heap.size by omega)]
                      exact H9.out
                    case measure => (have := HZ5.out; simp [intOf] <;> omega)
                  · obtain rfl : e = d := by omega
                    have y1 : decide ((Z : Int) ≤ (z : Int)) = false := decide_eq_false (by omega)
                    have y2 : ¬ Z ≤ z := by omega
                    clear hZ hw5 ho5 hzz
                    go_wp2_with fail
                    go_roundw
                    case rel => exact ⟨k + 1, setR E' a e, true, by omega, by go_num, rfl, HSY.out.1, inOk_set HF7.out HSY.out.2, HO5.out, HW5.out⟩
                    case measure => (simp [intOf] <;> omega)
              · have HSN := Lib.hid (shut_no (E := E') HA.out HDD.out (by
                  rw [HHB.out, HAB.out]
                  cases hb <;> cases ab <;> simp_all))
                clear hzz
                cases hb <;> cases ab
                case true.false => exact absurd ⟨rfl, rfl⟩ hset
                all_goals
                  clear hset
                  go_wp2_with fail
                  go_roundw
                  case rel => exact ⟨k + 1, E', b', by omega, by go_num, rfl, HI7.out, inOk_keep HF7.out HT2.out HSN.out, HO6.out, HW6.out⟩
                  case measure => (simp [intOf] <;> omega)
        · obtain rfl : k = t.length := by omega
          obtain ⟨k', hk1, hk2⟩ := outOk_of HF7.out HK.out
          have HK2 := Lib.hid hk2
          clear hw hk2
          go_wp2_with fail
          go_roundg k'
          case measure => exact hk1
          case rel => exact ⟨E', b', rfl, HI7.out, HK2.out, HO7.out, HW7.out⟩
end Go.Proofs.Ytdlglnkhhbkndaa
/- Whether spans let each copper reach the same (sameReach of the reference), whatever the world. -/
namespace Go.Proofs.Ytdlglnkhhbkndaa
open Go.RowKit Go.Maps
set_option linter.unusedSimpArgs false
set_option linter.unusedVariables false
set_option maxRecDepth 100000

theorem allEq_boolR : ∀ xs ys : List Bool, Lib.allEq (fun x y => x == y) xs ys = decide (xs = ys)
  | [], [] => rfl
  | [], y :: ys => by simp [Lib.allEq]
  | x :: xs, [] => by simp [Lib.allEq]
  | x :: xs, y :: ys => by
    rw [Lib.allEq, allEq_boolR xs ys]
    by_cases h : x = y
    · subst h
      simp
    · have : (x == y) = false := by simpa using h
      rw [this]
      simp [h]
theorem bool_cellsR {w : World} {g : Nat} {zs : List Bool} (h : ∀ (j : Nat) (u : Value), (zs.map Value.bool)[j]? = some u → w.cell? ⟨g, j, none⟩ = some u) : ∀ j, j < zs.length → w.cell? ⟨g, 0 + j, none⟩ = some (Value.bool zs[j]!) := by
  intro j hj
  rw [Nat.zero_add]
  refine h _ _ ?_
  rw [List.getElem?_map, List.getElem?_eq_getElem hj, getElem!_pos zs j hj]
  rfl
theorem bools_eq {w : World} {B1 B2 g1 g2 n : Nat} {E1 E2 : List Bool} (hl1 : E1.length = n) (hl2 : E2.length = n) (hn : n ≤ 9223372036854775807) (h1 : w.ownsRow B1 4 1 (.slice (some ⟨g1, 0, none⟩) n n) n (E1.map Value.bool)) (h2 : w.ownsRow B2 4 1 (.slice (some ⟨g2, 0, none⟩) n n) n (E2.map Value.bool)) :
    Calls Try.prog 85 #[.slice (some ⟨g1, 0, none⟩) n n, .slice (some ⟨g2, 0, none⟩) n n] w fun e w' => e = .returned (.bool (decide (E1 = E2))) ∧ ∃ q, w' = w.drewN q := by
  have := Try.slices_Equal_f85 Value.bool (fun x y => x == y) (NeqAt.bool _ Try.underlying4) g1 0 n n g2 0 n n E1 E2 w (by rw [hl1]; exact Nat.le_refl _) (by rw [hl2]; exact Nat.le_refl _) hn hn
    (bool_cellsR (fun j u hu => by rw [(own_cellC h1 hu).1])) (bool_cellsR (fun j u hu => by rw [(own_cellC h2 hu).1]))
  rw [allEq_boolR, List.take_of_length_le (by rw [hl1]; exact Nat.le_refl _), List.take_of_length_le (by rw [hl2]; exact Nat.le_refl _)] at this
  exact this
/-- Each copper reaches the same. -/
def SameR (t u : List Thr) (n : Nat) : Prop := ∀ s, 1 ≤ s → s ≤ n → ∀ c, Rel t s c ↔ Rel u s c
theorem rel_rows {t u : List Thr} {n s : Nat} {E1 E2 : List Bool} (h1 : E1.length = n) (h2 : E2.length = n) (r1 : ∀ c, atB E1 c = true ↔ Rel t s c) (r2 : ∀ c, atB E2 c = true ↔ Rel u s c) : (E1 = E2) ↔ ∀ c, Rel t s c ↔ Rel u s c := by
  refine ⟨fun h c => by rw [← r1, ← r2, h], fun h => ext_at (by rw [h1, h2]) fun i _ => ?_⟩
  have := (r1 i).trans ((h i).trans (r2 i).symm)
  cases e1 : atB E1 i <;> cases e2 : atB E2 i <;> simp_all
open Classical in
set_option maxHeartbeats 4000000 in
theorem sameReach_any (A : Option Addr) (t : List Thr) (c : Nat) (A2 : Option Addr) (u : List Thr) (c2 : Nat) (n : Nat) (w : World) (hn : n ≤ 1000) (hl : t.length ≤ 1000) (hl2 : u.length ≤ 1000) (hok : ∀ x ∈ t, 1 ≤ x.a ∧ x.a < x.b ∧ x.b ≤ (n : Int)) (hok2 : ∀ x ∈ u, 1 ≤ x.a ∧ x.a < x.b ∧ x.b ≤ (n : Int)) (hd : RdG 2 Thr.cs w A t) (hd2 : RdG 2 Thr.cs w A2 u) :
    Calls Try.prog 86 #[.slice A t.length c, .slice A2 u.length c2, .int .i64 (n : Nat)] w fun e w' => e = .returned (.bool (decide (SameR t u n))) ∧ Below w.heap.size w w' := by
  have CR := Lib.hid (fun W (hb : Below w.heap.size w W) (s : Nat) (hs : s ≤ n) => reach_any A t c n s W hn hs hl hok (hd.below hb))
  have CS := Lib.hid (fun W (hb : Below w.heap.size w W) (s : Nat) (hs : s ≤ n) => reach_any A2 u c2 n s W hn hs hl2 hok2 (hd2.below hb))
  clear hok hok2 hd hd2
  go_enter Try.func86, Try.ntmps86
  go_wp2_with fail
  go_loopw [7] (fun cv wr => ∃ C : Nat, 1 ≤ C ∧ C ≤ n + 1 ∧ cv = .int .i64 (C : Nat) ∧ (∀ s, 1 ≤ s → s < C → ∀ c, Rel t s c ↔ Rel u s c) ∧ Below w.heap.size w wr) (fun cv _ => n + 1 - (intOf cv).toNat)
  case atStart => exact ⟨1, Nat.le_refl _, by omega, rfl, fun s h1 h2 => by omega, Below.refl _ _⟩
  case round =>
    obtain ⟨C, hC1, hCn, rfl, hsame, hw⟩ := hrel
    have HSM := Lib.hid hsame
    have HW := Lib.hid hw
    have zw := hw.size
    clear hsame hw
    by_cases hlt : C ≤ n
    · have y1 : decide ((C : Int) ≤ (n : Int)) = true := decide_eq_true (by omega)
      have y5 : IntKind.i64.wrap ((C : Int) + 1) = (C : Int) + 1 := IntWalk.i64_in _ (by omega)
      go_wp2_with fail
      refine (CR.out wr HW.out C hlt).mono ?_
      rintro e w1 ⟨g1, E1, rfl, e1, r1, ho1, hb1⟩
      have B1 := Lib.hid (HW.out.trans (hb1.mono zw))
      have z1 := hb1.size
      have HO1 := Lib.hid ho1
      have HR1 := Lib.hid r1
      have HE1 := Lib.hid e1
      clear ho1 hb1 r1 e1
      go_wp2_with fail
      refine (CS.out w1 B1.out C hlt).mono ?_
      rintro e w2 ⟨g2, E2, rfl, e2, r2, ho2, hb2⟩
      have B2 := Lib.hid (B1.out.trans (hb2.mono (by omega)))
      have CE := Lib.hid (bools_eq HE1.out e2 (by omega) (own_below HO1.out hb2) ho2)
      have HRR := Lib.hid (rel_rows HE1.out e2 HR1.out r2)
      clear ho2 hb2 r2 e2
      go_wp2_with fail
      refine CE.out.mono ?_
      rintro e w3 ⟨rfl, q, rfl⟩
      by_cases hE : E1 = E2
      · have d1 : decide (E1 = E2) = true := decide_eq_true hE
        have HN := Lib.hid (HRR.out.1 hE)
        clear hE
        go_wp2_with fail
        go_roundw
        case rel =>
          refine ⟨C + 1, by omega, by omega, by go_num, fun s h1 h2 => ?_, below_drewN B2.out q⟩
          by_cases hsC : s = C
          · subst hsC; exact HN.out
          · exact HSM.out s h1 (by omega)
        case measure => (simp [intOf] <;> omega)
      · have d1 : decide (E1 = E2) = false := decide_eq_false hE
        have HN := Lib.hid (show decide (SameR t u n) = false from decide_eq_false fun h => hE (HRR.out.2 (h C hC1 hlt)))
        clear hE
        go_wp2_with fail
        go_ret
        exact ⟨by rw [HN.out]; rfl, below_drewN B2.out q⟩
    · have y1 : decide ((C : Int) ≤ (n : Int)) = false := decide_eq_false (by omega)
      have HN := Lib.hid (show decide (SameR t u n) = true from decide_eq_true fun s h1 h2 => HSM.out s h1 (by omega))
      go_wp2_with fail
      go_ret
      exact ⟨by rw [HN.out]; rfl, HW.out⟩
end Go.Proofs.Ytdlglnkhhbkndaa

/- The sub-boards are taken out of their map, in whatever order. -/
import Derived.Test.YtnjcahdelcdcfaaBrdD
import Derived.Maps.RangeWalk
namespace Go.Proofs.Ytnjcahdelcdcfaa
open Go.RowKit Go.Maps
open Go.WideElems (rg)
set_option linter.unusedSimpArgs false
set_option linter.unusedVariables false
set_option maxRecDepth 100000

theorem nodup_len {α : Type} : ∀ {S L : List α}, S.Nodup → (∀ x ∈ S, x ∈ L) → S.length ≤ L.length
  | [], L, _, _ => Nat.zero_le _
  | x :: S, L, hd, hs => by
    obtain ⟨L1, L2, rfl⟩ := List.append_of_mem (hs x (List.mem_cons_self ..))
    obtain ⟨h1, h2⟩ := List.nodup_cons.1 hd
    have ih := nodup_len (L := L1 ++ L2) h2 (fun y hy => by
      rcases List.mem_append.1 (hs y (List.mem_cons_of_mem _ hy)) with h | h
      · exact List.mem_append_left _ h
      · rcases List.mem_cons.1 h with h | h
        · subst h
          exact absurd hy h1
        · exact List.mem_append_right _ h)
    simp only [List.length_cons, List.length_append] at ih ⊢
    omega
def Brd.cs (r : Brd) : List Value := [.int .i64 r.a, .int .i64 r.b, .bool r.core, r.hv]
section
variable {base M F n : Nat} {f : Lit → Option Value} {L : List Brd} {w : World}
theorem brd_apart (h : L.Pairwise ApartB) {q r : Brd} (hq : q ∈ L) (hr : r ∈ L) (ha : q.a = r.a) (hb : q.b = r.b) : q = r := by
  obtain ⟨i, hi⟩ := List.getElem?_of_mem hq
  obtain ⟨j, hj⟩ := List.getElem?_of_mem hr
  obtain ⟨hil, rfl⟩ := List.getElem?_eq_some_iff.1 hi
  obtain ⟨hjl, rfl⟩ := List.getElem?_eq_some_iff.1 hj
  rw [List.pairwise_iff_getElem] at h
  rcases Nat.lt_trichotomy i j with hlt | he | hgt
  · exact absurd ⟨ha, hb⟩ (h i j hil hjl hlt).1
  · subst he
    rfl
  · exact absurd ⟨ha.symm, hb.symm⟩ (h j i hjl hil hgt).1
theorem BrdW.key (h : BrdW base M F n f L w) {q r : Brd} (hq : q ∈ L) (hr : r ∈ L) (e : keyT q.a q.b = keyT r.a r.b) : q = r :=
  have k := keyT_inj (h.wf q hq).1 (h.wf q hq).2 (h.wf r hr).1 (h.wf r hr).2 e
  brd_apart h.d hq hr k.1 k.2
theorem BrdW.at (h : BrdW base M F n f L w) {r : Brd} (hr : r ∈ L) : f (keyT r.a r.b) = some (.pointer (some ⟨r.blk, 0, none⟩)) := by
  rw [h.fk r.a r.b (h.wf r hr).1 (h.wf r hr).2]
  cases hf : L.find? (hit r.a r.b) with
  | none =>
    rw [List.find?_eq_none] at hf
    exact absurd (by simp [hit]) (hf r hr)
  | some q =>
    have h1 := List.find?_some hf
    have hq := List.mem_of_find?_eq_some hf
    have h2 : (decide (q.a = r.a) && decide (q.b = r.b)) = true := h1
    rw [Bool.and_eq_true] at h2
    rw [brd_apart h.d hq hr (of_decide_eq_true h2.1) (of_decide_eq_true h2.2)]
    rfl
theorem BrdW.nodup (h : BrdW base M F n f L w) : L.Nodup := h.d.imp fun hab e => hab.1 ⟨by rw [e], by rw [e]⟩
theorem keyT_lit (a b : Int) : WideAt.IsKeyLit (keyT a b) := trivial
/-- What was taken out so far. -/
structure TakW (L : List Brd) (left : Lit → Bool) (S : List Brd) : Prop where
  s : ∀ q ∈ S, q ∈ L
  d : S.Nodup
  k : ∀ q ∈ L, q ∈ S ↔ left (keyT q.a q.b) = false
theorem TakW.start (h : BrdW base M F n f L w) {D : DataW Value} (hD : ∀ x, WideAt.IsKeyLit x → has D x = (f x).isSome ∧ ∀ v z, f x = some v → D.atKey x z = .held v) : TakW L (has D) [] :=
  ⟨fun q hq => (by cases hq), List.nodup_nil, fun q hq => ⟨fun hq => (by cases hq), fun e => by
    rw [(hD _ (keyT_lit _ _)).1, h.at hq] at e
    cases e⟩⟩
theorem range_has {P : Program} {k : TypeId} {R : Value → Option (DataW Value × List MemPlace)} {w : World} {b r n : Nat} {D : DataW Value} {left : Lit → Bool} {cnt : Nat} (h : w.ranges P k R b r n D left cnt) {kl : Lit} (hk : WideAt.IsKeyLit kl) (hl : left kl = true) : has D kl = true := by
  obtain ⟨es, clock, since, seen, c0, hb, F, hs, rfl, hr, h1, h2, h3, h4, h5⟩ := h
  obtain ⟨x, hx, e⟩ := h4 kl hl
  refine List.any_eq_true.2 ⟨rg P k R x, mem_sorted.2 (List.mem_map.2 ⟨x, hx, rfl⟩), ?_⟩
  rw [e]
  exact WideAt.sameKey_self hk
theorem TakW.step {left : Lit → Bool} {S : List Brd} (t : TakW L left S) (h : BrdW base M F n f L w) {D : DataW Value} (hD : ∀ x, WideAt.IsKeyLit x → has D x = (f x).isSome ∧ ∀ v z, f x = some v → D.atKey x z = .held v)
    {W : World} {r cnt m : Nat} (hrg : W.ranges Try.prog 64 RV M r m D left cnt) {x c : Value} {kl : Lit} {y : DataW Value × List MemPlace} (hx : keyOf Try.prog 64 x = some kl) (hl : left kl = true) (hy : RV c = some y) (hat : ∀ zd, D.atKey kl zd = y.1) :
    ∃ r0 ∈ L, c = .pointer (some ⟨r0.blk, 0, none⟩) ∧ TakW L (fun z => left z && !z.sameKey kl) (S ++ [r0]) ∧ S.length < L.length := by
  have hlit : WideAt.IsKeyLit kl := thr_law.key hx
  have h1 := range_has hrg hlit hl
  rw [(hD kl hlit).1] at h1
  obtain ⟨v, hv⟩ := Option.isSome_iff_exists.1 h1
  obtain ⟨r0, hr0, rfl⟩ := h.fe kl v hv
  have h2 := h.at hr0
  rw [hv] at h2
  have h3 := (hD _ hlit).2 v (.held c) hv
  rw [hat] at h3
  have h4 : c = v := by
    cases hy
    exact DataW.held.inj h3
  have hn : r0 ∉ S := fun e => by
    rw [(t.k r0 hr0).1 e] at hl
    cases hl
  refine ⟨r0, hr0, by rw [h4]; exact Option.some.inj h2, ⟨fun q hq => ?_, ?_, fun q hq => ⟨fun e => ?_, fun e => ?_⟩⟩, ?_⟩
  · rcases List.mem_append.1 hq with hq | hq
    · exact t.s q hq
    · rw [List.mem_singleton.1 hq]
      exact hr0
  · refine List.nodup_append.2 ⟨t.d, by simp, fun a ha b hb e => ?_⟩
    rw [List.mem_singleton.1 hb] at e
    exact hn (e ▸ ha)
  · rcases List.mem_append.1 e with e | e
    · show (left _ && _) = false
      rw [(t.k q hq).1 e]
      rfl
    · rw [List.mem_singleton.1 e]
      show (_ && !_) = false
      rw [WideAt.sameKey_self (keyT_lit _ _)]
      simp
  · have e' : (left (keyT q.a q.b) && !(keyT q.a q.b).sameKey (keyT r0.a r0.b)) = false := e
    rw [Bool.and_eq_false_iff] at e'
    rcases e' with e' | e'
    · exact List.mem_append_left _ ((t.k q hq).2 e')
    · have e2 : (keyT q.a q.b).sameKey (keyT r0.a r0.b) = true := by simpa using e'
      rw [h.key hq hr0 (WideAt.sameKey_eq e2)]
      exact List.mem_append_right _ (List.mem_singleton.2 rfl)
  · have hsub : (S ++ [r0]).length ≤ L.length := by
      refine nodup_len ?_ fun q hq => ?_
      · refine List.nodup_append.2 ⟨t.d, by simp, fun a ha b hb e => ?_⟩
        rw [List.mem_singleton.1 hb] at e
        exact hn (e ▸ ha)
      · rcases List.mem_append.1 hq with hq | hq
        · exact t.s q hq
        · rw [List.mem_singleton.1 hq]
          exact hr0
    rw [List.length_append, List.length_singleton] at hsub
    omega
theorem TakW.done {left : Lit → Bool} {S : List Brd} (t : TakW L left S) (h : BrdW base M F n f L w) (hl : ∀ kl, left kl = false) : S.Perm L :=
  (List.perm_ext_iff_of_nodup t.d h.nodup).2 fun q => ⟨t.s q, fun hq => (t.k q hq).2 (hl _)⟩
theorem own_iter {P : Program} {k : TypeId} {R : Value → Option (DataW Value × List MemPlace)} {w : World} {b r n base m size cnt : Nat} {D : DataW Value} {left : Lit → Bool} {e : TypeId} {v : Value} {xs : List Value} (h : w.ownsRow base e size v m xs) (hr : w.ranges P k R b r n D left cnt) : v.ownBlock ≠ some r ∧ v.ownBlock ≠ some b := by
  obtain ⟨es, clock, since, seen, c0, hb, F, hs, _, hr, _⟩ := hr
  rcases own_open h with ⟨rfl, rfl⟩ | ⟨g1, cap, cur, rfl, -, h2, -⟩
  · exact ⟨fun hg => (by cases hg), fun hg => (by cases hg)⟩
  · refine ⟨fun hg => ?_, fun hg => ?_⟩
    all_goals
      simp [Value.ownBlock] at hg
      subst hg
    · rw [h2] at hr
      cases hr
    · rw [h2] at hb
      cases hb
end
theorem infoPress : (Try.prog.info? 62).map (fun i => (i.zero, i.size, i.bytes)) = some (some (.agg #[.int .i64 0, .int .i64 0, .bool false, .slice none 0 0]), 4, 48) := by kernel_rfl
end Go.Proofs.Ytnjcahdelcdcfaa

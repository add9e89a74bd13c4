/- A layer is laid below the others (lay): all that can come of it, whatever the world. -/
import Derived.Test.YtdlglnkhhbkndaaLayCu
namespace Go.Proofs.Ytdlglnkhhbkndaa
open Go.RowKit Go.Maps
set_option linter.unusedSimpArgs false
set_option linter.unusedVariables false
set_option maxRecDepth 100000

theorem any_nms : ∀ (R : List Row) (nm : ByteArray), R.any (fun q => isCu q && decide (q.1 = nm)) = ((nms R).findIdx? fun b => decide (b = nm)).isSome
  | [], nm => rfl
  | q :: R, nm => by
    have := any_nms R nm
    cases h : isCu q
    · simp only [List.any_cons, h, Bool.false_and, Bool.false_or, this, nms, List.filter_cons]
      rfl
    · by_cases h2 : q.1 = nm
      · simp [h, h2, nms, List.findIdx?_cons]
      · simp only [List.any_cons, h, h2, decide_false, Bool.and_false, Bool.false_or, this]
        simp [nms, h, h2, List.findIdx?_cons]
theorem tops_snoc (R : List Row) (r : Row) : tops (R ++ [r]) = tops R ++ [thick R + r.2.thick] := by
  rw [show tops (R ++ [r]) = topsF 0 (R ++ [r]) from rfl, topsF_append, thick_append]
  simp [thick]
theorem nin_of_none {l : List ByteArray} {a : ByteArray} (h : (l.findIdx? fun b => decide (b = a)).isSome = false) : a ∉ l := by
  intro hm
  cases hi : l.findIdx? fun b => decide (b = a) with
  | some i => rw [hi] at h; cases h
  | none =>
    rw [List.findIdx?_eq_none_iff] at hi
    simpa using hi a hm
section
variable {base p q kn : Nat} {mv tv cv nv : Value} {f : Lit → Option Value} {R : List Row} {w : World}
/-- What comes of a layer. -/
def LayPost (base p q : Nat) (R : List Row) (r : Row) (w : World) (e : Ending) (w' : World) : Prop :=
  e = .returned (.int .i64 (rowF R r)) ∧ Below base w w' ∧ (rowF R r = 0 → ∃ kn' mv' tv' cv' nv' f', LayIn base p q kn' mv' tv' cv' nv' f' (R ++ [r]) w')
theorem lay_any (h : LayIn base p q kn mv tv cv nv f R w) (nm : ByteArray) (hs : nm.size ≤ maxLen) (x : Mat) (hx : matF x = 0) (hR : RowsOk R) (hl : R.length ≤ 999) (hbs : base ≤ w.heap.size) :
    Calls Try.prog 88 #[.pointer (some ⟨p, 0, none⟩), .string nm, .agg #[.string x.name, .int .i64 x.kind, .int .i64 x.thick, .int .i64 x.grow]] w (LayPost base p q R (nm, x) w) := by
  obtain ⟨_, _, _, hx0, hx1, _, _⟩ := matF_zero hx
  have ht := thick_bound R hR
  have bad : ∀ {c : Int}, rowF R (nm, x) = c → c ≠ 0 → (Calls Try.prog 88 #[.pointer (some ⟨p, 0, none⟩), .string nm, .agg #[.string x.name, .int .i64 x.kind, .int .i64 x.thick, .int .i64 x.grow]] w fun e w' => e = .returned (.int .i64 c) ∧ Below base w w') →
      Calls Try.prog 88 #[.pointer (some ⟨p, 0, none⟩), .string nm, .agg #[.string x.name, .int .i64 x.kind, .int .i64 x.thick, .int .i64 x.grow]] w (LayPost base p q R (nm, x) w) := by
    intro c hc hne hcall
    refine hcall.mono fun e w' hw => ⟨by rw [hc]; exact hw.1, hw.2, fun h0 => absurd (hc.symm.trans h0) hne⟩
  by_cases hk : x.kind = 1
  · have hc : isCu (nm, x) = true := by simp [isCu, hk]
    cases hw : wordB nm
    · exact bad (c := 5) (by simp [rowF, hc, hw]) (by decide) (lay_noword h nm hs x hk hw)
    · cases ht' : ((nms R).findIdx? fun b => decide (b = nm)).isSome
      · have e : rowF R (nm, x) = if R.getLast?.all (fun q => meetB q.2.kind x.kind) then 0 else 8 := by
          unfold rowF
          rw [any_nms, ht']
          simp [hc, hw]
        by_cases hm : ∀ r0, R.getLast? = some r0 → meetB r0.2.kind x.kind = true
        · have e0 : rowF R (nm, x) = 0 := by
            rw [e, if_pos]
            cases hl : R.getLast? with
            | none => rfl
            | some r0 => exact hm r0 hl
          refine (lay_cu h nm hs x hbs hk hw ht' hm (by omega) (by omega) (by omega) hx1).mono fun e' w' hw' => ⟨by rw [e0]; exact hw'.1, ?_, fun _ => ?_⟩
          · obtain ⟨_, _, _, _, hW⟩ := hw'.2
            exact hW.u
          · obtain ⟨mv', tv', cv', nv', hW⟩ := hw'.2
            refine ⟨kn + 1, mv', tv', cv', nv', putF f (.string nm.data.toList) (.int .i64 ((cus R).length : Nat)), ⟨?_, ?_, ?_, by rw [List.length_append]; exact Nat.succ_le_succ hl⟩⟩
            · have hg := hW.g
              rw [tops_snoc, nms_append, hc, if_pos rfl, List.map_append, show cus (R ++ [(nm, x)]) = cus R ++ [R.length] by rw [show cus (R ++ [(nm, x)]) = cusF 0 (R ++ [(nm, x)]) from rfl, cusF_append, hc, if_pos rfl, Nat.zero_add]]
              exact hg
            · rw [nms_append, hc, if_pos rfl]
              have := h.f.put (nin_of_none ht')
              rw [← cus_nms R 0] at this
              exact this
            · have := h.n
              simp
              omega
        · obtain ⟨r0, hr0, hm0⟩ : ∃ r0, R.getLast? = some r0 ∧ meetB r0.2.kind x.kind = false := by
            cases hl : R.getLast? with
            | none => exact absurd (fun r0 hr => by rw [hl] at hr; cases hr) hm
            | some r0 =>
              refine ⟨r0, rfl, ?_⟩
              cases hq : meetB r0.2.kind x.kind
              · rfl
              · exact absurd (fun r1 hr => by rw [hl] at hr; cases hr; exact hq) hm
          exact bad (c := 8) (by rw [e, hr0]; simp [hm0]) (by decide) (lay_clash h nm hs x hk hw ht' hr0 hm0)
      · exact bad (c := 7) (by unfold rowF; rw [any_nms, ht']; simp [hc, hw]) (by decide) (lay_twice h nm hs x hk hw ht')
  · have hc : isCu (nm, x) = false := by simp [isCu, hk]
    by_cases hw : nm = ByteArray.empty
    · have e : rowF R (nm, x) = if R.getLast?.all (fun q => meetB q.2.kind x.kind) then 0 else 8 := by
        unfold rowF
        rw [hc]
        simp [hw]
      by_cases hm : ∀ r0, R.getLast? = some r0 → meetB r0.2.kind x.kind = true
      · have e0 : rowF R (nm, x) = 0 := by
          rw [e, if_pos]
          cases hl : R.getLast? with
          | none => rfl
          | some r0 => exact hm r0 hl
        refine (lay_plain h nm hs x hbs hk hw hm (by omega) (by omega) (by omega) hx1).mono fun e' w' hw' => ⟨by rw [e0]; exact hw'.1, ?_, fun _ => ?_⟩
        · obtain ⟨_, _, hW⟩ := hw'.2
          exact hW.u
        · obtain ⟨mv', tv', hW⟩ := hw'.2
          refine ⟨kn, mv', tv', cv, nv, f, ⟨?_, ?_, ?_, by rw [List.length_append]; exact Nat.succ_le_succ hl⟩⟩
          · have hg := hW.g
            rw [tops_snoc, nms_append, hc, if_neg (by decide), List.append_nil, List.map_append, show cus (R ++ [(nm, x)]) = cus R by rw [show cus (R ++ [(nm, x)]) = cusF 0 (R ++ [(nm, x)]) from rfl, cusF_append, hc, if_neg (by decide), List.append_nil]]
            exact hg
          · rw [nms_append, hc, if_neg (by decide), List.append_nil]
            exact h.f
          · have := h.n
            simp
            omega
      · obtain ⟨r0, hr0, hm0⟩ : ∃ r0, R.getLast? = some r0 ∧ meetB r0.2.kind x.kind = false := by
          cases hl : R.getLast? with
          | none => exact absurd (fun r0 hr => by rw [hl] at hr; cases hr) hm
          | some r0 =>
            refine ⟨r0, rfl, ?_⟩
            cases hq : meetB r0.2.kind x.kind
            · rfl
            · exact absurd (fun r1 hr => by rw [hl] at hr; cases hr; exact hq) hm
        exact bad (c := 8) (by rw [e, hr0]; simp [hm0]) (by decide) (lay_clash2 h nm hs x hk hw hr0 hm0)
    · exact bad (c := 5) (by simp [rowF, hc, hw]) (by decide) (lay_named h nm hs x hk hw)
end
end Go.Proofs.Ytdlglnkhhbkndaa

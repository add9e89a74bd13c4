/- edgesOf and startingAt of package shape say what their plain counterparts say, whatever the world. -/
import Derived.Test.YtmcbjaefnhfopaaGreatShapeG
import Derived.Test.YtmcbjaefnhfopaaGreatRow
import Derived.Test.YtmcbjaefnhfopaaGreatRefG
import Derived.OwnWalk
namespace Go.Proofs.YtmcbjaefnhfopaaGreat
open Go.RowKit
open Reg (R4 E5)
set_option linter.unusedSimpArgs false
set_option linter.unusedVariables false

/-- A slice of sides reads as a list. -/
def RdE (w : World) (A : Option Addr) (l : List E5) : Prop :=
  0 < l.length → ∃ b off, A = some ⟨b, off, none⟩ ∧ b < w.heap.size ∧ ∀ i e, l[i]? = some e →
    w.cell? ⟨b, off + i * 5, none⟩ = some (.int .i64 e.x) ∧ w.cell? ⟨b, off + i * 5 + 1, none⟩ = some (.int .i64 e.y0) ∧ w.cell? ⟨b, off + i * 5 + 2, none⟩ = some (.int .i64 e.y1) ∧ w.cell? ⟨b, off + i * 5 + 3, none⟩ = some (.int .i64 e.li) ∧ w.cell? ⟨b, off + i * 5 + 4, none⟩ = some (.int .i64 e.st)
theorem RdE.below {w w' : World} {A : Option Addr} {l : List E5} (h : RdE w A l) (hb : Below w.heap.size w w') : RdE w' A l := fun hn => by
  obtain ⟨b, off, e, hlt, hc⟩ := h hn
  exact ⟨b, off, e, Nat.lt_of_lt_of_le hlt hb.size, fun i r hi => by
    obtain ⟨h0, h1, h2, h3, h4⟩ := hc i r hi
    exact ⟨((bcell hb).1 _ _ hlt).trans h0, ((bcell hb).1 _ _ hlt).trans h1, ((bcell hb).1 _ _ hlt).trans h2, ((bcell hb).1 _ _ hlt).trans h3, ((bcell hb).1 _ _ hlt).trans h4⟩⟩
theorem rdE_own {w : World} {base : Nat} {v : Value} {l : List E5} (h : w.ownsRow base 75 5 v l.length (cE l)) : ∃ A c, v = .slice A l.length c ∧ l.length ≤ c ∧ c ≤ maxLen ∧ RdE w A l ∧ (∀ g, v.ownBlock = some g → base ≤ g) := by
  obtain ⟨A, c, rfl, h1, h2, h3⟩ := own_cells h
  refine ⟨A, c, rfl, h1, h2, fun hpos => ?_, fun g hg => (h.lt g hg).1⟩
  obtain ⟨g, rfl, hg, hlt, hc⟩ := h3 hpos
  refine ⟨g, 0, rfl, hlt, fun i r hi => ?_⟩
  rw [Nat.zero_add]
  obtain ⟨a0, a1, a2, a3, a4⟩ := cE_at hi
  exact ⟨hc _ _ a0, hc _ _ a1, hc _ _ a2, hc _ _ a3, hc _ _ a4⟩
theorem infoE : (Tryz.prog.info? 75).map (fun i => (i.zero, i.size, i.bytes)) = some (some (.agg #[.int .i64 0, .int .i64 0, .int .i64 0, .int .i64 0, .int .i64 0]), 5, 40) := by kernel_rfl
theorem list_new (W : World) (b : Nat) (hb : b = W.heap.size) (cs : List Value) (t : TypeId) : ∀ j v, cs[j]? = some v → (W.alloc (.cells cs.toArray t)).cell? ((⟨b, 0, none⟩ : Addr).add j) = some v := by
  subst hb
  intro j v h
  have e : (⟨W.heap.size, 0, none⟩ : Addr).add j = ⟨W.heap.size, j, none⟩ := by unfold Addr.add; split <;> simp_all
  rw [e]
  simp [go_sem, h]
/-- A function that gives a row of sides of its own. -/
def GotE (w : World) (l : List E5) (e : Ending) (w' : World) : Prop := ∃ v, e = .returned v ∧ v ≠ .slice none 0 0 ∧ w'.ownsRow w.heap.size 75 5 v l.length (cE l) ∧ Below w.heap.size w w'
theorem edgesL_len (li : Int) (l : List R4) : (Reg.edgesL li l).length = 2 * l.length := by
  induction l with
  | nil => rfl
  | cons r l ih => rw [Reg.edgesL_cons]; simp only [List.length_cons, ih]; omega
theorem edgesL_snoc (li : Int) (l : List R4) (k : Nat) (h : k < l.length) : Reg.edgesL li (l.take (k + 1)) = Reg.edgesL li (l.take k) ++ [⟨l[k].x0, l[k].y0, l[k].y1, li, 1⟩, ⟨l[k].x1, l[k].y0, l[k].y1, li, -1⟩] := by
  rw [List.take_succ_eq_append_getElem h, Reg.edgesL, List.flatMap_append]
  rfl

set_option maxRecDepth 100000 in
set_option maxHeartbeats 1000000 in
theorem edgesOf_any (A : Option Addr) (l : List R4) (c : Nat) (li : Int) (w : World) (hl : l.length ≤ 1000000) (h : Rd w A l) :
    Calls Tryz.prog 72 #[.slice A l.length c, .int .i64 li] w (GotE w (Reg.edgesL li l)) := by
  obtain ⟨i0, hi, hz0, hz1, hz2⟩ := info_parts infoE
  have H0 := Lib.hid h
  clear h
  go_enter Tryz.func72, Tryz.ntmps72
  go_wp2_with (first | (at_make; refine wpList_make_own _ rfl (.const (.int .i64 0)) (.tmp 10) 71 rfl w.heap.size 75 i0 (.agg #[.int .i64 0, .int .i64 0, .int .i64 0, .int .i64 0, .int .i64 0]) 5 Tryz.underlying71 hi hz0 hz1 .i64 .i64 (2 * (l.length : Int)) (2 * l.length) rfl rfl ?m1 ?m2 ?m3 ?m4 ?_; (case m1 => omega); (case m2 => rw [hz2]; omega); (case m3 => simp only [maxLen]; omega); (case m4 => (first | (with_reducible exact Nat.le_refl _) | (with_reducible assumption) | omega | (simp only [World.size_alloc, World.size_setCell, World.size_drew]; omega) | (simp; omega) | (simp; done))); intro w1 hown hg; have HO := Lib.hid hown; have B1 := (Below.refl w.heap.size w).grown hg (Nat.le_refl _) (fun j hj => by cases hj); have z1 := hg.size; clear hown hg))
  go_loopw [5, 14] (fun v5 i wr => ∃ k : Nat, k ≤ l.length ∧ i = .int .i64 k ∧ v5 ≠ .slice none 0 0 ∧ wr.ownsRow w.heap.size 75 5 v5 (2 * k) (cE (Reg.edgesL li (l.take k))) ∧ Below w.heap.size w wr) (fun _ i _ => l.length - (intOf i).toNat)
  case atStart => exact ⟨0, Nat.zero_le _, rfl, by simp, HO.out, B1⟩
  case round =>
    obtain ⟨k, hk, rfl, hnn, hown, hbw⟩ := hrel
    have zw := hbw.size
    have HO1 := Lib.hid hown
    have HN := Lib.hid hnn
    clear hown hnn
    have hkz : (0 : Int) ≤ (k : Int) := by omega
    by_cases hlt : k < l.length
    · obtain ⟨b, off, rfl, hblt, hcs⟩ := (H0.out.below hbw) (by omega)
      have hi1 : l[k]? = some l[k] := List.getElem?_eq_getElem hlt
      obtain ⟨c0, c1, c2, c3⟩ := hcs k _ hi1
      have HS := Lib.hid (edgesL_snoc li l k hlt)
      clear hi1 hcs
      generalize l[k] = r at *
      have hklt : (k : Int) < (l.length : Int) := by omega
      go_wp2_with (first | (at_builtin; refine wpList_append_own _ rfl (.tmp 18) (.tmp 35) 71 rfl w.heap.size 75 i0 (.agg #[.int .i64 0, .int .i64 0, .int .i64 0, .int .i64 0, .int .i64 0]) 5 40 Tryz.underlying71 hi hz0 hz1 hz2 rfl (by decide) u5 (2 * k) (cE (Reg.edgesL li (l.take k))) rfl ?o1 ⟨wr.heap.size + 1, 0, none⟩ 2 2 [.int .i64 r.x0, .int .i64 r.y0, .int .i64 r.y1, .int .i64 li, .int .i64 1, .int .i64 r.x1, .int .i64 r.y0, .int .i64 r.y1, .int .i64 li, .int .i64 (-1)] rfl rfl ?nw ?o2 ?q4 ?q5 ?b2 ?_; (case o1 => exact ownsRow_below' HO1.out (by (repeat' (first | (with_reducible exact Below.refl _ _) | (with_reducible assumption) | (with_reducible refine Below.alloc ?_ ?_ _) | (with_reducible refine Below.drew ?_) | (with_reducible refine below_drewN ?_ _) | (with_reducible refine Below.setCell ?_ ?_ _) | (with_reducible exact Nat.le_refl _) | omega | (simp only [World.size_alloc, World.size_setCell, World.size_drew]; omega) | (simp; omega) | (simp; done))))); (case nw => exact list_new _ _ (by simp) _ _); (case o2 => simp [Value.oneCell']); (case q4 => simp only [maxLen]; omega); (case q5 => omega); (case b2 => (first | (with_reducible exact Nat.le_refl _) | (with_reducible assumption) | omega | (simp only [World.size_alloc, World.size_setCell, World.size_drew]; omega) | (simp; omega) | (simp; done))); intro v2 w2 hown2 hg2 hnil2; have HG2 := Lib.hid hg2; have HO2 := Lib.hid hown2; have HN2 := Lib.hid hnil2; have B2 := below_app (B := w.heap.size) (w0 := w) (by (repeat' (first | (with_reducible exact Below.refl _ _) | (with_reducible assumption) | (with_reducible refine Below.alloc ?_ ?_ _) | (with_reducible refine Below.drew ?_) | (with_reducible refine below_drewN ?_ _) | (with_reducible refine Below.setCell ?_ ?_ _) | (with_reducible exact Nat.le_refl _) | omega | (simp only [World.size_alloc, World.size_setCell, World.size_drew]; omega) | (simp; omega) | (simp; done)))) (ownsRow_below' HO1.out (by (repeat' (first | (with_reducible exact Below.refl _ _) | (with_reducible assumption) | (with_reducible refine Below.alloc ?_ ?_ _) | (with_reducible refine Below.drew ?_) | (with_reducible refine below_drewN ?_ _) | (with_reducible refine Below.setCell ?_ ?_ _) | (with_reducible exact Nat.le_refl _) | omega | (simp only [World.size_alloc, World.size_setCell, World.size_drew]; omega) | (simp; omega) | (simp; done))))) hg2 (Nat.le_refl _) (by (first | (with_reducible exact Nat.le_refl _) | (with_reducible assumption) | omega | (simp only [World.size_alloc, World.size_setCell, World.size_drew]; omega) | (simp; omega) | (simp; done))); clear hown2 hg2 hnil2))
      go_roundw
      case rel => exact ⟨k + 1, by omega, by go_num, fun e => HN.out (HN2.out.1 e).1, by rw [HS.out, cE_append]; exact HO2.out, B2⟩
      case measure => simp [intOf]; omega
    · obtain rfl : k = l.length := by omega
      rw [List.take_length] at HO1
      go_wp2_with fail
      go_ret
      exact ⟨_, rfl, HN.out, by rw [edgesL_len]; exact HO1.out, hbw⟩
end Go.Proofs.YtmcbjaefnhfopaaGreat

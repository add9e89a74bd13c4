/- What package stack says of a stack: whether it is right, how thick it is, how deep a copper lies, how far two are apart, whatever the world. -/
import Derived.Test.YtdlglnkhhbkndaaPiled
namespace Go.Proofs.Ytdlglnkhhbkndaa
open Go.RowKit Go.Maps Go.WideAt Go.WideMaps
set_option linter.unusedSimpArgs false
set_option linter.unusedVariables false
set_option maxRecDepth 100000

/-- Materials and layers that came in. -/
structure StkIn (A : Option Addr) (l : List Mat) (A2 : Option Addr) (s : List Lay) (w : World) : Prop where
  l1 : l.length ≤ 140737488355328
  l2 : s.length ≤ 140737488355328
  n : ∀ x ∈ l, x.name.size ≤ maxLen
  t : ∀ y ∈ s, y.name.size ≤ maxLen ∧ y.mat.size ≤ maxLen
  m : RdG 4 Mat.cs w A l
  y : RdG 2 Lay.cs w A2 s
theorem StkIn.below {A : Option Addr} {l : List Mat} {A2 : Option Addr} {s : List Lay} {w w' : World} (h : StkIn A l A2 s w) (hb : Below w.heap.size w w') : StkIn A l A2 s w' := ⟨h.l1, h.l2, h.n, h.t, h.m.below hb, h.y.below hb⟩
section
variable {A : Option Addr} {l : List Mat} {c : Nat} {A2 : Option Addr} {s : List Lay} {c2 : Nat} {w : World}
theorem piled_no (h : StkIn A l A2 s w) (h0 : stackF l s ≠ 0) : Calls Try.prog 54 #[.slice A l.length c, .slice A2 s.length c2] w fun e w' => e = .returned (.tuple #[.pointer none, .int .i64 (stackF l s)]) ∧ Below w.heap.size w w' :=
  (piled_any A l c A2 s c2 w h.l1 h.l2 h.n h.t h.m h.y).mono fun e w' ⟨hb, h1⟩ => by
    rcases h1 with ⟨_, h2⟩ | ⟨h2, _⟩
    · exact ⟨h2, hb⟩
    · exact absurd h2 h0
theorem piled_yes (h : StkIn A l A2 s w) (h0 : stackF l s = 0) : Calls Try.prog 54 #[.slice A l.length c, .slice A2 s.length c2] w fun e w' => ∃ p q kn mv tv cv nv f, e = .returned (.tuple #[.pointer (some ⟨p, 0, none⟩), .int .i64 0]) ∧ Below w.heap.size w w' ∧ LayIn w.heap.size p q kn mv tv cv nv f (rowsOf l s) w' :=
  (piled_any A l c A2 s c2 w h.l1 h.l2 h.n h.t h.m h.y).mono fun e w' ⟨hb, h1⟩ => by
    rcases h1 with ⟨h2, _⟩ | ⟨_, p, q, kn, mv, tv, cv, nv, f, h2, h3⟩
    · exact absurd h0 h2
    · exact ⟨p, q, kn, mv, tv, cv, nv, f, h2, hb, h3⟩
end
/-- The place of the copper of a name. -/
def placeOf (R : List Row) (a : ByteArray) : Option Nat := R.findIdx? fun r => isCu r && decide (r.1 = a)
theorem place_gen : ∀ (R : List Row) (a : ByteArray) (n : Nat), ((nms R).findIdx? fun b => decide (b = a)).bind (fun i => (cusF n R)[i]?) = (R.findIdx? fun r => isCu r && decide (r.1 = a)).map (· + n)
  | [], a, n => rfl
  | q :: R, a, n => by
    have ih := place_gen R a (n + 1)
    cases hq : isCu q
    · have e1 : nms (q :: R) = nms R := by simp [nms, List.filter_cons, hq]
      have e2 : cusF n (q :: R) = cusF (n + 1) R := by simp [cusF, hq]
      rw [e1, e2, ih, List.findIdx?_cons]
      simp only [hq, Bool.false_and, Bool.false_eq_true, if_false, Option.map_map]
      congr 1
      funext k
      simp only [Function.comp]
      omega
    · have e1 : nms (q :: R) = q.1 :: nms R := by simp [nms, List.filter_cons, hq]
      have e2 : cusF n (q :: R) = n :: cusF (n + 1) R := by simp [cusF, hq]
      rw [e1, e2, List.findIdx?_cons, List.findIdx?_cons]
      by_cases ha : q.1 = a
      · simp [ha, hq]
      · simp only [ha, decide_false, Bool.and_false, Bool.false_eq_true, if_false, Option.map_map]
        rw [show (Option.map ((fun x => x + n) ∘ fun i => i + 1) (List.findIdx? (fun r => isCu r && decide (r.fst = a)) R)) = Option.map (· + (n + 1)) (List.findIdx? (fun r => isCu r && decide (r.fst = a)) R) from by
          congr 1
          funext k
          simp only [Function.comp]
          omega, ← ih]
        cases List.findIdx? (fun b => decide (b = a)) (nms R) <;> simp
theorem place_some {R : List Row} {a : ByteArray} {j : Nat} (h : placeOf R a = some j) : ∃ i, ((nms R).findIdx? fun b => decide (b = a)) = some i ∧ (cus R)[i]? = some j := by
  have := place_gen R a 0
  unfold placeOf at h
  rw [h] at this
  cases hi : (nms R).findIdx? fun b => decide (b = a) with
  | none => rw [hi] at this; cases this
  | some i => exact ⟨i, rfl, by rw [hi] at this; simpa using this⟩
theorem place_none {R : List Row} {a : ByteArray} (h : placeOf R a = none) : ((nms R).findIdx? fun b => decide (b = a)) = none := by
  have := place_gen R a 0
  unfold placeOf at h
  rw [h] at this
  cases hi : (nms R).findIdx? fun b => decide (b = a) with
  | none => rfl
  | some i =>
    rw [hi] at this
    have hlt : i < (nms R).length := (List.findIdx?_eq_some_iff_findIdx_eq.1 hi).1
    rw [← cus_nms R 0] at hlt
    simp only [Option.bind_some, Option.map_none] at this
    rw [List.getElem?_eq_getElem hlt] at this
    cases this
section
variable {base p q kn : Nat} {mv tv cv nv : Value} {f : Lit → Option Value} {R : List Row} {w : World}
theorem cus_lt {R : List Row} {i j : Nat} (h : (cus R)[i]? = some j) : j < R.length := by
  obtain ⟨r, hr, _⟩ := cus_get h
  exact (List.getElem?_eq_some_iff.1 hr).1
set_option maxHeartbeats 1000000 in
theorem top_any (h : LayIn base p q kn mv tv cv nv f R w) {i j : Nat} (hj : (cus R)[i]? = some j) :
    Calls Try.prog 63 #[.pointer (some ⟨p, 0, none⟩), .int .i64 (i : Nat)] w fun e w' => e = .returned (.int .i64 (thick (R.take j))) ∧ ∃ k, w' = w.drewN k := by
  obtain ⟨At, ct, hvt, t1, t2, t3⟩ := own_cells h.g.t
  obtain ⟨Ac, cc, hvc, u1, u2, u3⟩ := own_cells h.g.c
  have hjl := cus_lt hj
  have hil := (List.getElem?_eq_some_iff.1 hj).1
  have htl : (tops R).length = R.length + 1 := topsF_length R 0
  obtain ⟨g, rfl, _, hgl, hct⟩ := t3 (by omega)
  obtain ⟨g2, rfl, _, hgl2, hcc⟩ := u3 (by omega)
  have a1 : w.cell? ⟨p, 1, none⟩ = some tv := by rw [blk_cell h.g.b]; rfl
  have a2 : w.cell? ⟨p, 2, none⟩ = some cv := by rw [blk_cell h.g.b]; rfl
  rw [htl] at hvt t1
  have d1 := hcc i _ (by rw [List.getElem?_map, hj]; rfl)
  have d2 := hct j _ (by rw [List.getElem?_map, tops_get (Nat.le_of_lt hjl)]; rfl)
  subst hvt hvc
  have t2' : ct ≤ 9223372036854775807 := t2
  have u2' : cc ≤ 9223372036854775807 := u2
  have hl := h.l
  have x1 : (0 : Int) ≤ (i : Int) := by omega
  have x2 : (i : Int) < ((cus R).length : Int) := Int.ofNat_lt.2 hil
  have x3 : (0 : Int) ≤ (j : Int) := by omega
  have x4 : (j : Int) < ((R.length + 1 : Nat) : Int) := by omega
  generalize thick (R.take j) = T at *
  generalize (cus R).length = nc at *
  generalize hn : R.length + 1 = nr at *
  clear h t3 u3 hct hcc hj t2 u2 htl hn
  go_enter Try.func63, Try.ntmps63
  go_wp2_with fail
  go_quiet (fail)
  go_wp2_with fail
  go_ret
  exact ⟨rfl, _, rfl⟩
set_option maxHeartbeats 1000000 in
theorem bottom_any (h : LayIn base p q kn mv tv cv nv f R w) {i j : Nat} (hj : (cus R)[i]? = some j) :
    Calls Try.prog 65 #[.pointer (some ⟨p, 0, none⟩), .int .i64 (i : Nat)] w fun e w' => e = .returned (.int .i64 (thick (R.take (j + 1)))) ∧ ∃ k, w' = w.drewN k := by
  obtain ⟨At, ct, hvt, t1, t2, t3⟩ := own_cells h.g.t
  obtain ⟨Ac, cc, hvc, u1, u2, u3⟩ := own_cells h.g.c
  have hjl := cus_lt hj
  have hil := (List.getElem?_eq_some_iff.1 hj).1
  have htl : (tops R).length = R.length + 1 := topsF_length R 0
  obtain ⟨g, rfl, _, hgl, hct⟩ := t3 (by omega)
  obtain ⟨g2, rfl, _, hgl2, hcc⟩ := u3 (by omega)
  have a1 : w.cell? ⟨p, 1, none⟩ = some tv := by rw [blk_cell h.g.b]; rfl
  have a2 : w.cell? ⟨p, 2, none⟩ = some cv := by rw [blk_cell h.g.b]; rfl
  rw [htl] at hvt t1
  have d1 := hcc i _ (by rw [List.getElem?_map, hj]; rfl)
  have d2 := hct (j + 1) _ (by rw [List.getElem?_map, tops_get (show j + 1 ≤ R.length from hjl)]; rfl)
  subst hvt hvc
  have t2' : ct ≤ 9223372036854775807 := t2
  have u2' : cc ≤ 9223372036854775807 := u2
  have hl := h.l
  have x1 : (0 : Int) ≤ (i : Int) := by omega
  have x2 : (i : Int) < ((cus R).length : Int) := Int.ofNat_lt.2 hil
  have x3 : (0 : Int) ≤ (j : Int) + 1 := by omega
  have x4 : (j : Int) + 1 < ((R.length + 1 : Nat) : Int) := by omega
  have x5 : IntKind.i64.wrap ((j : Int) + 1) = (j : Int) + 1 := IntWalk.i64_in _ (by omega)
  have x6 : ((j : Int) + 1).toNat = j + 1 := by omega
  generalize thick (R.take (j + 1)) = T at *
  generalize (cus R).length = nc at *
  generalize hn : R.length + 1 = nr at *
  clear h t3 u3 hct hcc hj t2 u2 htl hn
  go_enter Try.func65, Try.ntmps65
  go_wp2_with fail
  go_quiet (fail)
  go_wp2_with fail
  go_ret
  exact ⟨rfl, _, rfl⟩
end
end Go.Proofs.Ytdlglnkhhbkndaa

/- The nearest choice of sheets (Nearest), whatever the world. -/
import Derived.Test.YtdlglnkhhbkndaaAwy
namespace Go.Proofs.Ytdlglnkhhbkndaa
open Go.RowKit Go.Maps
set_option linter.unusedSimpArgs false
set_option linter.unusedVariables false
set_option maxRecDepth 100000

theorem dot_one : ∀ (gs ns : List Nat), ns.length = gs.length → dotI gs (ns.map fun n : Nat => (n : Int) + 1) = (gs.sum : Nat) + (sumG gs ns : Nat)
  | [], [], _ => rfl
  | [], _ :: _, h => by simp at h
  | _ :: _, [], h => by simp at h
  | g :: gs, n :: ns, h => by
    have ih := dot_one gs ns (by simpa using h)
    rw [List.map_cons, dotI, ih, List.sum_cons, sumG, Int.mul_add, Int.mul_one]
    have e : (g : Int) * (n : Int) = ((n * g : Nat) : Int) := by rw [Int.natCast_mul, Int.mul_comm]
    rw [e]
    omega
theorem sum_zeros : ∀ gs : List Nat, sumG gs (List.replicate gs.length 0) = 0
  | [] => rfl
  | g :: gs => by
    rw [List.length_cons, List.replicate_succ, sumG, sum_zeros gs]
    simp
theorem near_start {m : Nat} {gs : List Nat} {F : List Int} {Cs : List (List Nat)} (h : Chain m gs F Cs) (hm : 0 < m) (hb : (gs.length : Int) * m < neverN) : ∃ v, F[0]? = some v ∧ v < neverN := by
  obtain ⟨v, h1, h2⟩ := reach_ok h (ns := List.replicate gs.length 0) (by simp) (fun n hn => by rw [(List.mem_replicate.1 hn).2]; exact hm) (by rw [List.length_replicate]; exact hb)
  rw [sum_zeros] at h1
  rw [List.length_replicate] at h2
  exact ⟨v, h1, by omega⟩
theorem flat_atN {α β : Type} {cs : α → List β} {k : Nat} (hk : ∀ x, (cs x).length = k) : ∀ {l : List α} {i j : Nat} {x : α} {y : β}, l[i]? = some x → (cs x)[j]? = some y → (l.flatMap cs)[i * k + j]? = some y
  | [], _, _, _, _, h, _ => by simp at h
  | z :: l, 0, j, x, y, h, hj => by
    simp at h
    subst h
    have hjl := (List.getElem?_eq_some_iff.1 hj).1
    rw [List.flatMap_cons, Nat.zero_mul, Nat.zero_add, List.getElem?_append_left hjl]
    exact hj
  | z :: l, i + 1, j, x, y, h, hj => by
    have h' : l[i]? = some x := by simpa using h
    rw [List.flatMap_cons, List.getElem?_append_right (by rw [hk, Nat.succ_mul]; omega), hk, show (i + 1) * k + j - k = i * k + j by rw [Nat.succ_mul]; omega]
    exact flat_atN hk h' hj
theorem own_rdN {α : Type} {cs : α → List Value} {k : Nat} (hk : ∀ x, (cs x).length = k) {T : TypeId} {w : World} {B : Nat} {v : Value} {l : List α} (h : w.ownsRow B T k v l.length (l.flatMap cs)) : ∃ A c, v = .slice A l.length c ∧ l.length ≤ c ∧ c ≤ maxLen ∧ RdG k cs w A l := by
  obtain ⟨A, c, hv, h1, h2, h3⟩ := own_cells h
  refine ⟨A, c, hv, h1, h2, fun hn => ?_⟩
  obtain ⟨g, hA, _, hg, hc⟩ := h3 hn
  exact ⟨g, 0, hA, hg, fun i x hi j y hj => by rw [Nat.zero_add]; exact hc _ _ (flat_atN hk hi hj)⟩
/-- The best of the thicknesses so far. -/
def BestAt (T t : Int) (F : List Int) (k b : Nat) : Prop := (∃ v, F[b]? = some v ∧ v < neverN) ∧ (∀ (x : Nat) (v : Int), x < k → F[x]? = some v → v < neverN → awyN T t b ≤ awyN T t x) ∧ ∀ (x : Nat) (v : Int), x < b → F[x]? = some v → v < neverN → awyN T t b < awyN T t x
theorem best_step {T t : Int} {F : List Int} {k b : Nat} {v : Int} (h : BestAt T t F k b) (hk : F[k]? = some v) : (v < neverN → awyN T t k < awyN T t b → BestAt T t F (k + 1) k) ∧ (¬ (v < neverN ∧ awyN T t k < awyN T t b) → BestAt T t F (k + 1) b) := by
  refine ⟨fun h1 h2 => ⟨⟨v, hk, h1⟩, fun x u hx hu hl => ?_, fun x u hx hu hl => ?_⟩, fun h1 => ⟨h.1, fun x u hx hu hl => ?_, h.2.2⟩⟩
  · by_cases e : x = k
    · subst e; exact Int.le_refl _
    · have := h.2.1 x u (by omega) hu hl
      omega
  · have := h.2.1 x u hx hu hl
    omega
  · by_cases e : x = k
    · subst e
      rw [hk] at hu
      cases hu
      omega
    · exact h.2.1 x u (by omega) hu hl
section
variable {A : Option Addr} {l : List Mat} {c : Nat} {A2 : Option Addr} {s : List Lay} {c2 : Nat} {w : World}
set_option maxHeartbeats 1000000 in
theorem nearest_no (h : StkIn A l A2 s w) (m t : Int) (h0 : stackF l s ≠ 0) :
    Calls Try.prog 32 #[.slice A l.length c, .slice A2 s.length c2, .int .i64 m, .int .i64 t] w fun e w' => e = .returned (.tuple #[.slice none 0 0, .int .i64 0, .int .i64 (stackF l s)]) ∧ Below w.heap.size w w' := by
  have CP := Lib.hid (fun W (hb : Below w.heap.size w W) => piled_no (c := c) (c2 := c2) (w := W) (h.below hb) h0)
  generalize stackF l s = F at *
  have hd1 : (F == 0) = false := by simpa using h0
  have hd2 : (F != 0) = true := by simpa using h0
  clear h h0
  go_enter Try.func32, Try.ntmps32
  go_wp2_with fail
  refine (CP.out _ ((Below.refl w.heap.size w).alloc (Nat.le_refl _) _)).mono ?_
  rintro e w1 ⟨rfl, hb⟩
  have B1 := Lib.hid (((Below.refl w.heap.size w).alloc (Nat.le_refl _) (.cells #[.int .i64 t] 3)).trans (hb.mono (by simp)))
  have z1 := B1.out.size
  clear hb
  go_wp2_with fail
  go_ret3
  exact ⟨rfl, B1.out.alloc z1 _⟩
set_option maxHeartbeats 2000000 in
theorem nearest_range (h : StkIn A l A2 s w) (m t : Int) (h0 : stackF l s = 0) (hr : ¬ (1 ≤ m ∧ m ≤ 8 ∧ 0 ≤ t ∧ t ≤ 1000000)) :
    Calls Try.prog 32 #[.slice A l.length c, .slice A2 s.length c2, .int .i64 m, .int .i64 t] w fun e w' => e = .returned (.tuple #[.slice none 0 0, .int .i64 0, .int .i64 1]) ∧ Below w.heap.size w w' := by
  have CP := Lib.hid (fun W (hb : Below w.heap.size w W) => piled_yes (c := c) (c2 := c2) (w := W) (h.below hb) h0)
  clear h h0
  have key : ∀ (w1 : World) (p : Nat), Below (w.heap.size + 1) (w.alloc (.cells #[.int .i64 t] 3)) w1 → (w1.alloc (.cells #[.pointer (some ⟨p, 0, none⟩)] 76)).cell? ⟨w.heap.size, 0, none⟩ = some (.int .i64 t) ∧ Below w.heap.size w (w1.alloc (.cells #[.pointer (some ⟨p, 0, none⟩)] 76)) := by
    intro w1 p hb
    have hz : w.heap.size + 1 ≤ w1.heap.size := by simpa using hb.size
    refine ⟨(World.cell?_alloc_lt _ _ _ (show w.heap.size < w1.heap.size by omega)).trans ((hb.cell (p := ⟨w.heap.size, 0, none⟩) (Nat.lt_succ_self _)).trans (anc9 w _ _ 0 rfl)), (((Below.refl w.heap.size w).alloc (Nat.le_refl _) _).trans (hb.mono (Nat.le_succ _))).alloc (by omega) _⟩
  by_cases h1 : m < 1
  · have d1 : decide (m < 1) = true := decide_eq_true h1
    go_enter Try.func32, Try.ntmps32
    go_wp2_with fail
    refine (CP.out _ ((Below.refl w.heap.size w).alloc (Nat.le_refl _) _)).mono ?_
    rintro e w1 ⟨p, q, kn, mv, tv, cv, nv, f, rfl, hb, hL⟩
    rw [World.size_alloc] at hb
    obtain ⟨k1, k2⟩ := key w1 p hb
    have K2 := Lib.hid k2
    clear hb k2 hL
    go_wp2_with fail
    go_ret3
    exact ⟨rfl, K2.out⟩
  · have d1 : decide (m < 1) = false := decide_eq_false h1
    by_cases h2 : 8 < m
    · have d2 : decide (8 < m) = true := decide_eq_true h2
      go_enter Try.func32, Try.ntmps32
      go_wp2_with fail
      refine (CP.out _ ((Below.refl w.heap.size w).alloc (Nat.le_refl _) _)).mono ?_
      rintro e w1 ⟨p, q, kn, mv, tv, cv, nv, f, rfl, hb, hL⟩
      rw [World.size_alloc] at hb
      obtain ⟨k1, k2⟩ := key w1 p hb
      have K2 := Lib.hid k2
      clear hb k2 hL
      go_wp2_with fail
      go_ret3
      exact ⟨rfl, K2.out⟩
    · have d2 : decide (8 < m) = false := decide_eq_false h2
      by_cases h3 : t < 0
      · have d3 : decide (t < 0) = true := decide_eq_true h3
        go_enter Try.func32, Try.ntmps32
        go_wp2_with fail
        refine (CP.out _ ((Below.refl w.heap.size w).alloc (Nat.le_refl _) _)).mono ?_
        rintro e w1 ⟨p, q, kn, mv, tv, cv, nv, f, rfl, hb, hL⟩
        rw [World.size_alloc] at hb
        obtain ⟨k1, k2⟩ := key w1 p hb
        have K2 := Lib.hid k2
        clear hb k2 hL
        go_wp2_with fail
        go_ret3
        exact ⟨rfl, K2.out⟩
      · have d3 : decide (t < 0) = false := decide_eq_false h3
        have h4 : 1000000 < t := by omega
        have d4 : decide (1000000 < t) = true := decide_eq_true h4
        go_enter Try.func32, Try.ntmps32
        go_wp2_with fail
        refine (CP.out _ ((Below.refl w.heap.size w).alloc (Nat.le_refl _) _)).mono ?_
        rintro e w1 ⟨p, q, kn, mv, tv, cv, nv, f, rfl, hb, hL⟩
        rw [World.size_alloc] at hb
        obtain ⟨k1, k2⟩ := key w1 p hb
        have K2 := Lib.hid k2
        clear hb k2 hL
        go_wp2_with fail
        go_ret3
        exact ⟨rfl, K2.out⟩
end
end Go.Proofs.Ytdlglnkhhbkndaa

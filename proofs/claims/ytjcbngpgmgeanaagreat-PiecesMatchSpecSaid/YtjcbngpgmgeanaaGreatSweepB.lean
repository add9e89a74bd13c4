/- startingAt and the order of sides of package shape, whatever the world; the sort of sides. -/
import Derived.Test.YtjcbngpgmgeanaaGreatSweepA
import Derived.Shelf.SlSortCmp.WholeK
import Derived.Shelf.Lay
import Derived.Ground.SlsfProg
namespace Go.Proofs
open Go.Shelf
shelf_lay_g SlLaysF0.n6 Slsf 6 at Tryz 91 as Tryz.sortE
end Go.Proofs
namespace Go.Proofs.YtjcbngpgmgeanaaGreat
open Go.RowKit Go.Shelf Go.Lib Go.Sort
open Reg (R4 E5)
set_option linter.unusedSimpArgs false
set_option linter.unusedVariables false

def startN (y : Int) (l : List E5) : Nat := (l.takeWhile fun e => decide (e.y0 = y)).length
theorem startN_eq {y : Int} {e : E5} {l : List E5} (h : e.y0 = y) : startN y (e :: l) = startN y l + 1 := by simp [startN, h]
theorem startN_ne {y : Int} {e : E5} {l : List E5} (h : ¬ e.y0 = y) : startN y (e :: l) = 0 := by simp [startN, h]

set_option maxRecDepth 100000 in
set_option maxHeartbeats 1000000 in
theorem startingAt_any (A : Option Addr) (l : List E5) (c : Nat) (y : Int) (w : World) (hl : l.length ≤ 140737488355328) (h : RdE w A l) :
    Calls Tryz.prog 94 #[.slice A l.length c, .int .i64 y] w fun e w' => e = .returned (.int .i64 (startN y l)) ∧ w = w' := by
  have H0 := Lib.hid h
  clear h
  go_enter Tryz.func94, Tryz.ntmps94
  go_wp2_with fail
  go_loop [5] (fun i => ∃ k : Nat, k ≤ l.length ∧ i = .int .i64 k ∧ startN y l = k + startN y (l.drop k)) (fun i => l.length - (intOf i).toNat)
  case atStart => exact ⟨0, Nat.zero_le _, rfl, by simp⟩
  case round =>
    obtain ⟨k, hk, rfl, hf⟩ := hrel
    have HF := Lib.hid hf
    clear hf
    have hkz : (0 : Int) ≤ (k : Int) := by omega
    by_cases hlt : k < l.length
    · obtain ⟨b, off, rfl, hblt, hcs⟩ := H0.out (by omega)
      have hi1 : l[k]? = some l[k] := List.getElem?_eq_getElem hlt
      obtain ⟨c0, c1, c2, c3, c4⟩ := hcs k _ hi1
      have hd : l.drop k = l[k] :: l.drop (k + 1) := List.drop_eq_getElem_cons hlt
      have HD := Lib.hid hd
      clear hi1 hcs hd
      generalize l[k] = r at *
      have hklt : (k : Int) < (l.length : Int) := by omega
      by_cases hy : r.y0 = y
      · have hyb : (r.y0 == y) = true := by simpa using hy
        have hn : startN y l = k + 1 + startN y (l.drop (k + 1)) := by rw [HF.out, HD.out, startN_eq hy]; omega
        have HN := Lib.hid hn
        clear hn hy
        go_wp2_with fail
        go_round
        case rel => exact ⟨k + 1, by omega, by go_num, HN.out⟩
        case measure => simp [intOf]; omega
      · have hyb : (r.y0 == y) = false := by simpa using hy
        have hn : startN y l = k := by rw [HF.out, HD.out, startN_ne hy]; omega
        have HN := Lib.hid hn
        clear hn hy
        go_wp2_with fail
        go_ret
        exact ⟨by rw [HN.out]; rfl, rfl⟩
    · obtain rfl : k = l.length := by omega
      have hn : startN y l = l.length := by rw [HF.out, List.drop_length]; rfl
      have HN := Lib.hid hn
      clear hn
      go_wp2_with fail
      go_ret
      exact ⟨by rw [HN.out]; rfl, rfl⟩

/-- How sides are ordered: by Y0, then X. -/
def cmpE (d e : E5) : Int := orI (cmpI d.y0 e.y0) (cmpI d.x e.x)
theorem ltE (d e : E5) : ltOf cmpE d e = (decide (d.y0 < e.y0) || (decide (d.y0 = e.y0) && decide (d.x < e.x))) := by
  unfold ltOf cmpE orI cmpI
  rcases Int.lt_trichotomy d.y0 e.y0 with h | h | h
  · simp [h]
  · rcases Int.lt_trichotomy d.x e.x with h2 | h2 | h2
    · simp [h, h2]
    · simp [h, h2]
    · have : ¬ d.x < e.x := by omega
      simp [h, h2, this]
  · have h1 : ¬ d.y0 < e.y0 := by omega
    have h2 : ¬ d.y0 = e.y0 := by omega
    simp [h, h1, h2]
theorem swoE : SWO (ltOf cmpE) where
  irrefl x := by rw [ltE]; simp
  trans x y z h1 h2 := by rw [ltE] at *; simp at *; omega
  ntrans x y z h1 h2 := by rw [ltE] at *; simp at *; omega

theorem three_grow (w : World) (A B C : Obj) : (((w.alloc A).alloc B).alloc C).drew = grow (w.drewN 1) (#[A] ++ #[B] ++ #[C]) := by
  rw [alloc_eq_grow, alloc_eq_grow, alloc_eq_grow, grow_grow, grow_grow]
  rfl
set_option maxRecDepth 100000 in
set_option maxHeartbeats 1000000 in
theorem sweep1_any (d e : E5) (w : World) : Calls Tryz.prog 92 #[.agg #[.int .i64 d.x, .int .i64 d.y0, .int .i64 d.y1, .int .i64 d.li, .int .i64 d.st], .agg #[.int .i64 e.x, .int .i64 e.y0, .int .i64 e.y1, .int .i64 e.li, .int .i64 e.st]] w fun en w' =>
    en = .returned (.int .i64 (cmpE d e)) ∧ ∃ q os', w' = grow (w.drewN q) os' := by
  unfold cmpE
  go_enter Tryz.func92, Tryz.ntmps92
  go_wp2_with fail
  go_region_held3 (fun w' => w'.cell? ⟨w.heap.size, 0, none⟩ = some (.int .i64 d.x) ∧ w'.cell? ⟨w.heap.size, 1, none⟩ = some (.int .i64 d.y0) ∧ w'.cell? ⟨w.heap.size + 1, 0, none⟩ = some (.int .i64 e.x) ∧ w'.cell? ⟨w.heap.size + 1, 1, none⟩ = some (.int .i64 e.y0)) (go_keep)
    (first | (go_at_call 60; refine (compare_any _ _ _).mono ?_; rintro e w1 ⟨rfl, rfl⟩) | (go_at_call 33; refine (or_two _ (cmpI d.y0 e.y0) (cmpI d.x e.x) _ ?hc0 ?hc1).mono ?_; (case hc0 => simp [go_sem]); (case hc1 => simp [go_sem]); rintro e w1 ⟨rfl, rfl⟩))
  go_wp2_with fail
  go_ret
  exact ⟨rfl, 1, _, three_grow _ _ _ _⟩

theorem cE1_one (x : E5) : ∀ v ∈ cE1 x, v.oneCell' = true := by
  intro v hv
  simp [cE1] at hv
  rcases hv with rfl | rfl | rfl | rfl | rfl <;> rfl
theorem sortE_any (blk off cap : Nat) (d : Array E5) (w : World) (hH : HoldsK cE1 5 w blk off d) (hblk : blk < w.heap.size) (hsz : d.size < 4611686018427387904) :
    Calls Tryz.prog 91 #[.slice (some ⟨blk, off, none⟩) d.size cap, .func (.func 92) #[] #[]] w fun e w' =>
      e = .returned (.tuple #[]) ∧ ∃ d' n os, PermIn 0 d.size d d' ∧ SortedIn (ltOf cmpE) 0 d.size d' ∧ w' = sortWorldK cE1 5 w blk off n d' os := by
  have eg : ∀ args w, (callFunc 92 args).run Tryz.prog w = .ok (.enter 92 args) w := enters_of Tryz.func92 (by kernel_rfl) rfl
  exact AnyQ.slices_SortFunc Tryz.sortE 5 Tryz.isAgg126 Tryz.sizeOf126 cE1 (fun _ => rfl) cE1_one cmpE swoE 92 #[] blk off cap d w eg (fun _ _ _ _ x y => sweep1_any x y _) hH hblk hsz
end Go.Proofs.YtjcbngpgmgeanaaGreat

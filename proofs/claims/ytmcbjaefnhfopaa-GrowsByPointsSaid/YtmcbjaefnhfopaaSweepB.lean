/- startingAt and the order of sides of package shape, whatever the world; the sort of sides. -/
import Derived.Test.YtmcbjaefnhfopaaSweepA
import Derived.Shelf.SlSortCmp.WholeK
import Derived.Ground.SlsfProg
namespace Go.Proofs
open Go.Shelf
def Try.sortE_ren : Go.Shelf.Ren := ⟨fun | 6 => 80 | 15 => 97 | 14 => 96 | 28 => 111 | 29 => 112 | 20 => 103 | 21 => 104 | 22 => 105 | 23 => 106 | 24 => 107 | 25 => 108 | 26 => 109 | 27 => 110 | 46 => 117 | 47 => 118 | 48 => 119 | 49 => 120 | 50 => 121 | 57 => 131 | n => n, fun | 22 => 83 | 24 => 87 | 25 => 88 | 3 => 3 | 39 => 111 | 0 => 0 | 53 => 129 | 55 => 131 | 4 => 4 | 46 => 123 | 45 => 122 | 50 => 106 | 5 => 5 | 9 => 9 | 66 => 136 | 70 => 140 | 76 => 147 | 77 => 148 | n => n, fun | n => n⟩
theorem Try.sortE : Go.Proofs.SlLaysF0.n6 Try.prog Try.sortE_ren := {
  mixed := by kernel_rfl
  f6 := ⟨Try.f80.name, by decide, Try.func80.trans (congrArg some (by kernel_rfl))⟩
  f14 := ⟨Try.f96.name, by decide, Try.func96.trans (congrArg some (by kernel_rfl))⟩
  f15 := Try.func97.trans (congrArg some (by kernel_rfl))
  f20 := ⟨Try.f103.name, by decide, Try.func103.trans (congrArg some (by kernel_rfl))⟩
  f21 := ⟨Try.f104.name, by decide, Try.func104.trans (congrArg some (by kernel_rfl))⟩
  f22 := ⟨Try.f105.name, by decide, Try.func105.trans (congrArg some (by kernel_rfl))⟩
  f23 := ⟨Try.f106.name, by decide, Try.func106.trans (congrArg some (by kernel_rfl))⟩
  f24 := ⟨Try.f107.name, by decide, Try.func107.trans (congrArg some (by kernel_rfl))⟩
  f25 := ⟨Try.f108.name, by decide, Try.func108.trans (congrArg some (by kernel_rfl))⟩
  f26 := ⟨Try.f109.name, by decide, Try.func109.trans (congrArg some (by kernel_rfl))⟩
  f27 := ⟨Try.f110.name, by decide, Try.func110.trans (congrArg some (by kernel_rfl))⟩
  f28 := Try.func111.trans (congrArg some (by kernel_rfl))
  f29 := Try.func112.trans (congrArg some (by kernel_rfl))
  f46 := ⟨Try.f117.name, by decide, Try.func117.trans (congrArg some (by kernel_rfl))⟩
  f47 := Try.func118.trans (congrArg some (by kernel_rfl))
  f48 := Try.func119.trans (congrArg some (by kernel_rfl))
  f49 := ⟨Try.f120.name, by decide, Try.func120.trans (congrArg some (by kernel_rfl))⟩
  f50 := ⟨Try.f121.name, by decide, Try.func121.trans (congrArg some (by kernel_rfl))⟩
  f57 := ⟨Try.f131.name, by decide, Try.func131.trans (congrArg some (by kernel_rfl))⟩
  t0 := Try.underlying0
  a0 := Try.isAgg0
  z0 := Try.sizeOf0
  v0 := Try.zeroValue0
  t3 := Try.underlying3
  a3 := Try.isAgg3
  z3 := Try.sizeOf3
  v3 := Try.zeroValue3
  t4 := Try.underlying4
  a4 := Try.isAgg4
  z4 := Try.sizeOf4
  v4 := Try.zeroValue4
  t5 := Try.underlying5
  a5 := Try.isAgg5
  z5 := Try.sizeOf5
  v5 := Try.zeroValue5
  t9 := Try.underlying9
  a9 := Try.isAgg9
  z9 := Try.sizeOf9
  v9 := Try.zeroValue9
  t22 := Try.underlying83
  a22 := Try.isAgg83
  z22 := Try.sizeOf83
  v22 := Try.zeroValue83
  t25 := Try.underlying88
  a25 := Try.isAgg88
  z25 := Try.sizeOf88
  v25 := Try.zeroValue88
  t39 := Try.underlying111
  a39 := Try.isAgg111
  z39 := Try.sizeOf111
  v39 := Try.zeroValue111
  t45 := Try.underlying122
  a45 := Try.isAgg122
  z45 := Try.sizeOf122
  v45 := Try.zeroValue122
  t46 := Try.underlying123
  a46 := Try.isAgg123
  z46 := Try.sizeOf123
  v46 := Try.zeroValue123
  t50 := Try.underlying106
  a50 := Try.isAgg106
  z50 := Try.sizeOf106
  v50 := Try.zeroValue106
  t53 := Try.underlying129
  a53 := Try.isAgg129
  z53 := Try.sizeOf129
  v53 := Try.zeroValue129
  t55 := Try.underlying131
  a55 := Try.isAgg131
  z55 := Try.sizeOf131
  v55 := Try.zeroValue131
  t66 := Try.underlying136
  a66 := Try.isAgg136
  z66 := Try.sizeOf136
  v66 := Try.zeroValue136
  t70 := Try.underlying140
  a70 := Try.isAgg140
  z70 := Try.sizeOf140
  v70 := Try.zeroValue140
  t76 := Try.underlying147
  a76 := Try.isAgg147
  z76 := Try.sizeOf147
  v76 := Try.zeroValue147
  t77 := Try.underlying148
  a77 := Try.isAgg148
  z77 := Try.sizeOf148
  v77 := Try.zeroValue148 }
end Go.Proofs
namespace Go.Proofs.Ytmcbjaefnhfopaa
open Go.RowKit Go.Shelf Go.Lib Go.Sort
open Reg (R4 E5)
set_option linter.unusedSimpArgs false
set_option linter.unusedVariables false

def startN (y : Int) (l : List E5) : Nat := (l.takeWhile fun e => decide (e.y0 = y)).length
theorem startN_eq {y : Int} {e : E5} {l : List E5} (h : e.y0 = y) : startN y (e :: l) = startN y l + 1 := by simp [startN, h]
theorem startN_ne {y : Int} {e : E5} {l : List E5} (h : ¬ e.y0 = y) : startN y (e :: l) = 0 := by simp [startN, h]

set_option maxRecDepth 100000 in
set_option maxHeartbeats 1000000 in
theorem startingAt_any (A : Option Addr) (l : List E5) (c : Nat) (y : Int) (w : World) (hl : l.length ≤ 140737488355328) (h : RdE w A l) :
    Calls Try.prog 83 #[.slice A l.length c, .int .i64 y] w fun e w' => e = .returned (.int .i64 (startN y l)) ∧ w = w' := by
  have H0 := Lib.hid h
  clear h
  go_enter Try.func83, Try.ntmps83
  go_wp2_with fail
  go_loop [5] (fun i => ∃ k : Nat, k ≤ l.length ∧ i = .int .i64 k ∧ startN y l = k + startN y (l.drop k)) (fun i => l.length - (intOf i).toNat)
  case atStart => exact ⟨0, Nat.zero_le _, rfl, by simp⟩
  case round =>
    obtain ⟨k, hk, rfl, hf⟩ := hrel
    have HF := Lib.hid hf
    clear hf
    have hkz : (0 : Int) ≤ (k : Int) := by omega
    by_cases hlt : k < l.length
    · obtain ⟨b, off, rfl, hblt, hcs⟩ := H0.out (by omega)
      have hi1 : l[k]? = some l[k] := List.getElem?_eq_getElem hlt
      obtain ⟨c0, c1, c2, c3, c4⟩ := hcs k _ hi1
      have hd : l.drop k = l[k] :: l.drop (k + 1) := List.drop_eq_getElem_cons hlt
      have HD := Lib.hid hd
      clear hi1 hcs hd
      generalize l[k] = r at *
      have hklt : (k : Int) < (l.length : Int) := by omega
      by_cases hy : r.y0 = y
      · have hyb : (r.y0 == y) = true := by simpa using hy
        have hn : startN y l = k + 1 + startN y (l.drop (k + 1)) := by rw [HF.out, HD.out, startN_eq hy]; omega
        have HN := Lib.hid hn
        clear hn hy
        go_wp2_with fail
        go_round
        case rel => exact ⟨k + 1, by omega, by go_num, HN.out⟩
        case measure => simp [intOf]; omega
      · have hyb : (r.y0 == y) = false := by simpa using hy
        have hn : startN y l = k := by rw [HF.out, HD.out, startN_ne hy]; omega
        have HN := Lib.hid hn
        clear hn hy
        go_wp2_with fail
        go_ret
        exact ⟨by rw [HN.out]; rfl, rfl⟩
    · obtain rfl : k = l.length := by omega
      have hn : startN y l = l.length := by rw [HF.out, List.drop_length]; rfl
      have HN := Lib.hid hn
      clear hn
      go_wp2_with fail
      go_ret
      exact ⟨by rw [HN.out]; rfl, rfl⟩

/-- How sides are ordered: by Y0, then X. -/
def cmpE (d e : E5) : Int := orI (cmpI d.y0 e.y0) (cmpI d.x e.x)
theorem ltE (d e : E5) : ltOf cmpE d e = (decide (d.y0 < e.y0) || (decide (d.y0 = e.y0) && decide (d.x < e.x))) := by
  unfold ltOf cmpE orI cmpI
  rcases Int.lt_trichotomy d.y0 e.y0 with h | h | h
  · simp [h]
  · rcases Int.lt_trichotomy d.x e.x with h2 | h2 | h2
    · simp [h, h2]
    · simp [h, h2]
    · have : ¬ d.x < e.x := by omega
      simp [h, h2, this]
  · have h1 : ¬ d.y0 < e.y0 := by omega
    have h2 : ¬ d.y0 = e.y0 := by omega
    simp [h, h1, h2]
theorem swoE : SWO (ltOf cmpE) where
  irrefl x := by rw [ltE]; simp
  trans x y z h1 h2 := by rw [ltE] at *; simp at *; omega
  ntrans x y z h1 h2 := by rw [ltE] at *; simp at *; omega

theorem three_grow (w : World) (A B C : Obj) : (((w.alloc A).alloc B).alloc C).drew = grow (w.drewN 1) (#[A] ++ #[B] ++ #[C]) := by
  rw [alloc_eq_grow, alloc_eq_grow, alloc_eq_grow, grow_grow, grow_grow]
  rfl
set_option maxRecDepth 100000 in
set_option maxHeartbeats 1000000 in
theorem sweep1_any (d e : E5) (w : World) : Calls Try.prog 81 #[.agg #[.int .i64 d.x, .int .i64 d.y0, .int .i64 d.y1, .int .i64 d.li, .int .i64 d.st], .agg #[.int .i64 e.x, .int .i64 e.y0, .int .i64 e.y1, .int .i64 e.li, .int .i64 e.st]] w fun en w' =>
    en = .returned (.int .i64 (cmpE d e)) ∧ ∃ q os', w' = grow (w.drewN q) os' := by
  unfold cmpE
  go_enter Try.func81, Try.ntmps81
  go_wp2_with fail
  go_region_held3 (fun w' => w'.cell? ⟨w.heap.size, 0, none⟩ = some (.int .i64 d.x) ∧ w'.cell? ⟨w.heap.size, 1, none⟩ = some (.int .i64 d.y0) ∧ w'.cell? ⟨w.heap.size + 1, 0, none⟩ = some (.int .i64 e.x) ∧ w'.cell? ⟨w.heap.size + 1, 1, none⟩ = some (.int .i64 e.y0)) (go_keep)
    (first | (go_at_call 66; refine (compare_any _ _ _).mono ?_; rintro e w1 ⟨rfl, rfl⟩) | (go_at_call 65; refine (or_two _ (cmpI d.y0 e.y0) (cmpI d.x e.x) _ ?hc0 ?hc1).mono ?_; (case hc0 => simp [go_sem]); (case hc1 => simp [go_sem]); rintro e w1 ⟨rfl, rfl⟩))
  go_wp2_with fail
  go_ret
  exact ⟨rfl, 1, _, three_grow _ _ _ _⟩

theorem cE1_one (x : E5) : ∀ v ∈ cE1 x, v.oneCell' = true := by
  intro v hv
  simp [cE1] at hv
  rcases hv with rfl | rfl | rfl | rfl | rfl <;> rfl
theorem sortE_any (blk off cap : Nat) (d : Array E5) (w : World) (hH : HoldsK cE1 5 w blk off d) (hblk : blk < w.heap.size) (hsz : d.size < 4611686018427387904) :
    Calls Try.prog 80 #[.slice (some ⟨blk, off, none⟩) d.size cap, .func (.func 81) #[] #[]] w fun e w' =>
      e = .returned (.tuple #[]) ∧ ∃ d' n os, PermIn 0 d.size d d' ∧ SortedIn (ltOf cmpE) 0 d.size d' ∧ w' = sortWorldK cE1 5 w blk off n d' os := by
  have eg : ∀ args w, (callFunc 81 args).run Try.prog w = .ok (.enter 81 args) w := enters_of Try.func81 (by kernel_rfl) rfl
  exact AnyQ.slices_SortFunc Try.sortE 5 Try.isAgg87 Try.sizeOf87 cE1 (fun _ => rfl) cE1_one cmpE swoE 81 #[] blk off cap d w eg (fun _ _ _ _ x y => sweep1_any x y _) hH hblk hsz
end Go.Proofs.Ytmcbjaefnhfopaa

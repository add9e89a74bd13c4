/- startingAt and the order of sides of package shape, whatever the world; the sort of sides. -/
import Derived.Test.YtmcbjaefnhfopaaGreatSweepA
import Derived.Shelf.SlSortCmp.WholeK
import Derived.Ground.SlsfProg
namespace Go.Proofs
open Go.Shelf
def Tryz.sortE_ren : Go.Shelf.Ren := ⟨fun | 6 => 73 | 15 => 89 | 14 => 88 | 28 => 103 | 29 => 104 | 20 => 95 | 21 => 96 | 22 => 97 | 23 => 98 | 24 => 99 | 25 => 100 | 26 => 101 | 27 => 102 | 46 => 109 | 47 => 110 | 48 => 111 | 49 => 112 | 50 => 113 | 57 => 123 | n => n, fun | 22 => 71 | 24 => 75 | 25 => 76 | 3 => 3 | 39 => 99 | 0 => 0 | 53 => 117 | 55 => 119 | 4 => 4 | 46 => 111 | 45 => 110 | 50 => 87 | 5 => 5 | 9 => 9 | 66 => 124 | 70 => 128 | 76 => 135 | 77 => 136 | n => n, fun | n => n⟩
theorem Tryz.sortE : Go.Proofs.SlLaysF0.n6 Tryz.prog Tryz.sortE_ren := {
  mixed := by kernel_rfl
  f6 := ⟨Tryz.f73.name, by decide, Tryz.func73.trans (congrArg some (by kernel_rfl))⟩
  f14 := ⟨Tryz.f88.name, by decide, Tryz.func88.trans (congrArg some (by kernel_rfl))⟩
  f15 := Tryz.func89.trans (congrArg some (by kernel_rfl))
  f20 := ⟨Tryz.f95.name, by decide, Tryz.func95.trans (congrArg some (by kernel_rfl))⟩
  f21 := ⟨Tryz.f96.name, by decide, Tryz.func96.trans (congrArg some (by kernel_rfl))⟩
  f22 := ⟨Tryz.f97.name, by decide, Tryz.func97.trans (congrArg some (by kernel_rfl))⟩
  f23 := ⟨Tryz.f98.name, by decide, Tryz.func98.trans (congrArg some (by kernel_rfl))⟩
  f24 := ⟨Tryz.f99.name, by decide, Tryz.func99.trans (congrArg some (by kernel_rfl))⟩
  f25 := ⟨Tryz.f100.name, by decide, Tryz.func100.trans (congrArg some (by kernel_rfl))⟩
  f26 := ⟨Tryz.f101.name, by decide, Tryz.func101.trans (congrArg some (by kernel_rfl))⟩
  f27 := ⟨Tryz.f102.name, by decide, Tryz.func102.trans (congrArg some (by kernel_rfl))⟩
  f28 := Tryz.func103.trans (congrArg some (by kernel_rfl))
  f29 := Tryz.func104.trans (congrArg some (by kernel_rfl))
  f46 := ⟨Tryz.f109.name, by decide, Tryz.func109.trans (congrArg some (by kernel_rfl))⟩
  f47 := Tryz.func110.trans (congrArg some (by kernel_rfl))
  f48 := Tryz.func111.trans (congrArg some (by kernel_rfl))
  f49 := ⟨Tryz.f112.name, by decide, Tryz.func112.trans (congrArg some (by kernel_rfl))⟩
  f50 := ⟨Tryz.f113.name, by decide, Tryz.func113.trans (congrArg some (by kernel_rfl))⟩
  f57 := ⟨Tryz.f123.name, by decide, Tryz.func123.trans (congrArg some (by kernel_rfl))⟩
  t0 := Tryz.underlying0
  a0 := Tryz.isAgg0
  z0 := Tryz.sizeOf0
  v0 := Tryz.zeroValue0
  t3 := Tryz.underlying3
  a3 := Tryz.isAgg3
  z3 := Tryz.sizeOf3
  v3 := Tryz.zeroValue3
  t4 := Tryz.underlying4
  a4 := Tryz.isAgg4
  z4 := Tryz.sizeOf4
  v4 := Tryz.zeroValue4
  t5 := Tryz.underlying5
  a5 := Tryz.isAgg5
  z5 := Tryz.sizeOf5
  v5 := Tryz.zeroValue5
  t9 := Tryz.underlying9
  a9 := Tryz.isAgg9
  z9 := Tryz.sizeOf9
  v9 := Tryz.zeroValue9
  t22 := Tryz.underlying71
  a22 := Tryz.isAgg71
  z22 := Tryz.sizeOf71
  v22 := Tryz.zeroValue71
  t25 := Tryz.underlying76
  a25 := Tryz.isAgg76
  z25 := Tryz.sizeOf76
  v25 := Tryz.zeroValue76
  t39 := Tryz.underlying99
  a39 := Tryz.isAgg99
  z39 := Tryz.sizeOf99
  v39 := Tryz.zeroValue99
  t45 := Tryz.underlying110
  a45 := Tryz.isAgg110
  z45 := Tryz.sizeOf110
  v45 := Tryz.zeroValue110
  t46 := Tryz.underlying111
  a46 := Tryz.isAgg111
  z46 := Tryz.sizeOf111
  v46 := Tryz.zeroValue111
  t50 := Tryz.underlying87
  a50 := Tryz.isAgg87
  z50 := Tryz.sizeOf87
  v50 := Tryz.zeroValue87
  t53 := Tryz.underlying117
  a53 := Tryz.isAgg117
  z53 := Tryz.sizeOf117
  v53 := Tryz.zeroValue117
  t55 := Tryz.underlying119
  a55 := Tryz.isAgg119
  z55 := Tryz.sizeOf119
  v55 := Tryz.zeroValue119
  t66 := Tryz.underlying124
  a66 := Tryz.isAgg124
  z66 := Tryz.sizeOf124
  v66 := Tryz.zeroValue124
  t70 := Tryz.underlying128
  a70 := Tryz.isAgg128
  z70 := Tryz.sizeOf128
  v70 := Tryz.zeroValue128
  t76 := Tryz.underlying135
  a76 := Tryz.isAgg135
  z76 := Tryz.sizeOf135
  v76 := Tryz.zeroValue135
  t77 := Tryz.underlying136
  a77 := Tryz.isAgg136
  z77 := Tryz.sizeOf136
  v77 := Tryz.zeroValue136 }
end Go.Proofs
namespace Go.Proofs.YtmcbjaefnhfopaaGreat
open Go.RowKit Go.Shelf Go.Lib Go.Sort
open Reg (R4 E5)
set_option linter.unusedSimpArgs false
set_option linter.unusedVariables false

def startN (y : Int) (l : List E5) : Nat := (l.takeWhile fun e => decide (e.y0 = y)).length
theorem startN_eq {y : Int} {e : E5} {l : List E5} (h : e.y0 = y) : startN y (e :: l) = startN y l + 1 := by simp [startN, h]
theorem startN_ne {y : Int} {e : E5} {l : List E5} (h : ¬ e.y0 = y) : startN y (e :: l) = 0 := by simp [startN, h]

set_option maxRecDepth 100000 in
set_option maxHeartbeats 1000000 in
theorem startingAt_any (A : Option Addr) (l : List E5) (c : Nat) (y : Int) (w : World) (hl : l.length ≤ 140737488355328) (h : RdE w A l) :
    Calls Tryz.prog 76 #[.slice A l.length c, .int .i64 y] w fun e w' => e = .returned (.int .i64 (startN y l)) ∧ w = w' := by
  have H0 := Lib.hid h
  clear h
  go_enter Tryz.func76, Tryz.ntmps76
  go_wp2_with fail
  go_loop [5] (fun i => ∃ k : Nat, k ≤ l.length ∧ i = .int .i64 k ∧ startN y l = k + startN y (l.drop k)) (fun i => l.length - (intOf i).toNat)
  case atStart => exact ⟨0, Nat.zero_le _, rfl, by simp⟩
  case round =>
    obtain ⟨k, hk, rfl, hf⟩ := hrel
    have HF := Lib.hid hf
    clear hf
    have hkz : (0 : Int) ≤ (k : Int) := by omega
    by_cases hlt : k < l.length
    · obtain ⟨b, off, rfl, hblt, hcs⟩ := H0.out (by omega)
      have hi1 : l[k]? = some l[k] := List.getElem?_eq_getElem hlt
      obtain ⟨c0, c1, c2, c3, c4⟩ := hcs k _ hi1
      have hd : l.drop k = l[k] :: l.drop (k + 1) := List.drop_eq_getElem_cons hlt
      have HD := Lib.hid hd
      clear hi1 hcs hd
      generalize l[k] = r at *
      have hklt : (k : Int) < (l.length : Int) := by omega
      by_cases hy : r.y0 = y
      · have hyb : (r.y0 == y) = true := by simpa using hy
        have hn : startN y l = k + 1 + startN y (l.drop (k + 1)) := by rw [HF.out, HD.out, startN_eq hy]; omega
        have HN := Lib.hid hn
        clear hn hy
        go_wp2_with fail
        go_round
        case rel => exact ⟨k + 1, by omega, by go_num, HN.out⟩
        case measure => simp [intOf]; omega
      · have hyb : (r.y0 == y) = false := by simpa using hy
        have hn : startN y l = k := by rw [HF.out, HD.out, startN_ne hy]; omega
        have HN := Lib.hid hn
        clear hn hy
        go_wp2_with fail
        go_ret
        exact ⟨by rw [HN.out]; rfl, rfl⟩
    · obtain rfl : k = l.length := by omega
      have hn : startN y l = l.length := by rw [HF.out, List.drop_length]; rfl
      have HN := Lib.hid hn
      clear hn
      go_wp2_with fail
      go_ret
      exact ⟨by rw [HN.out]; rfl, rfl⟩

/-- How sides are ordered: by Y0, then X. -/
def cmpE (d e : E5) : Int := orI (cmpI d.y0 e.y0) (cmpI d.x e.x)
theorem ltE (d e : E5) : ltOf cmpE d e = (decide (d.y0 < e.y0) || (decide (d.y0 = e.y0) && decide (d.x < e.x))) := by
  unfold ltOf cmpE orI cmpI
  rcases Int.lt_trichotomy d.y0 e.y0 with h | h | h
  · simp [h]
  · rcases Int.lt_trichotomy d.x e.x with h2 | h2 | h2
    · simp [h, h2]
    · simp [h, h2]
    · have : ¬ d.x < e.x := by omega
      simp [h, h2, this]
  · have h1 : ¬ d.y0 < e.y0 := by omega
    have h2 : ¬ d.y0 = e.y0 := by omega
    simp [h, h1, h2]
theorem swoE : SWO (ltOf cmpE) where
  irrefl x := by rw [ltE]; simp
  trans x y z h1 h2 := by rw [ltE] at *; simp at *; omega
  ntrans x y z h1 h2 := by rw [ltE] at *; simp at *; omega

theorem three_grow (w : World) (A B C : Obj) : (((w.alloc A).alloc B).alloc C).drew = grow (w.drewN 1) (#[A] ++ #[B] ++ #[C]) := by
  rw [alloc_eq_grow, alloc_eq_grow, alloc_eq_grow, grow_grow, grow_grow]
  rfl
set_option maxRecDepth 100000 in
set_option maxHeartbeats 1000000 in
theorem sweep1_any (d e : E5) (w : World) : Calls Tryz.prog 74 #[.agg #[.int .i64 d.x, .int .i64 d.y0, .int .i64 d.y1, .int .i64 d.li, .int .i64 d.st], .agg #[.int .i64 e.x, .int .i64 e.y0, .int .i64 e.y1, .int .i64 e.li, .int .i64 e.st]] w fun en w' =>
    en = .returned (.int .i64 (cmpE d e)) ∧ ∃ q os', w' = grow (w.drewN q) os' := by
  unfold cmpE
  go_enter Tryz.func74, Tryz.ntmps74
  go_wp2_with fail
  go_region_held3 (fun w' => w'.cell? ⟨w.heap.size, 0, none⟩ = some (.int .i64 d.x) ∧ w'.cell? ⟨w.heap.size, 1, none⟩ = some (.int .i64 d.y0) ∧ w'.cell? ⟨w.heap.size + 1, 0, none⟩ = some (.int .i64 e.x) ∧ w'.cell? ⟨w.heap.size + 1, 1, none⟩ = some (.int .i64 e.y0)) (go_keep)
    (first | (go_at_call 68; refine (compare_any _ _ _).mono ?_; rintro e w1 ⟨rfl, rfl⟩) | (go_at_call 67; refine (or_two _ (cmpI d.y0 e.y0) (cmpI d.x e.x) _ ?hc0 ?hc1).mono ?_; (case hc0 => simp [go_sem]); (case hc1 => simp [go_sem]); rintro e w1 ⟨rfl, rfl⟩))
  go_wp2_with fail
  go_ret
  exact ⟨rfl, 1, _, three_grow _ _ _ _⟩

theorem cE1_one (x : E5) : ∀ v ∈ cE1 x, v.oneCell' = true := by
  intro v hv
  simp [cE1] at hv
  rcases hv with rfl | rfl | rfl | rfl | rfl <;> rfl
theorem sortE_any (blk off cap : Nat) (d : Array E5) (w : World) (hH : HoldsK cE1 5 w blk off d) (hblk : blk < w.heap.size) (hsz : d.size < 4611686018427387904) :
    Calls Tryz.prog 73 #[.slice (some ⟨blk, off, none⟩) d.size cap, .func (.func 74) #[] #[]] w fun e w' =>
      e = .returned (.tuple #[]) ∧ ∃ d' n os, PermIn 0 d.size d d' ∧ SortedIn (ltOf cmpE) 0 d.size d' ∧ w' = sortWorldK cE1 5 w blk off n d' os := by
  have eg : ∀ args w, (callFunc 74 args).run Tryz.prog w = .ok (.enter 74 args) w := enters_of Tryz.func74 (by kernel_rfl) rfl
  exact AnyQ.slices_SortFunc Tryz.sortE 5 Tryz.isAgg75 Tryz.sizeOf75 cE1 (fun _ => rfl) cE1_one cmpE swoE 74 #[] blk off cap d w eg (fun _ _ _ _ x y => sweep1_any x y _) hH hblk hsz
end Go.Proofs.YtmcbjaefnhfopaaGreat

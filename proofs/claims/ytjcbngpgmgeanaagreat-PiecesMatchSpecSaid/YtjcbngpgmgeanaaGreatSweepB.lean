/- startingAt and the order of sides of package shape, whatever the world; the sort of sides. -/
import Derived.Test.YtjcbngpgmgeanaaGreatSweepA
import Derived.Shelf.SlSortCmp.WholeK
import Derived.Ground.SlsfProg
namespace Go.Proofs
open Go.Shelf
def Tryz.sortE_ren : Go.Shelf.Ren := ⟨fun | 6 => 91 | 15 => 70 | 14 => 125 | 28 => 113 | 29 => 114 | 20 => 139 | 21 => 140 | 22 => 141 | 23 => 142 | 24 => 143 | 25 => 144 | 26 => 145 | 27 => 146 | 46 => 160 | 47 => 134 | 48 => 135 | 49 => 161 | 50 => 162 | 57 => 166 | n => n, fun | 22 => 90 | 24 => 126 | 25 => 127 | 3 => 3 | 39 => 99 | 0 => 0 | 53 => 149 | 55 => 151 | 4 => 4 | 46 => 142 | 45 => 141 | 50 => 146 | 5 => 5 | 9 => 9 | 66 => 172 | 70 => 176 | 76 => 191 | 77 => 192 | n => n, fun | n => n⟩
theorem Tryz.sortE : Go.Proofs.SlLaysF0.n6 Tryz.prog Tryz.sortE_ren := {
  mixed := by kernel_rfl
  f6 := ⟨Tryz.f91.name, by decide, Tryz.func91.trans (congrArg some (by kernel_rfl))⟩
  f14 := ⟨Tryz.f125.name, by decide, Tryz.func125.trans (congrArg some (by kernel_rfl))⟩
  f15 := Tryz.func70.trans (congrArg some (by kernel_rfl))
  f20 := ⟨Tryz.f139.name, by decide, Tryz.func139.trans (congrArg some (by kernel_rfl))⟩
  f21 := ⟨Tryz.f140.name, by decide, Tryz.func140.trans (congrArg some (by kernel_rfl))⟩
  f22 := ⟨Tryz.f141.name, by decide, Tryz.func141.trans (congrArg some (by kernel_rfl))⟩
  f23 := ⟨Tryz.f142.name, by decide, Tryz.func142.trans (congrArg some (by kernel_rfl))⟩
  f24 := ⟨Tryz.f143.name, by decide, Tryz.func143.trans (congrArg some (by kernel_rfl))⟩
  f25 := ⟨Tryz.f144.name, by decide, Tryz.func144.trans (congrArg some (by kernel_rfl))⟩
  f26 := ⟨Tryz.f145.name, by decide, Tryz.func145.trans (congrArg some (by kernel_rfl))⟩
  f27 := ⟨Tryz.f146.name, by decide, Tryz.func146.trans (congrArg some (by kernel_rfl))⟩
  f28 := Tryz.func113.trans (congrArg some (by kernel_rfl))
  f29 := Tryz.func114.trans (congrArg some (by kernel_rfl))
  f46 := ⟨Tryz.f160.name, by decide, Tryz.func160.trans (congrArg some (by kernel_rfl))⟩
  f47 := Tryz.func134.trans (congrArg some (by kernel_rfl))
  f48 := Tryz.func135.trans (congrArg some (by kernel_rfl))
  f49 := ⟨Tryz.f161.name, by decide, Tryz.func161.trans (congrArg some (by kernel_rfl))⟩
  f50 := ⟨Tryz.f162.name, by decide, Tryz.func162.trans (congrArg some (by kernel_rfl))⟩
  f57 := ⟨Tryz.f166.name, by decide, Tryz.func166.trans (congrArg some (by kernel_rfl))⟩
  t0 := Tryz.underlying0
  a0 := Tryz.isAgg0
  z0 := Tryz.sizeOf0
  v0 := Tryz.zeroValue0
  t3 := Tryz.underlying3
  a3 := Tryz.isAgg3
  z3 := Tryz.sizeOf3
  v3 := Tryz.zeroValue3
  t4 := Tryz.underlying4
  a4 := Tryz.isAgg4
  z4 := Tryz.sizeOf4
  v4 := Tryz.zeroValue4
  t5 := Tryz.underlying5
  a5 := Tryz.isAgg5
  z5 := Tryz.sizeOf5
  v5 := Tryz.zeroValue5
  t9 := Tryz.underlying9
  a9 := Tryz.isAgg9
  z9 := Tryz.sizeOf9
  v9 := Tryz.zeroValue9
  t22 := Tryz.underlying90
  a22 := Tryz.isAgg90
  z22 := Tryz.sizeOf90
  v22 := Tryz.zeroValue90
  t25 := Tryz.underlying127
  a25 := Tryz.isAgg127
  z25 := Tryz.sizeOf127
  v25 := Tryz.zeroValue127
  t39 := Tryz.underlying99
  a39 := Tryz.isAgg99
  z39 := Tryz.sizeOf99
  v39 := Tryz.zeroValue99
  t45 := Tryz.underlying141
  a45 := Tryz.isAgg141
  z45 := Tryz.sizeOf141
  v45 := Tryz.zeroValue141
  t46 := Tryz.underlying142
  a46 := Tryz.isAgg142
  z46 := Tryz.sizeOf142
  v46 := Tryz.zeroValue142
  t50 := Tryz.underlying146
  a50 := Tryz.isAgg146
  z50 := Tryz.sizeOf146
  v50 := Tryz.zeroValue146
  t53 := Tryz.underlying149
  a53 := Tryz.isAgg149
  z53 := Tryz.sizeOf149
  v53 := Tryz.zeroValue149
  t55 := Tryz.underlying151
  a55 := Tryz.isAgg151
  z55 := Tryz.sizeOf151
  v55 := Tryz.zeroValue151
  t66 := Tryz.underlying172
  a66 := Tryz.isAgg172
  z66 := Tryz.sizeOf172
  v66 := Tryz.zeroValue172
  t70 := Tryz.underlying176
  a70 := Tryz.isAgg176
  z70 := Tryz.sizeOf176
  v70 := Tryz.zeroValue176
  t76 := Tryz.underlying191
  a76 := Tryz.isAgg191
  z76 := Tryz.sizeOf191
  v76 := Tryz.zeroValue191
  t77 := Tryz.underlying192
  a77 := Tryz.isAgg192
  z77 := Tryz.sizeOf192
  v77 := Tryz.zeroValue192 }
end Go.Proofs
namespace Go.Proofs.YtjcbngpgmgeanaaGreat
open Go.RowKit Go.Shelf Go.Lib Go.Sort
open Reg (R4 E5)
set_option linter.unusedSimpArgs false
set_option linter.unusedVariables false

def startN (y : Int) (l : List E5) : Nat := (l.takeWhile fun e => decide (e.y0 = y)).length
theorem startN_eq {y : Int} {e : E5} {l : List E5} (h : e.y0 = y) : startN y (e :: l) = startN y l + 1 := by simp [startN, h]
theorem startN_ne {y : Int} {e : E5} {l : List E5} (h : ¬ e.y0 = y) : startN y (e :: l) = 0 := by simp [startN, h]

set_option maxRecDepth 100000 in
set_option maxHeartbeats 1000000 in
theorem startingAt_any (A : Option Addr) (l : List E5) (c : Nat) (y : Int) (w : World) (hl : l.length ≤ 140737488355328) (h : RdE w A l) :
    Calls Tryz.prog 94 #[.slice A l.length c, .int .i64 y] w fun e w' => e = .returned (.int .i64 (startN y l)) ∧ w = w' := by
  have H0 := Lib.hid h
  clear h
  go_enter Tryz.func94, Tryz.ntmps94
  go_wp2_with fail
  go_loop [5] (fun i => ∃ k : Nat, k ≤ l.length ∧ i = .int .i64 k ∧ startN y l = k + startN y (l.drop k)) (fun i => l.length - (intOf i).toNat)
  case atStart => exact ⟨0, Nat.zero_le _, rfl, by simp⟩
  case round =>
    obtain ⟨k, hk, rfl, hf⟩ := hrel
    have HF := Lib.hid hf
    clear hf
    have hkz : (0 : Int) ≤ (k : Int) := by omega
    by_cases hlt : k < l.length
    · obtain ⟨b, off, rfl, hblt, hcs⟩ := H0.out (by omega)
      have hi1 : l[k]? = some l[k] := List.getElem?_eq_getElem hlt
      obtain ⟨c0, c1, c2, c3, c4⟩ := hcs k _ hi1
      have hd : l.drop k = l[k] :: l.drop (k + 1) := List.drop_eq_getElem_cons hlt
      have HD := Lib.hid hd
      clear hi1 hcs hd
      generalize l[k] = r at *
      have hklt : (k : Int) < (l.length : Int) := by omega
      by_cases hy : r.y0 = y
      · have hyb : (r.y0 == y) = true := by simpa using hy
        have hn : startN y l = k + 1 + startN y (l.drop (k + 1)) := by rw [HF.out, HD.out, startN_eq hy]; omega
        have HN := Lib.hid hn
        clear hn hy
        go_wp2_with fail
        go_round
        case rel => exact ⟨k + 1, by omega, by go_num, HN.out⟩
        case measure => simp [intOf]; omega
      · have hyb : (r.y0 == y) = false := by simpa using hy
        have hn : startN y l = k := by rw [HF.out, HD.out, startN_ne hy]; omega
        have HN := Lib.hid hn
        clear hn hy
        go_wp2_with fail
        go_ret
        exact ⟨by rw [HN.out]; rfl, rfl⟩
    · obtain rfl : k = l.length := by omega
      have hn : startN y l = l.length := by rw [HF.out, List.drop_length]; rfl
      have HN := Lib.hid hn
      clear hn
      go_wp2_with fail
      go_ret
      exact ⟨by rw [HN.out]; rfl, rfl⟩

/-- How sides are ordered: by Y0, then X. -/
def cmpE (d e : E5) : Int := orI (cmpI d.y0 e.y0) (cmpI d.x e.x)
theorem ltE (d e : E5) : ltOf cmpE d e = (decide (d.y0 < e.y0) || (decide (d.y0 = e.y0) && decide (d.x < e.x))) := by
  unfold ltOf cmpE orI cmpI
  rcases Int.lt_trichotomy d.y0 e.y0 with h | h | h
  · simp [h]
  · rcases Int.lt_trichotomy d.x e.x with h2 | h2 | h2
    · simp [h, h2]
    · simp [h, h2]
    · have : ¬ d.x < e.x := by omega
      simp [h, h2, this]
  · have h1 : ¬ d.y0 < e.y0 := by omega
    have h2 : ¬ d.y0 = e.y0 := by omega
    simp [h, h1, h2]
theorem swoE : SWO (ltOf cmpE) where
  irrefl x := by rw [ltE]; simp
  trans x y z h1 h2 := by rw [ltE] at *; simp at *; omega
  ntrans x y z h1 h2 := by rw [ltE] at *; simp at *; omega

theorem three_grow (w : World) (A B C : Obj) : (((w.alloc A).alloc B).alloc C).drew = grow (w.drewN 1) (#[A] ++ #[B] ++ #[C]) := by
  rw [alloc_eq_grow, alloc_eq_grow, alloc_eq_grow, grow_grow, grow_grow]
  rfl
set_option maxRecDepth 100000 in
set_option maxHeartbeats 1000000 in
theorem sweep1_any (d e : E5) (w : World) : Calls Tryz.prog 92 #[.agg #[.int .i64 d.x, .int .i64 d.y0, .int .i64 d.y1, .int .i64 d.li, .int .i64 d.st], .agg #[.int .i64 e.x, .int .i64 e.y0, .int .i64 e.y1, .int .i64 e.li, .int .i64 e.st]] w fun en w' =>
    en = .returned (.int .i64 (cmpE d e)) ∧ ∃ q os', w' = grow (w.drewN q) os' := by
  unfold cmpE
  go_enter Tryz.func92, Tryz.ntmps92
  go_wp2_with fail
  go_region_held3 (fun w' => w'.cell? ⟨w.heap.size, 0, none⟩ = some (.int .i64 d.x) ∧ w'.cell? ⟨w.heap.size, 1, none⟩ = some (.int .i64 d.y0) ∧ w'.cell? ⟨w.heap.size + 1, 0, none⟩ = some (.int .i64 e.x) ∧ w'.cell? ⟨w.heap.size + 1, 1, none⟩ = some (.int .i64 e.y0)) (go_keep)
    (first | (go_at_call 60; refine (compare_any _ _ _).mono ?_; rintro e w1 ⟨rfl, rfl⟩) | (go_at_call 33; refine (or_two _ (cmpI d.y0 e.y0) (cmpI d.x e.x) _ ?hc0 ?hc1).mono ?_; (case hc0 => simp [go_sem]); (case hc1 => simp [go_sem]); rintro e w1 ⟨rfl, rfl⟩))
  go_wp2_with fail
  go_ret
  exact ⟨rfl, 1, _, three_grow _ _ _ _⟩

theorem cE1_one (x : E5) : ∀ v ∈ cE1 x, v.oneCell' = true := by
  intro v hv
  simp [cE1] at hv
  rcases hv with rfl | rfl | rfl | rfl | rfl <;> rfl
theorem sortE_any (blk off cap : Nat) (d : Array E5) (w : World) (hH : HoldsK cE1 5 w blk off d) (hblk : blk < w.heap.size) (hsz : d.size < 4611686018427387904) :
    Calls Tryz.prog 91 #[.slice (some ⟨blk, off, none⟩) d.size cap, .func (.func 92) #[] #[]] w fun e w' =>
      e = .returned (.tuple #[]) ∧ ∃ d' n os, PermIn 0 d.size d d' ∧ SortedIn (ltOf cmpE) 0 d.size d' ∧ w' = sortWorldK cE1 5 w blk off n d' os := by
  have eg : ∀ args w, (callFunc 92 args).run Tryz.prog w = .ok (.enter 92 args) w := enters_of Tryz.func92 (by kernel_rfl) rfl
  exact AnyQ.slices_SortFunc Tryz.sortE 5 Tryz.isAgg126 Tryz.sizeOf126 cE1 (fun _ => rfl) cE1_one cmpE swoE 92 #[] blk off cap d w eg (fun _ _ _ _ x y => sweep1_any x y _) hH hblk hsz
end Go.Proofs.YtjcbngpgmgeanaaGreat

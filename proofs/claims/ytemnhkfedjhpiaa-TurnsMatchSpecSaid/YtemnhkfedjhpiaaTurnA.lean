/- The plain functions of package shape on turns, and those of the reference, return what the plain Lean functions say, whatever the world. -/
import Derived.Test.YtemnhkfedjhpiaaRows
import Derived.WalkKit
import Derived.WalkLawsBesides
import Derived.WalkSpells
import Derived.Lib.Hide
import Derived.Below
import Derived.Outline
import Derived.Deep.QuietTactic
import Derived.BigQuiet
import Derived.ProofKit
namespace Go.Proofs.Ytemnhkfedjhpiaa
open Go.RowKit

def okAt (n : Int) : Bool := decide (-1000000 ≤ n) && decide (n ≤ 1000000)

theorem inRange_any (n : Int) (w : World) : Calls Try.prog 73 #[.int .i64 n] w fun e w' => e = .returned (.bool (okAt n)) ∧ w = w' := by
  unfold okAt
  by_cases h1 : -1000000 ≤ n
  · by_cases h2 : n ≤ 1000000
    · go_enter Try.func73, Try.ntmps73
      go_wp2
      go_ret
      exact ⟨by simp; omega, rfl⟩
    · go_enter Try.func73, Try.ntmps73
      go_wp2
      go_ret
      exact ⟨by simp; omega, rfl⟩
  · go_enter Try.func73, Try.ntmps73
    go_wp2
    go_ret
    exact ⟨by simp; omega, rfl⟩

theorem at_any (n : Int) (w : World) : Calls Try.prog 58 #[.int .i64 n] w fun e w' => e = .returned (.bool (okAt n)) ∧ w = w' := by
  unfold okAt
  by_cases h1 : -1000000 ≤ n
  · by_cases h2 : n ≤ 1000000
    · go_enter Try.func58, Try.ntmps58
      go_wp2
      go_ret
      exact ⟨by simp; omega, rfl⟩
    · go_enter Try.func58, Try.ntmps58
      go_wp2
      go_ret
      exact ⟨by simp; omega, rfl⟩
  · go_enter Try.func58, Try.ntmps58
    go_wp2
    go_ret
    exact ⟨by simp; omega, rfl⟩

theorem pointInRange_any (x y : Int) (w : World) : Calls Try.prog 49 #[.agg #[.int .i64 x, .int .i64 y]] w fun e w' => e = .returned (.bool (okAt x && okAt y)) ∧ Below w.heap.size w w' := by
  cases h1 : okAt x
  all_goals
    go_enter Try.func49, Try.ntmps49
    go_wp2_with (go_at_call 73; refine (inRange_any _ _).mono ?_; rintro e w' ⟨rfl, rfl⟩)
    go_ret
    exact ⟨rfl, (Below.refl _ _).alloc (Nat.le_refl _) _⟩

theorem isPoint_any (x y : Int) (w : World) : Calls Try.prog 51 #[.agg #[.int .i64 x, .int .i64 y]] w fun e w' => e = .returned (.bool (okAt x && okAt y)) ∧ Below w.heap.size w w' := by
  cases h1 : okAt x
  all_goals
    go_enter Try.func51, Try.ntmps51
    go_wp2_with (go_at_call 58; refine (at_any _ _).mono ?_; rintro e w' ⟨rfl, rfl⟩)
    go_ret
    exact ⟨rfl, (Below.refl _ _).alloc (Nat.le_refl _) _⟩

theorem bcell {W w1 : World} (hb : Below W.heap.size W w1) : (∀ b o, b < W.heap.size → w1.cell? ⟨b, o, none⟩ = W.cell? ⟨b, o, none⟩) ∧ (∀ b o, b < W.heap.size → w1.frozen? ⟨b, o, none⟩ = W.frozen? ⟨b, o, none⟩) :=
  ⟨fun b o h => hb.cell (p := ⟨b, o, none⟩) h, fun b o h => hb.frozen (p := ⟨b, o, none⟩) h⟩

def turnF (q x y : Int) : Int := if 0 ≤ q ∧ q ≤ 3 ∧ (okAt x && okAt y) = true then 0 else 1
theorem turnF_one {q x y : Int} (h : ¬ (0 ≤ q ∧ q ≤ 3 ∧ (okAt x && okAt y) = true)) : turnF q x y = 1 := if_neg h
theorem turnF_zero {q x y : Int} (h : 0 ≤ q ∧ q ≤ 3 ∧ (okAt x && okAt y) = true) : turnF q x y = 0 := if_pos h

theorem checkTurn_any (f : Bool) (q x y : Int) (w : World) : Calls Try.prog 18 #[.agg #[.bool f, .int .i64 q, .int .i64 x, .int .i64 y]] w fun e w' => e = .returned (.int .i64 (turnF q x y)) ∧ Below w.heap.size w w' := by
  by_cases h1 : q < 0
  · have hc := turnF_one (q := q) (x := x) (y := y) (by omega)
    have Hc := Lib.hid hc; clear hc
    go_enter Try.func18, Try.ntmps18
    go_wp2_with fail
    go_ret
    exact ⟨by rw [Hc.out]; rfl, (Below.refl _ _).alloc (Nat.le_refl _) _⟩
  · by_cases h2 : 3 < q
    · have hc := turnF_one (q := q) (x := x) (y := y) (by omega)
      have Hc := Lib.hid hc; clear hc
      go_enter Try.func18, Try.ntmps18
      go_wp2_with fail
      go_ret
      exact ⟨by rw [Hc.out]; rfl, (Below.refl _ _).alloc (Nat.le_refl _) _⟩
    · have hb0 : 0 ≤ q := by omega
      have hb3 : q ≤ 3 := by omega
      cases h3 : okAt x && okAt y
      · have hc := turnF_one (q := q) (x := x) (y := y) (by simp only [h3]; simp)
        have Hc := Lib.hid hc; clear hc
        go_enter Try.func18, Try.ntmps18
        go_wp2_with (go_at_call 49; refine (pointInRange_any _ _ _).mono ?_; rintro e w1 ⟨rfl, hb⟩)
        go_ret
        exact ⟨by rw [Hc.out]; rfl, ((Below.refl _ _).alloc (Nat.le_refl _) _).trans (hb.mono (by simp))⟩
      · have hc := turnF_zero (q := q) (x := x) (y := y) ⟨hb0, hb3, h3⟩
        have Hc := Lib.hid hc; clear hc
        go_enter Try.func18, Try.ntmps18
        go_wp2_with (go_at_call 49; refine (pointInRange_any _ _ _).mono ?_; rintro e w1 ⟨rfl, hb⟩)
        go_ret
        exact ⟨by rw [Hc.out]; rfl, ((Below.refl _ _).alloc (Nat.le_refl _) _).trans (hb.mono (by simp))⟩

def flipX (f : Bool) (x : Int) : Int := if f then -x else x
def rot : Nat → Int × Int → Int × Int
  | 0, p => p
  | n + 1, p => (-(rot n p).2, (rot n p).1)
theorem rot_le (x y : Int) (hx : -1000000 ≤ x ∧ x ≤ 1000000) (hy : -1000000 ≤ y ∧ y ≤ 1000000) (n : Nat) : -1000000 ≤ (rot n (x, y)).1 ∧ (rot n (x, y)).1 ≤ 1000000 ∧ -1000000 ≤ (rot n (x, y)).2 ∧ (rot n (x, y)).2 ≤ 1000000 := by
  induction n with
  | zero => exact ⟨hx.1, hx.2, hy.1, hy.2⟩
  | succ n ih => simp only [rot]; omega

def tpx (f : Bool) (q : Nat) (ax x y : Int) : Int := (rot q (flipX f x, y)).1 + ax
def tpy (f : Bool) (q : Nat) (ay x y : Int) : Int := (rot q (flipX f x, y)).2 + ay
abbrev In6 (x : Int) : Prop := -1000000 ≤ x ∧ x ≤ 1000000

theorem turn_any (f : Bool) (q : Nat) (ax ay x y : Int) (w : World) (hq : q ≤ 3) (hx : In6 x) (hy : In6 y) (hax : In6 ax) (hay : In6 ay) :
    Calls Try.prog 50 #[.agg #[.int .i64 x, .int .i64 y], .agg #[.bool f, .int .i64 q, .int .i64 ax, .int .i64 ay]] w fun e w' =>
      e = .returned (.agg #[.int .i64 (tpx f q ax x y), .int .i64 (tpy f q ay x y)]) ∧ Below w.heap.size w w' := by
  obtain ⟨hx1, hx2⟩ := hx
  obtain ⟨hy1, hy2⟩ := hy
  obtain ⟨hax1, hax2⟩ := hax
  obtain ⟨hay1, hay2⟩ := hay
  cases f
  · go_enter Try.func50, Try.ntmps50
    go_wp2_with fail
    go_loopw [13] (fun i wr => ∃ k : Nat, k ≤ q ∧ i = .int .i64 k ∧ wr = ((w.alloc (.cells #[.int .i64 (rot k (x, y)).1, .int .i64 (rot k (x, y)).2] 29)).alloc (.cells #[.bool false, .int .i64 q, .int .i64 ax, .int .i64 ay] 41)).alloc (.cells #[.int .i64 0, .int .i64 0] 29)) (fun i _ => q - (intOf i).toNat)
    case atStart => exact ⟨0, Nat.zero_le _, rfl, rfl⟩
    case round =>
      obtain ⟨k, hk, rfl, rfl⟩ := hrel
      obtain ⟨r1, r2, r3, r4⟩ := rot_le x y ⟨hx1, hx2⟩ ⟨hy1, hy2⟩ k
      by_cases hlt : k < q
      · go_wp2_with fail
        go_roundw
        case rel => exact ⟨k + 1, by omega, by go_num, rfl⟩
        case measure => simp [intOf]; omega
      · obtain rfl : k = q := by omega
        go_wp2_with fail
        refine bodyPost_ret (v := .agg #[.int .i64 ((rot k (x, y)).1 + ax), .int .i64 ((rot k (x, y)).2 + ay)]) (by simp [results, Try.results50, go_sem]) rfl ⟨rfl, ?_⟩
        exact (((Below.refl _ _).alloc (Nat.le_refl _) _).alloc (by simp) _).alloc (by simp; omega) _
  · go_enter Try.func50, Try.ntmps50
    go_wp2_with fail
    go_loopw [13] (fun i wr => ∃ k : Nat, k ≤ q ∧ i = .int .i64 k ∧ wr = ((w.alloc (.cells #[.int .i64 (rot k (-x, y)).1, .int .i64 (rot k (-x, y)).2] 29)).alloc (.cells #[.bool true, .int .i64 q, .int .i64 ax, .int .i64 ay] 41)).alloc (.cells #[.int .i64 0, .int .i64 0] 29)) (fun i _ => q - (intOf i).toNat)
    case atStart => exact ⟨0, Nat.zero_le _, rfl, rfl⟩
    case round =>
      obtain ⟨k, hk, rfl, rfl⟩ := hrel
      obtain ⟨r1, r2, r3, r4⟩ := rot_le (-x) y ⟨by omega, by omega⟩ ⟨hy1, hy2⟩ k
      by_cases hlt : k < q
      · go_wp2_with fail
        go_roundw
        case rel => exact ⟨k + 1, by omega, by go_num, rfl⟩
        case measure => simp [intOf]; omega
      · obtain rfl : k = q := by omega
        go_wp2_with fail
        refine bodyPost_ret (v := .agg #[.int .i64 ((rot k (-x, y)).1 + ax), .int .i64 ((rot k (-x, y)).2 + ay)]) (by simp [results, Try.results50, go_sem]) rfl ⟨rfl, ?_⟩
        exact (((Below.refl _ _).alloc (Nat.le_refl _) _).alloc (by simp) _).alloc (by simp; omega) _

theorem around_any (f : Bool) (q : Nat) (ax ay x y : Int) (w : World) (hq : q ≤ 3) (hx : In6 x) (hy : In6 y) :
    Calls Try.prog 54 #[.agg #[.int .i64 x, .int .i64 y], .agg #[.bool f, .int .i64 q, .int .i64 ax, .int .i64 ay]] w fun e w' =>
      e = .returned (.agg #[.int .i64 (tpx f q 0 x y), .int .i64 (tpy f q 0 x y)]) ∧ Below w.heap.size w w' := by
  obtain ⟨hx1, hx2⟩ := hx
  obtain ⟨hy1, hy2⟩ := hy
  cases f
  · have e1 : tpx false q 0 x y = (rot q (x, y)).1 := by simp [tpx, flipX]
    have e2 : tpy false q 0 x y = (rot q (x, y)).2 := by simp [tpy, flipX]
    rw [e1, e2]
    clear e1 e2
    go_enter Try.func54, Try.ntmps54
    go_wp2_with fail
    go_loopw [13] (fun i wr => ∃ k : Nat, k ≤ q ∧ i = .int .i64 k ∧ wr = ((w.alloc (.cells #[.int .i64 (rot k (x, y)).1, .int .i64 (rot k (x, y)).2] 29)).alloc (.cells #[.bool false, .int .i64 q, .int .i64 ax, .int .i64 ay] 41)).alloc (.cells #[.int .i64 0, .int .i64 0] 29)) (fun i _ => q - (intOf i).toNat)
    case atStart => exact ⟨0, Nat.zero_le _, rfl, rfl⟩
    case round =>
      obtain ⟨k, hk, rfl, rfl⟩ := hrel
      obtain ⟨r1, r2, r3, r4⟩ := rot_le x y ⟨hx1, hx2⟩ ⟨hy1, hy2⟩ k
      by_cases hlt : k < q
      · go_wp2_with fail
        go_roundw
        case rel => exact ⟨k + 1, by omega, by go_num, rfl⟩
        case measure => simp [intOf]; omega
      · obtain rfl : k = q := by omega
        go_wp2_with fail
        refine bodyPost_ret (v := .agg #[.int .i64 ((rot k (x, y)).1), .int .i64 ((rot k (x, y)).2)]) (by simp [results, Try.results54, go_sem]) rfl ⟨rfl, ?_⟩
        exact (((Below.refl _ _).alloc (Nat.le_refl _) _).alloc (by simp) _).alloc (by simp; omega) _
  · have e1 : tpx true q 0 x y = (rot q (-x, y)).1 := by simp [tpx, flipX]
    have e2 : tpy true q 0 x y = (rot q (-x, y)).2 := by simp [tpy, flipX]
    rw [e1, e2]
    clear e1 e2
    go_enter Try.func54, Try.ntmps54
    go_wp2_with fail
    go_loopw [13] (fun i wr => ∃ k : Nat, k ≤ q ∧ i = .int .i64 k ∧ wr = ((w.alloc (.cells #[.int .i64 (rot k (-x, y)).1, .int .i64 (rot k (-x, y)).2] 29)).alloc (.cells #[.bool true, .int .i64 q, .int .i64 ax, .int .i64 ay] 41)).alloc (.cells #[.int .i64 0, .int .i64 0] 29)) (fun i _ => q - (intOf i).toNat)
    case atStart => exact ⟨0, Nat.zero_le _, rfl, rfl⟩
    case round =>
      obtain ⟨k, hk, rfl, rfl⟩ := hrel
      obtain ⟨r1, r2, r3, r4⟩ := rot_le (-x) y ⟨by omega, by omega⟩ ⟨hy1, hy2⟩ k
      by_cases hlt : k < q
      · go_wp2_with fail
        go_roundw
        case rel => exact ⟨k + 1, by omega, by go_num, rfl⟩
        case measure => simp [intOf]; omega
      · obtain rfl : k = q := by omega
        go_wp2_with fail
        refine bodyPost_ret (v := .agg #[.int .i64 ((rot k (-x, y)).1), .int .i64 ((rot k (-x, y)).2)]) (by simp [results, Try.results54, go_sem]) rfl ⟨rfl, ?_⟩
        exact (((Below.refl _ _).alloc (Nat.le_refl _) _).alloc (by simp) _).alloc (by simp; omega) _

theorem flip_le {f : Bool} {x : Int} (h : In6 x) : In6 (flipX f x) := by cases f <;> simp [flipX, In6] at * <;> omega

end Go.Proofs.Ytemnhkfedjhpiaa

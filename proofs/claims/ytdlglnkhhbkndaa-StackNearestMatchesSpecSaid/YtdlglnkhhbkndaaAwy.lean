/- How far a thickness is from the target (the closure of Nearest), whatever the world. -/
import Derived.Test.YtdlglnkhhbkndaaWsh
import Derived.Test.YtdlglnkhhbkndaaNums
import Derived.Test.YtdlglnkhhbkndaaStkF
namespace Go.Proofs.Ytdlglnkhhbkndaa
open Go.RowKit Go.Maps
set_option linter.unusedSimpArgs false
set_option linter.unusedVariables false
set_option maxRecDepth 100000

theorem quiet3n {P : Program} {f : FuncId} {args : Array Value} {w : World} {v : Value} (c : ∀ n, Calls P f args (w.drewN n) fun e w' => e = .returned v ∧ ∃ k, w' = (w.drewN n).drewN k) {n : Nat} :
    Calls P f args (w.drewN n) fun e w' => e = .returned v ∧ ∃ m, w' = w.drewN m :=
  (c n).mono fun _ _ h => ⟨h.1, by obtain ⟨k, hk⟩ := h.2; exact ⟨n + k, by rw [hk, World.drewN_drewN]⟩⟩
def awyN (T t x : Int) : Int := max (T + x - t) (-(T + x - t))
theorem awy_far (T t x : Int) : awyN T t x = farN (T + x) t := by
  unfold awyN farN
  omega
set_option maxHeartbeats 1000000 in
theorem away_any (T t more : Int) (pb tb p : Nat) (w : World) (CT : ∀ k, Calls Try.prog 55 #[.pointer (some ⟨p, 0, none⟩)] (w.drewN k) fun e w' => e = .returned (.int .i64 T) ∧ ∃ m, w' = (w.drewN k).drewN m) (hT : 0 ≤ T ∧ T ≤ 2000000) (ht : 0 ≤ t ∧ t ≤ 2000000) (hm : 0 ≤ more ∧ more ≤ 1000000000) (c1 : w.cell? ⟨pb, 0, none⟩ = some (.pointer (some ⟨p, 0, none⟩))) (c2 : w.cell? ⟨tb, 0, none⟩ = some (.int .i64 t)) :
    Calls Try.prog 70 #[.int .i64 more, .pointer (some ⟨pb, 0, none⟩), .pointer (some ⟨tb, 0, none⟩)] w fun e w' => e = .returned (.int .i64 (awyN T t more)) ∧ ∃ k, w' = w.drewN k := by
  have y1 : IntKind.i64.wrap (T + more) = T + more := IntWalk.i64_in _ (by omega)
  have y2 : IntKind.i64.wrap (T + more - t) = T + more - t := IntWalk.i64_in _ (by omega)
  have y3 : IntKind.i64.wrap (-(T + more - t)) = -(T + more - t) := IntWalk.i64_in _ (by omega)
  have C := Lib.hid CT
  clear CT
  go_enter Try.func70, Try.ntmps70
  go_wp2_with fail
  go_quiet ((go_at_call 55; exact quiet3n (fun n => C.out n)))
  go_wp2_with fail
  go_ret
  exact ⟨rfl, _, rfl⟩
end Go.Proofs.Ytdlglnkhhbkndaa

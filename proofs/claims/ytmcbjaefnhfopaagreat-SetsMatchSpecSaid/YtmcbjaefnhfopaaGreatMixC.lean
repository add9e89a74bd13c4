/- The reference's Union, Both, Minus and Area, whatever the world. -/
import Derived.Test.YtmcbjaefnhfopaaGreatMixB
import Derived.Test.YtmcbjaefnhfopaaGreatSets
namespace Go.Proofs.YtmcbjaefnhfopaaGreat
open Go.RowKit
open Reg (R4 Span Band inR Kept sweepL)
set_option linter.unusedSimpArgs false
set_option linter.unusedVariables false

theorem way_or {a b : List R4} (ga : Reg.Good a) (gb : Reg.Good b) (x y : Int) : wayB 1 (insB (Reg.rowL a y) x) (insB (Reg.rowL b y) x) = true ↔ Kept orK a b x y := by
  rw [kept_or, hasB_row ga, hasB_row gb, ← hasB_iff (l := a), ← hasB_iff (l := b)]
  simp [wayB]
theorem way_and {a b : List R4} (ga : Reg.Good a) (gb : Reg.Good b) (x y : Int) : wayB 2 (insB (Reg.rowL a y) x) (insB (Reg.rowL b y) x) = true ↔ Kept andK a b x y := by
  rw [kept_and, hasB_row ga, hasB_row gb, ← hasB_iff (l := a), ← hasB_iff (l := b)]
  simp [wayB]
theorem way_not {a b : List R4} (ga : Reg.Good a) (gb : Reg.Good b) (x y : Int) : wayB 3 (insB (Reg.rowL a y) x) (insB (Reg.rowL b y) x) = true ↔ Kept notK a b x y := by
  rw [kept_not, hasB_row ga, hasB_row gb, ← hasB_iff (l := a), ← hasB_iff (l := b)]
  simp [wayB]

set_option maxRecDepth 100000 in
set_option maxHeartbeats 2000000 in
theorem two_any (keep : Int → Int → Bool) (hk : keep 0 0 = false) (way : Int) (hway : way = 1 ∨ way = 2 ∨ way = 3) (hkw : ∀ {a b : List R4}, Reg.Good a → Reg.Good b → ∀ x y, wayB way (insB (Reg.rowL a y) x) (insB (Reg.rowL b y) x) = true ↔ Kept keep a b x y)
    (A B : Option Addr) (a b : List R4) (ca cb : Nat) (w : World) (la : a.length ≤ ca) (lb : b.length ≤ cb) (ra : ca ≤ 140737488355328) (rb : cb ≤ 140737488355328) (hnA : A = none → ca = 0) (hnB : B = none → cb = 0) (h1 : Rd w A a) (h2 : Rd w B b) :
    Calls Tryz.prog 25 #[.slice A a.length ca, .slice B b.length cb, .int .i64 way] w (GotRd w (stL keep a b) (stF keep a b)) := by
  have HA := Lib.hid h1
  have HB := Lib.hid h2
  have C1 := Lib.hid (fun W h => rcheckRegion_any A a ca W la ra h)
  have C2 := Lib.hid (fun W h => rcheckRegion_any B b cb W lb rb h)
  clear h1 h2
  unfold GotRd stL stF bothF
  by_cases h0 : regF a = 0
  · rw [if_pos h0]
    by_cases h1 : regF b = 0
    · rw [if_pos h1, if_pos h1]
      obtain ⟨ga, l1⟩ := good_of_rects (regF_zero.1 h0).1
      obtain ⟨gb, l2⟩ := good_of_rects (regF_zero.1 h1).1
      have C3 := Lib.hid (fun W h1 h2 => combined_any A B a b ca cb way W l1 l2 hnA hnB hway h1 h2)
      rw [combL_sweep hk ga gb (hkw ga gb)] at C3
      unfold GotR at C3
      rw [h0] at C1
      rw [h1] at C2
      clear h0 h1 ga gb hway hkw hk hnA hnB
      have C4 := Lib.hid (fun A c W => limited_any A (sweepL keep a b) c W)
      generalize sweepL keep a b = L at *
      generalize hF : resF L = F at *
      go_enter Tryz.func25, Tryz.ntmps25
      go_wp2_with fail
      refine (C1.out w HA.out).mono ?_
      rintro e w1 ⟨rfl, hb⟩
      have B1 := Lib.hid hb
      have z1 := hb.size
      clear hb
      go_wp2_with fail
      refine (C2.out w1 (HB.out.below B1.out)).mono ?_
      rintro e w2 ⟨rfl, hb⟩
      have B2 := Lib.hid (B1.out.trans (hb.mono z1))
      have z2 := B2.out.size
      clear hb
      go_wp2_with fail
      refine (C3.out w2 (HA.out.below B2.out) (HB.out.below B2.out)).mono ?_
      rintro e w3 ⟨A2, c2, rfl, hc1, hc2, hr, -, hb⟩
      have R2 := Lib.hid hr
      have B3 := Lib.hid (B2.out.trans (hb.mono z2))
      clear hr hb
      go_wp2_with fail
      refine (C4.out A2 c2 w3).mono ?_
      rintro e w4 ⟨rfl, rfl⟩
      by_cases hs : L.length ≤ 2000
      · rw [if_pos hs]
        have E1 := Lib.hid (show resL L = L from if_pos hs)
        clear hs
        go_wp2_with fail
        go_ret2
        rw [E1.out]
        exact ⟨A2, c2, rfl, R2.out, hc1, hc2, B3.out⟩
      · rw [if_neg hs]
        have E1 := Lib.hid (show resL L = [] from if_neg hs)
        clear hs
        go_wp2_with fail
        go_ret2
        rw [E1.out]
        exact ⟨none, 0, rfl, fun h => absurd h (by simp), Nat.le_refl _, Nat.zero_le _, B3.out⟩
    · rw [if_neg h1, if_neg h1]
      have hd : (regF b == 0) = false := by simpa using h1
      have hd' : (regF b != 0) = true := by simpa using h1
      rw [h0] at C1
      clear h0 h1 hway hkw hk hnA hnB
      generalize regF b = F at *
      go_enter Tryz.func25, Tryz.ntmps25
      go_wp2_with fail
      refine (C1.out w HA.out).mono ?_
      rintro e w1 ⟨rfl, hb⟩
      have B1 := Lib.hid hb
      have z1 := hb.size
      clear hb
      go_wp2_with fail
      refine (C2.out w1 (HB.out.below B1.out)).mono ?_
      rintro e w2 ⟨rfl, hb⟩
      have B2 := Lib.hid (B1.out.trans (hb.mono z1))
      clear hb
      go_wp2_with fail
      go_ret2
      exact ⟨none, 0, rfl, fun h => absurd h (by simp), Nat.le_refl _, Nat.zero_le _, B2.out⟩
  · rw [if_neg h0, if_neg h0, if_neg h0]
    have hd : (regF a == 0) = false := by simpa using h0
    have hd' : (regF a != 0) = true := by simpa using h0
    clear h0 hway hkw hk hnA hnB
    generalize regF a = F at *
    go_enter Tryz.func25, Tryz.ntmps25
    go_wp2_with fail
    refine (C1.out w HA.out).mono ?_
    rintro e w1 ⟨rfl, hb⟩
    have B1 := Lib.hid hb
    clear hb
    go_wp2_with fail
    go_ret2
    exact ⟨none, 0, rfl, fun h => absurd h (by simp), Nat.le_refl _, Nat.zero_le _, B1.out⟩

set_option maxRecDepth 100000 in
set_option maxHeartbeats 1000000 in
theorem runion_any (A B : Option Addr) (a b : List R4) (ca cb : Nat) (w : World) (la : a.length ≤ ca) (lb : b.length ≤ cb) (ra : ca ≤ 140737488355328) (rb : cb ≤ 140737488355328) (hnA : A = none → ca = 0) (hnB : B = none → cb = 0) (h1 : Rd w A a) (h2 : Rd w B b) :
    Calls Tryz.prog 6 #[.slice A a.length ca, .slice B b.length cb] w (GotRd w (stL orK a b) (stF orK a b)) := by
  have C1 := Lib.hid (two_any orK rfl 1 (by decide) (fun ga gb => way_or ga gb) A B a b ca cb w la lb ra rb hnA hnB h1 h2)
  clear h1 h2 hnA hnB
  unfold GotRd at *
  generalize stL orK a b = L at *
  generalize stF orK a b = F at *
  go_enter Tryz.func6, Tryz.ntmps6
  go_wp2_with fail
  refine C1.out.mono ?_
  rintro e w1 ⟨A1, c1, rfl, h1, h2, h3, h4⟩
  have H1 := Lib.hid h1
  have H4 := Lib.hid h4
  clear h1 h4
  go_wp2_with fail
  go_ret2
  exact ⟨A1, c1, rfl, H1.out, h2, h3, H4.out⟩
set_option maxRecDepth 100000 in
set_option maxHeartbeats 1000000 in
theorem rboth_any (A B : Option Addr) (a b : List R4) (ca cb : Nat) (w : World) (la : a.length ≤ ca) (lb : b.length ≤ cb) (ra : ca ≤ 140737488355328) (rb : cb ≤ 140737488355328) (hnA : A = none → ca = 0) (hnB : B = none → cb = 0) (h1 : Rd w A a) (h2 : Rd w B b) :
    Calls Tryz.prog 9 #[.slice A a.length ca, .slice B b.length cb] w (GotRd w (stL andK a b) (stF andK a b)) := by
  have C1 := Lib.hid (two_any andK rfl 2 (by decide) (fun ga gb => way_and ga gb) A B a b ca cb w la lb ra rb hnA hnB h1 h2)
  clear h1 h2 hnA hnB
  unfold GotRd at *
  generalize stL andK a b = L at *
  generalize stF andK a b = F at *
  go_enter Tryz.func9, Tryz.ntmps9
  go_wp2_with fail
  refine C1.out.mono ?_
  rintro e w1 ⟨A1, c1, rfl, h1, h2, h3, h4⟩
  have H1 := Lib.hid h1
  have H4 := Lib.hid h4
  clear h1 h4
  go_wp2_with fail
  go_ret2
  exact ⟨A1, c1, rfl, H1.out, h2, h3, H4.out⟩
set_option maxRecDepth 100000 in
set_option maxHeartbeats 1000000 in
theorem rminus_any (A B : Option Addr) (a b : List R4) (ca cb : Nat) (w : World) (la : a.length ≤ ca) (lb : b.length ≤ cb) (ra : ca ≤ 140737488355328) (rb : cb ≤ 140737488355328) (hnA : A = none → ca = 0) (hnB : B = none → cb = 0) (h1 : Rd w A a) (h2 : Rd w B b) :
    Calls Tryz.prog 11 #[.slice A a.length ca, .slice B b.length cb] w (GotRd w (stL notK a b) (stF notK a b)) := by
  have C1 := Lib.hid (two_any notK rfl 3 (by decide) (fun ga gb => way_not ga gb) A B a b ca cb w la lb ra rb hnA hnB h1 h2)
  clear h1 h2 hnA hnB
  unfold GotRd at *
  generalize stL notK a b = L at *
  generalize stF notK a b = F at *
  go_enter Tryz.func11, Tryz.ntmps11
  go_wp2_with fail
  refine C1.out.mono ?_
  rintro e w1 ⟨A1, c1, rfl, h1, h2, h3, h4⟩
  have H1 := Lib.hid h1
  have H4 := Lib.hid h4
  clear h1 h4
  go_wp2_with fail
  go_ret2
  exact ⟨A1, c1, rfl, H1.out, h2, h3, H4.out⟩

set_option maxRecDepth 100000 in
set_option maxHeartbeats 2000000 in
theorem areaOf_any (A : Option Addr) (l : List R4) (c : Nat) (w : World) (h0 : regF l = 0) (h : Rd w A l) :
    Calls Tryz.prog 30 #[.slice A l.length c] w fun e w' => e = .returned (.int .i64 (areaL l)) ∧ Below w.heap.size w w' := by
  have H0 := Lib.hid h
  have HR := Lib.hid (rect_in (regF_rects h0))
  obtain ⟨_, h2000⟩ := good_of_rects (regF_rects h0)
  clear h h0
  go_enter Tryz.func30, Tryz.ntmps30
  go_wp2_with fail
  go_loopw [3, 4] (fun v i wr => ∃ k : Nat, k ≤ l.length ∧ i = .int .i64 k ∧ v = .int .i64 (areaL (l.take k)) ∧ Below w.heap.size w wr) (fun _ i _ => l.length - (intOf i).toNat)
  case atStart => exact ⟨0, Nat.zero_le _, rfl, rfl, Below.refl _ _⟩
  case round =>
    obtain ⟨k, hk, rfl, rfl, hbw⟩ := hrel
    have zw := hbw.size
    have hkz : (0 : Int) ≤ (k : Int) := by omega
    have hab := area_bound (l := l.take k) (fun r hr => HR.out r (List.mem_of_mem_take hr))
    have htl : (l.take k).length ≤ 2000 := by rw [List.length_take]; omega
    obtain ⟨ha0, ha1⟩ := hab
    have ha2 : areaL (l.take k) ≤ 8000000000000000 := by omega
    clear ha1 htl
    by_cases hlt : k < l.length
    · obtain ⟨b, off, rfl, hblt, hcs⟩ := (H0.out.below hbw) (by omega)
      have hi : l[k]? = some l[k] := List.getElem?_eq_getElem hlt
      obtain ⟨c0, c1, c2, c3⟩ := hcs k _ hi
      have ht : areaL (l.take (k + 1)) = areaL (l.take k) + (l[k].x1 - l[k].x0) * (l[k].y1 - l[k].y0) := by
        rw [List.take_succ_eq_append_getElem hlt, areaL, areaL, List.map_append, List.sum_append]
        simp only [List.map_cons, List.map_nil, List.sum_cons, List.sum_nil, Int.add_zero]
      obtain ⟨r0, r1, r2, r3, r4, r5⟩ := HR.out _ (List.getElem_mem hlt)
      have hm := mul_bound (a := l[k].x1 - l[k].x0) (b := l[k].y1 - l[k].y0) (by omega) (by omega) (by omega) (by omega)
      clear hi hcs
      generalize l[k] = r at *
      have hpe : ∃ P, P = (r.x1 - r.x0) * (r.y1 - r.y0) := ⟨_, rfl⟩
      obtain ⟨P, hP⟩ := hpe
      rw [← hP] at hm ht
      have HT := Lib.hid ht
      clear ht
      obtain ⟨m0, m1⟩ := hm
      have hP2 := hP.symm
      clear hP
      have hklt : (k : Int) < (l.length : Int) := by omega
      generalize areaL (l.take k) = S at *
      go_wp2_with fail
      go_quiet (fail)
      go_wp2_with fail
      go_roundw
      case rel => exact ⟨k + 1, by omega, by go_num, by rw [HT.out], by (repeat' (first | (with_reducible exact Below.refl _ _) | (with_reducible assumption) | (with_reducible refine Below.alloc ?_ ?_ _) | (with_reducible refine Below.drew ?_) | (with_reducible refine below_drewN ?_ _) | (with_reducible refine Below.setCell ?_ ?_ _) | (with_reducible exact Nat.le_refl _) | omega | (simp only [World.size_alloc, World.size_setCell, World.size_drew]; omega) | (simp; omega) | (simp; done)))⟩
      case measure => simp [intOf]; omega
    · obtain rfl : k = l.length := by omega
      have hn : l.take l.length = l := List.take_length
      rw [hn] at ha0 ha2 ⊢
      clear hn
      go_wp2_with fail
      go_ret
      exact ⟨rfl, hbw⟩

set_option maxRecDepth 100000 in
set_option maxHeartbeats 1000000 in
theorem rarea_any (A : Option Addr) (l : List R4) (c : Nat) (w : World) (hl : l.length ≤ c) (hc : c ≤ 140737488355328) (h : Rd w A l) :
    Calls Tryz.prog 13 #[.slice A l.length c] w fun e w' => e = .returned (.tuple #[.int .i64 (areaF l), .int .i64 (regF l)]) ∧ Below w.heap.size w w' := by
  have H0 := Lib.hid h
  have C1 := Lib.hid (fun W h => rcheckRegion_any A l c W hl hc h)
  clear h
  unfold areaF
  by_cases h0 : regF l = 0
  · rw [if_pos h0]
    have C2 := Lib.hid (fun W h => areaOf_any A l c W h0 h)
    rw [h0] at C1 ⊢
    clear h0
    generalize areaL l = S at *
    go_enter Tryz.func13, Tryz.ntmps13
    go_wp2_with fail
    refine (C1.out w H0.out).mono ?_
    rintro e w1 ⟨rfl, hb⟩
    have B1 := Lib.hid hb
    have z1 := hb.size
    clear hb
    go_wp2_with fail
    refine (C2.out w1 (H0.out.below B1.out)).mono ?_
    rintro e w2 ⟨rfl, hb⟩
    have B2 := Lib.hid (B1.out.trans (hb.mono z1))
    clear hb
    go_wp2_with fail
    go_ret2
    exact ⟨rfl, B2.out⟩
  · rw [if_neg h0]
    have hd : (regF l == 0) = false := by simpa using h0
    have hd' : (regF l != 0) = true := by simpa using h0
    clear h0
    generalize regF l = F at *
    go_enter Tryz.func13, Tryz.ntmps13
    go_wp2_with fail
    refine (C1.out w H0.out).mono ?_
    rintro e w1 ⟨rfl, hb⟩
    have B1 := Lib.hid hb
    clear hb
    go_wp2_with fail
    go_ret2
    exact ⟨rfl, B1.out⟩
end Go.Proofs.YtmcbjaefnhfopaaGreat

/- add of package shape says what its plain counterpart says, whatever the world. -/
import Derived.Test.YtmcbjaefnhfopaaGreatSweepH
import Derived.Deep.AppendLies
import Derived.Deep.RegionLaw
namespace Go.Proofs.YtmcbjaefnhfopaaGreat
open Go.RowKit
open Reg (R4 E5 Span goesOnP addP)
set_option linter.unusedSimpArgs false
set_option linter.unusedVariables false

theorem cR_set (a b : List R4) (r : R4) (y : Int) : (cR (a ++ r :: b)).set (a.length * 4 + 3) (.int .i64 y) = cR (a ++ ⟨r.x0, r.y0, r.x1, y⟩ :: b) := by
  simp only [cR_append]
  rw [List.set_append_right _ _ (by rw [cR_len]; omega), cR_len]
  rw [show a.length * 4 + 3 - a.length * 4 = 3 from by omega]
  rfl
/-- The rectangles while the last band grows: i of them are behind. -/
def growL (rs : List R4) (last i : Nat) (hi : Int) : List R4 := rs.take last ++ ((rs.drop last).take (i - last)).map (fun r => ⟨r.x0, r.y0, r.x1, hi⟩) ++ rs.drop i
theorem growL_len {rs : List R4} {last i : Nat} {hi : Int} (h1 : last ≤ i) (h2 : i ≤ rs.length) : (growL rs last i hi).length = rs.length := by
  simp [growL]; omega
theorem growL_start (rs : List R4) (last : Nat) (hi : Int) : growL rs last last hi = rs := by simp [growL]
theorem growL_end (rs : List R4) (last : Nat) (hi : Int) (h : last ≤ rs.length) : growL rs last rs.length hi = rs.take last ++ (rs.drop last).map (fun r => ⟨r.x0, r.y0, r.x1, hi⟩) := by
  have ht : (rs.drop last).take (rs.length - last) = rs.drop last := List.take_of_length_le (by simp)
  simp only [growL, List.drop_length, List.append_nil, ht]
theorem growL_step {rs : List R4} {last i : Nat} {hi : Int} (h1 : last ≤ i) (h2 : i < rs.length) : (cR (growL rs last i hi)).set (i * 4 + 3) (.int .i64 hi) = cR (growL rs last (i + 1) hi) := by
  have ha : (rs.take last ++ ((rs.drop last).take (i - last)).map (fun r => (⟨r.x0, r.y0, r.x1, hi⟩ : R4))).length = i := by simp; omega
  have e1 : growL rs last i hi = (rs.take last ++ ((rs.drop last).take (i - last)).map (fun r => (⟨r.x0, r.y0, r.x1, hi⟩ : R4))) ++ rs[i] :: rs.drop (i + 1) := by
    rw [growL, List.drop_eq_getElem_cons h2]
  have e2 : growL rs last (i + 1) hi = (rs.take last ++ ((rs.drop last).take (i - last)).map (fun r => (⟨r.x0, r.y0, r.x1, hi⟩ : R4))) ++ ⟨rs[i].x0, rs[i].y0, rs[i].x1, hi⟩ :: rs.drop (i + 1) := by
    have h3 : (rs.drop last)[i - last]? = some rs[i] := by rw [List.getElem?_drop, show last + (i - last) = i from by omega]; exact List.getElem?_eq_getElem h2
    rw [growL, show i + 1 - last = (i - last) + 1 from by omega, List.take_add_one, h3]
    simp
  rw [e1, e2]
  have := cR_set (rs.take last ++ ((rs.drop last).take (i - last)).map (fun r => (⟨r.x0, r.y0, r.x1, hi⟩ : R4))) (rs.drop (i + 1)) rs[i] hi
  rwa [ha] at this
theorem cR_any {l : List R4} {j : Nat} (h : j < l.length * 4) : ∃ v, (cR l)[j]? = some v := ⟨_, List.getElem?_eq_getElem (by rw [cR_len]; exact h)⟩

/-- What add leaves. -/
def AddPost (base p : Nat) (v : Value) (rs' : List R4) (last' : Nat) (w w' : World) : Prop :=
  ∃ v', w'.cell? ⟨p, 0, none⟩ = some v' ∧ w'.cell? ⟨p, 1, none⟩ = some (.int .i64 last') ∧ w'.frozen? ⟨p, 0, none⟩ = false ∧ w'.frozen? ⟨p, 1, none⟩ = false ∧ w'.ownsRow base 28 4 v' rs'.length (cR rs') ∧
    (∀ g, v'.ownBlock = some g → v.ownBlock = some g ∨ w.heap.size ≤ g) ∧ Keeps (fun x => x = p ∨ v.ownBlock = some x) w w'

set_option maxRecDepth 100000 in
set_option maxHeartbeats 2000000 in
theorem addOn_any (base p : Nat) (v : Value) (rs : List R4) (last : Nat) (lo hi : Int) (A2 : Option Addr) (sp : List Span) (c2 : Nat) (w : World) (hrs : rs.length ≤ 100000000000) (hsp : sp.length ≤ 1000000) (hla : last ≤ rs.length)
    (hown : w.ownsRow base 28 4 v rs.length (cR rs)) (hnp : v.ownBlock ≠ some p) (q0 : w.cell? ⟨p, 0, none⟩ = some v) (q1 : w.cell? ⟨p, 1, none⟩ = some (.int .i64 last)) (f0 : w.frozen? ⟨p, 0, none⟩ = false) (f1 : w.frozen? ⟨p, 1, none⟩ = false)
    (hp : p < w.heap.size) (h2 : RdT w A2 sp) (hgo : goesOnP rs last lo sp = true) :
    Calls Tryz.prog 79 #[.pointer (some ⟨p, 0, none⟩), .int .i64 lo, .int .i64 hi, .slice A2 sp.length c2] w fun e w' => e = .returned (.tuple #[]) ∧ AddPost base p v (addP rs last lo hi sp).1 (addP rs last lo hi sp).2 w w' := by
  have C1 := goesOn_any base p v rs last lo A2 sp c2 w (by omega) (by omega) hla hown q0 q1 hp h2
  have ha : addP rs last lo hi sp = (rs.take last ++ (rs.drop last).map (fun r => ⟨r.x0, r.y0, r.x1, hi⟩), last) := by unfold addP; rw [if_pos hgo]
  rw [hgo] at C1
  rw [ha]
  clear ha hgo h2
  have D1 := Lib.hid C1
  have hlz : (0 : Int) ≤ (last : Int) := by omega
  have NP := Lib.hid hnp
  have HO := Lib.hid hown
  clear C1 hnp
  rcases own_open hown with ⟨rfl, hn⟩ | ⟨g, cap, cur, rfl, hg1, hb2, hcap, hmax, hsize, htake⟩
  · obtain rfl : rs = [] := List.length_eq_zero_iff.1 hn
    obtain rfl : last = 0 := by simpa using hla
    clear hown hn
    go_enter Tryz.func79, Tryz.ntmps79
    go_wp2_with fail
    refine D1.out.mono ?_
    rintro e w1 ⟨rfl, hb⟩
    have KB := Lib.hid (keeps_below hb)
    have y0 := (hb.cell (p := ⟨p, 0, none⟩) hp).trans q0
    have y1 := (hb.cell (p := ⟨p, 1, none⟩) hp).trans q1
    have g0 := (hb.frozen (p := ⟨p, 0, none⟩) hp).trans f0
    have g1 := (hb.frozen (p := ⟨p, 1, none⟩) hp).trans f1
    clear hb q0 q1 f0 f1
    go_wp2_with fail
    go_loopw [8] (fun i wr => i = .int .i64 0 ∧ wr = w1) (fun _ _ => 0)
    case atStart => exact ⟨rfl, rfl⟩
    case round =>
      obtain ⟨rfl, rfl⟩ := hrel
      go_wp2_with fail
      refine bodyPost_ret (v := .tuple #[]) (by simp [results, Tryz.results79]) rfl ?_
      exact ⟨rfl, _, y0, y1, g0, g1, ⟨rfl, .inl ⟨rfl, rfl⟩⟩, (fun g h => by cases h), KB.out.os, KB.out.tape, KB.out.output, KB.out.size, fun h hh hn => KB.out.block h hh (fun e => e)⟩
  · have hgp : ¬ g = p := fun e => NP.out (by rw [e]; rfl)
    have hglt := hb2.lt
    clear hown hb2 htake
    go_enter Tryz.func79, Tryz.ntmps79
    go_wp2_with fail
    refine D1.out.mono ?_
    rintro e w1 ⟨rfl, hb⟩
    have KB := Lib.hid (keeps_below hb)
    have O1 := Lib.hid (own_belowC HO.out hb)
    have y0 := (hb.cell (p := ⟨p, 0, none⟩) hp).trans q0
    have y1 := (hb.cell (p := ⟨p, 1, none⟩) hp).trans q1
    have g0 := (hb.frozen (p := ⟨p, 0, none⟩) hp).trans f0
    have g1 := (hb.frozen (p := ⟨p, 1, none⟩) hp).trans f1
    have z1 := hb.size
    clear hb q0 q1 f0 f1
    go_wp2_with fail
    go_loopw [8] (fun i wr => ∃ k : Nat, last ≤ k ∧ k ≤ rs.length ∧ i = .int .i64 k ∧ wr.ownsRow base 28 4 (.slice (some ⟨g, 0, none⟩) rs.length cap) rs.length (cR (growL rs last k hi)) ∧ wr.cell? ⟨p, 0, none⟩ = some (.slice (some ⟨g, 0, none⟩) rs.length cap) ∧ wr.cell? ⟨p, 1, none⟩ = some (.int .i64 last) ∧ wr.frozen? ⟨p, 0, none⟩ = false ∧ wr.frozen? ⟨p, 1, none⟩ = false ∧ Keeps (fun x => x = g) w1 wr) (fun i _ => rs.length - (intOf i).toNat)
    case atStart => exact ⟨last, Nat.le_refl _, hla, rfl, by rw [growL_start]; exact O1.out, y0, y1, g0, g1, Keeps.refl _ _⟩
    case round =>
      obtain ⟨k, hk1, hk2, rfl, hok, v0, v1, w0, w2, hkp⟩ := hrel
      have OK := Lib.hid hok
      have KP := Lib.hid hkp
      have zk := hkp.size
      clear hok hkp
      have hkz : (0 : Int) ≤ (k : Int) := by omega
      by_cases hlt : k < rs.length
      · have hklt : (k : Int) < (rs.length : Int) := by omega
        have hkl : k * 4 + 3 < (growL rs last k hi).length * 4 := by rw [growL_len hk1 hk2]; omega
        obtain ⟨u, hu⟩ := cR_any hkl
        obtain ⟨oc, of⟩ := own_cellC OK.out hu
        have O2 := Lib.hid (own_setC OK.out (j := k * 4 + 3) (by omega) (.int .i64 hi))
        clear hu hkl
        go_wp2_with fail
        go_roundw
        case rel =>
          refine ⟨k + 1, by omega, by omega, by go_num, ?_, ?_, ?_, ?_, ?_, ?_⟩
          · have h := O2.out
            rw [growL_step hk1 hlt] at h
            exact h
          · rw [World.cell?_setCell_far _ _ _ _ hgp]; exact v0
          · rw [World.cell?_setCell_far _ _ _ _ hgp]; exact v1
          · rw [World.frozen?_setCell]; exact w0
          · rw [World.frozen?_setCell]; exact w2
          · exact keeps_set KP.out (fun _ => rfl) _
        case measure => simp [intOf]; omega
      · obtain rfl : k = rs.length := by omega
        go_wp2_with fail
        refine bodyPost_ret (v := .tuple #[]) (by simp [results, Tryz.results79]) rfl ?_
        have h := OK.out
        rw [growL_end _ _ _ hla] at h
        refine ⟨rfl, _, v0, v1, w0, w2, by simpa [Nat.min_eq_left hla, Nat.add_sub_cancel' hla] using h, fun x hx => .inl hx, ?_⟩
        refine ⟨KP.out.os.trans KB.out.os, KP.out.tape.trans KB.out.tape, KP.out.output.trans KB.out.output, Nat.le_trans z1 zk, fun x hx hn => ?_⟩
        exact (KP.out.block x (by omega) (fun e => hn (.inr (by rw [e]; rfl)))).trans (KB.out.block x hx (fun e => e))

def newR (lo hi : Int) (s : Span) : R4 := ⟨s.1, lo, s.2, hi⟩
theorem newR_snoc {lo hi : Int} {rs : List R4} {sp : List Span} {k : Nat} {s : Span} (h : sp[k]? = some s) : rs ++ (sp.take (k + 1)).map (newR lo hi) = (rs ++ (sp.take k).map (newR lo hi)) ++ [newR lo hi s] := by
  rw [List.take_add_one, h]
  simp
set_option maxRecDepth 100000 in
set_option maxHeartbeats 2000000 in
theorem addNew_any (base p : Nat) (v : Value) (rs : List R4) (last : Nat) (lo hi : Int) (A2 : Option Addr) (sp : List Span) (c2 : Nat) (w : World) (hrs : rs.length ≤ 100000000000) (hsp : sp.length ≤ 1000000) (hla : last ≤ rs.length) (hbase : base ≤ w.heap.size)
    (hown : w.ownsRow base 28 4 v rs.length (cR rs)) (hnp : v.ownBlock ≠ some p) (q0 : w.cell? ⟨p, 0, none⟩ = some v) (q1 : w.cell? ⟨p, 1, none⟩ = some (.int .i64 last)) (f0 : w.frozen? ⟨p, 0, none⟩ = false) (f1 : w.frozen? ⟨p, 1, none⟩ = false)
    (hp : p < w.heap.size) (h2 : RdT w A2 sp) (h2p : ∀ b off, A2 = some ⟨b, off, none⟩ → b ≠ p ∧ v.ownBlock ≠ some b) (hgo : goesOnP rs last lo sp = false) :
    Calls Tryz.prog 79 #[.pointer (some ⟨p, 0, none⟩), .int .i64 lo, .int .i64 hi, .slice A2 sp.length c2] w fun e w' => e = .returned (.tuple #[]) ∧ AddPost base p v (addP rs last lo hi sp).1 (addP rs last lo hi sp).2 w w' := by
  obtain ⟨i0, hi0, hz0, hz1, hz2⟩ := info_parts infoR
  have C1 := goesOn_any base p v rs last lo A2 sp c2 w (by omega) (by omega) hla hown q0 q1 hp h2
  have ha : addP rs last lo hi sp = (rs ++ sp.map (newR lo hi), rs.length) := by unfold addP; rw [if_neg (by rw [hgo]; decide)]; rfl
  rw [hgo] at C1
  rw [ha]
  clear ha hgo
  have D1 := Lib.hid C1
  have H2 := Lib.hid h2
  have H2P := Lib.hid h2p
  have NP := Lib.hid hnp
  have HO := Lib.hid hown
  clear C1 hnp h2 h2p
  obtain ⟨A, c, rfl, -, -, -, -⟩ := rd_own hown
  clear hown
  go_enter Tryz.func79, Tryz.ntmps79
  go_wp2_with fail
  refine D1.out.mono ?_
  rintro e w1 ⟨rfl, hb⟩
  have KB := Lib.hid (keeps_below hb)
  have O1 := Lib.hid (own_belowC HO.out hb)
  have y0 := (hb.cell (p := ⟨p, 0, none⟩) hp).trans q0
  have y1 := (hb.cell (p := ⟨p, 1, none⟩) hp).trans q1
  have g0 := (hb.frozen (p := ⟨p, 0, none⟩) hp).trans f0
  have g1 := (hb.frozen (p := ⟨p, 1, none⟩) hp).trans f1
  have z1 := hb.size
  clear hb q0 q1 f0 f1
  go_wp2_with fail
  go_loopw [46] (fun i wr => ∃ (k : Nat) (Ak : Option Addr) (ck : Nat), k ≤ sp.length ∧ i = .int .i64 k ∧ wr.cell? ⟨p, 0, none⟩ = some (.slice Ak (rs.length + k) ck) ∧ wr.cell? ⟨p, 1, none⟩ = some (.int .i64 rs.length) ∧ wr.frozen? ⟨p, 0, none⟩ = false ∧ wr.frozen? ⟨p, 1, none⟩ = false ∧
    wr.ownsRow base 28 4 (.slice Ak (rs.length + k) ck) (rs.length + k) (cR (rs ++ (sp.take k).map (newR lo hi))) ∧ (∀ g, (Value.slice Ak (rs.length + k) ck).ownBlock = some g → (Value.slice A rs.length c).ownBlock = some g ∨ w.heap.size ≤ g) ∧ Keeps (fun x => x = p ∨ (Value.slice A rs.length c).ownBlock = some x) w wr) (fun i _ => sp.length - (intOf i).toNat)
  case atStart =>
    refine ⟨0, A, c, Nat.zero_le _, rfl, ?_, ?_, ?_, ?_, ?_, fun g hg => .inl hg, ?_⟩
    · rw [World.cell?_setCell_other _ _ _ _ (by simp)]; exact y0
    · rw [World.cell?_setCell_same' _ _ _ (by rw [y1]; rfl)]
    · rw [World.frozen?_setCell]; exact g0
    · rw [World.frozen?_setCell]; exact g1
    · simp only [List.take_zero, List.map_nil, List.append_nil, Nat.add_zero]
      exact (keeps_set (Keeps.refl (fun x => x = p) _) (fun _ => rfl) _).own O1.out (fun g hg e => NP.out (by rw [← e]; exact hg))
    · exact keeps_set (KB.out.trans (Keeps.refl (fun _ => False) _) (fun _ _ h => h) |> fun k => ⟨k.os, k.tape, k.output, k.size, fun x hx hn => k.block x hx (fun e => e)⟩) (fun _ => .inl rfl) _
  case round =>
    obtain ⟨k, Ak, ck, hk, rfl, v0, v1, u0, u1, hok, hat, hkp⟩ := hrel
    have OK := Lib.hid hok
    have KP := Lib.hid hkp
    have HAT := Lib.hid hat
    have zk := hkp.size
    clear hok hkp hat
    have hkz : (0 : Int) ≤ (k : Int) := by omega
    by_cases hlt : k < sp.length
    · have hklt : (k : Int) < (sp.length : Int) := by omega
      obtain ⟨b2, o2, rfl, hb2, hc2⟩ := H2.out (by omega)
      obtain ⟨n2p, n2v⟩ := H2P.out b2 o2 rfl
      have hs : sp[k]? = some sp[k] := List.getElem?_eq_getElem hlt
      have KN : ¬ (b2 = p ∨ (Value.slice A rs.length c).ownBlock = some b2) := by rintro (h | h); exact n2p h; exact n2v h
      have d0 := (KP.out.cell hb2 KN _).trans (hc2 k _ hs).1
      have d1 := (KP.out.cell hb2 KN _).trans (hc2 k _ hs).2
      have HS := Lib.hid (newR_snoc (lo := lo) (hi := hi) (rs := rs) hs)
      have hacc : (rs ++ (sp.take k).map (newR lo hi)).length = rs.length + k := by simp; omega
      have HACC := Lib.hid hacc
      clear hc2 hs KN n2p n2v hacc
      generalize sp[k] = s at *
      obtain ⟨w3, hw3⟩ : ∃ w3, w3 = wr.alloc (.cells #[.int .i64 s.1, .int .i64 s.2] 107) := ⟨_, rfl⟩
      have e0 : w3.cell? ⟨wr.heap.size, 0, none⟩ = some (.int .i64 s.1) := by rw [hw3]; simp [go_sem]
      have e1 : w3.cell? ⟨wr.heap.size, 1, none⟩ = some (.int .i64 s.2) := by rw [hw3]; simp [go_sem]
      have x0 : w3.cell? ⟨p, 0, none⟩ = some (.slice Ak (rs.length + k) ck) := by rw [hw3, World.cell?_alloc_lt _ _ _ (by simp; omega)]; exact v0
      have x1 : w3.cell? ⟨p, 1, none⟩ = some (.int .i64 rs.length) := by rw [hw3, World.cell?_alloc_lt _ _ _ (by simp; omega)]; exact v1
      have r0 : w3.frozen? ⟨p, 0, none⟩ = false := by rw [hw3, World.frozen?_alloc_past _ _ _ (by first | omega | (simp; omega))]; exact u0
      have r1 : w3.frozen? ⟨p, 1, none⟩ = false := by rw [hw3, World.frozen?_alloc_past _ _ _ (by first | omega | (simp; omega))]; exact u1
      have O3 := Lib.hid (show w3.ownsRow base 28 4 (.slice Ak (rs.length + k) ck) (rs.length + k) (cR (rs ++ (sp.take k).map (newR lo hi))) from by rw [hw3]; exact own_allocC OK.out _)
      have K3 := Lib.hid (show Keeps (fun x => x = p ∨ (Value.slice A rs.length c).ownBlock = some x) w w3 from by rw [hw3]; exact keeps_alloc KP.out _)
      have z3 : w3.heap.size = wr.heap.size + 1 := by rw [hw3]; simp
      have npk : ∀ x, x = p ∨ x = wr.heap.size → (Value.slice Ak (rs.length + k) ck).ownBlock ≠ some x := fun x hx h => by
        rcases hx with rfl | rfl
        · rcases HAT.out _ h with h' | h'
          · exact NP.out h'
          · omega
        · have := (own_lt OK.out h).2
          omega
      have NPK := Lib.hid npk
      have nbp : ¬ wr.heap.size = p := by omega
      have nbp' : ¬ p = wr.heap.size := by omega
      have HW := Lib.hid hw3
      have Z3 := Lib.hid z3
      have nq1 : ¬ p = w3.heap.size := by omega
      have nq2 : ¬ w3.heap.size = p := by omega
      have nq3 : ¬ wr.heap.size = w3.heap.size := by omega
      have nq4 : ¬ w3.heap.size = wr.heap.size := by omega
      have lq1 : p < w3.heap.size := by omega
      have lq2 : wr.heap.size < w3.heap.size := by omega
      clear hw3 v0 v1 u0 u1 npk OK KP
      go_wp2_with fail
      rw [← HW.out]
      have hz3 : ∀ x, x = p ∨ x = wr.heap.size → x < w3.heap.size := fun x hx => by rcases hx with rfl | rfl <;> omega
      have HZ3 := Lib.hid hz3
      have R4o := Lib.hid (four_new w3.drew (.int .i64 s.1) (.int .i64 lo) (.int .i64 s.2) (.int .i64 hi) 28)
      have O4 := Lib.hid (own_allocC (own_drewC O3.out) (.cells #[.int .i64 s.1, .int .i64 lo, .int .i64 s.2, .int .i64 hi] 28))
      have HB3 := Lib.hid (show base ≤ ((w3.drew).alloc (.cells #[.int .i64 s.1, .int .i64 lo, .int .i64 s.2, .int .i64 hi] 28)).heap.size from by simp; omega)
      clear hz3
      generalize hacc : rs ++ (sp.take k).map (newR lo hi) = acc at *
      have HAC := Lib.hid hacc
      clear hacc z3
      go_region_law
        (first | (refine step_append_lies _ rfl (.tmp 54) (.tmp 62) 22 rfl base 28 i0 (.agg #[.int .i64 0, .int .i64 0, .int .i64 0, .int .i64 0]) 4 32 Tryz.underlying22 hi0 hz0 hz1 hz2 rfl (by decide) (.slice Ak (rs.length + k) ck) (rs.length + k) (cR acc) rfl O4.out ⟨w3.heap.size, 0, none⟩ 1 1 [.int .i64 s.1, .int .i64 lo, .int .i64 s.2, .int .i64 hi] rfl rfl R4o.out (by simp [Value.oneCell']) (by decide) (by simp only [maxLen]; omega) (by omega) HB3.out _ rfl ?_; intro g5 cap5 w5 hown5 hg5 hat5 hlt5; have HO5 := Lib.hid hown5; have HAT5 := Lib.hid hat5; have G5 := Lib.hid hg5; have y5 := (cell_gb hg5 (by have := Z3.out; simp; omega) (NPK.out _ (.inr rfl)) 0).trans ((World.cell?_alloc_lt _ _ _ (by have := Z3.out; simp; omega)).trans e0); have y6 := (cell_gb hg5 (by have := Z3.out; simp; omega) (NPK.out _ (.inr rfl)) 1).trans ((World.cell?_alloc_lt _ _ _ (by have := Z3.out; simp; omega)).trans e1); have t0 := (cell_gb hg5 (by have := Z3.out; simp; omega) (NPK.out _ (.inl rfl)) 0).trans ((World.cell?_alloc_lt _ _ _ (by have := Z3.out; simp; omega)).trans x0); have t1 := (cell_gb hg5 (by have := Z3.out; simp; omega) (NPK.out _ (.inl rfl)) 1).trans ((World.cell?_alloc_lt _ _ _ (by have := Z3.out; simp; omega)).trans x1); have t2 := (frozen_gb hg5 (by have := Z3.out; simp; omega) (NPK.out _ (.inl rfl)) 0).trans ((World.frozen?_alloc_past _ _ _ (by have := Z3.out; first | omega | (simp; omega))).trans r0); have t3 := (frozen_gb hg5 (by have := Z3.out; simp; omega) (NPK.out _ (.inl rfl)) 1).trans ((World.frozen?_alloc_past _ _ _ (by have := Z3.out; first | omega | (simp; omega))).trans r1); clear hown5 hg5 hat5))
      all_goals
        go_wp2_with fail
        go_roundw
        case rel =>
          have hg5p : ¬ g5 = p := by
            rcases HAT5.out with h | h
            · exact fun e => NPK.out p (.inl rfl) (by rw [← e]; exact h)
            · simp at h; omega
          refine ⟨k + 1, some ⟨g5, 0, none⟩, cap5, by omega, by go_num, World.cell?_setCell_same' _ _ _ (by rw [t0]; rfl), ?_, ?_, ?_, ?_, ?_, ?_⟩
          · rw [World.cell?_setCell_other _ _ _ _ (by simp)]; exact t1
          · rw [World.frozen?_setCell]; exact t2
          · rw [World.frozen?_setCell]; exact t3
          · have h := HO5.out
            refine (keeps_set (Keeps.refl (fun x => x = p) _) (fun _ => rfl) _).own ?_ (fun g hg e => hg5p (by simp [Value.ownBlock] at hg; omega))
            rw [HS.out, cR_append]
            exact h
          · intro g hg
            simp [Value.ownBlock] at hg
            subst hg
            rcases HAT5.out with h | h
            · exact HAT.out _ h
            · right
              have := K3.out.size
              simp at h
              omega
          · refine keeps_set (Keeps.trans (keeps_alloc (keeps_drew K3.out) _) (keeps_gb G5.out) fun x hx hS => ?_) (fun _ => .inl rfl) _
            rcases HAT.out x hS with h | h
            · exact .inr h
            · omega
        case measure => simp [intOf]; omega
    · obtain rfl : k = sp.length := by omega
      go_wp2_with fail
      go_end0
      have h := OK.out
      rw [List.take_length] at h
      exact ⟨rfl, _, v0, v1, u0, u1, by simpa using h, HAT.out, KP.out⟩

theorem add_any (base p : Nat) (v : Value) (rs : List R4) (last : Nat) (lo hi : Int) (A2 : Option Addr) (sp : List Span) (c2 : Nat) (w : World) (hrs : rs.length ≤ 100000000000) (hsp : sp.length ≤ 1000000) (hla : last ≤ rs.length) (hbase : base ≤ w.heap.size)
    (hown : w.ownsRow base 28 4 v rs.length (cR rs)) (hnp : v.ownBlock ≠ some p) (q0 : w.cell? ⟨p, 0, none⟩ = some v) (q1 : w.cell? ⟨p, 1, none⟩ = some (.int .i64 last)) (f0 : w.frozen? ⟨p, 0, none⟩ = false) (f1 : w.frozen? ⟨p, 1, none⟩ = false)
    (hp : p < w.heap.size) (h2 : RdT w A2 sp) (h2p : ∀ b off, A2 = some ⟨b, off, none⟩ → b ≠ p ∧ v.ownBlock ≠ some b) :
    Calls Tryz.prog 79 #[.pointer (some ⟨p, 0, none⟩), .int .i64 lo, .int .i64 hi, .slice A2 sp.length c2] w fun e w' => e = .returned (.tuple #[]) ∧ AddPost base p v (addP rs last lo hi sp).1 (addP rs last lo hi sp).2 w w' := by
  cases hgo : goesOnP rs last lo sp with
  | true => exact addOn_any base p v rs last lo hi A2 sp c2 w hrs hsp hla hown hnp q0 q1 f0 f1 hp h2 hgo
  | false => exact addNew_any base p v rs last lo hi A2 sp c2 w hrs hsp hla hbase hown hnp q0 q1 f0 f1 hp h2 h2p hgo
end Go.Proofs.YtmcbjaefnhfopaaGreat

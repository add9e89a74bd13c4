/- Several texts in one: RSpn, RHolP, Cyc, RPrs, RCyc, SamP. -/
import Derived.Test.YtlfkackfnbbajaaRStack
import Derived.Test.YtlfkackfnbbajaaEndB
import Derived.Test.YtlfkackfnbbajaaPrsd
import Derived.Test.YtlfkackfnbbajaaSl2
import Derived.Test.YtlfkackfnbbajaaLaid
import Derived.Test.YtlfkackfnbbajaaEndE
/- Whether spans are right: what the reference of chapter 4 says (CheckSpans), whatever the world. -/
namespace Go.Proofs.Ytlfkackfnbbajaa
open Go.RowKit Go.Maps Go.Sort
set_option linter.unusedSimpArgs false
set_option linter.unusedVariables false
set_option maxRecDepth 100000

def clashS (x z : Sb) : Bool := decide (max x.t.a z.t.a ≤ min x.t.b z.t.b) && !inT x.t z.t && !inT z.t x.t
def pairS : List Sb → List Sb → Bool
  | _, [] => false
  | P, x :: l => P.any (clashS x) || pairS (P ++ [x]) l
theorem clash_sb {x z : Sb} (hx : x.t.a ≤ x.t.b) (hz : z.t.a ≤ z.t.b) : clashQ x.bq z.bq = clashS x z := by
  have e1 : clashQ x.bq z.bq = (decide (x.t.a ≤ z.t.b) && decide (z.t.a ≤ x.t.b) && !(decide (z.t.a ≤ x.t.a) && decide (x.t.b ≤ z.t.b)) && !(decide (x.t.a ≤ z.t.a) && decide (z.t.b ≤ x.t.b))) := rfl
  have e2 : clashS x z = (decide (max x.t.a z.t.a ≤ min x.t.b z.t.b) && !(decide (z.t.a ≤ x.t.a) && decide (x.t.b ≤ z.t.b)) && !(decide (x.t.a ≤ z.t.a) && decide (z.t.b ≤ x.t.b))) := rfl
  have e3 : decide (max x.t.a z.t.a ≤ min x.t.b z.t.b) = (decide (x.t.a ≤ z.t.b) && decide (z.t.a ≤ x.t.b)) := by
    rw [← Bool.decide_and]
    exact decide_eq_decide.2 (by omega)
  rw [e1, e2, e3]
theorem pair_sb : ∀ (P L : List Sb), (∀ x ∈ P, x.t.a ≤ x.t.b) → (∀ x ∈ L, x.t.a ≤ x.t.b) → pairF (P.map Sb.bq) (L.map Sb.bq) = pairS P L
  | _, [], _, _ => rfl
  | P, x :: L, hp, hl => by
    have hx := hl x (List.mem_cons_self ..)
    have ih := pair_sb (P ++ [x]) L (fun y hy => by
      rcases List.mem_append.1 hy with hy | hy
      · exact hp y hy
      · rw [List.mem_singleton.1 hy]; exact hx) (fun y hy => hl y (List.mem_cons_of_mem _ hy))
    rw [List.map_append, List.map_singleton] at ih
    have h2 : ∀ Q : List Sb, (∀ y ∈ Q, y.t.a ≤ y.t.b) → (Q.any fun z => clashQ x.bq z.bq) = Q.any (clashS x) := by
      intro Q
      induction Q with
      | nil => intro _; rfl
      | cons y Q ih =>
        intro hq
        rw [List.any_cons, List.any_cons, ih (fun z hz => hq z (List.mem_cons_of_mem _ hz)), clash_sb hx (hq y (List.mem_cons_self ..))]
    rw [List.map_cons, pairF, pairS, ih, any_map, h2 P hp]
theorem subs_len (R : List Row) (t : List Thr) : (subsF R t).length ≤ (cus R).length + t.length + 1 := by
  have h1 := (subs_perm R t).length_eq
  have h2 := boards_length R t
  rw [List.length_map, List.length_map] at h1
  omega
theorem subs_mem {R : List Row} {t : List Thr} (h2 : 2 ≤ (cus R).length) (ht : ∀ x ∈ t, 1 ≤ x.a ∧ x.a < x.b ∧ x.b ≤ ((cus R).length : Int)) : ∀ x ∈ subsF R t, 1 ≤ x.t.a ∧ x.t.a < x.t.b ∧ x.t.b ≤ ((cus R).length : Int) := by
  intro x hx
  obtain ⟨y, hy, hy2⟩ := List.mem_map.1 ((subs_perm R t).subset (List.mem_map.2 ⟨x, hx, rfl⟩))
  have h3 := (boards_bd h2 ht).r y hy
  have e1 : y.a = x.t.a := congrArg AB.a hy2
  have e2 : y.b = x.t.b := congrArg AB.b hy2
  rw [← e1, ← e2]
  exact h3
section
variable {A : Option Addr} {l : List Mat} {c : Nat} {A2 : Option Addr} {s : List Lay} {c2 : Nat} {w : World}
set_option maxHeartbeats 8000000 in
theorem rSpans_any (h : StkIn A l A2 s w) (hc2 : s.length ≤ c2) (hc3 : c2 ≤ 140737488355328) (A3 : Option Addr) (t : List Thr) (c3 : Nat) (hl : t.length ≤ 140737488355328) (hd : RdG 2 Thr.cs w A3 t) :
    Calls Try.prog 41 #[.slice A l.length c, .slice A2 s.length c2, .slice A3 t.length c3] w fun e w' => e = .returned (.int .i64 (pressedF l s t)) ∧ Below w.heap.size w w' := by
  have CS0 := rCheckStack_any (A := A) (l := l) (c := c) (w := w) A2 s c2 hc2 hc3 h
  by_cases h0 : stackF l s = 0
  · rw [h0] at CS0
    have CS := Lib.hid CS0
    clear CS0
    by_cases h200 : 200 < t.length
    · have HF := Lib.hid (show pressedF l s t = 2 by
        rw [pressed_ref, if_pos h0]
        have : thrF (cus (rowsOf l s)).length t = 2 := if_pos h200
        rw [this]
        rfl)
      have h2b : decide (200 < (t.length : Int)) = true := by simp; omega
      clear h hd h0
      go_enter Try.func41, Try.ntmps41
      go_wp2_with fail
      refine CS.out.mono ?_
      rintro e w1 ⟨rfl, hb⟩
      have B1 := Lib.hid hb
      clear hb
      go_wp2_with fail
      go_ret
      exact ⟨by rw [HF.out]; rfl, B1.out⟩
    · have h2 := form_two (stackF_form h0)
      have HH2 := Lib.hid h2
      have hre := rows_eq h0
      have hsl := (stackF_go h0).2.1
      have hcl0 := cus_few (s.map (rowOf l)) 0
      have hcn : (cus (rowsOf l s)).length ≤ 1000 := by
        rw [hre]
        unfold cus
        rw [List.length_map] at hcl0
        omega
      have HF0 := pressed_ref (m := l) (s := s) (t := t)
      rw [if_pos h0, show thrF (cus (rowsOf l s)).length t = thrGo (cus (rowsOf l s)).length [] t from if_neg h200] at HF0
      have CSB := Lib.hid (fun W (hb : Below w.heap.size w W) (hok : ∀ x ∈ t, okT x) => subs_any (c := c) (c2 := c2) (w := W) (h.below hb) h0 A3 t c3 (by omega) hok (hd.below hb))
      have CC0 := fun W (hb : Below w.heap.size w W) => rCoppers_any (w := W) (A := A) (l := l) (c := c) A2 s c2 h.l1 (by omega) (h.m.below hb) (h.y.below hb)
      rw [← hre] at CC0
      have HD := Lib.hid hd
      have h2b : decide (200 < (t.length : Int)) = false := by simp; omega
      clear h hd h0 hre hsl hcl0 h2
      generalize rowsOf l s = R at *
      generalize hpp : pressedF l s t = PF at *
      clear hpp
      have HZ := Lib.hid (fun (hz : thrGo (cus R).length [] t = 0) => thrF_zero (n := (cus R).length) (l := t) (show thrF (cus R).length t = 0 from (if_neg h200).trans hz))
      have HSL := Lib.hid (subs_len R t)
      have HSM := Lib.hid (fun (ht : ∀ x ∈ t, 1 ≤ x.a ∧ x.a < x.b ∧ x.b ≤ ((cus R).length : Int)) => subs_mem HH2.out ht)
      generalize hn : (cus R).length = n at *
      have HF := Lib.hid HF0
      have CC := Lib.hid CC0
      clear HF0 CC0 hn
      go_enter Try.func41, Try.ntmps41
      go_wp2_with fail
      refine CS.out.mono ?_
      rintro e w1 ⟨rfl, hb⟩
      have B1 := Lib.hid hb
      clear hb
      go_wp2_with fail
      go_loopw [28] (fun i wr => ∃ k : Nat, k ≤ t.length ∧ i = .int .i64 k ∧ thrGo n [] t = thrGo n (t.take k).getLast?.toList (t.drop k) ∧ Below w.heap.size w wr) (fun i _ => t.length - (intOf i).toNat)
      case atStart => exact ⟨0, Nat.zero_le _, rfl, rfl, B1.out⟩
      case round =>
        obtain ⟨k, hk, rfl, hf, hw⟩ := hrel
        have HFT := Lib.hid hf
        have HW := Lib.hid hw
        have zw := hw.size
        clear hf
        have hkz : (0 : Int) ≤ (k : Int) := by omega
        by_cases hlt : k < t.length
        · obtain ⟨b, off, rfl, hblt, hcs⟩ := (HD.out.below hw) (by omega)
          have hi : t[k]? = some t[k] := List.getElem?_eq_getElem hlt
          have c0 := by simpa using hcs k _ hi 0 _ rfl
          have c1 := hcs k _ hi 1 _ rfl
          have HCS := Lib.hid hcs
          have hd : t.drop k = t[k] :: t.drop (k + 1) := List.drop_eq_getElem_cons hlt
          have HDR := Lib.hid hd
          have HI := Lib.hid hi
          clear hd hi hcs hw
          generalize t[k] = p at *
          have HBAD := Lib.hid (fun h => (HFT.out.trans (HDR.out ▸ thrGo_bad (x := p) h) : thrGo n [] t = 1))
          obtain ⟨pa, pb⟩ := p
          simp only at c0 c1
          have a0 := alloc_new_cell wr #[.int .i64 pa, .int .i64 pb] 64 0 rfl
          have a1 := alloc_new_cell wr #[.int .i64 pa, .int .i64 pb] 64 1 rfl
          have BA := Lib.hid (HW.out.alloc zw (.cells #[.int .i64 pa, .int .i64 pb] 64))
          have BL := Lib.hid ((Below.refl wr.heap.size wr).alloc (Nat.le_refl _) (.cells #[.int .i64 pa, .int .i64 pb] 64))
          have zs : (wr.alloc (.cells #[.int .i64 pa, .int .i64 pb] 64)).heap.size = wr.heap.size + 1 := by simp
          by_cases h3 : pa < 1
          · have HN := Lib.hid (HBAD.out (.inl h3))
            have HE := Lib.hid (show PF = 1 by rw [HF.out, HN.out]; rfl)
            clear HBAD HN a0 a1 BL zs
            go_wp2_with fail
            go_quiet (fail)
            go_wp2_with fail
            go_ret
            exact ⟨by rw [HE.out]; rfl, below_drewN BA.out _⟩
          · have h3' : decide (pa < 1) = false := decide_eq_false h3
            go_wp2_with fail
            generalize wr.alloc (.cells #[.int .i64 pa, .int .i64 pb] 64) = wa at *
            have lt0 : wr.heap.size < wa.heap.size := by omega
            have HSB := Lib.hid (fun (W : World) (hb : Below wa.heap.size wa W) => show Below wa.heap.size wa W ∧ W.cell? ⟨wr.heap.size, 0, none⟩ = some (.int .i64 pa) ∧ W.cell? ⟨wr.heap.size, 1, none⟩ = some (.int .i64 pb) from ⟨hb, (hb.cell (p := ⟨wr.heap.size, 0, none⟩) lt0).trans a0, (hb.cell (p := ⟨wr.heap.size, 1, none⟩) lt0).trans a1⟩)
            by_cases h4 : (n : Int) < pb
            · have HN := Lib.hid (HBAD.out (.inr (.inl h4)))
              have HE := Lib.hid (show PF = 1 by rw [HF.out, HN.out]; rfl)
              have h4' : decide ((n : Int) < pb) = true := decide_eq_true h4
              clear HBAD HN
              first
                | (go_region_with (first | (go_at_call 61; refine (CC.out _ (below_drewN BA.out 1)).mono ?_; rintro e w9 ⟨v9, rfl, ho9, hb9⟩; obtain ⟨Ac9, cc9, rfl, -, -, -⟩ := own_cells ho9; clear ho9; have e9 := HSB.out w9 ((below_drewN (Below.refl wa.heap.size wa) 1).trans (hb9.mono (Nat.le_refl _))); have e90 := e9.2.1; have e91 := e9.2.2; clear e9)))
                | fail
              all_goals
                have B9 := Lib.hid ((below_drewN (Below.refl wa.heap.size wa) 1).trans (hb9.mono (Nat.le_refl _)))
                clear hb9
                go_wp2_with fail
                go_ret
                exact ⟨by rw [HE.out]; rfl, BA.out.trans (B9.out.mono (by omega))⟩
            · have h4' : decide ((n : Int) < pb) = false := decide_eq_false h4
              by_cases h5 : pb ≤ pa
              · have HN := Lib.hid (HBAD.out (.inr (.inr h5)))
                have HE := Lib.hid (show PF = 1 by rw [HF.out, HN.out]; rfl)
                have h5' : decide (pb ≤ pa) = true := decide_eq_true h5
                clear HBAD HN
                go_region_held3 (fun w' => Below wa.heap.size wa w' ∧ w'.cell? ⟨wr.heap.size, 0, none⟩ = some (.int .i64 pa) ∧ w'.cell? ⟨wr.heap.size, 1, none⟩ = some (.int .i64 pb))
                  (first | exact HSB.out _ (below_drewN (Below.refl wa.heap.size wa) 1) | exact HSB.out _ ((below_drewN (Below.refl wa.heap.size wa) 1).trans (hb9.mono (Nat.le_refl _))))
                  (first | (go_at_call 61; refine (CC.out _ (below_drewN BA.out 1)).mono ?_; rintro e w9 ⟨v9, rfl, ho9, hb9⟩; obtain ⟨Ac9, cc9, rfl, -, -, -⟩ := own_cells ho9; clear ho9))
                have B9 := Lib.hid ((below_drewN (Below.refl wa.heap.size wa) 1).trans (hb9.mono (Nat.le_refl _)))
                clear hb9
                go_wp2_with fail
                go_ret
                exact ⟨by rw [HE.out]; rfl, BA.out.trans (B9.out.mono (by omega))⟩
              · have HB := Lib.hid (show ¬ badT n ⟨pa, pb⟩ by unfold badT; simp only; omega)
                have h5' : decide (pb ≤ pa) = false := decide_eq_false h5
                clear HBAD
                go_region_held3 (fun w' => Below wa.heap.size wa w' ∧ w'.cell? ⟨wr.heap.size, 0, none⟩ = some (.int .i64 pa) ∧ w'.cell? ⟨wr.heap.size, 1, none⟩ = some (.int .i64 pb))
                  (first | exact HSB.out _ (below_drewN (Below.refl wa.heap.size wa) 1) | exact HSB.out _ ((below_drewN (Below.refl wa.heap.size wa) 1).trans (hb9.mono (Nat.le_refl _))))
                  (first | (go_at_call 61; refine (CC.out _ (below_drewN BA.out 1)).mono ?_; rintro e w9 ⟨v9, rfl, ho9, hb9⟩; obtain ⟨Ac9, cc9, rfl, -, -, -⟩ := own_cells ho9; clear ho9))
                have B9 := Lib.hid ((below_drewN (Below.refl wa.heap.size wa) 1).trans (hb9.mono (Nat.le_refl _)))
                have z9 := B9.out.size
                have y0 := (B9.out.cell (p := ⟨wr.heap.size, 0, none⟩) lt0).trans a0
                have y1 := (B9.out.cell (p := ⟨wr.heap.size, 1, none⟩) lt0).trans a1
                have BW9 := Lib.hid (BA.out.trans (B9.out.mono (by omega)))
                have BL9 := Lib.hid (BL.out.trans (B9.out.mono (by omega)))
                clear hb9 a0 a1
                by_cases hz : k = 0
                · have hz1 : decide ((0 : Int) < (k : Int)) = false := by simp; omega
                  have hz2 : decide (0 < k) = false := by simp; omega
                  have HZ0 := Lib.hid (show (t.take k).getLast?.toList = [] by rw [hz]; rfl)
                  have HN := Lib.hid (show thrGo n [] t = thrGo n [⟨pa, pb⟩] (t.drop (k + 1)) by rw [HFT.out, HDR.out, HZ0.out]; exact thrGo_go HB.out rfl)
                  clear hz
                  go_wp2_with fail
                  go_quiet (fail)
                  go_wp2_with fail
                  go_roundw
                  case rel => exact ⟨k + 1, by omega, by go_num, HN.out.trans (by rw [last_one HI.out]), below_drewN BW9.out _⟩
                  case measure => (simp [intOf] <;> omega)
                · obtain ⟨j, rfl⟩ : ∃ j, k = j + 1 := ⟨k - 1, by omega⟩
                  have hj : t[j]? = some t[j] := List.getElem?_eq_getElem (by omega)
                  have d0 := (BL9.out.cell (p := ⟨b, _, none⟩) hblt).trans (by simpa using HCS.out j _ hj 0 _ rfl)
                  have d1 := (BL9.out.cell (p := ⟨b, _, none⟩) hblt).trans (HCS.out j _ hj 1 _ rfl)
                  have HJ := Lib.hid hj
                  clear hj hz
                  generalize t[j] = q at *
                  have HL := Lib.hid (last_one HJ.out)
                  obtain ⟨qa, qb⟩ := q
                  simp only at d0 d1
                  have x1 : (j : Int) + 1 - 1 = j := by omega
                  have x2 : (0 : Int) ≤ (j : Int) := by omega
                  have x3 : (j : Int) < (t.length : Int) := by omega
                  have x4 : j < t.length := by omega
                  have x5 : IntKind.i64.wrap ((j : Int) + 1 - 1) = (j : Int) := (IntWalk.i64_in _ (by omega)).trans x1
                  have x6 : IntKind.i64.wrap (j : Int) = (j : Int) := IntWalk.i64_in _ (by omega)
                  have x7 : (0 : Int) < (j : Int) + 1 := by omega
                  have x8 : decide ((0 : Int) < (j : Int) + 1) = true := decide_eq_true x7
                  have HAF := Lib.hid (show afterT ⟨pa, pb⟩ ⟨qa, qb⟩ = (decide (qa < pa) || (decide (qa = pa) && decide (qb < pb))) from rfl)
                  have HBADO := Lib.hid (fun (ho : afterT ⟨pa, pb⟩ ⟨qa, qb⟩ = false) => show PF = 8 by
                    have : thrGo n [] t = 8 := by rw [HFT.out, HL.out, HDR.out]; exact thrGo_order HB.out (by simp [ho])
                    rw [HF.out, this]
                    rfl)
                  have HGO := Lib.hid (fun (ho : afterT ⟨pa, pb⟩ ⟨qa, qb⟩ = true) => show thrGo n [] t = thrGo n [⟨pa, pb⟩] (t.drop (j + 1 + 1)) by rw [HFT.out, HL.out, HDR.out]; exact thrGo_go HB.out (by simp [ho]))
                  by_cases h6 : pa < qa
                  · have HE := Lib.hid (HBADO.out (by rw [HAF.out, decide_eq_false (by omega), decide_eq_false (by omega)]; rfl))
                    have h6' : decide (pa < qa) = true := decide_eq_true h6
                    clear HBADO HGO HAF
                    go_wp2_with fail
                    go_quiet (fail)
                    go_wp2_with fail
                    go_ret
                    exact ⟨by rw [HE.out]; rfl, below_drewN BW9.out _⟩
                  · have h6' : decide (pa < qa) = false := decide_eq_false h6
                    by_cases h7 : pa = qa
                    · subst h7
                      have h7' : (pa == pa) = true := by simp
                      by_cases h8 : pb ≤ qb
                      · have HE := Lib.hid (HBADO.out (by rw [HAF.out, decide_eq_false (by omega), decide_eq_false (p := qb < pb) (by omega)]; simp))
                        have h8' : decide (pb ≤ qb) = true := decide_eq_true h8
                        clear HBADO HGO HAF
                        go_wp2_with fail
                        go_quiet (fail)
                        go_wp2_with fail
                        go_ret
                        exact ⟨by rw [HE.out]; rfl, below_drewN BW9.out _⟩
                      · have HN := Lib.hid (HGO.out (by rw [HAF.out, decide_eq_true (p := qb < pb) (by omega)]; simp))
                        have h8' : decide (pb ≤ qb) = false := decide_eq_false h8
                        clear HBADO HGO HAF
                        go_wp2_with fail
                        go_quiet (fail)
                        go_wp2_with fail
                        go_roundw
                        case rel => exact ⟨j + 1 + 1, by omega, by go_num, HN.out.trans (by rw [last_one HI.out]), below_drewN BW9.out _⟩
                        case measure => (simp [intOf] <;> omega)
                    · have h7' : (pa == qa) = false := by simpa using h7
                      have HN := Lib.hid (HGO.out (by rw [HAF.out, decide_eq_true (p := qa < pa) (by omega)]; rfl))
                      clear HBADO HGO HAF
                      go_wp2_with fail
                      go_quiet (fail)
                      go_wp2_with fail
                      go_roundw
                      case rel => exact ⟨j + 1 + 1, by omega, by go_num, HN.out.trans (by rw [last_one HI.out]), below_drewN BW9.out _⟩
                      case measure => (simp [intOf] <;> omega)
        · obtain rfl : k = t.length := by omega
          have hend : thrGo n [] t = 0 := by
            rw [HFT.out, List.drop_length]
            rfl
          obtain ⟨_, ht2⟩ := HZ.out hend
          have CSB1 := Lib.hid (CSB.out wr HW.out (fun x hx => by have := ht2 x hx; unfold okT; omega))
          have hmem := HSM.out ht2
          have hPF : PF = madeS (subsF R t) := by rw [HF.out, hend]; rfl
          have hLl := HSL.out
          clear hw hlt hk hkz hend ht2 HFT HZ HSM HSL
          go_wp2_with fail
          refine CSB1.out.mono ?_
          rintro e w2 ⟨v, rfl, ho, hb⟩
          obtain ⟨Av, cv, rfl, u1, u2, u3⟩ := own_rdG (l := subsF R t) (cs := Sb.cs) (fun _ => rfl) ho
          have HB2 := Lib.hid (HW.out.trans (hb.mono zw))
          have HL := Lib.hid u3
          have u2' : cv ≤ 9223372036854775807 := u2
          clear ho hb u3 u2 CSB CSB1 CC
          generalize subsF R t = L at *
          have HMEM := Lib.hid (fun x (hx : x ∈ L) => show okT x.t ∧ x.t.a ≤ x.t.b by have := hmem x hx; unfold okT; omega)
          have HPR := Lib.hid (show pairF [] (L.map Sb.bq) = pairS [] L from pair_sb [] L (fun x hx => by cases hx) (fun x hx => (HMEM.out x hx).2))
          have HE := Lib.hid (show PF = if pairS [] L then 12 else if L.any (fun x => !x.c && !heldQ x L) then 11 else 0 by rw [hPF, madeS, HPR.out])
          have hL2 : L.length ≤ 2000 := by omega
          clear hPF hmem
          go_wp2_with fail
          go_loopw [94] (fun i wr => ∃ k : Nat, k ≤ L.length ∧ i = .int .i64 k ∧ pairS [] L = pairS (L.take k) (L.drop k) ∧ Below w2.heap.size w2 wr) (fun i _ => L.length - (intOf i).toNat)
          case atStart => exact ⟨0, Nat.zero_le _, rfl, rfl, Below.refl _ _⟩
          case round =>
            obtain ⟨k, hk, rfl, hf, hw⟩ := hrel
            have HFP := Lib.hid hf
            have HWr := Lib.hid hw
            have zw := hw.size
            clear hf
            have hkz : (0 : Int) ≤ (k : Int) := by omega
            by_cases hlt : k < L.length
            · obtain ⟨b, off, rfl, hblt, hcs⟩ := (HL.out.below hw) (by omega)
              have hi : L[k]? = some L[k] := List.getElem?_eq_getElem hlt
              have c0 := by simpa using hcs k _ hi 0 _ rfl
              have c1 := hcs k _ hi 1 _ rfl
              have c2 := hcs k _ hi 2 _ rfl
              have hdr : L.drop k = L[k] :: L.drop (k + 1) := List.drop_eq_getElem_cons hlt
              have htk : L.take (k + 1) = L.take k ++ [L[k]] := by rw [List.take_add_one, hi]; rfl
              have HP := Lib.hid (show pairS [] L = ((L.take k).any (clashS L[k]) || pairS (L.take (k + 1)) (L.drop (k + 1))) by rw [HFP.out, hdr, pairS, htk])
              have hkc : k ≤ cv := by omega
              have HCS := Lib.hid hcs
              clear hdr htk hi hw hcs
              generalize L[k] = x at *
              obtain ⟨⟨xa, xb⟩, xc⟩ := x
              simp only at c0 c1 c2
              go_wp2_with fail
              obtain ⟨w8, rfl⟩ : ∃ w8, w8 = wr := ⟨wr, rfl⟩
              go_loopw [103] (fun i wx => ∃ j : Nat, j ≤ k ∧ i = .int .i64 j ∧ (L.take k).any (clashS ⟨⟨xa, xb⟩, xc⟩) = ((L.take k).drop j).any (clashS ⟨⟨xa, xb⟩, xc⟩) ∧ Below (w8.heap.size + 1) (w8.alloc (.cells #[.int .i64 xa, .int .i64 xb, .bool xc] 108)) wx) (fun i _ => k - (intOf i).toNat)
              case atStart => exact ⟨0, Nat.zero_le _, rfl, rfl, Below.refl _ _⟩
              case round =>
                obtain ⟨j, hj, rfl, ha, hw⟩ := hrel
                have HA := Lib.hid ha
                have HWX := Lib.hid hw
                have zx : w8.heap.size + 1 ≤ wr.heap.size := by simpa using hw.size
                clear ha
                have hjz : (0 : Int) ≤ (j : Int) := by omega
                have b0 : wr.cell? ⟨w8.heap.size, 0, none⟩ = some (.int .i64 xa) := (hw.cell (p := ⟨w8.heap.size, 0, none⟩) (Nat.lt_succ_self _)).trans (alloc_new_cell w8 _ _ 0 rfl)
                have b1 : wr.cell? ⟨w8.heap.size, 1, none⟩ = some (.int .i64 xb) := (hw.cell (p := ⟨w8.heap.size, 1, none⟩) (Nat.lt_succ_self _)).trans (alloc_new_cell w8 _ _ 1 rfl)
                have HBW := Lib.hid ((HWr.out.alloc HWr.out.size (.cells #[.int .i64 xa, .int .i64 xb, .bool xc] 108)).trans (HWX.out.mono (Nat.le_succ_of_le HWr.out.size)))
                have HBZ := Lib.hid (HB2.out.trans (HBW.out.mono HB2.out.size))
                have n1 : ¬ w8.heap.size = wr.heap.size := by omega
                have n2 : ¬ wr.heap.size = w8.heap.size := by omega
                have n3 : w8.heap.size < wr.heap.size := by omega
                by_cases hjk : j < k
                · have hjl : j < L.length := by omega
                  have hi : L[j]? = some L[j] := List.getElem?_eq_getElem hjl
                  have up := fun (o : Nat) (v : Value) (h : w8.cell? ⟨b, o, none⟩ = some v) => (hw.cell (p := ⟨b, o, none⟩) (by show b < w8.heap.size + 1; omega)).trans ((World.cell?_alloc_lt _ _ _ hblt).trans h)
                  have d0 := up _ _ (by simpa using HCS.out j _ hi 0 _ rfl)
                  have d1 := up _ _ (HCS.out j _ hi 1 _ rfl)
                  have d2 := up _ _ (HCS.out j _ hi 2 _ rfl)
                  have HDC := Lib.hid (show ((L.take k).drop j).any (clashS ⟨⟨xa, xb⟩, xc⟩) = (clashS ⟨⟨xa, xb⟩, xc⟩ L[j] || ((L.take k).drop (j + 1)).any (clashS ⟨⟨xa, xb⟩, xc⟩)) by
                    rw [List.drop_eq_getElem_cons (by rw [List.length_take]; omega), List.any_cons, List.getElem_take])
                  clear up hi hw
                  generalize L[j] = z at *
                  obtain ⟨⟨ya, yb⟩, yc⟩ := z
                  simp only at d0 d1 d2
                  have HQ := Lib.hid (show clashS ⟨⟨xa, xb⟩, xc⟩ ⟨⟨ya, yb⟩, yc⟩ = (decide (max xa ya ≤ min xb yb) && !inT ⟨xa, xb⟩ ⟨ya, yb⟩ && !inT ⟨ya, yb⟩ ⟨xa, xb⟩) from rfl)
                  obtain ⟨M, hM⟩ : ∃ M, M = max xa ya := ⟨_, rfl⟩
                  obtain ⟨N, hN⟩ : ∃ N, N = min xb yb := ⟨_, rfl⟩
                  rw [← hM, ← hN] at HQ
                  have hmx : (if xa < ya then ya else xa) = M := by rw [hM]; omega
                  have hmn : (if yb < xb then yb else xb) = N := by rw [hN]; omega
                  have hmx' : (if xa < ya then Value.int .i64 ya else Value.int .i64 xa) = Value.int .i64 M := by
                    rw [← hmx]
                    split <;> rfl
                  have hmn' : (if yb < xb then Value.int .i64 yb else Value.int .i64 xb) = Value.int .i64 N := by
                    rw [← hmn]
                    split <;> rfl
                  clear hM hN
                  have CI1 := Lib.hid (fun W => show Calls Try.prog 77 #[.agg #[.int .i64 xa, .int .i64 xb], .agg #[.int .i64 ya, .int .i64 yb]] W (fun e w' => e = .returned (.bool (inT ⟨xa, xb⟩ ⟨ya, yb⟩)) ∧ ∃ q os', w' = grow (W.drewN q) os') from inside_any ⟨xa, xb⟩ ⟨ya, yb⟩ W)
                  have CI2 := Lib.hid (fun W => show Calls Try.prog 77 #[.agg #[.int .i64 ya, .int .i64 yb], .agg #[.int .i64 xa, .int .i64 xb]] W (fun e w' => e = .returned (.bool (inT ⟨ya, yb⟩ ⟨xa, xb⟩)) ∧ ∃ q os', w' = grow (W.drewN q) os') from inside_any ⟨ya, yb⟩ ⟨xa, xb⟩ W)
                  by_cases hm : M ≤ N
                  · have hm' : decide (M ≤ N) = true := decide_eq_true hm
                    rw [hm', Bool.true_and] at HQ
                    cases hi1 : inT ⟨xa, xb⟩ ⟨ya, yb⟩
                    · rw [hi1] at CI1 HQ
                      cases hi2 : inT ⟨ya, yb⟩ ⟨xa, xb⟩
                      · rw [hi2] at CI2 HQ
                        have HG := Lib.hid (show PF = 12 by rw [HE.out, HP.out, HA.out, HDC.out, HQ.out]; rfl)
                        clear hi1 hi2
                        go_wp2_with (first
                          | (have _h4 := HB4; clear _h4; go_at_call 77; refine (CI2.out _).mono ?_; rintro e w6 ⟨rfl, hgw⟩; have HB6 := Lib.hid (gw_below (B := w4.heap.size) (Nat.le_refl _) hgw); clear hgw)
                          | (go_at_call 77; refine (CI1.out _).mono ?_; rintro e w4 ⟨rfl, hgw⟩; have hb4 := gw_below (B := wr.heap.size + 1) (by simp) hgw; have HB4 := Lib.hid hb4; have z4 : wr.heap.size + 1 ≤ w4.heap.size := (by simpa using hb4.size); have e0 : w4.cell? ⟨wr.heap.size, 0, none⟩ = some (.int .i64 ya) := (hb4.cell (p := ⟨wr.heap.size, 0, none⟩) (Nat.lt_succ_self _)).trans (alloc_new_cell wr _ _ 0 rfl); have e1 : w4.cell? ⟨wr.heap.size, 1, none⟩ = some (.int .i64 yb) := (hb4.cell (p := ⟨wr.heap.size, 1, none⟩) (Nat.lt_succ_self _)).trans (alloc_new_cell wr _ _ 1 rfl); have f0 : w4.cell? ⟨w8.heap.size, 0, none⟩ = some (.int .i64 xa) := (hb4.cell (p := ⟨w8.heap.size, 0, none⟩) (Nat.lt_succ_of_lt n3)).trans ((World.cell?_alloc_lt _ _ _ n3).trans b0); have f1 : w4.cell? ⟨w8.heap.size, 1, none⟩ = some (.int .i64 xb) := (hb4.cell (p := ⟨w8.heap.size, 1, none⟩) (Nat.lt_succ_of_lt n3)).trans ((World.cell?_alloc_lt _ _ _ n3).trans b1); clear hb4 hgw))
                        go_ret
                        exact ⟨by rw [HG.out]; rfl, ((HBZ.out.alloc (by have := HBZ.out.size; omega) _).trans (HB4.out.mono (by have := HBZ.out.size; omega))).trans (HB6.out.mono (by have := HBZ.out.size; omega))⟩
                      · rw [hi2] at CI2 HQ
                        have HQ0 := Lib.hid (show clashS ⟨⟨xa, xb⟩, xc⟩ ⟨⟨ya, yb⟩, yc⟩ = false by rw [HQ.out]; rfl)
                        clear hi1 hi2
                        go_wp2_with (first
                          | (have _h4 := HB4; clear _h4; go_at_call 77; refine (CI2.out _).mono ?_; rintro e w6 ⟨rfl, hgw⟩; have HB6 := Lib.hid (gw_below (B := w4.heap.size) (Nat.le_refl _) hgw); clear hgw)
                          | (go_at_call 77; refine (CI1.out _).mono ?_; rintro e w4 ⟨rfl, hgw⟩; have hb4 := gw_below (B := wr.heap.size + 1) (by simp) hgw; have HB4 := Lib.hid hb4; have z4 : wr.heap.size + 1 ≤ w4.heap.size := (by simpa using hb4.size); have e0 : w4.cell? ⟨wr.heap.size, 0, none⟩ = some (.int .i64 ya) := (hb4.cell (p := ⟨wr.heap.size, 0, none⟩) (Nat.lt_succ_self _)).trans (alloc_new_cell wr _ _ 0 rfl); have e1 : w4.cell? ⟨wr.heap.size, 1, none⟩ = some (.int .i64 yb) := (hb4.cell (p := ⟨wr.heap.size, 1, none⟩) (Nat.lt_succ_self _)).trans (alloc_new_cell wr _ _ 1 rfl); have f0 : w4.cell? ⟨w8.heap.size, 0, none⟩ = some (.int .i64 xa) := (hb4.cell (p := ⟨w8.heap.size, 0, none⟩) (Nat.lt_succ_of_lt n3)).trans ((World.cell?_alloc_lt _ _ _ n3).trans b0); have f1 : w4.cell? ⟨w8.heap.size, 1, none⟩ = some (.int .i64 xb) := (hb4.cell (p := ⟨w8.heap.size, 1, none⟩) (Nat.lt_succ_of_lt n3)).trans ((World.cell?_alloc_lt _ _ _ n3).trans b1); clear hb4 hgw))
                        go_roundw
                        case rel => exact ⟨j + 1, by omega, by go_num, by rw [HA.out, HDC.out, HQ0.out, Bool.false_or], ((HWX.out.alloc zx _).trans (HB4.out.mono (by omega))).trans (HB6.out.mono (by omega))⟩
                        case measure => (simp [intOf] <;> omega)
                    · rw [hi1] at CI1 HQ
                      have HQ0 := Lib.hid (show clashS ⟨⟨xa, xb⟩, xc⟩ ⟨⟨ya, yb⟩, yc⟩ = false by rw [HQ.out]; rfl)
                      clear hi1
                      go_wp2_with (first
                          | (go_at_call 77; refine (CI1.out _).mono ?_; rintro e w4 ⟨rfl, hgw⟩; have HB4 := Lib.hid (gw_below (B := wr.heap.size + 1) (by simp) hgw); clear hgw))
                      go_roundw
                      case rel => exact ⟨j + 1, by omega, by go_num, by rw [HA.out, HDC.out, HQ0.out, Bool.false_or], (HWX.out.alloc zx _).trans (HB4.out.mono (by omega))⟩
                      case measure => (simp [intOf] <;> omega)
                  · have hm' : decide (M ≤ N) = false := decide_eq_false hm
                    rw [hm', Bool.false_and, Bool.false_and] at HQ
                    clear CI1 CI2
                    go_wp2_with fail
                    go_roundw
                    case rel => exact ⟨j + 1, by omega, by go_num, by rw [HA.out, HDC.out, HQ.out, Bool.false_or], HWX.out.alloc zx _⟩
                    case measure => (simp [intOf] <;> omega)
                · obtain rfl : j = k := by omega
                  have HN := Lib.hid (show pairS [] L = pairS (L.take (j + 1)) (L.drop (j + 1)) by
                    rw [HP.out, HA.out, List.drop_eq_nil_of_le (by rw [List.length_take]; omega)]
                    rfl)
                  clear hw
                  go_wp2_with fail
                  go_roundw
                  case rel => exact ⟨j + 1, by omega, by go_num, HN.out, HBW.out⟩
                  case measure => (simp [intOf] <;> omega)
            · obtain rfl : k = L.length := by omega
              have HE2 := Lib.hid (show PF = if L.any (fun x => !x.c && !heldQ x L) then 11 else 0 by rw [HE.out, HFP.out, List.drop_length]; rfl)
              clear hlt hk hkz hw
              go_wp2_with fail
              go_loopw [142] (fun i wr => ∃ j : Nat, j ≤ L.length ∧ i = .int .i64 j ∧ L.any (fun x => !x.c && !heldQ x L) = (L.drop j).any (fun x => !x.c && !heldQ x L) ∧ Below w2.heap.size w2 wr) (fun i _ => L.length - (intOf i).toNat)
              case atStart => exact ⟨0, Nat.zero_le _, rfl, rfl, HWr.out⟩
              case round =>
                obtain ⟨j, hj, rfl, ha, hw⟩ := hrel
                have HA := Lib.hid ha
                have HW2 := Lib.hid hw
                have zw2 := hw.size
                clear ha
                have hjz : (0 : Int) ≤ (j : Int) := by omega
                have HBZ := Lib.hid (HB2.out.trans (HW2.out.mono HB2.out.size))
                have zz := HBZ.out.size
                by_cases hlt : j < L.length
                · have HHr := Lib.hid (HL.out.below hw)
                  obtain ⟨b, off, rfl, hblt, hcs⟩ := HHr.out (by omega)
                  have hi : L[j]? = some L[j] := List.getElem?_eq_getElem hlt
                  have c0 := by simpa using hcs j _ hi 0 _ rfl
                  have c1 := hcs j _ hi 1 _ rfl
                  have c2 := hcs j _ hi 2 _ rfl
                  have HDC := Lib.hid (show (L.drop j).any (fun x => !x.c && !heldQ x L) = ((!L[j].c && !heldQ L[j] L) || (L.drop (j + 1)).any (fun x => !x.c && !heldQ x L)) by rw [List.drop_eq_getElem_cons hlt, List.any_cons])
                  have hxo := (HMEM.out _ (List.getElem_mem hlt)).1
                  clear hcs hi hw
                  generalize L[j] = x at *
                  have CL0 := fun (W : World) (hb : Below wr.heap.size wr W) => held_any x hxo (some ⟨b, off, none⟩) L cv W (by omega) (HHr.out.below hb)
                  clear hxo
                  obtain ⟨⟨xa, xb⟩, xc⟩ := x
                  simp only at c0 c1 c2 CL0 HDC
                  cases xc with
                  | true =>
                    clear CL0
                    go_wp2_with fail
                    go_roundw
                    case rel => exact ⟨j + 1, by omega, by go_num, by rw [HA.out, HDC.out]; rfl, HW2.out.alloc zw2 _⟩
                    case measure => (simp [intOf] <;> omega)
                  | false =>
                    cases hq : heldQ ⟨⟨xa, xb⟩, false⟩ L
                    · rw [hq] at CL0 HDC
                      have CL := Lib.hid CL0
                      clear CL0
                      have HG := Lib.hid (show PF = 11 by rw [HE2.out, HA.out, HDC.out]; rfl)
                      go_wp2_with (first | (go_at_call 78; refine (CL.out _ ((Below.refl wr.heap.size wr).alloc (Nat.le_refl _) _)).mono ?_; rintro e w4 ⟨rfl, hb4⟩; have HB4 := Lib.hid hb4; clear hb4))
                      go_ret
                      exact ⟨by rw [HG.out]; rfl, (HBZ.out.alloc zz _).trans (HB4.out.mono (by simp; omega))⟩
                    · rw [hq] at CL0 HDC
                      have CL := Lib.hid CL0
                      clear CL0
                      go_wp2_with (first | (go_at_call 78; refine (CL.out _ ((Below.refl wr.heap.size wr).alloc (Nat.le_refl _) _)).mono ?_; rintro e w4 ⟨rfl, hb4⟩; have HB4 := Lib.hid hb4; clear hb4))
                      go_roundw
                      case rel => exact ⟨j + 1, by omega, by go_num, by rw [HA.out, HDC.out]; rfl, (HW2.out.alloc zw2 _).trans (HB4.out.mono (by simp; omega))⟩
                      case measure => (simp [intOf] <;> omega)
                · obtain rfl : j = L.length := by omega
                  have HG := Lib.hid (show PF = 0 by rw [HE2.out, HA.out, List.drop_length]; rfl)
                  go_wp2_with fail
                  go_ret
                  exact ⟨by rw [HG.out]; rfl, HBZ.out⟩
  · have HF := Lib.hid (show pressedF l s t = stackF l s by rw [pressed_ref, if_neg h0])
    have CS := Lib.hid CS0
    clear CS0
    generalize stackF l s = F at *
    have hd1 : (F == 0) = false := by simpa using h0
    have hd2 : (F != 0) = true := by simpa using h0
    clear h hd h0
    go_enter Try.func41, Try.ntmps41
    go_wp2_with fail
    refine CS.out.mono ?_
    rintro e w1 ⟨rfl, hb⟩
    have B1 := Lib.hid hb
    clear hb
    go_wp2_with fail
    go_ret
    exact ⟨by rw [HF.out]; rfl, B1.out⟩
end
end Go.Proofs.Ytlfkackfnbbajaa
/- What is drilled in a sub-board: the spans that it is, in their order, as plain lists. -/
namespace Go.Proofs.Ytlfkackfnbbajaa
open Go.RowKit Go.Maps
set_option linter.unusedSimpArgs false
set_option linter.unusedVariables false
set_option maxRecDepth 100000

/-- The numbers of the spans that a sub-board is. -/
def holS (t : List Thr) (x : Thr) : List Nat := (List.range t.length).filter fun i => t[i]?.any fun z => sameT z x
theorem inc_eq : ∀ {l m : List Nat}, l.Pairwise (· < ·) → m.Pairwise (· < ·) → (∀ i, i ∈ l ↔ i ∈ m) → l = m
  | [], [], _, _, _ => rfl
  | [], b :: m, _, _, h => by
    have := (h b).2 (List.mem_cons_self ..)
    cases this
  | a :: l, [], _, _, h => by
    have := (h a).1 (List.mem_cons_self ..)
    cases this
  | a :: l, b :: m, h1, h2, h => by
    obtain ⟨p1, p2⟩ := List.pairwise_cons.1 h1
    obtain ⟨q1, q2⟩ := List.pairwise_cons.1 h2
    have e : a = b := by
      have ha := (h a).1 (List.mem_cons_self ..)
      have hb := (h b).2 (List.mem_cons_self ..)
      rcases List.mem_cons.1 ha with e | ha
      · exact e
      · rcases List.mem_cons.1 hb with e | hb
        · exact e.symm
        · have := q1 a ha
          have := p1 b hb
          omega
    subst e
    rw [inc_eq p2 q2 fun i => ?_]
    constructor
    · intro hi
      have hlt := p1 i hi
      rcases List.mem_cons.1 ((h i).1 (List.mem_cons_of_mem _ hi)) with e | hi2
      · omega
      · exact hi2
    · intro hi
      have hlt := q1 i hi
      rcases List.mem_cons.1 ((h i).2 (List.mem_cons_of_mem _ hi)) with e | hi2
      · omega
      · exact hi2
theorem upd_mem {a b : Int} {g : AB → AB} {L : List AB} {y : AB} (h : y ∈ upd a b g L) : y ∈ L ∨ ∃ x, (x ∈ L ∨ x = ⟨a, b, false, []⟩) ∧ y = g x := by
  unfold upd at h
  split at h
  · obtain ⟨x, hx, rfl⟩ := List.mem_map.1 h
    by_cases hk : keyB a b x = true
    · exact .inr ⟨x, .inl hx, by rw [if_pos hk]⟩
    · exact .inl (by rw [if_neg hk]; exact hx)
  · rcases List.mem_append.1 h with h | h
    · exact .inl h
    · exact .inr ⟨_, .inr rfl, List.mem_singleton.1 h⟩
def IncB (k : Nat) (L : List AB) : Prop := ∀ y ∈ L, y.hs.Pairwise (· < ·) ∧ ∀ i ∈ y.hs, i < k
theorem spans_inc {t : List Thr} {L : List AB} (h : IncB 0 L) : ∀ k, IncB k (spansF t L k)
  | 0 => h
  | k + 1 => by
    have ih := spans_inc (t := t) h k
    intro y hy
    rw [spansF] at hy
    split at hy
    · rcases upd_mem hy with hy | ⟨x, hx, rfl⟩
      · exact ⟨(ih y hy).1, fun i hi => Nat.lt_succ_of_lt ((ih y hy).2 i hi)⟩
      · have h9 : x.hs.Pairwise (· < ·) ∧ ∀ i ∈ x.hs, i < k := by
          rcases hx with hx | rfl
          · exact ih x hx
          · exact ⟨List.Pairwise.nil, fun i hi => by cases hi⟩
        refine ⟨List.pairwise_append.2 ⟨h9.1, List.pairwise_singleton _ _, fun i hi j hj => ?_⟩, fun i hi => ?_⟩
        · rw [List.mem_singleton.1 hj]
          exact h9.2 i hi
        · rcases List.mem_append.1 hi with hi | hi
          · exact Nat.lt_succ_of_lt (h9.2 i hi)
          · rw [List.mem_singleton.1 hi]
            exact Nat.lt_succ_self _
    · exact ⟨(ih y hy).1, fun i hi => Nat.lt_succ_of_lt ((ih y hy).2 i hi)⟩
theorem boards_inc (R : List Row) (t : List Thr) : IncB t.length (boardsF R t) := by
  have h0 : IncB 0 (coresF R ((cus R).length - 1)) := fun y hy => by
    rw [(coresF_low R _ y hy).2]
    exact ⟨List.Pairwise.nil, fun i hi => by cases hi⟩
  have h1 := spans_inc (t := t) h0 t.length
  intro y hy
  unfold boardsF at hy
  rcases upd_mem hy with hy | ⟨x, hx, hyx⟩
  · exact h1 y hy
  · have e : y = x := hyx
    rw [e]
    rcases hx with hx | hx
    · exact h1 x hx
    · rw [hx]
      exact ⟨List.Pairwise.nil, fun i hi => by cases hi⟩
theorem hol_mem {t : List Thr} {x : Thr} {i : Nat} : i ∈ holS t x ↔ t[i]? = some x := by
  unfold holS
  rw [List.mem_filter, List.mem_range]
  constructor
  · rintro ⟨h1, h2⟩
    rw [List.getElem?_eq_getElem h1] at h2 ⊢
    have h3 : sameT t[i] x = true := h2
    unfold sameT at h3
    rw [Bool.and_eq_true] at h3
    have e1 := of_decide_eq_true h3.1
    have e2 := of_decide_eq_true h3.2
    congr 1
    generalize t[i] = y at *
    obtain ⟨ya, yb⟩ := y
    obtain ⟨xa, xb⟩ := x
    simp only at e1 e2
    rw [e1, e2]
  · intro h
    refine ⟨(List.getElem?_eq_some_iff.1 h).1, ?_⟩
    rw [h]
    show sameT x x = true
    simp [sameT]
/-- The holes of a sub-board are the spans that it is. -/
theorem holes_eq {R : List Row} {t : List Thr} {n : Int} (ho : OrdL R t) (hb : Bd n t t.length (boardsF R t)) : ∀ y ∈ pressL R t, y.hs = holS t ⟨y.a, y.b⟩ := by
  intro y hy
  have hyb := ho.1.subset hy
  refine inc_eq (boards_inc R t y hyb).1 ((List.pairwise_lt_range).filter _) fun i => ?_
  rw [hol_mem]
  constructor
  · exact fun hi => (hb.hs y hyb i hi).2
  · intro hi
    have hil := (List.getElem?_eq_some_iff.1 hi).1
    have hc := hb.cnt i
    rw [if_pos ⟨hil, hil⟩] at hc
    obtain ⟨z, hz, hz2⟩ := List.mem_flatMap.1 (List.count_pos_iff.1 (by rw [hc]; exact Nat.one_pos) : i ∈ (boardsF R t).flatMap (·.hs))
    have h2 := (hb.hs z hz i hz2).2
    rw [hi] at h2
    have h3 : y.a = z.a ∧ y.b = z.b := by
      have := Option.some.inj h2
      exact ⟨congrArg Thr.a this, congrArg Thr.b this⟩
    have h4 : y = z := by
      obtain ⟨p, hp, ep⟩ := List.getElem_of_mem hyb
      obtain ⟨q, hq, eq⟩ := List.getElem_of_mem hz
      have hg := List.pairwise_iff_getElem.1 hb.d
      rcases Nat.lt_trichotomy p q with hpq | hpq | hpq
      · have := hg p q hp hq hpq
        rw [ep, eq] at this
        exact absurd h3 this
      · subst hpq
        exact ep.symm.trans eq
      · have := hg q p hq hp hpq
        rw [ep, eq] at this
        exact absurd ⟨h3.1.symm, h3.2.symm⟩ this
    rw [h4]
    exact hz2
end Go.Proofs.Ytlfkackfnbbajaa
/- How often coppers are pressed (Cycles), whatever the world. -/
namespace Go.Proofs.Ytlfkackfnbbajaa
open Go.RowKit Go.Maps
set_option linter.unusedSimpArgs false
set_option linter.unusedVariables false
set_option maxRecDepth 100000

def onC (y : AB) (i : Nat) : Bool := !y.core && decide (y.a ≤ (i : Int) + 1) && decide ((i : Int) + 1 ≤ y.b)
def cycN (L : List AB) (i : Nat) : Int := (L.countP fun y => onC y i : Nat)
def cycT (n : Nat) (L : List AB) : List Int := (List.range n).map fun i => cycN L i
/-- .. with some coppers of one more. -/
def cycM (n : Nat) (L : List AB) (y : AB) (c : Int) : List Int := (List.range n).map fun i => cycN L i + if y.a ≤ (i : Int) + 1 ∧ (i : Int) + 1 < c then 1 else 0
theorem cycM_start (n : Nat) (L : List AB) (y : AB) : cycM n L y y.a = cycT n L := by
  unfold cycM cycT
  refine List.map_congr_left fun i _ => ?_
  rw [if_neg (by omega)]
  omega
theorem cycM_len (n : Nat) (L : List AB) (y : AB) (c : Int) : (cycM n L y c).length = n := by simp [cycM]
theorem cycM_get {n : Nat} {L : List AB} {y : AB} {c : Int} (h1 : 1 ≤ c) (h2 : c ≤ n) : (cycM n L y c)[(c - 1).toNat]? = some (cycN L (c - 1).toNat) := by
  unfold cycM
  rw [List.getElem?_map, List.getElem?_range (by omega)]
  simp only [Option.map_some]
  rw [if_neg (by omega)]
  congr 1
  try omega
theorem cycM_step {n : Nat} {L : List AB} {y : AB} {c : Int} (h1 : 1 ≤ c) (h2 : c ≤ n) (ha : y.a ≤ c) : (cycM n L y c).set (c - 1).toNat (cycN L (c - 1).toNat + 1) = cycM n L y (c + 1) := by
  apply List.ext_getElem?
  intro i
  rw [List.getElem?_set]
  by_cases hi : (c - 1).toNat = i
  · subst hi
    rw [if_pos rfl, if_pos (by rw [cycM_len]; omega)]
    unfold cycM
    rw [List.getElem?_map, List.getElem?_range (by omega)]
    simp only [Option.map_some]
    rw [if_pos (by omega)]
  · rw [if_neg hi]
    unfold cycM
    by_cases hn : i < n
    · rw [List.getElem?_map, List.getElem?_map, List.getElem?_range hn]
      simp only [Option.map_some]
      congr 2
      by_cases hc : y.a ≤ (i : Int) + 1 ∧ (i : Int) + 1 < c
      · rw [if_pos hc, if_pos (by omega)]
      · rw [if_neg hc, if_neg (by omega)]
    · rw [List.getElem?_eq_none (by simp; omega), List.getElem?_eq_none (by simp; omega)]
theorem cycM_end {n : Nat} {L : List AB} {y : AB} (hc : y.core = false) : cycM n L y (y.b + 1) = cycT n (L ++ [y]) := by
  unfold cycM cycT cycN
  refine List.map_congr_left fun i _ => ?_
  rw [List.countP_append, List.countP_singleton]
  have : onC y i = (decide (y.a ≤ (i : Int) + 1) && decide ((i : Int) + 1 ≤ y.b)) := by unfold onC; rw [hc]; rfl
  rw [this]
  by_cases h : y.a ≤ (i : Int) + 1 ∧ (i : Int) + 1 < y.b + 1
  · rw [if_pos h, if_pos (by simp; omega)]
    omega
  · rw [if_neg h, if_neg (by simp; omega)]
    omega
theorem cycT_core {n : Nat} {L : List AB} {y : AB} (hc : y.core = true) : cycT n (L ++ [y]) = cycT n L := by
  unfold cycT cycN
  refine List.map_congr_left fun i _ => ?_
  rw [List.countP_append, List.countP_singleton]
  have : onC y i = false := by unfold onC; rw [hc]; rfl
  rw [this]
  rfl
theorem cycN_few (L : List AB) (i : Nat) : 0 ≤ cycN L i ∧ cycN L i ≤ L.length := by
  unfold cycN
  have := List.countP_le_length (p := fun y => onC y i) (l := L)
  omega
theorem cycT_nil (n : Nat) : cycT n [] = List.replicate n 0 := by
  unfold cycT
  rw [show (fun i => cycN [] i) = fun _ => (0 : Int) from rfl, List.map_const', List.length_range]
theorem made_ints (n : Nat) : (madeCells (Value.int .i64 0).cells (n * 1)).toList = (List.replicate n (0 : Int)).map (Value.int .i64) := by
  rw [List.map_replicate, Nat.mul_one]
  simp [madeCells, Value.cells]
  rw [show (fun x : Nat => [Value.int IntKind.i64 0][x % 1]?.getD default) = fun _ => Value.int .i64 0 from by funext x; simp [Nat.mod_one], List.map_const', List.length_range]
theorem ord_bd {R : List Row} {l : List Thr} (ho : OrdL R l) {n : Int} {k : Nat} (hb : Bd n l k (boardsF R l)) : ∀ y ∈ pressL R l, 1 ≤ y.a ∧ y.a < y.b ∧ y.b ≤ n := fun y hy => hb.r y (ho.1.subset hy)
section
variable {A : Option Addr} {l : List Mat} {c : Nat} {A2 : Option Addr} {s : List Lay} {c2 : Nat} {w : World}
theorem pressed_zero {t : List Thr} (h0 : pressedF l s t = 0) : stackF l s = 0 ∧ thrF (cus (rowsOf l s)).length t = 0 ∧ madeF ((pressL (rowsOf l s) t).map AB.bq) = 0 := by
  unfold pressedF at h0
  split at h0
  · rename_i e1
    split at h0
    · rename_i e2
      exact ⟨e1, e2, h0⟩
    · rename_i e2
      exact absurd h0 e2
  · rename_i e1
    exact absurd h0 e1
theorem pressed_bd {t : List Thr} (h0 : pressedF l s t = 0) : Bd (cus (rowsOf l s)).length t t.length (boardsF (rowsOf l s) t) := by
  obtain ⟨h1, h2, -⟩ := pressed_zero h0
  exact boards_bd (form_two (stackF_form h1)) (thrF_zero h2).2
set_option maxHeartbeats 1000000 in
theorem cycles_no (h : StkIn A l A2 s w) (A3 : Option Addr) (t : List Thr) (c3 : Nat) (hl : t.length ≤ 140737488355328) (hd : RdG 2 Thr.cs w A3 t) (h0 : pressedF l s t ≠ 0) :
    Calls Try.prog 43 #[.slice A l.length c, .slice A2 s.length c2, .slice A3 t.length c3] w fun e w' => e = .returned (.tuple #[.slice none 0 0, .int .i64 (pressedF l s t)]) ∧ Below w.heap.size w w' := by
  have CP := Lib.hid (pressed_no (c := c) (c2 := c2) h A3 t c3 hl hd h0)
  generalize pressedF l s t = F at *
  have hd1 : (F == 0) = false := by simpa using h0
  have hd2 : (F != 0) = true := by simpa using h0
  clear h hd h0
  go_enter Try.func43, Try.ntmps43
  go_wp2_with fail
  refine CP.out.mono ?_
  rintro e w1 ⟨rfl, hb⟩
  have B1 := Lib.hid hb
  clear hb
  go_wp2_with fail
  go_ret2
  exact ⟨rfl, B1.out⟩
/-- What Cycles returns when all is right. -/
def CycRet (R : List Row) (l : List Thr) (w : World) (e : Ending) (w' : World) : Prop :=
  ∃ g : Nat, e = .returned (.tuple #[.slice (some ⟨g, 0, none⟩) (cus R).length (cus R).length, .int .i64 0]) ∧ w'.ownsRow w.heap.size 3 1 (.slice (some ⟨g, 0, none⟩) (cus R).length (cus R).length) (cus R).length ((cycT (cus R).length (pressL R l)).map (Value.int .i64)) ∧ Below w.heap.size w w'
set_option maxHeartbeats 4000000 in
theorem cycles_yes (h : StkIn A l A2 s w) (A3 : Option Addr) (t : List Thr) (c3 : Nat) (hl : t.length ≤ 140737488355328) (hd : RdG 2 Thr.cs w A3 t) (h0 : pressedF l s t = 0) :
    Calls Try.prog 43 #[.slice A l.length c, .slice A2 s.length c2, .slice A3 t.length c3] w (CycRet (rowsOf l s) t w) := by
  have HBD := Lib.hid (pressed_bd h0)
  have ht := (thrF_zero (pressed_zero h0).2.1).1
  have CP := Lib.hid (pressed_yes (c := c) (c2 := c2) h A3 t c3 hl hd h0)
  obtain ⟨i0, hi0, hz0, hz1, hz2⟩ := info_parts infoInt
  clear h hd h0
  generalize rowsOf l s = R at *
  go_enter Try.func43, Try.ntmps43
  go_wp2_with fail
  refine CP.out.mono ?_
  rintro e w1 ⟨p, q, kn, mv, tv, cv, nv, f, v, S, rfl, hL, hab, hord, hat, hb⟩
  have HIN := Lib.hid (ord_bd hord HBD.out)
  have HAB := Lib.hid hab
  have HB1 := Lib.hid hb
  have z1 := hb.size
  obtain ⟨Ac, cc, hvc, u1, u2, u3⟩ := own_cells hL.g.c
  have a2 : w1.cell? ⟨p, 2, none⟩ = some cv := by rw [blk_cell hL.g.b]; rfl
  have hn : (cus R).length ≤ 1000 := Nat.le_trans (cus_few _ 0) hL.l
  obtain ⟨Ap, cp, hvp, p1, p2, p3⟩ := own_rd4 hat.o
  have HP3 := Lib.hid p3
  have HVS := Lib.hid (fun r hr => own_cells (hat.h r hr))
  have hSl : S.length ≤ 2000 := by
    have h1 := hord.1.length_eq
    have h3 := boards_length R t
    have h4 := congrArg List.length hab
    rw [List.length_map] at h4
    omega
  have p2' : cp ≤ 9223372036854775807 := p2
  subst hvc hvp
  clear hL hab hord hat hb u3 p3 p2
  generalize hnn : (cus R).length = n at *
  have HNN := Lib.hid hnn
  clear hnn
  go_wp2_with (first | (at_make; refine wpList_make_full _ rfl (.tmp 30) (.tmp 30) 43 rfl w1.heap.size 3 i0 (.int .i64 0) 1 Try.underlying43 hi0 hz0 hz1 .i64 .i64 (n : Int) (n : Int) n rfl rfl rfl rfl ?m1 ?m2 ?m3 ?_; (case m1 => rw [hz2]; omega); (case m2 => simp only [maxLen]; omega); (case m3 => omega); intro w2 hown hg; have HO := Lib.hid hown; have HG := Lib.hid hg; clear hown hg))
  have lt0 := (HO.out.lt w1.heap.size rfl).2
  have BW := (Below.refl w1.heap.size w1).grown HG.out (Nat.le_refl _) (fun j hj => by cases hj)
  have H0 := Lib.hid (show w2.ownsRow w1.heap.size 3 1 (.slice (some ⟨w1.heap.size, 0, none⟩) n n) n ((cycT n ((S.map Brd.ab).take 0)).map (Value.int .i64)) by
    rw [List.take_zero, cycT_nil, ← made_ints]
    exact HO.out)
  clear HO
  go_loopw [34] (fun i wr => ∃ k : Nat, k ≤ S.length ∧ i = .int .i64 k ∧ wr.ownsRow w1.heap.size 3 1 (.slice (some ⟨w1.heap.size, 0, none⟩) n n) n ((cycT n ((S.map Brd.ab).take k)).map (Value.int .i64)) ∧ Below w1.heap.size w1 wr) (fun i _ => S.length - (intOf i).toNat)
  case atStart => exact ⟨0, Nat.zero_le _, rfl, H0.out, BW⟩
  case round =>
    obtain ⟨k, hk, rfl, ho, hw⟩ := hrel
    have HO := Lib.hid ho
    have HW := Lib.hid hw
    have zw := hw.size
    have lg := (ho.lt w1.heap.size rfl).2
    have hkz : (0 : Int) ≤ (k : Int) := by omega
    clear ho
    by_cases hlt : k < S.length
    · obtain ⟨b, off, rfl, hblt, hcs⟩ := (HP3.out.below hw) (by rw [List.length_map]; omega)
      have hi : (S.map Brd.bq)[k]? = some (S[k].bq) := by rw [List.getElem?_map, List.getElem?_eq_getElem hlt]; rfl
      have c0 := by simpa using hcs k _ hi 0 _ rfl
      have c1 := hcs k _ hi 1 _ rfl
      have c2' := hcs k _ hi 2 _ rfl
      have c3' := hcs k _ hi 3 _ rfl
      obtain ⟨A9, c9, h9, -⟩ := HVS.out _ (List.getElem_mem hlt)
      have hy : (S.map Brd.ab)[k]? = some S[k].ab := by rw [List.getElem?_map, List.getElem?_eq_getElem hlt]; rfl
      have hin := HIN.out S[k].ab (by rw [← HAB.out]; exact List.mem_map.2 ⟨_, List.getElem_mem hlt, rfl⟩)
      have ht2 : (S.map Brd.ab).take (k + 1) = (S.map Brd.ab).take k ++ [S[k].ab] := by rw [List.take_add_one, hy]; rfl
      have HT := Lib.hid ht2
      clear hi hcs hy ht2 hw
      generalize S[k] = r at *
      obtain ⟨rb, ya, yb, yc, yh, ys⟩ := r
      have e1 : (Brd.mk rb ya yb yc yh ys).ab = ⟨ya, yb, yc, ys⟩ := rfl
      rw [e1] at HT hin
      simp only [Brd.bq] at c0 c1 c2' c3'
      simp only at h9
      rw [h9] at c3'
      simp only at hin
      clear e1 h9
      cases yc with
      | true =>
        have HN := Lib.hid (show cycT n ((S.map Brd.ab).take (k + 1)) = cycT n ((S.map Brd.ab).take k) by rw [HT.out, cycT_core rfl])
        go_wp2_with fail
        go_roundw
        case rel => exact ⟨k + 1, by omega, by go_num, by rw [HN.out]; exact HO.out.alloc _, HW.out.alloc zw _⟩
        case measure => simp [intOf]; omega
      | false =>
        go_wp2_with fail
        obtain ⟨w8, rfl⟩ : ∃ w8, w8 = wr := ⟨wr, rfl⟩
        obtain ⟨y, hyy⟩ : ∃ y : AB, y = ⟨ya, yb, false, ys⟩ := ⟨_, rfl⟩
        have hya : y.a = ya := by rw [hyy]
        have hyb : y.b = yb := by rw [hyy]
        have hyc : y.core = false := by rw [hyy]
        rw [← hyy] at HT
        have HQ := Lib.hid (show cycM n ((S.map Brd.ab).take k) y ya = cycT n ((S.map Brd.ab).take k) by rw [← hya]; exact cycM_start _ _ _)
        go_loopw [14] (fun cv wx => ∃ x : Int, cv = .int .i64 x ∧ ya ≤ x ∧ x ≤ yb + 1 ∧ wx.ownsRow w1.heap.size 3 1 (.slice (some ⟨w1.heap.size, 0, none⟩) n n) n ((cycM n ((S.map Brd.ab).take k) y x).map (Value.int .i64)) ∧ wx.cell? ⟨w8.heap.size, 1, none⟩ = some (.int .i64 yb) ∧ w8.heap.size < wx.heap.size ∧ Below w1.heap.size w1 wx) (fun cv _ => (yb + 1 - intOf cv).toNat)
        case atStart => exact ⟨ya, rfl, Int.le_refl _, by omega, by rw [HQ.out]; exact HO.out.alloc _, alloc_new_cell w8 _ _ 1 rfl, by simp, HW.out.alloc zw _⟩
        case round =>
          obtain ⟨x, rfl, hx1, hx2, ho, hc, hl8, hw⟩ := hrel
          have HOX := Lib.hid ho
          have HWX := Lib.hid hw
          by_cases hxb : x ≤ yb
          · obtain ⟨j, rfl⟩ : ∃ j : Nat, x = (j : Int) + 1 := ⟨(x - 1).toNat, by omega⟩
            have ej : ((j : Int) + 1 - 1).toNat = j := by omega
            have hg := own_cellC (j := j) (v := .int .i64 (cycN ((S.map Brd.ab).take k) j)) ho (by
              rw [List.getElem?_map]
              have := cycM_get (n := n) (L := (S.map Brd.ab).take k) (y := y) (c := (j : Int) + 1) (by omega) (by omega)
              rw [ej] at this
              rw [this]
              rfl)
            have hst := own_setC (j := j) ho (.int .i64 (cycN ((S.map Brd.ab).take k) j + 1))
            have hms := cycM_step (n := n) (L := (S.map Brd.ab).take k) (y := y) (c := (j : Int) + 1) (by omega) (by omega) (by omega)
            rw [ej] at hms
            rw [← List.map_set, hms] at hst
            have HST := Lib.hid hst
            obtain ⟨hg1, hg2⟩ := hg
            have hfew := cycN_few ((S.map Brd.ab).take k) j
            rw [List.length_take] at hfew
            clear ho hw hst hms ej
            generalize cycN ((S.map Brd.ab).take k) j = v at *
            have y1 : IntKind.i64.wrap (j : Int) = j := IntWalk.i64_in _ (by omega)
            have y2 : IntKind.i64.wrap (v + 1) = v + 1 := IntWalk.i64_in _ (by omega)
            have y3 : IntKind.i64.wrap ((j : Int) + 1 + 1) = (j : Int) + 1 + 1 := IntWalk.i64_in _ (by omega)
            have y4 : (0 : Int) ≤ (j : Int) := by omega
            have y5 : (j : Int) < (n : Int) := by omega
            have y6 : (j : Int) + 1 - 1 = j := by omega
            go_wp2_with fail
            go_roundw
            case rel =>
              refine ⟨(j : Int) + 1 + 1, rfl, by omega, by omega, HST.out, ?_, by simp; exact hl8, ?_⟩
              · rw [World.cell?_setCell_far _ _ _ _ (show w1.heap.size ≠ w8.heap.size by omega)]
                exact hc
              · exact HWX.out.trans (below_gb (gb_set (p := ⟨w1.heap.size, j, none⟩) (gb_refl _ (some w1.heap.size)) (.inl rfl) _) HWX.out.size (fun g e => by cases e; exact Nat.le_refl _))
            case measure => simp [intOf]; omega
          · obtain rfl : x = yb + 1 := by omega
            have HN := Lib.hid (show cycT n ((S.map Brd.ab).take (k + 1)) = cycM n ((S.map Brd.ab).take k) y (yb + 1) by rw [HT.out, ← hyb, cycM_end hyc])
            go_wp2_with fail
            go_roundw
            case rel => exact ⟨k + 1, by omega, by go_num, by rw [HN.out]; exact HOX.out, HWX.out⟩
            case measure => simp [intOf]; omega
    · obtain rfl : k = S.length := by omega
      have he : (S.map Brd.ab).take S.length = pressL R t := by
        rw [← HAB.out]
        exact List.take_of_length_le (by simp)
      have HE := Lib.hid he
      clear he
      go_wp2_with fail
      go_ret2
      refine ⟨w1.heap.size, by rw [HNN.out]; rfl, ?_, HB1.out.trans (HW.out.mono z1)⟩
      rw [HNN.out, ← HE.out]
      exact own_lower HO.out z1
end
end Go.Proofs.Ytlfkackfnbbajaa
/- How a stack is pressed (Presses of the reference), whatever the world. -/
namespace Go.Proofs.Ytlfkackfnbbajaa
open Go.RowKit Go.Maps
set_option linter.unusedSimpArgs false
set_option linter.unusedVariables false
set_option maxRecDepth 100000

theorem blk_new (W : World) (o : Obj) : (W.alloc o).heap[W.heap.size]? = some o := (MapKept.heap_alloc W o).1
theorem blk_old {W : World} {p : Nat} {o' : Obj} (h : W.heap[p]? = some o') (o : Obj) : (W.alloc o).heap[p]? = some o' :=
  (((Below.refl W.heap.size W).alloc (Nat.le_refl _) o).block p (blk_lt h)).trans h
theorem one_at (W : World) (x : Value) (t : TypeId) {g : Nat} (hg : g = W.heap.size) : ∀ j v, [x][j]? = some v → (W.alloc (.cells #[x] t)).cell? ((⟨g, 0, none⟩ : Addr).add j) = some v := by
  subst hg
  exact one_new W x t
/-- A sub-board of the reference with its holes. -/
def pbS (t : List Thr) (y : Sb) : AB := ⟨y.t.a, y.t.b, y.c, holS t y.t⟩
def holTo (t : List Thr) (x : Thr) (j : Nat) : List Nat := (List.range j).filter fun i => t[i]?.any fun z => sameT z x
theorem holTo_step {t : List Thr} {x y : Thr} {j : Nat} (h : t[j]? = some y) : holTo t x (j + 1) = holTo t x j ++ if sameT y x then [j] else [] := by
  unfold holTo
  rw [List.range_succ, List.filter_append]
  congr 1
  rw [List.filter_cons, List.filter_nil, h]
  rfl
theorem holTo_len (t : List Thr) (x : Thr) (j : Nat) : (holTo t x j).length ≤ j := by
  have := List.length_filter_le (fun i => t[i]?.any fun z => sameT z x) (List.range j)
  rw [List.length_range] at this
  exact this
/-- What the reference's Presses are. -/
theorem presses_same {R : List Row} {t : List Thr} {n : Int} (he : (subsF R t).map Sb.ab = (pressL R t).map AB.er) (ho : OrdL R t) (hb : Bd n t t.length (boardsF R t)) : (subsF R t).map (pbS t) = pressL R t := by
  have e1 : (subsF R t).map (pbS t) = ((subsF R t).map Sb.ab).map (fun y : AB => (⟨y.a, y.b, y.core, holS t ⟨y.a, y.b⟩⟩ : AB)) := by
    rw [List.map_map]
    rfl
  rw [e1, he, List.map_map]
  have e2 : ∀ y ∈ pressL R t, ((fun y : AB => (⟨y.a, y.b, y.core, holS t ⟨y.a, y.b⟩⟩ : AB)) ∘ AB.er) y = y := fun y hy => by
    have := holes_eq ho hb y hy
    show (⟨y.a, y.b, y.core, holS t ⟨y.a, y.b⟩⟩ : AB) = y
    rw [← this]
  rw [List.map_congr_left e2]
  exact List.map_id' _
section
variable {A : Option Addr} {l : List Mat} {c : Nat} {A2 : Option Addr} {s : List Lay} {c2 : Nat} {w : World}
set_option maxHeartbeats 1000000 in
theorem rPresses_no (h : StkIn A l A2 s w) (hc2 : s.length ≤ c2) (hc3 : c2 ≤ 140737488355328) (A3 : Option Addr) (t : List Thr) (c3 : Nat) (hl : t.length ≤ 140737488355328) (hd : RdG 2 Thr.cs w A3 t) (h0 : pressedF l s t ≠ 0) :
    Calls Try.prog 39 #[.slice A l.length c, .slice A2 s.length c2, .slice A3 t.length c3] w fun e w' => e = .returned (.tuple #[.slice none 0 0, .int .i64 (pressedF l s t)]) ∧ Below w.heap.size w w' := by
  have CP := Lib.hid (rSpans_any (c := c) h hc2 hc3 A3 t c3 hl hd)
  generalize pressedF l s t = F at *
  have hd1 : (F == 0) = false := by simpa using h0
  have hd2 : (F != 0) = true := by simpa using h0
  clear h hd h0
  go_enter Try.func39, Try.ntmps39
  go_wp2_with fail
  refine CP.out.mono ?_
  rintro e w1 ⟨rfl, hb⟩
  have B1 := Lib.hid hb
  clear hb
  go_wp2_with fail
  go_ret2
  exact ⟨rfl, B1.out⟩
set_option maxHeartbeats 4000000 in
theorem rPresses_yes (h : StkIn A l A2 s w) (hc2 : s.length ≤ c2) (hc3 : c2 ≤ 140737488355328) (A3 : Option Addr) (t : List Thr) (c3 : Nat) (hl : t.length ≤ 140737488355328) (hd : RdG 2 Thr.cs w A3 t) (h0 : pressedF l s t = 0) :
    Calls Try.prog 39 #[.slice A l.length c, .slice A2 s.length c2, .slice A3 t.length c3] w fun e w' => ∃ (v : Value) (S : List Brd), e = .returned (.tuple #[v, .int .i64 0]) ∧ S.map Brd.ab = (subsF (rowsOf l s) t).map (pbS t) ∧ PrsAt w.heap.size v S w' ∧ Below w.heap.size w w' := by
  obtain ⟨hs0, ht0, -⟩ := pressed_zero h0
  obtain ⟨ht1, ht2⟩ := thrF_zero ht0
  have hre := rows_eq hs0
  have hsl := (stackF_go hs0).2.1
  have hcl0 := cus_few (s.map (rowOf l)) 0
  have hcn : (cus (rowsOf l s)).length ≤ 1000 := by
    rw [hre]
    unfold cus
    rw [List.length_map] at hcl0
    omega
  have CP0 := rSpans_any (c := c) h hc2 hc3 A3 t c3 hl hd
  rw [h0] at CP0
  have CP := Lib.hid CP0
  have CSB := Lib.hid (fun W (hb : Below w.heap.size w W) => subs_any (c := c) (c2 := c2) (w := W) (h.below hb) hs0 A3 t c3 ht1 (fun x hx => by have := ht2 x hx; unfold okT; omega) (hd.below hb))
  have HD := Lib.hid hd
  have hLl := subs_len (rowsOf l s) t
  obtain ⟨i0, hi, hz0, hz1, hz2⟩ := info_parts infoPress
  obtain ⟨i1, hi1, hy0, hy1, hy2⟩ := info_parts infoInt
  clear h hd h0 hs0 ht0 ht2 hre hsl hcl0 CP0
  generalize rowsOf l s = R at *
  go_enter Try.func39, Try.ntmps39
  go_wp2_with fail
  refine CP.out.mono ?_
  rintro e w1 ⟨rfl, hb⟩
  have B1 := Lib.hid hb
  have z1 := hb.size
  clear hb
  go_wp2_with fail
  refine (CSB.out _ B1.out).mono ?_
  rintro e w2 ⟨v, rfl, ho, hb⟩
  obtain ⟨Av, cv, rfl, u1, u2, u3⟩ := own_rdG (l := subsF R t) (cs := Sb.cs) (fun _ => rfl) ho
  have B2 := Lib.hid (B1.out.trans (hb.mono z1))
  have HL := Lib.hid u3
  have u2' : cv ≤ 9223372036854775807 := u2
  clear ho hb u3 u2 CSB
  generalize hLL : subsF R t = L at *
  have HLL := Lib.hid hLL
  clear hLL
  have hL2 : L.length ≤ 2000 := by omega
  have z2 := B2.out.size
  go_wp2_with fail
  go_loopw [9, 27] (fun ov iv wr => ∃ (k : Nat) (S : List Brd), k ≤ L.length ∧ iv = .int .i64 k ∧ S.map Brd.ab = (L.take k).map (pbS t) ∧ PrsAt w2.heap.size ov S wr ∧ Below w2.heap.size w2 wr) (fun _ iv _ => L.length - (intOf iv).toNat)
  case atStart => exact ⟨0, [], Nat.zero_le _, rfl, rfl, ⟨own_nil, fun r hr => by cases hr⟩, Below.refl _ _⟩
  case round =>
    obtain ⟨k, S, hk, rfl, hS, hP, hw⟩ := hrel
    have HS := Lib.hid hS
    have HP := Lib.hid hP
    have HW := Lib.hid hw
    have zw := hw.size
    have hkz : (0 : Int) ≤ (k : Int) := by omega
    have hSl : S.length = k := by
      have := congrArg List.length hS
      rw [List.length_map, List.length_map, List.length_take] at this
      omega
    obtain ⟨Ao, co, rfl, v1, v2, -⟩ := own_cells hP.o
    have v2' : co ≤ 9223372036854775807 := v2
    have hS2 : S.length ≤ 2000 := by omega
    clear hS hP v2 hSl
    by_cases hlt : k < L.length
    · obtain ⟨b, off, rfl, hblt, hcs⟩ := (HL.out.below hw) (by omega)
      have hi2 : L[k]? = some L[k] := List.getElem?_eq_getElem hlt
      have c0 := by simpa using hcs k _ hi2 0 _ rfl
      have c1 := hcs k _ hi2 1 _ rfl
      have c2' := hcs k _ hi2 2 _ rfl
      have htk : (L.take (k + 1)).map (pbS t) = (L.take k).map (pbS t) ++ [pbS t L[k]] := by rw [List.take_add_one, hi2, List.map_append]; rfl
      have HTK := Lib.hid htk
      clear hcs hi2 htk hw
      generalize L[k] = x at *
      obtain ⟨⟨xa, xb⟩, xc⟩ := x
      simp only at c0 c1 c2'
      have ep : pbS t ⟨⟨xa, xb⟩, xc⟩ = ⟨xa, xb, xc, holTo t ⟨xa, xb⟩ t.length⟩ := rfl
      rw [ep] at HTK
      clear ep
      go_wp2_with fail
      obtain ⟨w8, rfl⟩ : ∃ w8, w8 = wr := ⟨wr, rfl⟩
      go_loopw [42] (fun iv wx => ∃ (j : Nat) (hv : Value), j ≤ t.length ∧ iv = .int .i64 j ∧ wx.heap[w8.heap.size]? = some (.cells #[.int .i64 xa, .int .i64 xb, .bool xc] 108 (0, 0)) ∧ wx.heap[w8.heap.size + 1]? = some (.cells #[.int .i64 xa, .int .i64 xb, .bool xc, hv] 62 (0, 0)) ∧
        wx.ownsRow (w8.heap.size + 2) 3 1 hv (holTo t ⟨xa, xb⟩ j).length ((holTo t ⟨xa, xb⟩ j).map fun k => Value.int .i64 (k : Nat)) ∧ Below w8.heap.size w8 wx) (fun iv _ => t.length - (intOf iv).toNat)
      case atStart =>
        refine ⟨0, .slice none 0 0, Nat.zero_le _, rfl, blk_old (blk_new _ _) _, ?_, own_nil, ((Below.refl _ _).alloc (Nat.le_refl _) _).alloc (by simp) _⟩
        have := blk_new (w8.alloc (.cells #[.int .i64 xa, .int .i64 xb, .bool xc] 108)) (.cells #[.int .i64 xa, .int .i64 xb, .bool xc, .slice none 0 0] 62)
        simpa using this
      case round =>
        obtain ⟨j, hv, hj, rfl, hx0, hx1, ho, hw⟩ := hrel
        have HX0 := Lib.hid hx0
        have HX1 := Lib.hid hx1
        have HO := Lib.hid ho
        have HWX := Lib.hid hw
        have zx := hw.size
        have l1 := blk_lt hx1
        have hjz : (0 : Int) ≤ (j : Int) := by omega
        obtain ⟨Ah, ch, rfl, h1, h2, -⟩ := own_cells ho
        have h2' : ch ≤ 9223372036854775807 := h2
        have hhl := holTo_len t ⟨xa, xb⟩ j
        have g0 := blk_cell hx0 0
        have g1 := blk_cell hx0 1
        have s0 := blk_cell hx1 0
        have s1 := blk_cell hx1 1
        have s2 := blk_cell hx1 2
        have s3 := blk_cell hx1 3
        simp only [List.getElem?_toArray, List.getElem?_cons_zero, List.getElem?_cons_succ] at g0 g1 s0 s1 s2 s3
        have f3 := blk_free hx1 3
        clear hx0 hx1 ho h2
        by_cases hjl : j < t.length
        · obtain ⟨b3, o3, rfl, hb3, hc3'⟩ := (HD.out.below (B2.out.trans (HW.out.trans (HWX.out.mono zw) |>.mono z2))) (by omega)
          have hi3 : t[j]? = some t[j] := List.getElem?_eq_getElem hjl
          have d0 := by simpa using hc3' j _ hi3 0 _ rfl
          have d1 := hc3' j _ hi3 1 _ rfl
          have HST := Lib.hid (holTo_step (x := ⟨xa, xb⟩) hi3)
          clear hi3 hc3' hw
          generalize t[j] = q at *
          obtain ⟨qa, qb⟩ := q
          simp only at d0 d1
          have HSM := Lib.hid (show sameT ⟨qa, qb⟩ ⟨xa, xb⟩ = (decide (qa = xa) && decide (qb = xb)) from rfl)
          generalize holTo t ⟨xa, xb⟩ j = H at *
          have n1 : ¬ w8.heap.size = wr.heap.size := by omega
          have n2 : ¬ w8.heap.size + 1 = wr.heap.size := by omega
          have n3 : ¬ wr.heap.size = w8.heap.size := by omega
          have n4 : ¬ wr.heap.size = w8.heap.size + 1 := by omega
          have n5 : w8.heap.size < wr.heap.size := by omega
          by_cases ha : qa = xa
          · subst ha
            by_cases hb : qb = xb
            · subst hb
              have HN := Lib.hid (show holTo t ⟨qa, qb⟩ (j + 1) = H ++ [j] by rw [HST.out, HSM.out]; simp)
              clear HST HSM
              go_wp2_with (first
                | (at_builtin; go_loud (refine wpList_append_lies _ rfl (.tmp 52) (.tmp 54) 43 rfl (w8.heap.size + 2) 3 i1 (.int .i64 0) 1 8 Try.underlying43 hi1 hy0 hy1 hy2 rfl (by omega) (.slice Ah H.length ch) H.length (H.map fun k => Value.int .i64 (k : Nat)) rfl ((HO.out.alloc _).alloc _) ⟨wr.heap.size + 1, 0, none⟩ 1 1 [.int .i64 (j : Nat)] rfl rfl (one_at _ _ _ (by simp)) (by simp [Value.oneCell']) (by omega) (by unfold maxLen; omega) (by omega) (by simp; omega) (wr.heap.size + 2) (by simp) ?_); intro gg cap w5 hown5 hgrow hat5 hlt5; have HG := Lib.hid (gb_trans (gb_trans (World.grownBy_alloc wr _ (Value.slice Ah H.length ch).ownBlock) (World.grownBy_alloc _ _ (Value.slice Ah H.length ch).ownBlock)) hgrow); have HN0 := Lib.hid (show ∀ g, (Value.slice Ah H.length ch).ownBlock = some g → w8.heap.size + 2 ≤ g from fun g e => (HO.out.lt g e).1); have HB0 := Lib.hid ((HG.out.block (w8.heap.size) (by omega) (fun e => by have := HN0.out _ e.symm; omega)).trans HX0.out); have HB1 := Lib.hid ((HG.out.block (w8.heap.size + 1) l1 (fun e => by have := HN0.out _ e.symm; omega)).trans HX1.out); have k5 := blk_cell HB1.out 3; have f5 := blk_free HB1.out 3; have l5 := blk_lt HB1.out; have HO5 := Lib.hid hown5; clear hown5 hgrow hat5))
              go_roundw
              case rel =>
                have hg1 : Below w8.heap.size w8 w5 := HWX.out.grown HG.out zx (fun g e => by have := HN0.out g e; omega)
                have hgs := fun v => gb_set (p := ⟨w8.heap.size + 1, 3, none⟩) (gb_refl w5 (some (w8.heap.size + 1))) (.inl rfl) v
                refine ⟨j + 1, .slice (some ⟨gg, 0, none⟩) (H.length + 1) cap, by omega, by go_num, ?_, ?_, ?_, hg1.trans (below_gb (hgs _) hg1.size (fun g e => by cases e; exact Nat.le_succ _))⟩
                · exact ((hgs _).block w8.heap.size (by omega) (fun e => by have := Option.some.inj e; omega)).trans HB0.out
                · exact blk_set HB1.out 3 _
                · rw [HN.out, List.length_append, List.map_append]
                  exact own_grown HO5.out (hgs _) (fun g e e' => by have := (HO5.out.lt g e).1; have := Option.some.inj e'; omega)
              case measure => (simp [intOf] <;> omega)
            · have hb' : (qb == xb) = false := by simpa using hb
              have HN := Lib.hid (show holTo t ⟨qa, xb⟩ (j + 1) = H by rw [HST.out, HSM.out, decide_eq_false hb]; simp)
              clear HST HSM
              go_wp2_with fail
              go_roundw
              case rel => exact ⟨j + 1, _, by omega, by go_num, blk_old HX0.out _, blk_old HX1.out _, by rw [HN.out]; exact HO.out.alloc _, HWX.out.alloc zx _⟩
              case measure => (simp [intOf] <;> omega)
          · have ha' : (qa == xa) = false := by simpa using ha
            have HN := Lib.hid (show holTo t ⟨xa, xb⟩ (j + 1) = H by rw [HST.out, HSM.out, decide_eq_false ha]; simp)
            clear HST HSM
            go_wp2_with fail
            go_roundw
            case rel => exact ⟨j + 1, _, by omega, by go_num, blk_old HX0.out _, blk_old HX1.out _, by rw [HN.out]; exact HO.out.alloc _, HWX.out.alloc zx _⟩
            case measure => (simp [intOf] <;> omega)
        · obtain rfl : j = t.length := by omega
          generalize holTo t ⟨xa, xb⟩ t.length = H at *
          have HP1 := Lib.hid ((HP.out.old HWX.out).old ((Below.refl wr.heap.size wr).alloc (Nat.le_refl _) (.cells #[.int .i64 xa, .int .i64 xb, .bool xc, .slice Ah H.length ch] 62)))
          have HO1 := Lib.hid (HO.out.alloc (.cells #[.int .i64 xa, .int .i64 xb, .bool xc, .slice Ah H.length ch] 62))
          have HWA := Lib.hid ((HW.out.trans (HWX.out.mono zw)).alloc (by omega) (.cells #[.int .i64 xa, .int .i64 xb, .bool xc, .slice Ah H.length ch] 62))
          clear hw
          go_wp2_with (first
            | (at_builtin; go_loud (refine wpList_append_lies _ rfl (.tmp 58) (.tmp 60) 53 rfl w2.heap.size 62 i0 (.agg #[.int .i64 0, .int .i64 0, .bool false, .slice none 0 0]) 4 48 Try.underlying53 hi hz0 hz1 hz2 rfl (by omega) (.slice Ao S.length co) S.length (S.flatMap Brd.cs) rfl HP1.out.o ⟨wr.heap.size, 0, none⟩ 1 1 [.int .i64 xa, .int .i64 xb, .bool xc, .slice Ah H.length ch] rfl rfl (four_new _ _ _ _ _ _) (by simp [Value.oneCell']) (by omega) (by unfold maxLen; omega) (by omega) (by simp; omega) (wr.heap.size + 1) (by simp) ?_); intro gg cap w5 hown5 hgrow hat5 hlt5; have HO5 := Lib.hid hown5; have HG5 := Lib.hid hgrow; clear hown5 hgrow))
          go_roundw
          case rel =>
            refine ⟨k + 1, S ++ [⟨0, xa, xb, xc, .slice Ah H.length ch, H⟩], by omega, by go_num, ?_, ⟨?_, fun r hr => ?_⟩, below_app HWA.out HP1.out.o HG5.out (Nat.le_refl _) (by simp; omega)⟩
            · rw [List.map_append, HS.out, HTK.out]
              rfl
            · rw [List.length_append, List.flatMap_append]
              exact HO5.out
            · rcases List.mem_append.1 hr with hr | hr
              · have hr1 := HP1.out.h r hr
                exact own_grown hr1 HG5.out (own_types hr1 HP1.out.o (by decide))
              · rw [List.mem_singleton.1 hr]
                have hr1 := own_lower HO1.out (show w2.heap.size ≤ w8.heap.size + 2 by omega)
                exact own_grown hr1 HG5.out (own_types hr1 HP1.out.o (by decide))
          case measure => (simp [intOf] <;> omega)
    · obtain rfl : k = L.length := by omega
      have HE := Lib.hid (show S.map Brd.ab = L.map (pbS t) by rw [HS.out, List.take_length])
      clear hw
      go_wp2_with fail
      go_ret2
      exact ⟨_, S, rfl, by rw [HLL.out]; exact HE.out, ⟨own_lower HP.out.o z2, fun r hr => own_lower (HP.out.h r hr) z2⟩, B2.out.trans (HW.out.mono z2)⟩
end
end Go.Proofs.Ytlfkackfnbbajaa
/- How often coppers are pressed (Cycles of the reference), whatever the world. -/
namespace Go.Proofs.Ytlfkackfnbbajaa
open Go.RowKit Go.Maps
set_option linter.unusedSimpArgs false
set_option linter.unusedVariables false
set_option maxRecDepth 100000

theorem cycT_er (n : Nat) (L : List AB) : cycT n (L.map AB.er) = cycT n L := by
  unfold cycT cycN
  refine List.map_congr_left fun i _ => ?_
  rw [List.countP_map]
  rfl
section
variable {A : Option Addr} {l : List Mat} {c : Nat} {A2 : Option Addr} {s : List Lay} {c2 : Nat} {w : World}
set_option maxHeartbeats 1000000 in
theorem rCycles_no (h : StkIn A l A2 s w) (hc2 : s.length ≤ c2) (hc3 : c2 ≤ 140737488355328) (A3 : Option Addr) (t : List Thr) (c3 : Nat) (hl : t.length ≤ 140737488355328) (hd : RdG 2 Thr.cs w A3 t) (h0 : pressedF l s t ≠ 0) :
    Calls Try.prog 44 #[.slice A l.length c, .slice A2 s.length c2, .slice A3 t.length c3] w fun e w' => e = .returned (.tuple #[.slice none 0 0, .int .i64 (pressedF l s t)]) ∧ Below w.heap.size w w' := by
  have CP := Lib.hid (rSpans_any (c := c) h hc2 hc3 A3 t c3 hl hd)
  generalize pressedF l s t = F at *
  have hd1 : (F == 0) = false := by simpa using h0
  have hd2 : (F != 0) = true := by simpa using h0
  clear h hd h0
  go_enter Try.func44, Try.ntmps44
  go_wp2_with fail
  refine CP.out.mono ?_
  rintro e w1 ⟨rfl, hb⟩
  have B1 := Lib.hid hb
  clear hb
  go_wp2_with fail
  go_ret2
  exact ⟨rfl, B1.out⟩
set_option maxHeartbeats 4000000 in
theorem rCycles_yes (h : StkIn A l A2 s w) (hc2 : s.length ≤ c2) (hc3 : c2 ≤ 140737488355328) (A3 : Option Addr) (t : List Thr) (c3 : Nat) (hl : t.length ≤ 140737488355328) (hd : RdG 2 Thr.cs w A3 t) (h0 : pressedF l s t = 0) :
    Calls Try.prog 44 #[.slice A l.length c, .slice A2 s.length c2, .slice A3 t.length c3] w fun e w' => ∃ g : Nat, e = .returned (.tuple #[.slice (some ⟨g, 0, none⟩) (cus (rowsOf l s)).length (cus (rowsOf l s)).length, .int .i64 0]) ∧
      w'.ownsRow w.heap.size 3 1 (.slice (some ⟨g, 0, none⟩) (cus (rowsOf l s)).length (cus (rowsOf l s)).length) (cus (rowsOf l s)).length ((cycT (cus (rowsOf l s)).length ((subsF (rowsOf l s) t).map Sb.ab)).map (Value.int .i64)) ∧ Below w.heap.size w w' := by
  obtain ⟨hs0, ht0, -⟩ := pressed_zero h0
  obtain ⟨ht1, ht2⟩ := thrF_zero ht0
  have hre := rows_eq hs0
  have hsl := (stackF_go hs0).2.1
  have hcl0 := cus_few (s.map (rowOf l)) 0
  have hn : (cus (rowsOf l s)).length ≤ 1000 := by
    rw [hre]
    unfold cus
    rw [List.length_map] at hcl0
    omega
  have CP0 := rSpans_any (c := c) h hc2 hc3 A3 t c3 hl hd
  rw [h0] at CP0
  have CP := Lib.hid CP0
  have CSB := Lib.hid (fun W (hb : Below w.heap.size w W) => subs_any (c := c) (c2 := c2) (w := W) (h.below hb) hs0 A3 t c3 ht1 (fun x hx => by have := ht2 x hx; unfold okT; omega) (hd.below hb))
  have CC0 := fun W (hb : Below w.heap.size w W) => rCoppers_any (w := W) (A := A) (l := l) (c := c) A2 s c2 h.l1 (by omega) (h.m.below hb) (h.y.below hb)
  rw [← hre] at CC0
  have CC := Lib.hid CC0
  have hLl := subs_len (rowsOf l s) t
  have HRNG := Lib.hid (subs_mem (form_two (stackF_form hs0)) ht2)
  obtain ⟨i0, hi0, hz0, hz1, hz2⟩ := info_parts infoInt
  clear h hd h0 hs0 ht0 ht2 hre hsl hcl0 CP0 CC0
  generalize rowsOf l s = R at *
  go_enter Try.func44, Try.ntmps44
  go_wp2_with fail
  refine CP.out.mono ?_
  rintro e w1 ⟨rfl, hb⟩
  have B1 := Lib.hid hb
  have z1 := hb.size
  clear hb
  go_wp2_with fail
  refine (CC.out _ B1.out).mono ?_
  rintro e w2 ⟨v, rfl, ho, hb⟩
  obtain ⟨Ac, cc, rfl, -, -, -⟩ := own_cells ho
  have B2 := Lib.hid (B1.out.trans (hb.mono z1))
  have z2 := B2.out.size
  clear ho hb CC
  generalize hnn : (cus R).length = n at *
  have HNN := Lib.hid hnn
  clear hnn
  go_wp2_with (first | (at_make; refine wpList_make_full _ rfl (.tmp 23) (.tmp 23) 43 rfl w2.heap.size 3 i0 (.int .i64 0) 1 Try.underlying43 hi0 hz0 hz1 .i64 .i64 (n : Int) (n : Int) n rfl rfl rfl rfl ?m1 ?m2 ?m3 ?_; (case m1 => rw [hz2]; omega); (case m2 => simp only [maxLen]; omega); (case m3 => omega); intro w3 hown hg; have HO := Lib.hid hown; have HG := Lib.hid hg; clear hown hg))
  have lt0 := (HO.out.lt w2.heap.size rfl).2
  have B3 := Lib.hid (B2.out.trans ((Below.refl w2.heap.size w2).grown HG.out (Nat.le_refl _) (fun j hj => by cases hj) |>.mono z2))
  have BW3 := Lib.hid ((Below.refl w2.heap.size w2).grown HG.out (Nat.le_refl _) (fun j hj => by cases hj))
  have H0 := Lib.hid (show w3.ownsRow w2.heap.size 3 1 (.slice (some ⟨w2.heap.size, 0, none⟩) n n) n ((cycT n []).map (Value.int .i64)) by
    rw [cycT_nil, ← made_ints]
    exact HO.out)
  clear HO HG
  refine (CSB.out _ B3.out).mono ?_
  rintro e w4 ⟨v, rfl, ho, hb⟩
  have H4 := Lib.hid (own_below H0.out hb)
  have B4 := Lib.hid (BW3.out.trans (hb.mono (by omega)))
  obtain ⟨Av, cv, rfl, u1, u2, -⟩ := own_cells ho
  have HLO := Lib.hid ho
  have u2' : cv ≤ 9223372036854775807 := u2
  clear ho hb u2 CSB H0
  generalize hLL : subsF R t = L at *
  have HLL := Lib.hid hLL
  clear hLL
  have hL2 : L.length ≤ 2000 := by omega
  go_wp2_with fail
  go_loopw [30] (fun i wr => ∃ k : Nat, k ≤ L.length ∧ i = .int .i64 k ∧ wr.ownsRow w2.heap.size 3 1 (.slice (some ⟨w2.heap.size, 0, none⟩) n n) n ((cycT n ((L.map Sb.ab).take k)).map (Value.int .i64)) ∧ wr.ownsRow w3.heap.size 108 3 (.slice Av L.length cv) L.length (L.flatMap Sb.cs) ∧ Below w2.heap.size w2 wr) (fun i _ => L.length - (intOf i).toNat)
  case atStart => exact ⟨0, Nat.zero_le _, rfl, H4.out, HLO.out, B4.out⟩
  case round =>
    obtain ⟨k, hk, rfl, ho, hl9, hw⟩ := hrel
    have HO := Lib.hid ho
    have HL := Lib.hid hl9
    have HW := Lib.hid hw
    have zw := hw.size
    have lg := (ho.lt w2.heap.size rfl).2
    have hkz : (0 : Int) ≤ (k : Int) := by omega
    clear ho
    by_cases hlt : k < L.length
    · obtain ⟨_, _, e9, _, _, h39⟩ := own_cells hl9
      cases e9
      obtain ⟨b, rfl, hbb, hblt, hcs⟩ := h39 (by omega)
      have hi : L[k]? = some L[k] := List.getElem?_eq_getElem hlt
      have c0 := by simpa using hcs (k * 3 + 0) _ (flat_at (cs := Sb.cs) (k := 3) (fun _ => rfl) hi (j := 0) rfl)
      have c1 := hcs (k * 3 + 1) _ (flat_at (cs := Sb.cs) (k := 3) (fun _ => rfl) hi (j := 1) rfl)
      have c2' := hcs (k * 3 + 2) _ (flat_at (cs := Sb.cs) (k := 3) (fun _ => rfl) hi (j := 2) rfl)
      have hin := HRNG.out _ (List.getElem_mem hlt)
      have ht2 : (L.map Sb.ab).take (k + 1) = (L.map Sb.ab).take k ++ [L[k].ab] := by rw [List.take_add_one, List.getElem?_map, hi]; rfl
      have HT := Lib.hid ht2
      clear hi hcs ht2 hw hl9 h39
      generalize L[k] = x at *
      obtain ⟨⟨ya, yb⟩, yc⟩ := x
      simp only at c0 c1 c2' hin
      have e1 : Sb.ab ⟨⟨ya, yb⟩, yc⟩ = ⟨ya, yb, yc, []⟩ := rfl
      rw [e1] at HT
      clear e1
      go_wp2_with fail
      obtain ⟨w8, rfl⟩ : ∃ w8, w8 = wr := ⟨wr, rfl⟩
      obtain ⟨y, hyy⟩ : ∃ y : AB, y = ⟨ya, yb, yc, []⟩ := ⟨_, rfl⟩
      have hya : y.a = ya := by rw [hyy]
      have hyb : y.b = yb := by rw [hyy]
      have hyc : y.core = yc := by rw [hyy]
      rw [← hyy] at HT
      have HQ := Lib.hid (show cycM n ((L.map Sb.ab).take k) y ya = cycT n ((L.map Sb.ab).take k) by rw [← hya]; exact cycM_start _ _ _)
      go_loopw [12] (fun xv wx => ∃ x : Int, xv = .int .i64 x ∧ ya ≤ x ∧ x ≤ yb + 1 ∧ (yc = true → x = ya) ∧ wx.ownsRow w2.heap.size 3 1 (.slice (some ⟨w2.heap.size, 0, none⟩) n n) n ((cycM n ((L.map Sb.ab).take k) y x).map (Value.int .i64)) ∧ wx.ownsRow w3.heap.size 108 3 (.slice (some ⟨b, 0, none⟩) L.length cv) L.length (L.flatMap Sb.cs) ∧ wx.cell? ⟨w8.heap.size, 1, none⟩ = some (.int .i64 yb) ∧ wx.cell? ⟨w8.heap.size, 2, none⟩ = some (.bool yc) ∧ w8.heap.size < wx.heap.size ∧ Below w2.heap.size w2 wx) (fun xv _ => (yb + 1 - intOf xv).toNat)
      case atStart => exact ⟨ya, rfl, Int.le_refl _, by omega, fun _ => rfl, by rw [HQ.out]; exact HO.out.alloc _, HL.out.alloc _, alloc_new_cell w8 _ _ 1 rfl, alloc_new_cell w8 _ _ 2 rfl, by simp, HW.out.alloc zw _⟩
      case round =>
        obtain ⟨x, rfl, hx1, hx2, hxc, ho, hl9, hc, hc2', hl8, hw⟩ := hrel
        have HOX := Lib.hid ho
        have HLX := Lib.hid hl9
        have HWX := Lib.hid hw
        cases yc with
        | true =>
          obtain rfl := hxc rfl
          have hle : x ≤ yb := by omega
          have hle' : decide (x ≤ yb) = true := decide_eq_true hle
          have HN := Lib.hid (show cycT n ((L.map Sb.ab).take (k + 1)) = cycM n ((L.map Sb.ab).take k) y x by rw [HT.out, HQ.out, cycT_core hyc])
          go_wp2_with fail
          go_roundw
          case rel => exact ⟨k + 1, by omega, by go_num, by rw [HN.out]; exact HOX.out, HLX.out, HWX.out⟩
          case measure => (simp [intOf] <;> omega)
        | false =>
          by_cases hxb : x ≤ yb
          · obtain ⟨j, rfl⟩ : ∃ j : Nat, x = (j : Int) + 1 := ⟨(x - 1).toNat, by omega⟩
            have ej : ((j : Int) + 1 - 1).toNat = j := by omega
            have hg := own_cellC (j := j) (v := .int .i64 (cycN ((L.map Sb.ab).take k) j)) ho (by
              rw [List.getElem?_map]
              have := cycM_get (n := n) (L := (L.map Sb.ab).take k) (y := y) (c := (j : Int) + 1) (by omega) (by omega)
              rw [ej] at this
              rw [this]
              rfl)
            have hst := own_setC (j := j) ho (.int .i64 (cycN ((L.map Sb.ab).take k) j + 1))
            have hms := cycM_step (n := n) (L := (L.map Sb.ab).take k) (y := y) (c := (j : Int) + 1) (by omega) (by omega) (by omega)
            rw [ej] at hms
            rw [← List.map_set, hms] at hst
            have HST := Lib.hid hst
            obtain ⟨hg1, hg2⟩ := hg
            have hfew := cycN_few ((L.map Sb.ab).take k) j
            rw [List.length_take] at hfew
            clear ho hl9 hw hst hms ej
            generalize cycN ((L.map Sb.ab).take k) j = v at *
            have y1 : IntKind.i64.wrap (j : Int) = j := IntWalk.i64_in _ (by omega)
            have y2 : IntKind.i64.wrap (v + 1) = v + 1 := IntWalk.i64_in _ (by omega)
            have y3 : IntKind.i64.wrap ((j : Int) + 1 + 1) = (j : Int) + 1 + 1 := IntWalk.i64_in _ (by omega)
            have y4 : (0 : Int) ≤ (j : Int) := by omega
            have y5 : (j : Int) < (n : Int) := by omega
            have y6 : (j : Int) + 1 - 1 = j := by omega
            go_wp2_with fail
            go_roundw
            case rel =>
              have hgs := fun v => gb_set (p := ⟨w2.heap.size, j, none⟩) (gb_refl wr (some w2.heap.size)) (.inl rfl) v
              refine ⟨(j : Int) + 1 + 1, rfl, by omega, by omega, (fun e => by cases e), HST.out, own_grown HLX.out (hgs _) (fun g e e' => by have := (HLX.out.lt g e).1; have := Option.some.inj e'; omega), ?_, ?_, by simp; exact hl8, ?_⟩
              · rw [World.cell?_setCell_far _ _ _ _ (show w2.heap.size ≠ w8.heap.size by omega)]
                exact hc
              · rw [World.cell?_setCell_far _ _ _ _ (show w2.heap.size ≠ w8.heap.size by omega)]
                exact hc2'
              · exact HWX.out.trans (below_gb (hgs _) HWX.out.size (fun g e => by cases e; exact Nat.le_refl _))
            case measure => (simp [intOf] <;> omega)
          · obtain rfl : x = yb + 1 := by omega
            have HN := Lib.hid (show cycT n ((L.map Sb.ab).take (k + 1)) = cycM n ((L.map Sb.ab).take k) y (yb + 1) by rw [HT.out, ← hyb, cycM_end hyc])
            go_wp2_with fail
            go_roundw
            case rel => exact ⟨k + 1, by omega, by go_num, by rw [HN.out]; exact HOX.out, HLX.out, HWX.out⟩
            case measure => (simp [intOf] <;> omega)
    · obtain rfl : k = L.length := by omega
      have HE := Lib.hid (show (L.map Sb.ab).take L.length = L.map Sb.ab from List.take_of_length_le (by simp))
      clear hw hl9
      go_wp2_with fail
      go_ret2
      refine ⟨w2.heap.size, by rw [HNN.out]; rfl, ?_, B2.out.trans (HW.out.mono z2)⟩
      rw [HNN.out, HLL.out, ← HE.out]
      exact own_lower HO.out z2
end
end Go.Proofs.Ytlfkackfnbbajaa
/- Pressings are compared (SamePresses of the reference), where they agree. -/
namespace Go.Proofs.Ytlfkackfnbbajaa
open Go.RowKit Go.Maps
set_option linter.unusedSimpArgs false
set_option linter.unusedVariables false
set_option maxRecDepth 100000

theorem getD_ints {w : World} {g : Nat} {zs : List Int} (h : ∀ (j : Nat) (u : Value), (zs.map (Value.int .i64))[j]? = some u → w.cell? ⟨g, j, none⟩ = some u) : ∀ j, j < zs.length → w.cell? ⟨g, 0 + j, none⟩ = some (.int .i64 (zs.getD j 0)) := by
  intro j hj
  rw [Nat.zero_add]
  refine h _ _ ?_
  rw [List.getElem?_map, List.getD_eq_getElem?_getD, List.getElem?_eq_getElem hj]
  rfl
theorem equal_ints {w : World} {B1 B2 : Nat} {v1 v2 : Value} {zs : List Int} (h1 : w.ownsRow B1 3 1 v1 zs.length (zs.map (Value.int .i64))) (h2 : w.ownsRow B2 3 1 v2 zs.length (zs.map (Value.int .i64))) :
    Calls Try.prog 34 #[v1, v2] w fun e w' => e = .returned (.bool true) ∧ Below w.heap.size w w' := by
  obtain ⟨A1, c1, rfl, u1, u2, u3⟩ := own_cells h1
  obtain ⟨A2, c2, rfl, y1, y2, y3⟩ := own_cells h2
  have hn : zs.length ≤ 9223372036854775807 := Nat.le_trans u1 u2
  by_cases h0 : zs.length = 0
  · have := Try.slices_Equal_int_empty A1 A2 c1 0 c2 w (by omega)
    rw [h0]
    exact this.mono fun e w' ⟨h, hw⟩ => ⟨h, by rw [hw]; exact Below.refl _ _⟩
  · obtain ⟨g1, rfl, _, _, k1⟩ := u3 (by omega)
    obtain ⟨g2, rfl, _, _, k2⟩ := y3 (by omega)
    refine (Try.slices_Equal_int g1 0 zs.length c1 g2 0 zs.length c2 zs zs w (Nat.le_refl _) (Nat.le_refl _) hn hn (getD_ints k1) (getD_ints k2)).mono fun e w' ⟨h, q, hw⟩ => ⟨by rw [h]; simp, by rw [hw]; exact below_drewN (Below.refl _ _) q⟩
theorem hole_ints (hs : List Nat) : (hs.map fun k => Value.int .i64 (k : Nat)) = (hs.map fun k : Nat => (k : Int)).map (Value.int .i64) := by rw [List.map_map]; rfl
theorem equal_holes {w : World} {B1 B2 : Nat} {v1 v2 : Value} {hs : List Nat} (h1 : w.ownsRow B1 3 1 v1 hs.length (hs.map fun k => Value.int .i64 (k : Nat))) (h2 : w.ownsRow B2 3 1 v2 hs.length (hs.map fun k => Value.int .i64 (k : Nat))) :
    Calls Try.prog 34 #[v1, v2] w fun e w' => e = .returned (.bool true) ∧ Below w.heap.size w w' := by
  rw [hole_ints] at h1 h2
  have e : hs.length = (hs.map fun k : Nat => (k : Int)).length := (List.length_map _).symm
  rw [e] at h1 h2
  exact equal_ints h1 h2
set_option maxHeartbeats 4000000 in
theorem sameP_any {w : World} {B1 B2 : Nat} {v1 v2 : Value} {S1 S2 : List Brd} (h1 : PrsAt B1 v1 S1 w) (h2 : PrsAt B2 v2 S2 w) (he : S1.map Brd.ab = S2.map Brd.ab) (hl : S1.length ≤ 140737488355328) :
    Calls Try.prog 42 #[v1, v2] w fun e w' => e = .returned (.bool true) ∧ Below w.heap.size w w' := by
  have hlen : S1.length = S2.length := by have := congrArg List.length he; simpa using this
  obtain ⟨A1, c1, rfl, p1, p2, p3⟩ := own_rd4 h1.o
  obtain ⟨A2, c2, rfl, q1, q2, q3⟩ := own_rd4 h2.o
  have HP3 := Lib.hid p3
  have HQ3 := Lib.hid q3
  have H1 := Lib.hid h1.h
  have H2 := Lib.hid h2.h
  have HE := Lib.hid (fun k (h : k < S1.length) (h' : k < S2.length) => show S1[k].ab = S2[k].ab by
    have e1 : (S1.map Brd.ab)[k]? = some S1[k].ab := by rw [List.getElem?_map, List.getElem?_eq_getElem h]; rfl
    have e2 : (S2.map Brd.ab)[k]? = some S2[k].ab := by rw [List.getElem?_map, List.getElem?_eq_getElem h']; rfl
    rw [he, e2] at e1
    exact (Option.some.inj e1).symm)
  have CE := Lib.hid (fun (W : World) (hb : Below w.heap.size w W) (r1 r2 : Brd) (hr1 : r1 ∈ S1) (hr2 : r2 ∈ S2) (hh : r1.hs = r2.hs) => equal_holes (own_below (h1.h r1 hr1) hb) (hh ▸ own_below (h2.h r2 hr2) hb))
  have p2' : c1 ≤ 9223372036854775807 := p2
  have q2' : c2 ≤ 9223372036854775807 := q2
  clear h1 h2 he p3 q3 p2 q2
  rw [← hlen] at q1
  have d1 : ((S1.length : Int) != (S2.length : Int)) = false := by rw [hlen]; simp
  have HLEN := Lib.hid hlen
  clear hlen
  go_enter Try.func42, Try.ntmps42
  go_wp2_with fail
  go_loopw [13] (fun i wr => ∃ k : Nat, k ≤ S1.length ∧ i = .int .i64 k ∧ Below w.heap.size w wr) (fun i _ => S1.length - (intOf i).toNat)
  case atStart => exact ⟨0, Nat.zero_le _, rfl, Below.refl _ _⟩
  case round =>
    obtain ⟨k, hk, rfl, hw⟩ := hrel
    have HW := Lib.hid hw
    have zw := hw.size
    have hkz : (0 : Int) ≤ (k : Int) := by omega
    by_cases hlt : k < S1.length
    · have hlt2 : k < S2.length := HLEN.out ▸ hlt
      obtain ⟨b1, o1, rfl, hb1, hc1⟩ := (HP3.out.below hw) (by rw [List.length_map]; omega)
      obtain ⟨b2, o2, rfl, hb2, hc2⟩ := (HQ3.out.below hw) (by rw [List.length_map]; omega)
      have hi1 : (S1.map Brd.bq)[k]? = some (S1[k].bq) := by rw [List.getElem?_map, List.getElem?_eq_getElem hlt]; rfl
      have hi2 : (S2.map Brd.bq)[k]? = some (S2[k].bq) := by rw [List.getElem?_map, List.getElem?_eq_getElem hlt2]; rfl
      have e0 := by simpa using hc1 k _ hi1 0 _ rfl
      have e1 := hc1 k _ hi1 1 _ rfl
      have e2 := hc1 k _ hi1 2 _ rfl
      have e3 := hc1 k _ hi1 3 _ rfl
      have f0 := by simpa using hc2 k _ hi2 0 _ rfl
      have f1 := hc2 k _ hi2 1 _ rfl
      have f2 := hc2 k _ hi2 2 _ rfl
      have f3 := hc2 k _ hi2 3 _ rfl
      have hab := HE.out k hlt hlt2
      have CK0 := fun (W : World) (hb : Below wr.heap.size wr W) (hh : S1[k].hs = S2[k].hs) => CE.out W (HW.out.trans (hb.mono zw)) S1[k] S2[k] (List.getElem_mem hlt) (List.getElem_mem hlt2) hh
      obtain ⟨A7, d7, h7, -⟩ := own_cells (H1.out _ (List.getElem_mem hlt))
      obtain ⟨A8, d8, h8, -⟩ := own_cells (H2.out _ (List.getElem_mem hlt2))
      clear hi1 hi2 hc1 hc2 hw
      generalize S1[k] = r1 at *
      generalize S2[k] = r2 at *
      obtain ⟨k1, a1, a2, a3, a4, a5⟩ := r1
      obtain ⟨k2, g1, g2, g3, g4, g5⟩ := r2
      have t1 : a1 = g1 := congrArg AB.a hab
      have t2 : a2 = g2 := congrArg AB.b hab
      have t3 : a3 = g3 := congrArg AB.core hab
      have t5 : a5 = g5 := congrArg AB.hs hab
      simp only [Brd.bq] at e0 e1 e2 e3 f0 f1 f2 f3
      simp only at h7 h8 CK0
      subst t1 t2 t3 t5 h7 h8
      have CK := Lib.hid (fun W hb => CK0 W hb rfl)
      have m1 : (a1 != a1) = false := by simp
      have m2 : (a2 != a2) = false := by simp
      have m3 : (a3 != a3) = false := by simp
      have n7 : (k : Int) < (S2.length : Int) := by omega
      have HSB := Lib.hid (fun (W : World) (hb : Below wr.heap.size wr W) => show Below wr.heap.size wr W ∧ W.cell? ⟨b1, o1 + k * 4, none⟩ = some (.int .i64 a1) ∧ W.cell? ⟨b1, o1 + k * 4 + 1, none⟩ = some (.int .i64 a2) ∧ W.cell? ⟨b1, o1 + k * 4 + 2, none⟩ = some (.bool a3) ∧ W.cell? ⟨b1, o1 + k * 4 + 3, none⟩ = some (.slice A7 a5.length d7) ∧ W.cell? ⟨b2, o2 + k * 4, none⟩ = some (.int .i64 a1) ∧ W.cell? ⟨b2, o2 + k * 4 + 1, none⟩ = some (.int .i64 a2) ∧ W.cell? ⟨b2, o2 + k * 4 + 2, none⟩ = some (.bool a3) ∧ W.cell? ⟨b2, o2 + k * 4 + 3, none⟩ = some (.slice A8 a5.length d8) from
        ⟨hb, (hb.cell (p := ⟨b1, _, none⟩) hb1).trans e0, (hb.cell (p := ⟨b1, _, none⟩) hb1).trans e1, (hb.cell (p := ⟨b1, _, none⟩) hb1).trans e2, (hb.cell (p := ⟨b1, _, none⟩) hb1).trans e3, (hb.cell (p := ⟨b2, _, none⟩) hb2).trans f0, (hb.cell (p := ⟨b2, _, none⟩) hb2).trans f1, (hb.cell (p := ⟨b2, _, none⟩) hb2).trans f2, (hb.cell (p := ⟨b2, _, none⟩) hb2).trans f3⟩)
      clear CK0 hab
      go_wp2_with fail
      go_region_held3 (fun w' => Below wr.heap.size wr w' ∧ w'.cell? ⟨b1, o1 + k * 4, none⟩ = some (.int .i64 a1) ∧ w'.cell? ⟨b1, o1 + k * 4 + 1, none⟩ = some (.int .i64 a2) ∧ w'.cell? ⟨b1, o1 + k * 4 + 2, none⟩ = some (.bool a3) ∧ w'.cell? ⟨b1, o1 + k * 4 + 3, none⟩ = some (.slice A7 a5.length d7) ∧ w'.cell? ⟨b2, o2 + k * 4, none⟩ = some (.int .i64 a1) ∧ w'.cell? ⟨b2, o2 + k * 4 + 1, none⟩ = some (.int .i64 a2) ∧ w'.cell? ⟨b2, o2 + k * 4 + 2, none⟩ = some (.bool a3) ∧ w'.cell? ⟨b2, o2 + k * 4 + 3, none⟩ = some (.slice A8 a5.length d8))
        (first | exact HSB.out _ (below_drewN (Below.refl wr.heap.size wr) 1) | exact HSB.out _ ((below_drewN (Below.refl wr.heap.size wr) 1).trans (hb9.mono (Nat.le_refl _))))
        (first | (go_at_call 34; refine (CK.out _ (below_drewN (Below.refl wr.heap.size wr) 1)).mono ?_; rintro e w9 ⟨rfl, hb9⟩))
      have B9 := Lib.hid ((below_drewN (Below.refl wr.heap.size wr) 1).trans (hb9.mono (Nat.le_refl _)))
      clear hb9
      go_wp2_with fail
      go_roundw
      case rel => exact ⟨k + 1, by omega, by go_num, HW.out.trans (B9.out.mono zw)⟩
      case measure => (simp [intOf] <;> omega)
    · obtain rfl : k = S1.length := by omega
      go_wp2_with fail
      go_ret
      exact ⟨rfl, HW.out⟩
end Go.Proofs.Ytlfkackfnbbajaa

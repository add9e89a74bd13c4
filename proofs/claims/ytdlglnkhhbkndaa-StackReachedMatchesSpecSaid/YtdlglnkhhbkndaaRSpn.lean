/- Whether spans are right: what the reference of chapter 4 says (CheckSpans), whatever the world. -/
import Derived.Test.YtdlglnkhhbkndaaRCk
import Derived.Test.YtdlglnkhhbkndaaEndB
namespace Go.Proofs.Ytdlglnkhhbkndaa
open Go.RowKit Go.Maps Go.Sort
set_option linter.unusedSimpArgs false
set_option linter.unusedVariables false
set_option maxRecDepth 100000

def clashS (x z : Sb) : Bool := decide (max x.t.a z.t.a ≤ min x.t.b z.t.b) && !inT x.t z.t && !inT z.t x.t
def pairS : List Sb → List Sb → Bool
  | _, [] => false
  | P, x :: l => P.any (clashS x) || pairS (P ++ [x]) l
theorem clash_sb {x z : Sb} (hx : x.t.a ≤ x.t.b) (hz : z.t.a ≤ z.t.b) : clashQ x.bq z.bq = clashS x z := by
  have e1 : clashQ x.bq z.bq = (decide (x.t.a ≤ z.t.b) && decide (z.t.a ≤ x.t.b) && !(decide (z.t.a ≤ x.t.a) && decide (x.t.b ≤ z.t.b)) && !(decide (x.t.a ≤ z.t.a) && decide (z.t.b ≤ x.t.b))) := rfl
  have e2 : clashS x z = (decide (max x.t.a z.t.a ≤ min x.t.b z.t.b) && !(decide (z.t.a ≤ x.t.a) && decide (x.t.b ≤ z.t.b)) && !(decide (x.t.a ≤ z.t.a) && decide (z.t.b ≤ x.t.b))) := rfl
  have e3 : decide (max x.t.a z.t.a ≤ min x.t.b z.t.b) = (decide (x.t.a ≤ z.t.b) && decide (z.t.a ≤ x.t.b)) := by
    rw [← Bool.decide_and]
    exact decide_eq_decide.2 (by omega)
  rw [e1, e2, e3]
theorem pair_sb : ∀ (P L : List Sb), (∀ x ∈ P, x.t.a ≤ x.t.b) → (∀ x ∈ L, x.t.a ≤ x.t.b) → pairF (P.map Sb.bq) (L.map Sb.bq) = pairS P L
  | _, [], _, _ => rfl
  | P, x :: L, hp, hl => by
    have hx := hl x (List.mem_cons_self ..)
    have ih := pair_sb (P ++ [x]) L (fun y hy => by
      rcases List.mem_append.1 hy with hy | hy
      · exact hp y hy
      · rw [List.mem_singleton.1 hy]; exact hx) (fun y hy => hl y (List.mem_cons_of_mem _ hy))
    rw [List.map_append, List.map_singleton] at ih
    have h2 : ∀ Q : List Sb, (∀ y ∈ Q, y.t.a ≤ y.t.b) → (Q.any fun z => clashQ x.bq z.bq) = Q.any (clashS x) := by
      intro Q
      induction Q with
      | nil => intro _; rfl
      | cons y Q ih =>
        intro hq
        rw [List.any_cons, List.any_cons, ih (fun z hz => hq z (List.mem_cons_of_mem _ hz)), clash_sb hx (hq y (List.mem_cons_self ..))]
    rw [List.map_cons, pairF, pairS, ih, any_map, h2 P hp]
theorem subs_len (R : List Row) (t : List Thr) : (subsF R t).length ≤ (cus R).length + t.length + 1 := by
  have h1 := (subs_perm R t).length_eq
  have h2 := boards_length R t
  rw [List.length_map, List.length_map] at h1
  omega
theorem subs_mem {R : List Row} {t : List Thr} (h2 : 2 ≤ (cus R).length) (ht : ∀ x ∈ t, 1 ≤ x.a ∧ x.a < x.b ∧ x.b ≤ ((cus R).length : Int)) : ∀ x ∈ subsF R t, 1 ≤ x.t.a ∧ x.t.a < x.t.b ∧ x.t.b ≤ ((cus R).length : Int) := by
  intro x hx
  obtain ⟨y, hy, hy2⟩ := List.mem_map.1 ((subs_perm R t).subset (List.mem_map.2 ⟨x, hx, rfl⟩))
  have h3 := (boards_bd h2 ht).r y hy
  have e1 : y.a = x.t.a := congrArg AB.a hy2
  have e2 : y.b = x.t.b := congrArg AB.b hy2
  rw [← e1, ← e2]
  exact h3
section
variable {A : Option Addr} {l : List Mat} {c : Nat} {A2 : Option Addr} {s : List Lay} {c2 : Nat} {w : World}
set_option maxHeartbeats 8000000 in
theorem rSpans_any (h : StkIn A l A2 s w) (hc2 : s.length ≤ c2) (hc3 : c2 ≤ 140737488355328) (A3 : Option Addr) (t : List Thr) (c3 : Nat) (hl : t.length ≤ 140737488355328) (hd : RdG 2 Thr.cs w A3 t) :
    Calls Try.prog 41 #[.slice A l.length c, .slice A2 s.length c2, .slice A3 t.length c3] w fun e w' => e = .returned (.int .i64 (pressedF l s t)) ∧ Below w.heap.size w w' := by
  have CS0 := rCheckStack_any (A := A) (l := l) (c := c) (w := w) A2 s c2 hc2 hc3 h
  by_cases h0 : stackF l s = 0
  · rw [h0] at CS0
    have CS := Lib.hid CS0
    clear CS0
    by_cases h200 : 200 < t.length
    · have HF := Lib.hid (show pressedF l s t = 2 by
        rw [pressed_ref, if_pos h0]
        have : thrF (cus (rowsOf l s)).length t = 2 := if_pos h200
        rw [this]
        rfl)
      have h2b : decide (200 < (t.length : Int)) = true := by simp; omega
      clear h hd h0
      go_enter Try.func41, Try.ntmps41
      go_wp2_with fail
      refine CS.out.mono ?_
      rintro e w1 ⟨rfl, hb⟩
      have B1 := Lib.hid hb
      clear hb
      go_wp2_with fail
      go_ret
      exact ⟨by rw [HF.out]; rfl, B1.out⟩
    · have h2 := form_two (stackF_form h0)
      have HH2 := Lib.hid h2
      have hre := rows_eq h0
      have hsl := (stackF_go h0).2.1
      have hcl0 := cus_few (s.map (rowOf l)) 0
      have hcn : (cus (rowsOf l s)).length ≤ 1000 := by
        rw [hre]
        unfold cus
        rw [List.length_map] at hcl0
        omega
      have HF0 := pressed_ref (m := l) (s := s) (t := t)
      rw [if_pos h0, show thrF (cus (rowsOf l s)).length t = thrGo (cus (rowsOf l s)).length [] t from if_neg h200] at HF0
      have CSB := Lib.hid (fun W (hb : Below w.heap.size w W) (hok : ∀ x ∈ t, okT x) => subs_any (c := c) (c2 := c2) (w := W) (h.below hb) h0 A3 t c3 (by omega) hok (hd.below hb))
      have CC0 := fun W (hb : Below w.heap.size w W) => rCoppers_any (w := W) (A := A) (l := l) (c := c) A2 s c2 h.l1 (by omega) (h.m.below hb) (h.y.below hb)
      rw [← hre] at CC0
      have HD := Lib.hid hd
      have h2b : decide (200 < (t.length : Int)) = false := by simp; omega
      clear h hd h0 hre hsl hcl0 h2
      generalize rowsOf l s = R at *
      generalize hpp : pressedF l s t = PF at *
      clear hpp
      have HZ := Lib.hid (fun (hz : thrGo (cus R).length [] t = 0) => thrF_zero (n := (cus R).length) (l := t) (show thrF (cus R).length t = 0 from (if_neg h200).trans hz))
      have HSL := Lib.hid (subs_len R t)
      have HSM := Lib.hid (fun (ht : ∀ x ∈ t, 1 ≤ x.a ∧ x.a < x.b ∧ x.b ≤ ((cus R).length : Int)) => subs_mem HH2.out ht)
      generalize hn : (cus R).length = n at *
      have HF := Lib.hid HF0
      have CC := Lib.hid CC0
      clear HF0 CC0 hn
      go_enter Try.func41, Try.ntmps41
      go_wp2_with fail
      refine CS.out.mono ?_
      rintro e w1 ⟨rfl, hb⟩
      have B1 := Lib.hid hb
      clear hb
      go_wp2_with fail
      go_loopw [28] (fun i wr => ∃ k : Nat, k ≤ t.length ∧ i = .int .i64 k ∧ thrGo n [] t = thrGo n (t.take k).getLast?.toList (t.drop k) ∧ Below w.heap.size w wr) (fun i _ => t.length - (intOf i).toNat)
      case atStart => exact ⟨0, Nat.zero_le _, rfl, rfl, B1.out⟩
      case round =>
        obtain ⟨k, hk, rfl, hf, hw⟩ := hrel
        have HFT := Lib.hid hf
        have HW := Lib.hid hw
        have zw := hw.size
        clear hf
        have hkz : (0 : Int) ≤ (k : Int) := by omega
        by_cases hlt : k < t.length
        · obtain ⟨b, off, rfl, hblt, hcs⟩ := (HD.out.below hw) (by omega)
          have hi : t[k]? = some t[k] := List.getElem?_eq_getElem hlt
          have c0 := by simpa using hcs k _ hi 0 _ rfl
          have c1 := hcs k _ hi 1 _ rfl
          have HCS := Lib.hid hcs
          have hd : t.drop k = t[k] :: t.drop (k + 1) := List.drop_eq_getElem_cons hlt
          have HDR := Lib.hid hd
          have HI := Lib.hid hi
          clear hd hi hcs hw
          generalize t[k] = p at *
          have HBAD := Lib.hid (fun h => (HFT.out.trans (HDR.out ▸ thrGo_bad (x := p) h) : thrGo n [] t = 1))
          obtain ⟨pa, pb⟩ := p
          simp only at c0 c1
          have a0 := alloc_new_cell wr #[.int .i64 pa, .int .i64 pb] 64 0 rfl
          have a1 := alloc_new_cell wr #[.int .i64 pa, .int .i64 pb] 64 1 rfl
          have BA := Lib.hid (HW.out.alloc zw (.cells #[.int .i64 pa, .int .i64 pb] 64))
          have BL := Lib.hid ((Below.refl wr.heap.size wr).alloc (Nat.le_refl _) (.cells #[.int .i64 pa, .int .i64 pb] 64))
          have zs : (wr.alloc (.cells #[.int .i64 pa, .int .i64 pb] 64)).heap.size = wr.heap.size + 1 := by simp
          by_cases h3 : pa < 1
          · have HN := Lib.hid (HBAD.out (.inl h3))
            have HE := Lib.hid (show PF = 1 by rw [HF.out, HN.out]; rfl)
            clear HBAD HN a0 a1 BL zs
            go_wp2_with fail
            go_quiet (fail)
            go_wp2_with fail
            go_ret
            exact ⟨by rw [HE.out]; rfl, below_drewN BA.out _⟩
          · have h3' : decide (pa < 1) = false := decide_eq_false h3
            go_wp2_with fail
            generalize wr.alloc (.cells #[.int .i64 pa, .int .i64 pb] 64) = wa at *
            have lt0 : wr.heap.size < wa.heap.size := by omega
            have HSB := Lib.hid (fun (W : World) (hb : Below wa.heap.size wa W) => show Below wa.heap.size wa W ∧ W.cell? ⟨wr.heap.size, 0, none⟩ = some (.int .i64 pa) ∧ W.cell? ⟨wr.heap.size, 1, none⟩ = some (.int .i64 pb) from ⟨hb, (hb.cell (p := ⟨wr.heap.size, 0, none⟩) lt0).trans a0, (hb.cell (p := ⟨wr.heap.size, 1, none⟩) lt0).trans a1⟩)
            by_cases h4 : (n : Int) < pb
            · have HN := Lib.hid (HBAD.out (.inr (.inl h4)))
              have HE := Lib.hid (show PF = 1 by rw [HF.out, HN.out]; rfl)
              have h4' : decide ((n : Int) < pb) = true := decide_eq_true h4
              clear HBAD HN
              first
                | (go_region_with (first | (go_at_call 61; refine (CC.out _ (below_drewN BA.out 1)).mono ?_; rintro e w9 ⟨v9, rfl, ho9, hb9⟩; obtain ⟨Ac9, cc9, rfl, -, -, -⟩ := own_cells ho9; clear ho9; have e9 := HSB.out w9 ((below_drewN (Below.refl wa.heap.size wa) 1).trans (hb9.mono (Nat.le_refl _))); have e90 := e9.2.1; have e91 := e9.2.2; clear e9)))
                | fail
              all_goals
                have B9 := Lib.hid ((below_drewN (Below.refl wa.heap.size wa) 1).trans (hb9.mono (Nat.le_refl _)))
                clear hb9
                go_wp2_with fail
                go_ret
                exact ⟨by rw [HE.out]; rfl, BA.out.trans (B9.out.mono (by omega))⟩
            · have h4' : decide ((n : Int) < pb) = false := decide_eq_false h4
              by_cases h5 : pb ≤ pa
              · have HN := Lib.hid (HBAD.out (.inr (.inr h5)))
                have HE := Lib.hid (show PF = 1 by rw [HF.out, HN.out]; rfl)
                have h5' : decide (pb ≤ pa) = true := decide_eq_true h5
                clear HBAD HN
                go_region_held3 (fun w' => Below wa.heap.size wa w' ∧ w'.cell? ⟨wr.heap.size, 0, none⟩ = some (.int .i64 pa) ∧ w'.cell? ⟨wr.heap.size, 1, none⟩ = some (.int .i64 pb))
                  (first | exact HSB.out _ (below_drewN (Below.refl wa.heap.size wa) 1) | exact HSB.out _ ((below_drewN (Below.refl wa.heap.size wa) 1).trans (hb9.mono (Nat.le_refl _))))
                  (first | (go_at_call 61; refine (CC.out _ (below_drewN BA.out 1)).mono ?_; rintro e w9 ⟨v9, rfl, ho9, hb9⟩; obtain ⟨Ac9, cc9, rfl, -, -, -⟩ := own_cells ho9; clear ho9))
                have B9 := Lib.hid ((below_drewN (Below.refl wa.heap.size wa) 1).trans (hb9.mono (Nat.le_refl _)))
                clear hb9
                go_wp2_with fail
                go_ret
                exact ⟨by rw [HE.out]; rfl, BA.out.trans (B9.out.mono (by omega))⟩
              · have HB := Lib.hid (show ¬ badT n ⟨pa, pb⟩ by unfold badT; simp only; omega)
                have h5' : decide (pb ≤ pa) = false := decide_eq_false h5
                clear HBAD
                go_region_held3 (fun w' => Below wa.heap.size wa w' ∧ w'.cell? ⟨wr.heap.size, 0, none⟩ = some (.int .i64 pa) ∧ w'.cell? ⟨wr.heap.size, 1, none⟩ = some (.int .i64 pb))
                  (first | exact HSB.out _ (below_drewN (Below.refl wa.heap.size wa) 1) | exact HSB.out _ ((below_drewN (Below.refl wa.heap.size wa) 1).trans (hb9.mono (Nat.le_refl _))))
                  (first | (go_at_call 61; refine (CC.out _ (below_drewN BA.out 1)).mono ?_; rintro e w9 ⟨v9, rfl, ho9, hb9⟩; obtain ⟨Ac9, cc9, rfl, -, -, -⟩ := own_cells ho9; clear ho9))
                have B9 := Lib.hid ((below_drewN (Below.refl wa.heap.size wa) 1).trans (hb9.mono (Nat.le_refl _)))
                have z9 := B9.out.size
                have y0 := (B9.out.cell (p := ⟨wr.heap.size, 0, none⟩) lt0).trans a0
                have y1 := (B9.out.cell (p := ⟨wr.heap.size, 1, none⟩) lt0).trans a1
                have BW9 := Lib.hid (BA.out.trans (B9.out.mono (by omega)))
                have BL9 := Lib.hid (BL.out.trans (B9.out.mono (by omega)))
                clear hb9 a0 a1
                by_cases hz : k = 0
                · have hz1 : decide ((0 : Int) < (k : Int)) = false := by simp; omega
                  have hz2 : decide (0 < k) = false := by simp; omega
                  have HZ0 := Lib.hid (show (t.take k).getLast?.toList = [] by rw [hz]; rfl)
                  have HN := Lib.hid (show thrGo n [] t = thrGo n [⟨pa, pb⟩] (t.drop (k + 1)) by rw [HFT.out, HDR.out, HZ0.out]; exact thrGo_go HB.out rfl)
                  clear hz
                  go_wp2_with fail
                  go_quiet (fail)
                  go_wp2_with fail
                  go_roundw
                  case rel => exact ⟨k + 1, by omega, by go_num, HN.out.trans (by rw [last_one HI.out]), below_drewN BW9.out _⟩
                  case measure => (simp [intOf] <;> omega)
                · obtain ⟨j, rfl⟩ : ∃ j, k = j + 1 := ⟨k - 1, by omega⟩
                  have hj : t[j]? = some t[j] := List.getElem?_eq_getElem (by omega)
                  have d0 := (BL9.out.cell (p := ⟨b, _, none⟩) hblt).trans (by simpa using HCS.out j _ hj 0 _ rfl)
                  have d1 := (BL9.out.cell (p := ⟨b, _, none⟩) hblt).trans (HCS.out j _ hj 1 _ rfl)
                  have HJ := Lib.hid hj
                  clear hj hz
                  generalize t[j] = q at *
                  have HL := Lib.hid (last_one HJ.out)
                  obtain ⟨qa, qb⟩ := q
                  simp only at d0 d1
                  have x1 : (j : Int) + 1 - 1 = j := by omega
                  have x2 : (0 : Int) ≤ (j : Int) := by omega
                  have x3 : (j : Int) < (t.length : Int) := by omega
                  have x4 : j < t.length := by omega
                  have x5 : IntKind.i64.wrap ((j : Int) + 1 - 1) = (j : Int) := (IntWalk.i64_in _ (by omega)).trans x1
                  have x6 : IntKind.i64.wrap (j : Int) = (j : Int) := IntWalk.i64_in _ (by omega)
                  have x7 : (0 : Int) < (j : Int) + 1 := by omega
                  have x8 : decide ((0 : Int) < (j : Int) + 1) = true := decide_eq_true x7
                  have HAF := Lib.hid (show afterT ⟨pa, pb⟩ ⟨qa, qb⟩ = (decide (qa < pa) || (decide (qa = pa) && decide (qb < pb))) from rfl)
                  have HBADO := Lib.hid (fun (ho : afterT ⟨pa, pb⟩ ⟨qa, qb⟩ = false) => show PF = 8 by
                    have : thrGo n [] t = 8 := by rw [HFT.out, HL.out, HDR.out]; exact thrGo_order HB.out (by simp [ho])
                    rw [HF.out, this]
                    rfl)
                  have HGO := Lib.hid (fun (ho : afterT ⟨pa, pb⟩ ⟨qa, qb⟩ = true) => show thrGo n [] t = thrGo n [⟨pa, pb⟩] (t.drop (j + 1 + 1)) by rw [HFT.out, HL.out, HDR.out]; exact thrGo_go HB.out (by simp [ho]))
                  by_cases h6 : pa < qa
                  · have HE := Lib.hid (HBADO.out (by rw [HAF.out, decide_eq_false (by omega), decide_eq_false (by omega)]; rfl))
                    have h6' : decide (pa < qa) = true := decide_eq_true h6
                    clear HBADO HGO HAF
                    go_wp2_with fail
                    go_quiet (fail)
                    go_wp2_with fail
                    go_ret
                    exact ⟨by rw [HE.out]; rfl, below_drewN BW9.out _⟩
                  · have h6' : decide (pa < qa) = false := decide_eq_false h6
                    by_cases h7 : pa = qa
                    · subst h7
                      have h7' : (pa == pa) = true := by simp
                      by_cases h8 : pb ≤ qb
                      · have HE := Lib.hid (HBADO.out (by rw [HAF.out, decide_eq_false (by omega), decide_eq_false (p := qb < pb) (by omega)]; simp))
                        have h8' : decide (pb ≤ qb) = true := decide_eq_true h8
                        clear HBADO HGO HAF
                        go_wp2_with fail
                        go_quiet (fail)
                        go_wp2_with fail
                        go_ret
                        exact ⟨by rw [HE.out]; rfl, below_drewN BW9.out _⟩
                      · have HN := Lib.hid (HGO.out (by rw [HAF.out, decide_eq_true (p := qb < pb) (by omega)]; simp))
                        have h8' : decide (pb ≤ qb) = false := decide_eq_false h8
                        clear HBADO HGO HAF
                        go_wp2_with fail
                        go_quiet (fail)
                        go_wp2_with fail
                        go_roundw
                        case rel => exact ⟨j + 1 + 1, by omega, by go_num, HN.out.trans (by rw [last_one HI.out]), below_drewN BW9.out _⟩
                        case measure => (simp [intOf] <;> omega)
                    · have h7' : (pa == qa) = false := by simpa using h7
                      have HN := Lib.hid (HGO.out (by rw [HAF.out, decide_eq_true (p := qa < pa) (by omega)]; rfl))
                      clear HBADO HGO HAF
                      go_wp2_with fail
                      go_quiet (fail)
                      go_wp2_with fail
                      go_roundw
                      case rel => exact ⟨j + 1 + 1, by omega, by go_num, HN.out.trans (by rw [last_one HI.out]), below_drewN BW9.out _⟩
                      case measure => (simp [intOf] <;> omega)
        · obtain rfl : k = t.length := by omega
          have hend : thrGo n [] t = 0 := by
            rw [HFT.out, List.drop_length]
            rfl
          obtain ⟨_, ht2⟩ := HZ.out hend
          have CSB1 := Lib.hid (CSB.out wr HW.out (fun x hx => by have := ht2 x hx; unfold okT; omega))
          have hmem := HSM.out ht2
          have hPF : PF = madeS (subsF R t) := by rw [HF.out, hend]; rfl
          have hLl := HSL.out
          clear hw hlt hk hkz hend ht2 HFT HZ HSM HSL
          go_wp2_with fail
          refine CSB1.out.mono ?_
          rintro e w2 ⟨v, rfl, ho, hb⟩
          obtain ⟨Av, cv, rfl, u1, u2, u3⟩ := own_rdG (l := subsF R t) (cs := Sb.cs) (fun _ => rfl) ho
          have HB2 := Lib.hid (HW.out.trans (hb.mono zw))
          have HL := Lib.hid u3
          have u2' : cv ≤ 9223372036854775807 := u2
          clear ho hb u3 u2 CSB CSB1 CC
          generalize subsF R t = L at *
          have HMEM := Lib.hid (fun x (hx : x ∈ L) => show okT x.t ∧ x.t.a ≤ x.t.b by have := hmem x hx; unfold okT; omega)
          have HPR := Lib.hid (show pairF [] (L.map Sb.bq) = pairS [] L from pair_sb [] L (fun x hx => by cases hx) (fun x hx => (HMEM.out x hx).2))
          have HE := Lib.hid (show PF = if pairS [] L then 12 else if L.any (fun x => !x.c && !heldQ x L) then 11 else 0 by rw [hPF, madeS, HPR.out])
          have hL2 : L.length ≤ 2000 := by omega
          clear hPF hmem
          go_wp2_with fail
          go_loopw [94] (fun i wr => ∃ k : Nat, k ≤ L.length ∧ i = .int .i64 k ∧ pairS [] L = pairS (L.take k) (L.drop k) ∧ Below w2.heap.size w2 wr) (fun i _ => L.length - (intOf i).toNat)
          case atStart => exact ⟨0, Nat.zero_le _, rfl, rfl, Below.refl _ _⟩
          case round =>
            obtain ⟨k, hk, rfl, hf, hw⟩ := hrel
            have HFP := Lib.hid hf
            have HWr := Lib.hid hw
            have zw := hw.size
            clear hf
            have hkz : (0 : Int) ≤ (k : Int) := by omega
            by_cases hlt : k < L.length
            · obtain ⟨b, off, rfl, hblt, hcs⟩ := (HL.out.below hw) (by omega)
              have hi : L[k]? = some L[k] := List.getElem?_eq_getElem hlt
              have c0 := by simpa using hcs k _ hi 0 _ rfl
              have c1 := hcs k _ hi 1 _ rfl
              have c2 := hcs k _ hi 2 _ rfl
              have hdr : L.drop k = L[k] :: L.drop (k + 1) := List.drop_eq_getElem_cons hlt
              have htk : L.take (k + 1) = L.take k ++ [L[k]] := by rw [List.take_add_one, hi]; rfl
              have HP := Lib.hid (show pairS [] L = ((L.take k).any (clashS L[k]) || pairS (L.take (k + 1)) (L.drop (k + 1))) by rw [HFP.out, hdr, pairS, htk])
              have hkc : k ≤ cv := by omega
              have HCS := Lib.hid hcs
              clear hdr htk hi hw hcs
              generalize L[k] = x at *
              obtain ⟨⟨xa, xb⟩, xc⟩ := x
              simp only at c0 c1 c2
              go_wp2_with fail
              obtain ⟨w8, rfl⟩ : ∃ w8, w8 = wr := ⟨wr, rfl⟩
              go_loopw [103] (fun i wx => ∃ j : Nat, j ≤ k ∧ i = .int .i64 j ∧ (L.take k).any (clashS ⟨⟨xa, xb⟩, xc⟩) = ((L.take k).drop j).any (clashS ⟨⟨xa, xb⟩, xc⟩) ∧ Below (w8.heap.size + 1) (w8.alloc (.cells #[.int .i64 xa, .int .i64 xb, .bool xc] 108)) wx) (fun i _ => k - (intOf i).toNat)
              case atStart => exact ⟨0, Nat.zero_le _, rfl, rfl, Below.refl _ _⟩
              case round =>
                obtain ⟨j, hj, rfl, ha, hw⟩ := hrel
                have HA := Lib.hid ha
                have HWX := Lib.hid hw
                have zx : w8.heap.size + 1 ≤ wr.heap.size := by simpa using hw.size
                clear ha
                have hjz : (0 : Int) ≤ (j : Int) := by omega
                have b0 : wr.cell? ⟨w8.heap.size, 0, none⟩ = some (.int .i64 xa) := (hw.cell (p := ⟨w8.heap.size, 0, none⟩) (Nat.lt_succ_self _)).trans (alloc_new_cell w8 _ _ 0 rfl)
                have b1 : wr.cell? ⟨w8.heap.size, 1, none⟩ = some (.int .i64 xb) := (hw.cell (p := ⟨w8.heap.size, 1, none⟩) (Nat.lt_succ_self _)).trans (alloc_new_cell w8 _ _ 1 rfl)
                have HBW := Lib.hid ((HWr.out.alloc HWr.out.size (.cells #[.int .i64 xa, .int .i64 xb, .bool xc] 108)).trans (HWX.out.mono (Nat.le_succ_of_le HWr.out.size)))
                have HBZ := Lib.hid (HB2.out.trans (HBW.out.mono HB2.out.size))
                have n1 : ¬ w8.heap.size = wr.heap.size := by omega
                have n2 : ¬ wr.heap.size = w8.heap.size := by omega
                have n3 : w8.heap.size < wr.heap.size := by omega
                by_cases hjk : j < k
                · have hjl : j < L.length := by omega
                  have hi : L[j]? = some L[j] := List.getElem?_eq_getElem hjl
                  have up := fun (o : Nat) (v : Value) (h : w8.cell? ⟨b, o, none⟩ = some v) => (hw.cell (p := ⟨b, o, none⟩) (by show b < w8.heap.size + 1; omega)).trans ((World.cell?_alloc_lt _ _ _ hblt).trans h)
                  have d0 := up _ _ (by simpa using HCS.out j _ hi 0 _ rfl)
                  have d1 := up _ _ (HCS.out j _ hi 1 _ rfl)
                  have d2 := up _ _ (HCS.out j _ hi 2 _ rfl)
                  have HDC := Lib.hid (show ((L.take k).drop j).any (clashS ⟨⟨xa, xb⟩, xc⟩) = (clashS ⟨⟨xa, xb⟩, xc⟩ L[j] || ((L.take k).drop (j + 1)).any (clashS ⟨⟨xa, xb⟩, xc⟩)) by
                    rw [List.drop_eq_getElem_cons (by rw [List.length_take]; omega), List.any_cons, List.getElem_take])
                  clear up hi hw
                  generalize L[j] = z at *
                  obtain ⟨⟨ya, yb⟩, yc⟩ := z
                  simp only at d0 d1 d2
                  have HQ := Lib.hid (show clashS ⟨⟨xa, xb⟩, xc⟩ ⟨⟨ya, yb⟩, yc⟩ = (decide (max xa ya ≤ min xb yb) && !inT ⟨xa, xb⟩ ⟨ya, yb⟩ && !inT ⟨ya, yb⟩ ⟨xa, xb⟩) from rfl)
                  obtain ⟨M, hM⟩ : ∃ M, M = max xa ya := ⟨_, rfl⟩
                  obtain ⟨N, hN⟩ : ∃ N, N = min xb yb := ⟨_, rfl⟩
                  rw [← hM, ← hN] at HQ
                  have hmx : (if xa < ya then ya else xa) = M := by rw [hM]; omega
                  have hmn : (if yb < xb then yb else xb) = N := by rw [hN]; omega
                  have hmx' : (if xa < ya then Value.int .i64 ya else Value.int .i64 xa) = Value.int .i64 M := by
                    rw [← hmx]
                    split <;> rfl
                  have hmn' : (if yb < xb then Value.int .i64 yb else Value.int .i64 xb) = Value.int .i64 N := by
                    rw [← hmn]
                    split <;> rfl
                  clear hM hN
                  have CI1 := Lib.hid (fun W => show Calls Try.prog 77 #[.agg #[.int .i64 xa, .int .i64 xb], .agg #[.int .i64 ya, .int .i64 yb]] W (fun e w' => e = .returned (.bool (inT ⟨xa, xb⟩ ⟨ya, yb⟩)) ∧ ∃ q os', w' = grow (W.drewN q) os') from inside_any ⟨xa, xb⟩ ⟨ya, yb⟩ W)
                  have CI2 := Lib.hid (fun W => show Calls Try.prog 77 #[.agg #[.int .i64 ya, .int .i64 yb], .agg #[.int .i64 xa, .int .i64 xb]] W (fun e w' => e = .returned (.bool (inT ⟨ya, yb⟩ ⟨xa, xb⟩)) ∧ ∃ q os', w' = grow (W.drewN q) os') from inside_any ⟨ya, yb⟩ ⟨xa, xb⟩ W)
                  by_cases hm : M ≤ N
                  · have hm' : decide (M ≤ N) = true := decide_eq_true hm
                    rw [hm', Bool.true_and] at HQ
                    cases hi1 : inT ⟨xa, xb⟩ ⟨ya, yb⟩
                    · rw [hi1] at CI1 HQ
                      cases hi2 : inT ⟨ya, yb⟩ ⟨xa, xb⟩
                      · rw [hi2] at CI2 HQ
                        have HG := Lib.hid (show PF = 12 by rw [HE.out, HP.out, HA.out, HDC.out, HQ.out]; rfl)
                        clear hi1 hi2
                        go_wp2_with (first
                          | (have _h4 := HB4; clear _h4; go_at_call 77; refine (CI2.out _).mono ?_; rintro e w6 ⟨rfl, hgw⟩; have HB6 := Lib.hid (gw_below (B := w4.heap.size) (Nat.le_refl _) hgw); clear hgw)
                          | (go_at_call 77; refine (CI1.out _).mono ?_; rintro e w4 ⟨rfl, hgw⟩; have hb4 := gw_below (B := wr.heap.size + 1) (by simp) hgw; have HB4 := Lib.hid hb4; have z4 : wr.heap.size + 1 ≤ w4.heap.size := (by simpa using hb4.size); have e0 : w4.cell? ⟨wr.heap.size, 0, none⟩ = some (.int .i64 ya) := (hb4.cell (p := ⟨wr.heap.size, 0, none⟩) (Nat.lt_succ_self _)).trans (alloc_new_cell wr _ _ 0 rfl); have e1 : w4.cell? ⟨wr.heap.size, 1, none⟩ = some (.int .i64 yb) := (hb4.cell (p := ⟨wr.heap.size, 1, none⟩) (Nat.lt_succ_self _)).trans (alloc_new_cell wr _ _ 1 rfl); have f0 : w4.cell? ⟨w8.heap.size, 0, none⟩ = some (.int .i64 xa) := (hb4.cell (p := ⟨w8.heap.size, 0, none⟩) (Nat.lt_succ_of_lt n3)).trans ((World.cell?_alloc_lt _ _ _ n3).trans b0); have f1 : w4.cell? ⟨w8.heap.size, 1, none⟩ = some (.int .i64 xb) := (hb4.cell (p := ⟨w8.heap.size, 1, none⟩) (Nat.lt_succ_of_lt n3)).trans ((World.cell?_alloc_lt _ _ _ n3).trans b1); clear hb4 hgw))
                        go_ret
                        exact ⟨by rw [HG.out]; rfl, ((HBZ.out.alloc (by have := HBZ.out.size; omega) _).trans (HB4.out.mono (by have := HBZ.out.size; omega))).trans (HB6.out.mono (by have := HBZ.out.size; omega))⟩
                      · rw [hi2] at CI2 HQ
                        have HQ0 := Lib.hid (show clashS ⟨⟨xa, xb⟩, xc⟩ ⟨⟨ya, yb⟩, yc⟩ = false by rw [HQ.out]; rfl)
                        clear hi1 hi2
                        go_wp2_with (first
                          | (have _h4 := HB4; clear _h4; go_at_call 77; refine (CI2.out _).mono ?_; rintro e w6 ⟨rfl, hgw⟩; have HB6 := Lib.hid (gw_below (B := w4.heap.size) (Nat.le_refl _) hgw); clear hgw)
                          | (go_at_call 77; refine (CI1.out _).mono ?_; rintro e w4 ⟨rfl, hgw⟩; have hb4 := gw_below (B := wr.heap.size + 1) (by simp) hgw; have HB4 := Lib.hid hb4; have z4 : wr.heap.size + 1 ≤ w4.heap.size := (by simpa using hb4.size); have e0 : w4.cell? ⟨wr.heap.size, 0, none⟩ = some (.int .i64 ya) := (hb4.cell (p := ⟨wr.heap.size, 0, none⟩) (Nat.lt_succ_self _)).trans (alloc_new_cell wr _ _ 0 rfl); have e1 : w4.cell? ⟨wr.heap.size, 1, none⟩ = some (.int .i64 yb) := (hb4.cell (p := ⟨wr.heap.size, 1, none⟩) (Nat.lt_succ_self _)).trans (alloc_new_cell wr _ _ 1 rfl); have f0 : w4.cell? ⟨w8.heap.size, 0, none⟩ = some (.int .i64 xa) := (hb4.cell (p := ⟨w8.heap.size, 0, none⟩) (Nat.lt_succ_of_lt n3)).trans ((World.cell?_alloc_lt _ _ _ n3).trans b0); have f1 : w4.cell? ⟨w8.heap.size, 1, none⟩ = some (.int .i64 xb) := (hb4.cell (p := ⟨w8.heap.size, 1, none⟩) (Nat.lt_succ_of_lt n3)).trans ((World.cell?_alloc_lt _ _ _ n3).trans b1); clear hb4 hgw))
                        go_roundw
                        case rel => exact ⟨j + 1, by omega, by go_num, by rw [HA.out, HDC.out, HQ0.out, Bool.false_or], ((HWX.out.alloc zx _).trans (HB4.out.mono (by omega))).trans (HB6.out.mono (by omega))⟩
                        case measure => (simp [intOf] <;> omega)
                    · rw [hi1] at CI1 HQ
                      have HQ0 := Lib.hid (show clashS ⟨⟨xa, xb⟩, xc⟩ ⟨⟨ya, yb⟩, yc⟩ = false by rw [HQ.out]; rfl)
                      clear hi1
                      go_wp2_with (first
                          | (go_at_call 77; refine (CI1.out _).mono ?_; rintro e w4 ⟨rfl, hgw⟩; have HB4 := Lib.hid (gw_below (B := wr.heap.size + 1) (by simp) hgw); clear hgw))
                      go_roundw
                      case rel => exact ⟨j + 1, by omega, by go_num, by rw [HA.out, HDC.out, HQ0.out, Bool.false_or], (HWX.out.alloc zx _).trans (HB4.out.mono (by omega))⟩
                      case measure => (simp [intOf] <;> omega)
                  · have hm' : decide (M ≤ N) = false := decide_eq_false hm
                    rw [hm', Bool.false_and, Bool.false_and] at HQ
                    clear CI1 CI2
                    go_wp2_with fail
                    go_roundw
                    case rel => exact ⟨j + 1, by omega, by go_num, by rw [HA.out, HDC.out, HQ.out, Bool.false_or], HWX.out.alloc zx _⟩
                    case measure => (simp [intOf] <;> omega)
                · obtain rfl : j = k := by omega
                  have HN := Lib.hid (show pairS [] L = pairS (L.take (j + 1)) (L.drop (j + 1)) by
                    rw [HP.out, HA.out, List.drop_eq_nil_of_le (by rw [List.length_take]; omega)]
                    rfl)
                  clear hw
                  go_wp2_with fail
                  go_roundw
                  case rel => exact ⟨j + 1, by omega, by go_num, HN.out, HBW.out⟩
                  case measure => (simp [intOf] <;> omega)
            · obtain rfl : k = L.length := by omega
              have HE2 := Lib.hid (show PF = if L.any (fun x => !x.c && !heldQ x L) then 11 else 0 by rw [HE.out, HFP.out, List.drop_length]; rfl)
              clear hlt hk hkz hw
              go_wp2_with fail
              go_loopw [142] (fun i wr => ∃ j : Nat, j ≤ L.length ∧ i = .int .i64 j ∧ L.any (fun x => !x.c && !heldQ x L) = (L.drop j).any (fun x => !x.c && !heldQ x L) ∧ Below w2.heap.size w2 wr) (fun i _ => L.length - (intOf i).toNat)
              case atStart => exact ⟨0, Nat.zero_le _, rfl, rfl, HWr.out⟩
              case round =>
                obtain ⟨j, hj, rfl, ha, hw⟩ := hrel
                have HA := Lib.hid ha
                have HW2 := Lib.hid hw
                have zw2 := hw.size
                clear ha
                have hjz : (0 : Int) ≤ (j : Int) := by omega
                have HBZ := Lib.hid (HB2.out.trans (HW2.out.mono HB2.out.size))
                have zz := HBZ.out.size
                by_cases hlt : j < L.length
                · have HHr := Lib.hid (HL.out.below hw)
                  obtain ⟨b, off, rfl, hblt, hcs⟩ := HHr.out (by omega)
                  have hi : L[j]? = some L[j] := List.getElem?_eq_getElem hlt
                  have c0 := by simpa using hcs j _ hi 0 _ rfl
                  have c1 := hcs j _ hi 1 _ rfl
                  have c2 := hcs j _ hi 2 _ rfl
                  have HDC := Lib.hid (show (L.drop j).any (fun x => !x.c && !heldQ x L) = ((!L[j].c && !heldQ L[j] L) || (L.drop (j + 1)).any (fun x => !x.c && !heldQ x L)) by rw [List.drop_eq_getElem_cons hlt, List.any_cons])
                  have hxo := (HMEM.out _ (List.getElem_mem hlt)).1
                  clear hcs hi hw
                  generalize L[j] = x at *
                  have CL0 := fun (W : World) (hb : Below wr.heap.size wr W) => held_any x hxo (some ⟨b, off, none⟩) L cv W (by omega) (HHr.out.below hb)
                  clear hxo
                  obtain ⟨⟨xa, xb⟩, xc⟩ := x
                  simp only at c0 c1 c2 CL0 HDC
                  cases xc with
                  | true =>
                    clear CL0
                    go_wp2_with fail
                    go_roundw
                    case rel => exact ⟨j + 1, by omega, by go_num, by rw [HA.out, HDC.out]; rfl, HW2.out.alloc zw2 _⟩
                    case measure => (simp [intOf] <;> omega)
                  | false =>
                    cases hq : heldQ ⟨⟨xa, xb⟩, false⟩ L
                    · rw [hq] at CL0 HDC
                      have CL := Lib.hid CL0
                      clear CL0
                      have HG := Lib.hid (show PF = 11 by rw [HE2.out, HA.out, HDC.out]; rfl)
                      go_wp2_with (first | (go_at_call 78; refine (CL.out _ ((Below.refl wr.heap.size wr).alloc (Nat.le_refl _) _)).mono ?_; rintro e w4 ⟨rfl, hb4⟩; have HB4 := Lib.hid hb4; clear hb4))
                      go_ret
                      exact ⟨by rw [HG.out]; rfl, (HBZ.out.alloc zz _).trans (HB4.out.mono (by simp; omega))⟩
                    · rw [hq] at CL0 HDC
                      have CL := Lib.hid CL0
                      clear CL0
                      go_wp2_with (first | (go_at_call 78; refine (CL.out _ ((Below.refl wr.heap.size wr).alloc (Nat.le_refl _) _)).mono ?_; rintro e w4 ⟨rfl, hb4⟩; have HB4 := Lib.hid hb4; clear hb4))
                      go_roundw
                      case rel => exact ⟨j + 1, by omega, by go_num, by rw [HA.out, HDC.out]; rfl, (HW2.out.alloc zw2 _).trans (HB4.out.mono (by simp; omega))⟩
                      case measure => (simp [intOf] <;> omega)
                · obtain rfl : j = L.length := by omega
                  have HG := Lib.hid (show PF = 0 by rw [HE2.out, HA.out, List.drop_length]; rfl)
                  go_wp2_with fail
                  go_ret
                  exact ⟨by rw [HG.out]; rfl, HBZ.out⟩
  · have HF := Lib.hid (show pressedF l s t = stackF l s by rw [pressed_ref, if_neg h0])
    have CS := Lib.hid CS0
    clear CS0
    generalize stackF l s = F at *
    have hd1 : (F == 0) = false := by simpa using h0
    have hd2 : (F != 0) = true := by simpa using h0
    clear h hd h0
    go_enter Try.func41, Try.ntmps41
    go_wp2_with fail
    refine CS.out.mono ?_
    rintro e w1 ⟨rfl, hb⟩
    have B1 := Lib.hid hb
    clear hb
    go_wp2_with fail
    go_ret
    exact ⟨by rw [HF.out]; rfl, B1.out⟩
end
end Go.Proofs.Ytdlglnkhhbkndaa

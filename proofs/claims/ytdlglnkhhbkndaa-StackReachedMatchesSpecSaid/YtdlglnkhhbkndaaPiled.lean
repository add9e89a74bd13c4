/- A stack is laid up (piled), whatever the world. -/
import Derived.Test.YtdlglnkhhbkndaaLayAll
namespace Go.Proofs.Ytdlglnkhhbkndaa
open Go.RowKit Go.Maps Go.WideAt Go.WideMaps
set_option linter.unusedSimpArgs false
set_option linter.unusedVariables false
set_option maxRecDepth 100000

def NamedOk (f : Lit → Option Value) (m : List Mat) : Prop := ∀ a : ByteArray, f (.string a.data.toList) = (matOf m a).map Mat.v
theorem NamedOk.nil (m : List Mat) : NamedOk (fun _ => none) (m.take 0) := fun a => rfl
theorem NamedOk.put {f : Lit → Option Value} {m : List Mat} {k : Nat} (h : NamedOk f (m.take k)) (hm : m.Pairwise (fun x y => ltS x.name y.name = true)) {p : Mat} (hp : m[k]? = some p) : NamedOk (putF f (.string p.name.data.toList) p.v) (m.take (k + 1)) := by
  intro a
  rw [matOf_take hm hp a]
  by_cases e : a = p.name
  · rw [if_pos e, e, putF_same]
    rfl
  · rw [if_neg e, putF_other (str_lit e), h a]
theorem zeroMat (w : World) : (zeroValue 37).run Try.prog w = .ok (.agg #[.string ⟨#[]⟩, .int .i64 0, .int .i64 0, .int .i64 0]) w := by kernel_rfl
theorem pile_start (W : World) : LayIn W.heap.size (W.heap.size + 1 + 1) (W.heap.size + 1) 0 (.slice none 0 0) (.slice (some ⟨W.heap.size, 0, none⟩) 1 1) (.slice none 0 0) (.slice none 0 0) (fun _ => none) []
    (((W.alloc (.cells #[.int .i64 0] 3)).alloc (.map #[] 0)).alloc (.cells #[.slice none 0 0, .slice (some ⟨W.heap.size, 0, none⟩) 1 1, .slice none 0 0, .slice none 0 0, .map (some (W.heap.size + 1))] 88)) := by
  have h0 : (W.alloc (.cells #[.int .i64 0] 3)).heap.size = W.heap.size + 1 := by simp
  have h1 : ((W.alloc (.cells #[.int .i64 0] 3)).alloc (.map #[] 0)).heap.size = W.heap.size + 1 + 1 := by simp
  refine ⟨⟨?_, by omega, own_nil, ?_, own_nil, own_nil, ?_, by omega, fun g e e' => by cases e'⟩, NumOk.nil, Nat.le_refl _, by simp⟩
  · have := (MapKept.heap_alloc ((W.alloc (.cells #[.int .i64 0] 3)).alloc (.map #[] 0)) (.cells #[.slice none 0 0, .slice (some ⟨W.heap.size, 0, none⟩) 1 1, .slice none 0 0, .slice none 0 0, .map (some (W.heap.size + 1))] 88)).1
    rw [h1] at this
    exact this
  · have h2 : (W.alloc (.cells #[.int .i64 0] 3)).ownsRow W.heap.size 3 1 (.slice (some ⟨W.heap.size, 0, none⟩) 1 1) 1 [.int .i64 0] :=
      own_mk (cur := #[.int .i64 0]) (Nat.le_refl _) (MapKept.heap_alloc W _).1 (Nat.le_refl _) (by simp [maxLen]) rfl rfl
    exact (h2.alloc _).alloc _
  · have := MapV.made (W.alloc (.cells #[.int .i64 0] 3)) Try.prog 9
    rw [h0] at this
    exact this.alloc _
theorem LayIn.old {base p q kn : Nat} {mv tv cv nv : Value} {f : Lit → Option Value} {R : List Row} {w w' : World} (h : LayIn base p q kn mv tv cv nv f R w) (hb : Below w.heap.size w w') : LayIn base p q kn mv tv cv nv f R w' := ⟨h.g.old hb, h.f, h.n, h.l⟩
theorem own_lower {w : World} {base base' n size : Nat} {e : TypeId} {v : Value} {xs : List Value} (h : w.ownsRow base e size v n xs) (hb : base' ≤ base) : w.ownsRow base' e size v n xs := by
  refine ⟨h.1, ?_⟩
  rcases h.2 with h1 | ⟨g, cap, cur, h1, h2, h3⟩
  · exact .inl h1
  · exact .inr ⟨g, cap, cur, h1, Nat.le_trans hb h2, h3⟩
theorem LayIn.lower {base base' p q kn : Nat} {mv tv cv nv : Value} {f : Lit → Option Value} {R : List Row} {w : World} (h : LayIn base p q kn mv tv cv nv f R w) (hb : base' ≤ base) : LayIn base' p q kn mv tv cv nv f R w :=
  ⟨⟨h.g.b, Nat.le_trans hb h.g.p, own_lower h.g.m hb, own_lower h.g.t hb, own_lower h.g.c hb, own_lower h.g.n hb, h.g.k, Nat.le_trans hb h.g.q, h.g.tc⟩, h.f, h.n, h.l⟩
theorem MapV.under {P : Program} {k : TypeId} {w w' : World} {b n B : Nat} {f : Lit → Option Value} (h : MapV P k w b n f) (hb : Below B w w') (hlt : b < B) : MapV P k w' b n f := h.block (hb.block b hlt)
theorem cusF_ge : ∀ (R : List Row) (i k : Nat), k ∈ cusF i R → i ≤ k ∧ k < i + R.length
  | [], _, _, h => by simp [cusF] at h
  | q :: R, i, k, h => by
    cases hq : isCu q
    · simp only [cusF, hq, Bool.false_eq_true, if_false] at h
      have := cusF_ge R (i + 1) k h
      simp only [List.length_cons]
      omega
    · simp only [cusF, hq, if_true, List.mem_cons] at h
      rcases h with rfl | h
      · simp
      · have := cusF_ge R (i + 1) k h
        simp only [List.length_cons]
        omega
theorem form_eq (R : List Row) : formG (cus R) (R.map (·.2)).length = formB R := by
  unfold formG formB
  by_cases h2 : 2 ≤ (cus R).length
  · rw [decide_eq_true h2, Bool.true_and, Bool.true_and]
    congr 1
    · cases R with
      | nil => simp [cusF] at h2
      | cons q R =>
        cases hq : isCu q
        · have hc : cus (q :: R) = cusF 1 R := by simp [cusF, hq]
          rw [hc]
          cases hh : (cusF 1 R).head? with
          | none =>
            rw [hc] at h2
            rw [List.head?_eq_none_iff] at hh
            rw [hh] at h2
            simp at h2
          | some k =>
            have hm : k ∈ cusF 1 R := List.mem_of_mem_head? hh
            have := (cusF_ge R 1 k hm).1
            have hk : ¬ k = 0 := by omega
            simp [hk, hq]
        · simp [cusF, hq]
    · rcases List.eq_nil_or_concat R with rfl | ⟨R', r, rfl⟩
      · simp [cusF] at h2
      · rw [List.concat_eq_append] at h2 ⊢
        have ha : cus (R' ++ [r]) = cusF 0 R' ++ if isCu r then [0 + R'.length] else [] := cusF_append R' 0 r
        simp only [List.length_map, List.length_append, List.length_singleton, List.getLast?_append, List.getLast?_singleton]
        cases hr : isCu r
        · rw [ha, hr]
          simp only [Bool.false_eq_true, if_false, List.append_nil]
          cases hh : (cusF 0 R').getLast? with
          | none => simp [hr]
          | some k =>
            have hm : k ∈ cusF 0 R' := List.mem_of_getLast? hh
            have := (cusF_ge R' 0 k hm).2
            have hk : ¬ (k : Int) = ((R'.length + 1 : Nat) : Int) - 1 := by omega
            simp [hr]
            omega
        · rw [ha, hr]
          simp [hr]
  · rw [decide_eq_false h2]
    rfl
theorem run_makeHint (n : Int) (w : World) : (Instr.makeMap 121 (some (.int .i64 n))).run Try.prog w = .ok (.map (some w.heap.size)) (w.alloc (.map #[] 0)) := by
  simp [Instr.makeMap, run_underlying Try.underlying121, Result.andThen]
  rfl
def PiledPost (w : World) (l : List Mat) (s : List Lay) (e : Ending) (w' : World) : Prop :=
  Below w.heap.size w w' ∧ ((stackF l s ≠ 0 ∧ e = .returned (.tuple #[.pointer none, .int .i64 (stackF l s)])) ∨
    (stackF l s = 0 ∧ ∃ p q kn mv tv cv nv f, e = .returned (.tuple #[.pointer (some ⟨p, 0, none⟩), .int .i64 0]) ∧ LayIn w.heap.size p q kn mv tv cv nv f (rowsOf l s) w'))
theorem piled_bad {w w' : World} {l : List Mat} {s : List Lay} {e : Ending} {c : Int} (hb : Below w.heap.size w w') (hc : stackF l s = c) (h0 : c ≠ 0) (he : e = .returned (.tuple #[.pointer none, .int .i64 c])) : PiledPost w l s e w' :=
  ⟨hb, .inl ⟨by rw [hc]; exact h0, by rw [hc]; exact he⟩⟩

set_option maxHeartbeats 4000000 in
theorem piled_any (A : Option Addr) (l : List Mat) (c : Nat) (A2 : Option Addr) (s : List Lay) (c2 : Nat) (w : World) (hl : l.length ≤ 140737488355328) (hl2 : s.length ≤ 140737488355328) (hn : ∀ x ∈ l, x.name.size ≤ maxLen) (hs : ∀ y ∈ s, y.name.size ≤ maxLen ∧ y.mat.size ≤ maxLen) (h : RdG 4 Mat.cs w A l) (h2 : RdG 2 Lay.cs w A2 s) :
    Calls Try.prog 54 #[.slice A l.length c, .slice A2 s.length c2] w (PiledPost w l s) := by
  have hmm := @run_makeMap Try.prog
  have hmh := run_makeHint l.length
  have H := Lib.hid h
  have H2 := Lib.hid h2
  have HN := Lib.hid hn
  have HS := Lib.hid hs
  have C1 := Lib.hid (fun W h => checkMaterials_any A l c W hl h)
  clear h h2 hn hs
  by_cases h0 : matsF l = 0
  · have HM := Lib.hid h0
    by_cases h60 : 60 < s.length
    · have HF := Lib.hid (show stackF l s = 2 by unfold stackF; rw [if_pos HM.out, if_pos h60])
      have hd60 : decide (60 < (s.length : Int)) = true := by simp; omega
      rw [h0] at C1
      clear h0
      go_enter Try.func54, Try.ntmps54
      go_wp2_with fail
      refine (C1.out _ H.out).mono ?_
      rintro e w1 ⟨rfl, hb⟩
      have B1 := Lib.hid hb
      clear hb
      go_wp2_with fail
      go_ret2
      exact piled_bad B1.out HF.out (by decide) rfl
    · have HF := Lib.hid (show stackF l s = if (rowsGo l [] s).1 = 0 then (if formB (rowsGo l [] s).2 then 0 else 3) else (rowsGo l [] s).1 by unfold stackF; rw [if_pos HM.out, if_neg h60])
      have hd60 : decide (60 < (s.length : Int)) = false := by simp; omega
      obtain ⟨hM1, hM2, hM3⟩ := matsGo_zero l [] (by
        have := h0
        unfold matsF at this
        split at this
        · cases this
        · exact this)
      have HP := Lib.hid hM2
      have HG := Lib.hid hM3
      rw [h0] at C1
      clear h0 hM1 hM2 hM3
      go_enter Try.func54, Try.ntmps54
      go_wp2_with fail
      refine (C1.out _ H.out).mono ?_
      rintro e w1 ⟨rfl, hb⟩
      have B1 := Lib.hid hb
      have z1 := hb.size
      clear hb
      go_wp2_with fail
      go_loopw [29] (fun i wr => ∃ k : Nat, k ≤ l.length ∧ i = .int .i64 k ∧ ∃ f, NamedOk f (l.take k) ∧ MapV Try.prog 9 wr w1.heap.size k f ∧ Below w.heap.size w wr) (fun i _ => l.length - (intOf i).toNat)
      case atStart => exact ⟨0, Nat.zero_le _, rfl, _, NamedOk.nil l, MapV.made _ _ _, by have := B1.out; (repeat' (first | (with_reducible exact Below.refl _ _) | (with_reducible assumption) | (with_reducible refine Below.alloc ?_ ?_ _) | (with_reducible refine Below.drew ?_) | (with_reducible refine below_drewN ?_ _) | (with_reducible refine Below.setCell ?_ ?_ _) | (with_reducible exact Nat.le_refl _) | omega | (simp only [World.size_alloc, World.size_setCell, World.size_drew]; omega) | (simp; omega) | (simp; done)))⟩
      case round =>
        obtain ⟨k, hk, rfl, f, hf, hm, hw⟩ := hrel
        have HFk := Lib.hid hf
        have HMk := Lib.hid hm
        have zw := hw.size
        clear hf hm
        have hkz : (0 : Int) ≤ (k : Int) := by omega
        by_cases hlt : k < l.length
        · obtain ⟨b, off, rfl, hblt, hcs⟩ := (H.out.below hw) (by omega)
          have hi : l[k]? = some l[k] := List.getElem?_eq_getElem hlt
          have c0 := by simpa using hcs k _ hi 0 _ rfl
          have c1 := hcs k _ hi 1 _ rfl
          have c2' := hcs k _ hi 2 _ rfl
          have c3 := hcs k _ hi 3 _ rfl
          have HI := Lib.hid hi
          have hnm := HN.out _ (List.getElem_mem hlt)
          clear hi hcs
          generalize l[k] = p at *
          go_wp2_with (first
            | (at_mapUpdate; refine wpList_put_mapV rfl (.tmp 33) (.tmp 35) (.tmp 36) 121 rfl 9 37 str_law Try.underlying121 w1.heap.size k f rfl (HMk.out.alloc _) (by unfold maxLen; omega) (.string p.name) p.v (.string p.name.data.toList) rfl rfl (keyOf_string_mk Try.underlying9 hnm) ?_; intro w5 hm5 hg5))
          go_roundw
          case rel => exact ⟨k + 1, by omega, by go_num, _, HFk.out.put HP.out HI.out, hm5, (hw.alloc zw _).grown hg5 (by simp; omega) (fun j hj => by cases hj; exact z1)⟩
          case measure => simp [intOf]; omega
        · obtain rfl : k = l.length := by omega
          have hf := HFk.out
          rw [List.take_length] at hf
          have HFl := Lib.hid hf
          have hMlt := HMk.out.lt
          clear HFk hf hlt hk
          go_wp2_with fail
          obtain ⟨w8, rfl⟩ : ∃ w8, w8 = wr := ⟨wr, rfl⟩
          have HMw := Lib.hid HMk.out
          have hN := Lib.hid hw
          have HZ1 := Lib.hid hMlt
          clear HMk hw
          go_loopw [44] (fun i wx => ∃ k : Nat, k ≤ s.length ∧ i = .int .i64 k ∧ ∃ (R : List Row) (kn : Nat) (mv tv cv nv : Value) (f2 : Lit → Option Value), rowsGo l [] s = rowsGo l R (s.drop k) ∧ R.length = k ∧ RowsOk R ∧
            LayIn w8.heap.size (w8.heap.size + 1 + 1) (w8.heap.size + 1) kn mv tv cv nv f2 R wx ∧ MapV Try.prog 9 wx w1.heap.size l.length f ∧ Below w.heap.size w wx ∧ w8.heap.size ≤ wx.heap.size) (fun i _ => s.length - (intOf i).toNat)
          case atStart => exact ⟨0, Nat.zero_le _, rfl, [], 0, _, _, _, _, _, rfl, rfl, (fun r hr => by cases hr), pile_start w8, ((HMw.out.alloc _).alloc _).alloc _, by have := hN.out; (repeat' (first | (with_reducible exact Below.refl _ _) | (with_reducible assumption) | (with_reducible refine Below.alloc ?_ ?_ _) | (with_reducible refine Below.drew ?_) | (with_reducible refine below_drewN ?_ _) | (with_reducible refine Below.setCell ?_ ?_ _) | (with_reducible exact Nat.le_refl _) | omega | (simp only [World.size_alloc, World.size_setCell, World.size_drew]; omega) | (simp; omega) | (simp; done))), by simp; omega⟩
          case round =>
            obtain ⟨k, hk, rfl, R, kn, mv, tv, cv, nv, f2, hr1, hr2, hr3, hr4, hr5, hr6, hr7⟩ := hrel
            have HR1 := Lib.hid hr1
            have HR2 := Lib.hid hr2
            have HR3 := Lib.hid hr3
            have HR4 := Lib.hid hr4
            have HR5 := Lib.hid hr5
            have z6 := hr6.size
            have hkz : (0 : Int) ≤ (k : Int) := by omega
            clear hr1 hr2 hr3 hr4 hr5
            by_cases hlt : k < s.length
            · obtain ⟨b, off, rfl, hblt, hcs⟩ := (H2.out.below hr6) (by omega)
              have hi : s[k]? = some s[k] := List.getElem?_eq_getElem hlt
              have c0 := by simpa using hcs k _ hi 0 _ rfl
              have c1 := hcs k _ hi 1 _ rfl
              have hd : s.drop k = s[k] :: s.drop (k + 1) := List.drop_eq_getElem_cons hlt
              obtain ⟨hsn, hsm⟩ := HS.out _ (List.getElem_mem hlt)
              have HD := Lib.hid hd
              clear hi hcs hd
              generalize s[k] = y at *
              cases hmo : matOf l y.mat with
              | none =>
                have HN9 := Lib.hid (show (rowsGo l [] s).1 = 9 by rw [HR1.out, HD.out, rowsGo_none hmo])
                have HFn := Lib.hid (show f (.string y.mat.data.toList) = none by rw [HFl.out, hmo]; rfl)
                clear hmo
                go_wp2_with (first
                  | (at_lookup; refine wpList_lacks_mapV rfl (.tmp 49) (.tmp 51) 121 rfl 9 37 str_law Try.underlying121 (zeroMat _) w1.heap.size l.length f rfl (HR5.out.alloc _) (.string y.mat) (.string y.mat.data.toList) rfl (keyOf_string_mk Try.underlying9 hsm) HFn.out ?_))
                go_ret2
                exact piled_bad (by (repeat' (first | (with_reducible exact Below.refl _ _) | (with_reducible assumption) | (with_reducible refine Below.alloc ?_ ?_ _) | (with_reducible refine Below.drew ?_) | (with_reducible refine below_drewN ?_ _) | (with_reducible refine Below.setCell ?_ ?_ _) | (with_reducible exact Nat.le_refl _) | omega | (simp only [World.size_alloc, World.size_setCell, World.size_drew]; omega) | (simp; omega) | (simp; done)))) (by rw [HF.out, HN9.out]; rfl) (by decide) rfl
              | some x =>
                have hxm : matF x = 0 := HG.out _ (matOf_mem hmo)
                have HX := Lib.hid hxm
                have HMO := Lib.hid hmo
                have HFn := Lib.hid (show f (.string y.mat.data.toList) = some x.v by rw [HFl.out, hmo]; rfl)
                have CL := Lib.hid (fun W (hb : Below wr.heap.size wr W) => lay_any (HR4.out.old hb) y.name hsn x hxm HR3.out (by rw [HR2.out]; omega) (Nat.le_trans hr7 hb.size))
                clear hmo hxm
                by_cases hF0 : rowF R (y.name, x) = 0
                · have HF0 := Lib.hid hF0
                  clear hF0
                  go_wp2_with (first
                    | (at_lookup; refine wpList_got_mapV rfl (.tmp 49) (.tmp 51) 121 rfl 9 37 str_law Try.underlying121 (zeroMat _) w1.heap.size l.length f rfl (HR5.out.alloc _) (.string y.mat) (.string y.mat.data.toList) rfl (keyOf_string_mk Try.underlying9 hsm) x.v HFn.out ?_))
                  refine (CL.out _ (by (repeat' (first | (with_reducible exact Below.refl _ _) | (with_reducible assumption) | (with_reducible refine Below.alloc ?_ ?_ _) | (with_reducible refine Below.drew ?_) | (with_reducible refine below_drewN ?_ _) | (with_reducible refine Below.setCell ?_ ?_ _) | (with_reducible exact Nat.le_refl _) | omega | (simp only [World.size_alloc, World.size_setCell, World.size_drew]; omega) | (simp; omega) | (simp; done))))).mono ?_
                  rintro e w2 ⟨he, hb, hn⟩
                  rw [HF0.out] at he
                  subst he
                  obtain ⟨kn', mv', tv', cv', nv', f', hL⟩ := hn HF0.out
                  have HL2 := Lib.hid hL
                  have HM2 := Lib.hid (((HR5.out.alloc _).alloc _).under hb HZ1.out)
                  have HB2 := Lib.hid (Below.trans (show Below w.heap.size w ((wr.alloc (.cells #[.string y.name, .string y.mat] 35)).alloc (.cells #[.string x.name, .int .i64 x.kind, .int .i64 x.thick, .int .i64 x.grow] 37)) by (repeat' (first | (with_reducible exact Below.refl _ _) | (with_reducible assumption) | (with_reducible refine Below.alloc ?_ ?_ _) | (with_reducible refine Below.drew ?_) | (with_reducible refine below_drewN ?_ _) | (with_reducible refine Below.setCell ?_ ?_ _) | (with_reducible exact Nat.le_refl _) | omega | (simp only [World.size_alloc, World.size_setCell, World.size_drew]; omega) | (simp; omega) | (simp; done)))) (hb.mono hN.out.size))
                  have z9 := hb.size
                  simp only [World.size_alloc] at z9
                  clear hL hn hb
                  go_wp2_with fail
                  go_roundw
                  case rel => exact ⟨k + 1, by omega, by go_num, R ++ [(y.name, x)], kn', mv', tv', cv', nv', f', by rw [HR1.out, HD.out]; exact rowsGo_go HMO.out HF0.out, by rw [List.length_append, HR2.out]; rfl, (fun r hr => by
                    rcases List.mem_append.1 hr with hr | hr
                    · exact HR3.out r hr
                    · rw [List.mem_singleton.1 hr]; exact HX.out), HL2.out, HM2.out, HB2.out, by omega⟩
                  case measure => simp [intOf]; omega
                · obtain ⟨F, hFe⟩ : ∃ F, rowF R (y.name, x) = F := ⟨_, rfl⟩
                  rw [hFe] at hF0
                  have HFE := Lib.hid hFe
                  have HF0 := Lib.hid hF0
                  have hd1 : (F == 0) = false := by simpa using hF0
                  have hd2 : (F != 0) = true := by simpa using hF0
                  have HN9 := Lib.hid (show (rowsGo l [] s).1 = F by rw [HR1.out, HD.out, rowsGo_bad HMO.out (by rw [hFe]; exact hF0), hFe])
                  clear hF0 hFe
                  go_wp2_with (first
                    | (at_lookup; refine wpList_got_mapV rfl (.tmp 49) (.tmp 51) 121 rfl 9 37 str_law Try.underlying121 (zeroMat _) w1.heap.size l.length f rfl (HR5.out.alloc _) (.string y.mat) (.string y.mat.data.toList) rfl (keyOf_string_mk Try.underlying9 hsm) x.v HFn.out ?_))
                  refine (CL.out _ (by (repeat' (first | (with_reducible exact Below.refl _ _) | (with_reducible assumption) | (with_reducible refine Below.alloc ?_ ?_ _) | (with_reducible refine Below.drew ?_) | (with_reducible refine below_drewN ?_ _) | (with_reducible refine Below.setCell ?_ ?_ _) | (with_reducible exact Nat.le_refl _) | omega | (simp only [World.size_alloc, World.size_setCell, World.size_drew]; omega) | (simp; omega) | (simp; done))))).mono ?_
                  rintro e w2 ⟨he, hb, hn⟩
                  rw [HFE.out] at he
                  subst he
                  have HB2 := Lib.hid (Below.trans (show Below w.heap.size w ((wr.alloc (.cells #[.string y.name, .string y.mat] 35)).alloc (.cells #[.string x.name, .int .i64 x.kind, .int .i64 x.thick, .int .i64 x.grow] 37)) by (repeat' (first | (with_reducible exact Below.refl _ _) | (with_reducible assumption) | (with_reducible refine Below.alloc ?_ ?_ _) | (with_reducible refine Below.drew ?_) | (with_reducible refine below_drewN ?_ _) | (with_reducible refine Below.setCell ?_ ?_ _) | (with_reducible exact Nat.le_refl _) | omega | (simp only [World.size_alloc, World.size_setCell, World.size_drew]; omega) | (simp; omega) | (simp; done)))) (hb.mono hN.out.size))
                  clear hb hn
                  go_wp2_with fail
                  go_ret2
                  exact piled_bad HB2.out (by rw [HF.out, HN9.out, if_neg HF0.out]) HF0.out rfl
            · obtain rfl : k = s.length := by omega
              have hend : rowsGo l [] s = (0, R) := by
                rw [HR1.out, List.drop_length]
                rfl
              have HE := Lib.hid hend
              have CH := Lib.hid (fun W hb => form_eq R ▸ hasForm_any ((HR4.out.old hb).g) (Nat.le_trans (cus_few R 0) HR4.out.l) (by rw [List.length_map]; exact HR4.out.l) : ∀ W, Below wr.heap.size wr W → _)
              clear hend
              cases hfb : formB R
              · have HN9 := Lib.hid (show stackF l s = 3 by rw [HF.out, HE.out]; simp [hfb])
                rw [hfb] at CH
                clear hfb
                go_wp2_with fail
                refine (CH.out _ (Below.refl _ _)).mono ?_
                rintro e w2 ⟨rfl, kk, rfl⟩
                go_wp2_with fail
                go_ret2
                exact piled_bad (below_drewN hr6 _) HN9.out (by decide) rfl
              · have HN9 := Lib.hid (show stackF l s = 0 by rw [HF.out, HE.out]; simp [hfb])
                rw [hfb] at CH
                clear hfb
                go_wp2_with fail
                refine (CH.out _ (Below.refl _ _)).mono ?_
                rintro e w2 ⟨rfl, kk, rfl⟩
                go_wp2_with fail
                go_ret2
                have hlay := HR4.out.old (below_drewN (Below.refl _ _) kk)
                exact ⟨below_drewN hr6 _, .inr ⟨HN9.out, _, _, _, _, _, _, _, _, rfl, by rw [rowsOf, HE.out]; exact LayIn.lower hlay hN.out.size⟩⟩
  · have HF := Lib.hid (show stackF l s = matsF l from if_neg h0)
    have HZ := Lib.hid h0
    generalize matsF l = F at *
    have hd1 : (F == 0) = false := by simpa using h0
    have hd2 : (F != 0) = true := by simpa using h0
    clear h0
    go_enter Try.func54, Try.ntmps54
    go_wp2_with fail
    refine (C1.out _ H.out).mono ?_
    rintro e w1 ⟨rfl, hb⟩
    have B1 := Lib.hid hb
    clear hb
    go_wp2_with fail
    go_ret2
    exact piled_bad B1.out HF.out HZ.out rfl
end Go.Proofs.Ytdlglnkhhbkndaa

/- Views: Text, Same. -/
import Derived.Test.YtijkekkjiboomaaGreatDoorPart24
namespace Go.Proofs.YtijkekkjiboomaaGreatDoor
open Go.RowKit Go.Maps
set_option linter.unusedVariables false
set_option linter.unusedSimpArgs false
set_option maxRecDepth 100000

theorem runsT_take {L : List Rn} {i : Nat} (h : i < L.length) : runsT (L.take (i + 1)) = runsT (L.take i) ++ lineT L[i] ++ [10] := by
  unfold runsT
  rw [List.take_succ_eq_append_getElem h, List.flatMap_append, List.flatMap_cons, List.flatMap_nil, List.append_nil, ← List.append_assoc]
theorem runsT_take_le (L : List Rn) (i : Nat) : (runsT (L.take i)).length ≤ (runsT L).length := by
  have e : L = L.take i ++ L.drop i := (List.take_append_drop i L).symm
  conv => rhs; rw [e]
  unfold runsT
  rw [List.flatMap_append, List.length_append]; omega
/-- A view that can be told lies in w as va, vm. -/
structure VwAt (w : World) (va vm : Value) (h : Nat) (L : List Rn) (M : List En) : Prop where
  r : SlRn w va L
  t : ∀ x ∈ L, TakR x
  l : ∀ x ∈ L, x.ml.length ≤ 1048576
  g : GoodL w h vm M
  d : h ≤ 1000
  s : (viewT L M).length ≤ 100000000000000
theorem VwAt.touch {w w' : World} {va vm : Value} {h : Nat} {L : List Rn} {M : List En} (v : VwAt w va vm h L M) (t : Touch (fun _ => False) w w') : VwAt w' va vm h L M := ⟨v.r.touch t, v.t, v.l, v.g.touch t, v.d, v.s⟩
set_option maxHeartbeats 16000000 in
theorem text_any {w : World} {va vm : Value} {h : Nat} {L : List Rn} {M : List En} (hv : VwAt w va vm h L M) (hT : TabsI w) :
    Calls Tryz.prog 12 #[.agg #[va, vm]] w fun e w' => e = .returned (.string ⟨(viewT L M).toArray⟩) ∧ Touch (fun _ => False) w w' := by
  obtain ⟨hr, ht, hml, hg, hd, hs⟩ := hv
  obtain ⟨raw, hrw, hm⟩ := hr
  have hrl := hm.len
  obtain ⟨ao, cap, rfl, a1, a2, a3⟩ := hrw.shape
  obtain ⟨mo, mcap, rfl, -⟩ := hg.sl.shape
  have HA : Hid (raw ≠ [] → _) := hrw.at
  have HM : Hid (∀ j (h1 : j < raw.length) (h2 : j < L.length), MtR w raw[j] L[j]) := hm.get
  have HT : Hid (TabsI w) := hT
  have HRL : Hid (raw.length = L.length) := hrl
  have hLl : L.length ≤ 9223372036854775807 := by omega
  have hsl : (viewT L M).length = (runsT L).length + (ensT 0 M).length := by unfold viewT; rw [List.length_append]
  have HS : Hid ((runsT L).length + (ensT 0 M).length ≤ 100000000000000) := by show _ ≤ _; omega
  have HTk : Hid (∀ x ∈ L, TakR x ∧ x.ml.length ≤ 1048576) := fun x hx => ⟨ht x hx, hml x hx⟩
  obtain ⟨w1, hw1⟩ : ∃ w1, Hid (w1 = w.alloc (.cells #[.slice ao raw.length cap, .slice mo M.length mcap] 25)) := ⟨w.alloc (.cells #[.slice ao raw.length cap, .slice mo M.length mcap] 25), Eq.refl _⟩
  obtain ⟨w2, hw2⟩ : ∃ w2, Hid (w2 = w1.alloc (.cells #[.pointer none, .slice none 0 0] 60)) := ⟨_, Eq.refl _⟩
  obtain ⟨m, hmm⟩ : ∃ m, Hid (m = w.heap.size) := ⟨_, Eq.refl _⟩
  obtain ⟨b, hbb⟩ : ∃ b, Hid (b = w1.heap.size) := ⟨_, Eq.refl _⟩
  have t1 : Touch (fun _ => False) w w1 := by rw [hw1.out]; exact (Touch.refl _ _).alloc _
  have hmb : m < b ∧ w.heap.size ≤ b := by
    rw [hmm.out, hbb.out, hw1.out]; simp
  have HB : Hid (m < b ∧ w.heap.size ≤ b) := hmb
  have H2 : Hid (w2.heap[m]? = some (.cells #[.slice ao raw.length cap, .slice mo M.length mcap] 25) ∧ BldF b b [] w2 ∧ Touch (fun _ => False) w w2 ∧ w.heap.size ≤ m) := by
    refine ⟨?_, ?_, ?_, ?_⟩
    · rw [hw2.out]
      refine hkY ((Touch.refl _ _).alloc _) ?_
      rw [hw1.out, hmm.out]; exact heap_alloc_new _ _
    · rw [hw2.out, hbb.out]; exact BldF.new w1
    · rw [hw2.out]; exact t1.alloc _
    · rw [hmm.out]; omega
  have HE : Hid (∀ W by0, Touch (fun _ => False) w W → BldF b b by0 W → by0.length + (ensT 0 M).length + 1 ≤ 140737488355328 → Calls Tryz.prog 36 #[.pointer (some ⟨b, 0, none⟩), .slice mo M.length mcap, .int .i64 0] W fun e w' => e = .returned (.tuple #[]) ∧ BldF b b (by0 ++ ensT 0 M) w' ∧ Touch (fun _ => False) w w') := fun W by0 q1 q2 q3 => tellEntries_any hT hmb.2 h M _ 0 by0 W hg (by omega) q1 q2 q2.le q3
  have HV : Hid (viewT L M = runsT L ++ ensT 0 M) := rfl
  clear hrw hm hT hrl ht hml hg hs hsl t1 hmb
  generalize viewT L M = VT at *
  have hst := run_store_f64 Tryz.prog
  go_enter Tryz.func12, Tryz.ntmps12
  go_upto_region 1 with fail
  rw [← hw1.out, ← hmm.out]
  go_upto_region 2 with fail
  rw [← hw2.out, ← hbb.out]
  clear hw1 hw2 hbb hmm
  have c0 : w2.cell? ⟨m, 0, none⟩ = some (.slice ao raw.length cap) := by rw [cell_of_block H2.out.1]; rfl
  go_wp2_with fail
  clear c0
  have H3 : Hid (BldF b b (runsT (L.take 0)) w2 ∧ Touch (fun _ => False) w w2 ∧ w2.heap[m]? = some (.cells #[.slice ao raw.length cap, .slice mo M.length mcap] 25)) := ⟨H2.out.2.1, H2.out.2.2.1, H2.out.1⟩
  have HX : Hid (∀ i (h1 : i < raw.length) (h2 : i < L.length) W, Touch (fun _ => False) w W → Calls Tryz.prog 35 #[raw[i].val] W fun e w' => ∃ v', e = .returned v' ∧ NewZ W w' v' (partsT L[i])) := fun i h1 h2 W t => runParts_any ((HM.out i h1 h2).touch t) (HTk.out _ (List.getElem_mem h2)).1 (HTk.out _ (List.getElem_mem h2)).2 (HT.out.keep t)
  clear HM H2
  rw [HRL.out] at H3 ⊢
  go_loopg [9] L.length (fun gk s9 wr => ∃ i : Nat, i + gk = L.length ∧ s9 = .int .i64 (i : Int) ∧ Hid (BldF b b (runsT (L.take i)) wr ∧ Touch (fun _ => False) w wr ∧ wr.heap[m]? = some (.cells #[.slice ao L.length cap, .slice mo M.length mcap] 25)))
  case atStart => exact ⟨0, by omega, rfl, H3.out⟩
  case round =>
    obtain ⟨i, hig, rfl, HI⟩ := hrel
    by_cases hil : i < L.length
    · have hil2 : i < raw.length := by rw [HRL.out]; exact hil
      obtain ⟨g, o, rfl, -, hca⟩ := HA.out (by intro e; subst e; simp at hil2)
      obtain ⟨x0, x1, x2, x3, x4, x5, x6⟩ := hca wr HI.out.2.1 i hil2
      have hi1 : (0 : Int) ≤ (i : Int) := by omega
      have hi2 : (i : Int) < (L.length : Int) := by omega
      have HJ : Hid (runsT (L.take (i + 1)) = runsT (L.take i) ++ lineT L[i] ++ [10]) := runsT_take hil
      have hlen : (runsT (L.take i)).length + (lineT L[i]).length + 1 ≤ 140737488355328 := by
        have h1 := congrArg List.length HJ.out
        have h2 := runsT_take_le L (i + 1)
        have h3 := HS.out
        rw [List.length_append, List.length_append] at h1
        have h4 : ([10] : List UInt8).length = 1 := rfl
        omega
      obtain ⟨U, hU⟩ : ∃ U, Hid (U = wr.alloc (rwO raw[i])) := ⟨wr.alloc (rwO raw[i]), Eq.refl _⟩
      have hbx := heap_alloc_new wr (rwO raw[i])
      have tU : Touch (fun _ => False) wr U := by rw [hU.out]; exact (Touch.refl _ _).alloc _
      rw [← hU.out] at hbx
      have HP : Hid (Calls Tryz.prog 35 #[raw[i].val] U fun e w' => ∃ v', e = .returned v' ∧ NewZ U w' v' (partsT L[i])) := HX.out i hil2 hil U (HI.out.2.1.trans tU)
      have HL : Hid (∀ W v, Touch (fun _ => False) U W → SlZ W v (partsT L[i]) → Calls Tryz.prog 34 #[.pointer (some ⟨b, 0, none⟩), v] W fun e w' => e = .returned (.tuple #[]) ∧ Hid (BldF b b (runsT (L.take (i + 1))) w' ∧ Touch (fun _ => False) w w' ∧ w'.heap[m]? = some (.cells #[.slice (some ⟨g, o, none⟩) L.length cap, .slice mo M.length mcap] 25))) := fun W v t sl => by
        have hb2 := HI.out.1.touch (tU.trans t)
        refine (tellLine_any hb2 sl (by rw [joinZ_partsT]; exact hlen) hb2.le).mono ?_
        rintro e' w' ⟨q1, q2, q3⟩
        rw [joinZ_partsT] at q2
        refine ⟨q1, by rw [HJ.out]; exact q2, ((HI.out.2.1.trans tU).trans t).onto HB.out.2 q3.below, ?_⟩
        exact (q3.below.block m HB.out.1).trans (hkY (tU.trans t) HI.out.2.2)
      clear hca HA HX HI HJ hlen tU
      generalize partsT L[i] = pt at *
      generalize raw[i] = a at *
      obtain ⟨rtx, rem, rvk, rvn, rvf, rvs, ⟨rma, rmn, rmc⟩⟩ := a
      simp only at x0 x1 x2 x3 x4 x5 x6 HP
      obtain ⟨p0, p1, p2, p3, p4, p5, p6⟩ := rwO_cells hbx
      have hU2 : Hid (U = wr.alloc (.cells #[.string rtx, .bool rem, .int .i64 rvk, .int .i64 rvn, .float .f64 rvf, .string rvs, .slice rma rmn rmc] 48)) := hU
      clear hU hbx hil2 HRL
      go_upto_region 5 with fail
      rw [← hU2.out]
      clear hU2 x0 x1 x2 x3 x4 x5 x6
      generalize wr.heap.size = bx at *
      go_wp2_with fail
      refine HP.out.mono ?_
      rintro e W1 ⟨v1, rfl, hN⟩
      have hsl := hN.sl
      obtain ⟨vo, vc, rfl, -⟩ := hsl.shape
      have HC : Hid (Calls Tryz.prog 34 #[.pointer (some ⟨b, 0, none⟩), .slice vo pt.length vc] W1 fun e w' => e = .returned (.tuple #[]) ∧ Hid (BldF b b (runsT (L.take (i + 1))) w' ∧ Touch (fun _ => False) w w' ∧ w'.heap[m]? = some (.cells #[.slice (some ⟨g, o, none⟩) L.length cap, .slice mo M.length mcap] 25))) := HL.out W1 _ hN.touch hsl
      clear hN hsl HL HP p0 p1 p2 p3 p4 p5 p6
      go_wp2_with fail
      refine HC.out.mono ?_
      rintro e W2 ⟨rfl, HF⟩
      clear HC
      go_wp2_with fail
      go_roundg (L.length - (i + 1))
      case measure => omega
      case rel => exact ⟨i + 1, by omega, by go_num, HF.out⟩
    · have : i = L.length := by omega
      subst this
      have HF : Hid (BldF b b (runsT L) wr ∧ Touch (fun _ => False) w wr ∧ wr.heap[m]? = some (.cells #[.slice ao L.length cap, .slice mo M.length mcap] 25)) := by
        have k := HI.out
        rw [List.take_length] at k
        exact k
      have q1 : wr.cell? ⟨m, 1, none⟩ = some (.slice mo M.length mcap) := by rw [cell_of_block HF.out.2.2]; rfl
      have HC : Hid (Calls Tryz.prog 36 #[.pointer (some ⟨b, 0, none⟩), .slice mo M.length mcap, .int .i64 0] wr fun e w' => e = .returned (.tuple #[]) ∧ BldF b b VT w' ∧ Touch (fun _ => False) w w') := by
        rw [HV.out]
        exact HE.out wr _ HF.out.2.1 HF.out.1 (by have := HS.out; omega)
      clear HI HA HX HF HE
      go_wp2_with fail
      refine HC.out.mono ?_
      rintro e W1 ⟨rfl, q1, q2⟩
      have HC2 : Hid (Calls Tryz.prog 37 #[.pointer (some ⟨b, 0, none⟩)] W1 fun e w' => e = .returned (.string ⟨VT.toArray⟩) ∧ Touch (fun _ => False) w w') := (b_strA b b VT W1 q1 q1.le).mono fun e w' ⟨r1, r2, r3⟩ => ⟨r1, q2.onto HB.out.2 r3.below⟩
      clear q1 q2 HC
      go_wp2_with fail
      refine HC2.out.mono ?_
      rintro e W2 ⟨rfl, t2⟩
      have HF : Hid (Touch (fun _ => False) w W2) := t2
      clear t2 HC2
      go_wp2_with fail
      go_ret
      exact ⟨rfl, HF.out⟩
theorem viewO_cells {W : World} {m : Nat} {a b : Value} (h : W.heap[m]? = some (.cells #[a, b] 25)) : W.cell? ⟨m, 0, none⟩ = some a ∧ W.cell? ⟨m, 1, none⟩ = some b := ⟨by rw [cell_of_block h]; rfl, by rw [cell_of_block h]; rfl⟩
theorem toBytes_eq (a b : List UInt8) : (ByteArray.toList ⟨a.toArray⟩ == ByteArray.toList ⟨b.toArray⟩) = decide (a = b) := by
  rw [ByteArray.toList_eq, ByteArray.toList_eq]
  by_cases h : a = b
  · subst h; simp
  · rw [decide_eq_false h]; simpa using h
set_option maxHeartbeats 16000000 in
theorem vsame_any {w : World} {va vm vb vn : Value} {h k : Nat} {L K : List Rn} {M N : List En} (hv : VwAt w va vm h L M) (hu : VwAt w vb vn k K N) (hT : TabsI w) :
    Calls Tryz.prog 13 #[.agg #[va, vm], .agg #[vb, vn]] w fun e w' => e = .returned (.bool (decide (viewT L M = viewT K N))) ∧ Touch (fun _ => False) w w' := by
  have HA : Hid (∀ W, Touch (fun _ => False) w W → Calls Tryz.prog 12 #[.agg #[va, vm]] W fun e w' => e = .returned (.string ⟨(viewT L M).toArray⟩) ∧ Touch (fun _ => False) W w') := fun W t => text_any (hv.touch t) (hT.keep t)
  have HB : Hid (∀ W, Touch (fun _ => False) w W → Calls Tryz.prog 12 #[.agg #[vb, vn]] W fun e w' => e = .returned (.string ⟨(viewT K N).toArray⟩) ∧ Touch (fun _ => False) W w') := fun W t => text_any (hu.touch t) (hT.keep t)
  have HD : Hid ((ByteArray.toList ⟨(viewT L M).toArray⟩ == ByteArray.toList ⟨(viewT K N).toArray⟩) = decide (viewT L M = viewT K N)) := toBytes_eq _ _
  obtain ⟨ao, ca, rfl, -⟩ := hv.r.shape
  obtain ⟨mo, mc, rfl, -⟩ := hv.g.sl.shape
  obtain ⟨bo, cb, rfl, -⟩ := hu.r.shape
  obtain ⟨no, nc, rfl, -⟩ := hu.g.sl.shape
  clear hv hu hT
  generalize decide (viewT L M = viewT K N) = dd at *
  generalize ByteArray.mk (viewT L M).toArray = x at *
  generalize ByteArray.mk (viewT K N).toArray = y at *
  obtain ⟨E, hE⟩ : ∃ E, Hid (E = (w.alloc (.cells #[.slice ao L.length ca, .slice mo M.length mc] 25)).alloc (.cells #[.slice bo K.length cb, .slice no N.length nc] 25)) := ⟨(w.alloc (.cells #[.slice ao L.length ca, .slice mo M.length mc] 25)).alloc (.cells #[.slice bo K.length cb, .slice no N.length nc] 25), Eq.refl _⟩
  obtain ⟨m, hmm⟩ : ∃ m, Hid (m = w.heap.size) := ⟨_, Eq.refl _⟩
  have HTE : Touch (fun _ => False) w E := by rw [hE.out]; exact ((Touch.refl _ _).alloc _).alloc _
  have HQ := heap_alloc2 w (.cells #[.slice ao L.length ca, .slice mo M.length mc] 25) (.cells #[.slice bo K.length cb, .slice no N.length nc] 25)
  rw [← hE.out, ← hmm.out] at HQ
  have HS : Hid (∀ W, Touch (fun _ => False) E W → (W.cell? ⟨m, 0, none⟩ = some (.slice ao L.length ca) ∧ W.cell? ⟨m, 1, none⟩ = some (.slice mo M.length mc) ∧ W.cell? ⟨m + 1, 0, none⟩ = some (.slice bo K.length cb) ∧ W.cell? ⟨m + 1, 1, none⟩ = some (.slice no N.length nc))) := fun W t => by
    obtain ⟨a, b⟩ := viewO_cells (hkY t HQ.1)
    obtain ⟨c, d⟩ := viewO_cells (hkY t HQ.2)
    exact ⟨a, b, c, d⟩
  have HTw : Hid (Touch (fun _ => False) w E) := HTE
  clear HQ HTE
  go_enter Tryz.func13, Tryz.ntmps13
  go_upto_region 1 with fail
  rw [← hE.out, ← hmm.out]
  clear hE hmm
  have TD : Touch (fun _ => False) E E.drew := (Touch.refl _ E).drew
  have S0 := HS.out _ TD
  go_region_held3 (fun W => W.cell? ⟨m, 0, none⟩ = some (.slice ao L.length ca) ∧ W.cell? ⟨m, 1, none⟩ = some (.slice mo M.length mc) ∧ W.cell? ⟨m + 1, 0, none⟩ = some (.slice bo K.length cb) ∧ W.cell? ⟨m + 1, 1, none⟩ = some (.slice no N.length nc)) (first | assumption)
    (first
      | (go_at_call 12; first
          | ((with_reducible refine (HA.out _ (HTw.out.trans (by assumption))).mono ?_); rintro e w1 ⟨rfl, t1⟩; have TT := Touch.trans (by assumption) t1; have S1 := HS.out w1 TT; clear t1)
          | ((with_reducible refine (HB.out _ (HTw.out.trans (by assumption))).mono ?_); rintro e w1 ⟨rfl, t1⟩; have TT := Touch.trans (by assumption) t1; have S1 := HS.out w1 TT; clear t1)))
  all_goals (have HF := HTw.out.trans TT; clear S0 S1 HA HB HS TD TT HTw)
  all_goals (try go_wp2_with fail)
  all_goals go_ret
  all_goals exact ⟨by rw [← HD.out]; rfl, HF⟩
end Go.Proofs.YtijkekkjiboomaaGreatDoor

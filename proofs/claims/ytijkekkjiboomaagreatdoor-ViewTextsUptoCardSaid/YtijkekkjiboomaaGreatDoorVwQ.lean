/- The document's runs: Clean. -/
import Derived.Test.YtijkekkjiboomaaGreatDoorPart21
namespace Go.Proofs.YtijkekkjiboomaaGreatDoor
open Go.RowKit Go.Maps
set_option linter.unusedVariables false
set_option linter.unusedSimpArgs false
set_option maxRecDepth 100000

/-- A list of runs in a row of our own, whose marks lie in w. -/
structure Nu (w : World) (out : List Rn) (v : Value) (W : World) : Prop where
  row : ∃ raw, NewW w W v raw ∧ AllMt w raw out
theorem Nu.t {w W : World} {out : List Rn} {v : Value} (h : Nu w out v W) : Touch (fun _ => False) w W := by
  obtain ⟨raw, h1, -⟩ := h.row; exact h1.touch
theorem Nu.touch {w W W' : World} {out : List Rn} {v : Value} (h : Nu w out v W) (t : Touch (fun _ => False) W W') : Nu w out v W' := by
  obtain ⟨raw, h1, h2⟩ := h.row; exact ⟨raw, h1.on t, h2⟩
theorem Nu.sl {w W : World} {out : List Rn} {v : Value} (h : Nu w out v W) : SlRn W v out := by
  obtain ⟨raw, h1, h2⟩ := h.row; exact ⟨raw, h1.sl, h2.touch h1.touch⟩
theorem Nu.nil (w : World) {W : World} (t : Touch (fun _ => False) w W) : Nu w [] (.slice none 0 0) W := ⟨[], NewW.nil _ _ t, trivial⟩
theorem Nu.app {w W : World} {out : List Rn} {v : Value} (h : Nu w out v W) (r : Rw) (x : Rn) (hr : MtR w r x) (hlen : out.length ≤ 1048576) :
    ∃ ao c W', (Builtin.append_ #[22, 22] 22 #[v, .slice (some ⟨W.heap.size, 0, none⟩) 1 1]).run Tryz.prog (W.alloc (rwO r)) = .ok (.slice ao (out.length + 1) c) W' ∧ Nu w (out ++ [x]) (.slice ao (out.length + 1) c) W' := by
  obtain ⟨raw, h1, h2⟩ := h.row
  have hl := h2.len
  obtain ⟨v', W', hrun, hO, -⟩ := h1.app1 r (by omega)
  obtain ⟨ao, cap, e, -⟩ := hO.shape
  have e2 : (raw ++ [r]).length = out.length + 1 := by simp [hl]
  rw [e2] at e
  exact ⟨ao, cap, W', by rw [hrun, e], raw ++ [r], by rw [← e]; exact hO, h2.snoc hr⟩
theorem cellsW_setT : ∀ (l : List Rw) (j : Nat) (h : j < l.length) (t : ByteArray), (cellsW l).set (j * 7) (.string t) = cellsW (l.set j (l[j].withT t))
  | r :: l, 0, _, t => by rw [cellsW_cons]; rfl
  | r :: l, j + 1, h, t => by
    have ih := cellsW_setT l j (by simpa using h) t
    rw [cellsW_cons, show (j + 1) * 7 = j * 7 + 7 from by omega]
    simp only [List.set_cons_succ, List.getElem_cons_succ, cellsW_cons, ih]
/-- Its last one. -/
theorem Nu.last {w W : World} {init : List Rn} {a : Rn} {v : Value} (h : Nu w (init ++ [a]) v W) : ∃ g cap rl, v = .slice (some ⟨g, 0, none⟩) (init.length + 1) cap ∧ MtR w rl a ∧ w.heap.size ≤ g ∧ (∀ W', Touch (fun _ => False) W W' → W'.cell? ⟨g, init.length * 7, none⟩ = some (.string rl.tx) ∧ W'.cell? ⟨g, init.length * 7 + 1, none⟩ = some (.bool rl.em) ∧ W'.cell? ⟨g, init.length * 7 + 6, none⟩ = some (.slice rl.ms.a rl.ms.n rl.ms.c) ∧ W'.frozen? ⟨g, init.length * 7, none⟩ = false) ∧ ∀ s W', Touch (fun _ => False) W W' → Nu w (init ++ [a.more s]) v (W'.setCell ⟨g, init.length * 7, none⟩ (.string (rl.tx ++ s))) := by
  obtain ⟨raw, h1, h2⟩ := h.row
  obtain ⟨ri, rl', rfl, m1, m2⟩ := h2.split
  obtain ⟨rl, rfl, m3⟩ := m2.one
  have hri : ri.length = init.length := m1.len
  have hne : ri ++ [rl] ≠ [] := by simp
  obtain ⟨ao, cap, e, hao, q1, q2⟩ := h1.shape
  obtain ⟨g, rfl⟩ := hao (by simp)
  subst e
  have hat := h1.at
  have hlt : g < W.heap.size := World.block_lt_of_cell? _ _ (hat 0 (by simp)).1
  have hel : (ri ++ [rl]).length = init.length + 1 := by simp [hri]
  refine ⟨g, cap, rl, by rw [hel], m3, h1.fresh g rfl, fun W' t => ?_, fun s W' t => ?_⟩
  · have hx := (hat.touch t id) ri.length (by simp)
    have hg : (ri ++ [rl]).getD init.length default = rl := by rw [← hri]; simp [List.getD]
    rw [hri] at hx
    simp only [hg] at hx
    exact ⟨hx.1, hx.2.2.1, hx.2.2.2.2.2.2.2.2.2.2.2.2.1, hx.2.1⟩
  · refine ⟨ri ++ [rl.withT (rl.tx ++ s)], ?_, m1.snoc ⟨?_, m3.em, m3.v, m3.ml⟩⟩
    · have := (h1.on t).set rfl (ri.length * 7) (by simp) (.string (rl.tx ++ s)) rfl
      rw [cellsW_setT _ ri.length (by simp)] at this
      have e2 : (ri ++ [rl]).set ri.length ((ri ++ [rl])[ri.length].withT (rl.tx ++ s)) = ri ++ [rl.withT (rl.tx ++ s)] := by simp
      rw [e2, hri] at this
      have e3 : (ri ++ [rl.withT (rl.tx ++ s)]).length = (ri ++ [rl]).length := by simp
      show OwnW w _ _ (ri ++ [rl.withT (rl.tx ++ s)]).length (cellsW _)
      rw [e3]
      exact this
    · show rl.tx ++ s = a.tx ++ s
      rw [m3.tx]
theorem cleanR_take {L : List Rn} {i : Nat} (h : i < L.length) : cleanR (L.take (i + 1)) = clR (cleanR (L.take i)) L[i] := by
  unfold cleanR
  rw [List.take_succ_eq_append_getElem h, List.foldl_append]; rfl
theorem clR_len (out : List Rn) (r : Rn) : (clR out r).length ≤ out.length + 1 := by
  unfold clR
  split
  · omega
  · split
    · simp
    · split
      · simp
      · simp
theorem clR_tot (out : List Rn) (x : Rn) : tot (clR out x) ≤ tot out + (x.tx.size + x.ml.length + 1) := by
  have hb : tot (out ++ [x]) ≤ tot out + (x.tx.size + x.ml.length + 1) := by
    rw [tot_append, tot_cons, tot_nil]
    omega
  unfold clR
  split
  · omega
  · rcases getLast_cases out with ⟨e, e1⟩ | ⟨pre, a, e, e1, e2⟩
    · rw [e1]; exact hb
    · rw [e1, e2]
      simp only
      split
      · have e3 : (a.more x.tx).tx.size = a.tx.size + x.tx.size := by show (a.tx ++ x.tx).size = _; simp [ByteArray.size_append]
        have e4 : tot out = tot pre + (a.tx.size + a.ml.length + 1) := by rw [e, tot_append, tot_cons]; rfl
        have e5 : (a.more x.tx).ml.length = a.ml.length := rfl
        rw [tot_append, tot_cons, e3, e4, e5, tot_nil]
        omega
      · exact hb
theorem cleanR_tot (L : List Rn) : ∀ i, tot (cleanR (L.take i)) ≤ tot (L.take i)
  | 0 => by simp [cleanR, tot]
  | i + 1 => by
    have ih := cleanR_tot L i
    by_cases h : i < L.length
    · rw [cleanR_take h, List.take_succ_eq_append_getElem h, tot_append, tot_cons, tot_nil]
      have := clR_tot (cleanR (L.take i)) L[i]
      omega
    · have e : L.take (i + 1) = L.take i := by rw [List.take_of_length_le (by omega), List.take_of_length_le (by omega)]
      rw [e]
      exact ih
set_option maxHeartbeats 16000000 in
theorem qclean_any {w : World} {v : Value} {L : List Rn} (hv : SlRn w v L) (dL : ∀ r ∈ L, r.Dbl) (ht : tot L ≤ 1048576) :
    Calls Tryz.prog 20 #[v] w fun e w' => ∃ v', e = .returned v' ∧ SlRn w' v' (cleanR L) ∧ Touch (fun _ => False) w w' := by
  obtain ⟨raw, hr, hm⟩ := hv
  have hrl := hm.len
  obtain ⟨ao, cap, rfl, a1, a2, a3⟩ := hr.shape
  have HA : Hid (raw ≠ [] → _) := hr.at
  have HM : Hid (∀ j (h1 : j < raw.length) (h2 : j < L.length), MtR w raw[j] L[j]) := hm.get
  have hll : L.length ≤ 1048576 := Nat.le_trans (tot_len L) ht
  have HRL : Hid (raw.length = L.length) := hrl
  have HW : Hid (Touch (fun _ => False) w w) := Touch.refl _ _
  have HD : Hid (∀ r ∈ L, r.Dbl) := dL
  have HDc : Hid (∀ i, ∀ r ∈ cleanR (L.take i), ∀ m ∈ r.ml, m.vf < 18446744073709551616) := fun i => by
    induction i with
    | zero => intro r hr; cases hr
    | succ i ih =>
      by_cases hi : i < L.length
      · rw [cleanR_take hi]
        intro r hr
        unfold clR at hr
        split at hr
        · exact ih r hr
        · split at hr
          · rcases List.mem_append.1 hr with hr | hr
            · exact ih r hr
            · rw [List.mem_singleton] at hr; subst hr; exact (dL _ (List.getElem_mem hi)).m
          · next a hla =>
            split at hr
            · rcases List.mem_append.1 hr with hr | hr
              · exact ih r ((List.dropLast_sublist _).subset hr)
              · rw [List.mem_singleton] at hr; subst hr
                exact ih a (List.mem_of_getLast? hla)
            · rcases List.mem_append.1 hr with hr | hr
              · exact ih r hr
              · rw [List.mem_singleton] at hr; subst hr; exact (dL _ (List.getElem_mem hi)).m
      · rw [List.take_of_length_le (by omega)]
        rw [List.take_of_length_le (by omega)] at ih
        exact ih
  have HN : Hid (cleanR (L.take L.length) = cleanR L) := by rw [Hid, List.take_length]
  clear hr hm hrl a1 a2 a3 dL
  rw [HRL.out]
  generalize hN : cleanR L = N at *
  clear hN
  go_enter Tryz.func20, Tryz.ntmps20
  go_wp2_with fail
  go_loopg [3, 4] L.length (fun gk s3 s4 wr => ∃ (i : Nat) (ao : Option Addr) (c : Nat) (out : List Rn), i + gk = L.length ∧ s3 = .slice ao out.length c ∧ s4 = .int .i64 (i : Int) ∧ out.length ≤ i ∧ Hid (Nu w out (.slice ao out.length c) wr ∧ out = cleanR (L.take i)))
  case atStart => exact ⟨0, none, 0, [], by omega, rfl, rfl, Nat.le_refl _, Nu.nil _ HW.out, rfl⟩
  case round =>
    obtain ⟨i, so, sc, out, hig, rfl, rfl, hol, HI⟩ := hrel
    by_cases hil : i < L.length
    · have hil2 : i < raw.length := by rw [HRL.out]; exact hil
      obtain ⟨b, o, rfl, -, hca⟩ := HA.out (by intro e; subst e; simp at hil2)
      have HX : Hid (∀ W, Touch (fun _ => False) w W → _) := fun W (t : Touch (fun _ => False) w W) => hca W t i hil2
      have HMi : Hid (MtR w raw[i] L[i]) := HM.out i hil2 hil
      have HDi : Hid (L[i].Dbl) := HD.out _ (List.getElem_mem hil)
      have HOd : Hid (∀ r ∈ out, ∀ m ∈ r.ml, m.vf < 18446744073709551616) := by rw [HI.out.2]; exact HDc.out i
      have HTo : Hid (tot out ≤ 1048576 ∧ L[i].tx.size ≤ 1048576) := by
        have h1 := cleanR_tot L i
        have h2 := tot_take L i
        have h3 := tot_mem (List.getElem_mem hil)
        rw [HI.out.2]
        exact ⟨by omega, by omega⟩
      have HNx : Hid (cleanR (L.take (i + 1)) = clR out L[i]) := by rw [HI.out.2]; exact cleanR_take hil
      have HCu : Hid (Nu w out (.slice so out.length sc) wr) := HI.out.1
      have hi1 : (0 : Int) ≤ (i : Int) := by omega
      have hi2 : (i : Int) < (L.length : Int) := by omega
      have hiw1 : IntKind.i64.wrap ((i : Int) + 1) = (i : Int) + 1 := by rw [IntKind.wrap_i64]; omega
      clear hca HA HM HI HD HDc HRL HN
      generalize raw[i] = r at *
      generalize L[i] = x at *
      obtain ⟨x0, x1, x2, x3, x4, x5, x6⟩ := HX.out wr HCu.out.t
      obtain ⟨rtx, rem, rvk, rvn, rvf, rvs, ⟨rma, rmn, rmc⟩⟩ := r
      simp only at x0 x1 x2 x3 x4 x5 x6 HX
      have HEm : Hid (rem = x.em) := HMi.out.em
      have HTx : Hid (rtx = x.tx) := HMi.out.tx
      by_cases hsk : rem = false ∧ rtx.toList = []
      · obtain ⟨rfl, htx⟩ := hsk
        have HS : Hid (cleanR (L.take (i + 1)) = out) := by
          rw [Hid, HNx.out]
          unfold clR
          rw [if_pos (by rw [← HEm.out, ← HTx.out, htx]; rfl)]
        go_wp2_with fail
        go_roundg (L.length - (i + 1))
        case measure => omega
        case rel => exact ⟨i + 1, so, sc, out, by omega, rfl, by go_num, by omega, HCu.out, HS.out.symm⟩
      · have hsk1 : rem = false → ¬ rtx.toList = [] := fun e1 e2 => hsk ⟨e1, e2⟩
        have HSk : Hid ((!x.em && (x.tx.toList == [])) = false) := by
          rw [← HEm.out, ← HTx.out]
          show (!rem && (rtx.toList == [])) = false
          cases rem with
          | true => rfl
          | false => simp [hsk1 rfl]
        have hlo : out.length ≤ 1048576 := by omega
        have HLe : Hid ((out ++ [x]).length ≤ i + 1) := by rw [Hid, List.length_append]; simp; omega
        rcases List.eq_nil_or_concat out with rfl | ⟨init, a, hcc⟩
        · have HS : Hid (cleanR (L.take (i + 1)) = [] ++ [x]) := by
            rw [Hid, HNx.out]
            unfold clR
            rw [if_neg (by rw [HSk.out]; decide)]; rfl
          have hd0 : decide ((0 : Int) < (0 : Int)) = false := by decide
          clear HNx HSk HDi HOd
          cases rem with
          | true =>
            go_upto_region 8 with fail
            go_quiet (fail)
            have HCu2 : Hid (Nu w [] (.slice so 0 sc) (wr.drewN nq)) := HCu.out.touch ((Touch.refl _ wr).drewN nq)
            clear x0 x1 x2 x3 x4 x5 x6 HCu
            obtain ⟨y0, y1, y2, y3, y4, y5, y6⟩ := HX.out _ HCu2.out.t
            obtain ⟨so2, sc2, W3, hrun, hC3⟩ := HCu2.out.app _ _ HMi.out hlo
            have H3 : Hid (Nu w (([] : List Rn) ++ [x]) (.slice so2 (([] : List Rn) ++ [x]).length sc2) W3) := by rw [show (([] : List Rn) ++ [x]).length = ([] : List Rn).length + 1 from by simp]; exact hC3
            clear hC3 HCu2 HX HMi
            go_wp2_with (at_builtin; refine wpList_append_runW rfl _ _ rfl _ _ _ rfl rfl hrun ?_)
            clear hrun
            go_wp2_with fail
            go_roundg (L.length - (i + 1))
            case measure => omega
            case rel => exact ⟨i + 1, so2, sc2, ([] : List Rn) ++ [x], by omega, by rw [show (([] : List Rn) ++ [x]).length = ([] : List Rn).length + 1 from by simp]; rfl, by go_num, HLe.out, H3.out, HS.out.symm⟩
          | false =>
            have htx : ¬ rtx.toList = [] := hsk1 rfl
            have htx2 : (rtx.toList == []) = false := by simp [htx]
            go_upto_region 8 with fail
            go_quiet (fail)
            have HCu2 : Hid (Nu w [] (.slice so 0 sc) (wr.drewN nq)) := HCu.out.touch ((Touch.refl _ wr).drewN nq)
            clear x0 x1 x2 x3 x4 x5 x6 HCu
            obtain ⟨y0, y1, y2, y3, y4, y5, y6⟩ := HX.out _ HCu2.out.t
            obtain ⟨so2, sc2, W3, hrun, hC3⟩ := HCu2.out.app _ _ HMi.out hlo
            have H3 : Hid (Nu w (([] : List Rn) ++ [x]) (.slice so2 (([] : List Rn) ++ [x]).length sc2) W3) := by rw [show (([] : List Rn) ++ [x]).length = ([] : List Rn).length + 1 from by simp]; exact hC3
            clear hC3 HCu2 HX HMi
            go_wp2_with (at_builtin; refine wpList_append_runW rfl _ _ rfl _ _ _ rfl rfl hrun ?_)
            clear hrun
            go_wp2_with fail
            go_roundg (L.length - (i + 1))
            case measure => omega
            case rel => exact ⟨i + 1, so2, sc2, ([] : List Rn) ++ [x], by omega, by rw [show (([] : List Rn) ++ [x]).length = ([] : List Rn).length + 1 from by simp]; rfl, by go_num, HLe.out, H3.out, HS.out.symm⟩
        · rw [List.concat_eq_append] at hcc
          subst hcc
          obtain ⟨g, cap2, rl, e, hma, hgf, hcell, hmore⟩ := HCu.out.last
          simp only [Value.slice.injEq] at e
          obtain ⟨e1, -, e3⟩ := e
          subst e1
          subst e3
          have hnl : (init ++ [a]).length = init.length + 1 := by simp
          have HL2 : Hid ((init ++ [a] ++ [x]).length = init.length + 1 + 1) := by show _ = _; simp
          obtain ⟨ltx, lem, lvk, lvn, lvf, lvs, ⟨lma, lmn, lmc⟩⟩ := rl
          simp only at hcell hmore
          have HCe : Hid (∀ W', Touch (fun _ => False) wr W' → _) := hcell
          have HMo : Hid (∀ s W', Touch (fun _ => False) wr W' → _) := hmore
          have HEl : Hid (lem = a.em) := hma.em
          obtain ⟨z0, z1, z6, zf⟩ := hcell wr (Touch.refl _ _)
          have HSn : Hid ((!x.em && (!a.em && sameL x.ml a.ml)) = false → cleanR (L.take (i + 1)) = init ++ [a] ++ [x]) := fun h => by
            rw [HNx.out]
            unfold clR
            rw [if_neg (by rw [HSk.out]; decide)]
            simp [h]
          have HSy : Hid ((!x.em && (!a.em && sameL x.ml a.ml)) = true → cleanR (L.take (i + 1)) = init ++ [a.more x.tx]) := fun h => by
            rw [HNx.out]
            unfold clR
            rw [if_neg (by rw [HSk.out]; decide)]
            simp [h]
          have i5 : IntKind.i64.wrap ((init.length : Int) + 1 - 1) = (init.length : Int) := by rw [Int.add_sub_cancel, IntKind.wrap_i64]; simp at hlo; omega
          have i9 : IntKind.i64.wrap (init.length : Int) = (init.length : Int) := by rw [IntKind.wrap_i64]; simp at hlo; omega
          have i6 : (0 : Int) ≤ (init.length : Int) := by omega
          have i7 : (init.length : Int) < (init.length : Int) + 1 := by omega
          have i8 : decide ((0 : Int) < (init.length : Int) + 1) = true := by rw [decide_eq_true_eq]; omega
          rw [hnl]
          clear hcell hmore HNx HSk
          cases rem with
          | true =>
            have HS : Hid (cleanR (L.take (i + 1)) = init ++ [a] ++ [x]) := HSn.out (by rw [← HEm.out]; rfl)
            clear HSn HSy HCe HMo z0 z1 z6 zf
            go_upto_region 8 with fail
            go_quiet (fail)
            have HCu2 : Hid (Nu w (init ++ [a]) (.slice (some ⟨g, 0, none⟩) (init ++ [a]).length sc) (wr.drewN nq)) := HCu.out.touch ((Touch.refl _ wr).drewN nq)
            clear x0 x1 x2 x3 x4 x5 x6 HCu
            obtain ⟨y0, y1, y2, y3, y4, y5, y6⟩ := HX.out _ HCu2.out.t
            obtain ⟨so2, sc2, W3, hrun, hC3⟩ := HCu2.out.app _ _ HMi.out hlo
            have H3 : Hid (Nu w ((init ++ [a]) ++ [x]) (.slice so2 ((init ++ [a]) ++ [x]).length sc2) W3) := by rw [show ((init ++ [a]) ++ [x]).length = ((init ++ [a])).length + 1 from by simp]; exact hC3
            rw [hnl] at hrun
            generalize init.length = k at *
            clear hC3 HCu2 HX HMi
            go_wp2_with (at_builtin; refine wpList_append_runW rfl _ _ rfl _ _ _ rfl rfl hrun ?_)
            clear hrun
            go_wp2_with fail
            go_roundg (L.length - (i + 1))
            case measure => omega
            case rel => exact ⟨i + 1, so2, sc2, (init ++ [a]) ++ [x], by omega, by rw [HL2.out], by go_num, HLe.out, H3.out, HS.out.symm⟩
          | false =>
            have htx : ¬ rtx.toList = [] := hsk1 rfl
            have htx2 : (rtx.toList == []) = false := by simp [htx]
            cases lem with
            | true =>
              have HS : Hid (cleanR (L.take (i + 1)) = init ++ [a] ++ [x]) := HSn.out (by rw [← HEl.out]; simp)
              clear HSn HSy HCe HMo z0 z6 zf
              go_upto_region 8 with fail
              go_quiet (fail)
              have HCu2 : Hid (Nu w (init ++ [a]) (.slice (some ⟨g, 0, none⟩) (init ++ [a]).length sc) (wr.drewN nq)) := HCu.out.touch ((Touch.refl _ wr).drewN nq)
              clear x0 x1 x2 x3 x4 x5 x6 HCu z1
              obtain ⟨y0, y1, y2, y3, y4, y5, y6⟩ := HX.out _ HCu2.out.t
              obtain ⟨so2, sc2, W3, hrun, hC3⟩ := HCu2.out.app _ _ HMi.out hlo
              have H3 : Hid (Nu w ((init ++ [a]) ++ [x]) (.slice so2 ((init ++ [a]) ++ [x]).length sc2) W3) := by rw [show ((init ++ [a]) ++ [x]).length = ((init ++ [a])).length + 1 from by simp]; exact hC3
              rw [hnl] at hrun
              generalize init.length = k at *
              clear hC3 HCu2 HX HMi
              go_wp2_with (at_builtin; refine wpList_append_runW rfl _ _ rfl _ _ _ rfl rfl hrun ?_)
              clear hrun
              go_wp2_with fail
              go_roundg (L.length - (i + 1))
              case measure => omega
              case rel => exact ⟨i + 1, so2, sc2, (init ++ [a]) ++ [x], by omega, by rw [HL2.out], by go_num, HLe.out, H3.out, HS.out.symm⟩
            | false =>
              have HSm : Hid (∀ W, Touch (fun _ => False) w W → Calls Tryz.prog 48 #[.slice rma rmn rmc, .slice lma lmn lmc] W fun e w' => e = .returned (.bool (sameL x.ml a.ml)) ∧ Touch (fun _ => False) W w') := fun W t => qsame_any (HMi.out.ml.touch t) (hma.ml.touch t) HDi.out.m (HOd.out a (by simp))
              have HU : Hid ((!x.em && (!a.em && sameL x.ml a.ml)) = sameL x.ml a.ml) := by rw [← HEm.out, ← HEl.out]; rfl
              have HSn2 : Hid (sameL x.ml a.ml = false → cleanR (L.take (i + 1)) = init ++ [a] ++ [x]) := fun h => HSn.out (by rw [HU.out]; exact h)
              have HSy2 : Hid (sameL x.ml a.ml = true → cleanR (L.take (i + 1)) = init ++ [a.more x.tx]) := fun h => HSy.out (by rw [HU.out]; exact h)
              have hcat : ¬ 9223372036854775807 < ltx.size + rtx.size := by
                have h1 := tot_mem (L := init ++ [a]) (r := a) (by simp)
                have h2 := HTo.out
                have h3 : ltx = a.tx := hma.tx
                rw [h3, HTx.out]
                omega
              obtain ⟨k, hk⟩ : ∃ k, k = init.length := ⟨_, rfl⟩
              have hkk : Hid (init.length = k) := hk.symm
              rw [← hk] at HCe HMo z0 z1 z6 zf i5 i6 i7 i8 i9 ⊢
              have HKS : Hid (∀ W, Touch (fun _ => False) wr W → W.cell? ⟨b, o + i * 7 + 1, none⟩ = some (.bool false) ∧ W.cell? ⟨b, o + i * 7 + 6, none⟩ = some (.slice rma rmn rmc) ∧ W.cell? ⟨g, k * 7 + 1, none⟩ = some (.bool false) ∧ W.cell? ⟨g, k * 7 + 6, none⟩ = some (.slice lma lmn lmc)) := fun W t => ⟨(HX.out W (HCu.out.t.trans t)).2.1, (HX.out W (HCu.out.t.trans t)).2.2.2.2.2.2, (HCe.out W t).2.1, (HCe.out W t).2.2.1⟩
              have S0 := HKS.out _ (Touch.refl _ wr).drew
              have HT0 : Hid (Touch (fun _ => False) w wr) := HCu.out.t
              have HTw : Hid (Touch (fun _ => False) wr wr.drew) := (Touch.refl _ wr).drew
              clear HSn HSy HU hk
              generalize sameL x.ml a.ml = sm at *
              go_upto_region 8 with fail
              go_region_held3 (fun W => W.cell? ⟨b, o + i * 7 + 1, none⟩ = some (.bool false) ∧ W.cell? ⟨b, o + i * 7 + 6, none⟩ = some (.slice rma rmn rmc) ∧ W.cell? ⟨g, k * 7 + 1, none⟩ = some (.bool false) ∧ W.cell? ⟨g, k * 7 + 6, none⟩ = some (.slice lma lmn lmc)) (first | assumption)
                (first
                  | (go_at_call 48; (with_reducible refine (HSm.out _ (HT0.out.trans HTw.out)).mono ?_); rintro e w1 ⟨rfl, t1⟩; have S1 := HKS.out w1 (HTw.out.trans t1); have T1 : Hid (Touch (fun _ => False) wr w1) := HTw.out.trans t1; clear t1))
              clear S0 S1 x0 x1 x2 x3 x4 x5 x6 z0 z1 z6 zf
              cases sm with
              | false =>
                have HS : Hid (cleanR (L.take (i + 1)) = init ++ [a] ++ [x]) := HSn2.out rfl
                have HCu2 : Hid (Nu w (init ++ [a]) (.slice (some ⟨g, 0, none⟩) (init ++ [a]).length sc) w1) := HCu.out.touch T1.out
                clear HCu HSm HSn2 HSy2 HKS HCe HMo
                obtain ⟨y0, y1, y2, y3, y4, y5, y6⟩ := HX.out _ HCu2.out.t
                obtain ⟨so2, sc2, W3, hrun, hC3⟩ := HCu2.out.app _ _ HMi.out hlo
                have H3 : Hid (Nu w (init ++ [a] ++ [x]) (.slice so2 (init ++ [a] ++ [x]).length sc2) W3) := by rw [show (init ++ [a] ++ [x]).length = (init ++ [a]).length + 1 from by simp]; exact hC3
                rw [hnl, hkk.out] at hrun
                rw [hkk.out] at HL2
                clear hC3 HCu2 HX HMi
                go_wp2_with (at_builtin; refine wpList_append_runW rfl _ _ rfl _ _ _ rfl rfl hrun ?_)
                clear hrun
                go_wp2_with fail
                go_roundg (L.length - (i + 1))
                case measure => omega
                case rel => exact ⟨i + 1, so2, sc2, init ++ [a] ++ [x], by omega, by rw [HL2.out], by go_num, HLe.out, H3.out, HS.out.symm⟩
              | true =>
                have HS : Hid (cleanR (L.take (i + 1)) = init ++ [a.more x.tx]) := HSy2.out rfl
                obtain ⟨z0, z1, z6, zf⟩ := HCe.out w1 T1.out
                obtain ⟨x0, -, -, -, -, -, -⟩ := HX.out w1 (HT0.out.trans T1.out)
                have H3 : Hid (Nu w (init ++ [a.more x.tx]) (.slice (some ⟨g, 0, none⟩) (init ++ [a.more x.tx]).length sc) (w1.setCell ⟨g, k * 7, none⟩ (.string (ltx ++ rtx)))) := by
                  have h := HMo.out rtx w1 T1.out
                  rw [HTx.out] at h ⊢
                  rw [show (init ++ [a.more x.tx]).length = (init ++ [a]).length from by simp]
                  exact h
                have HL3 : Hid ((init ++ [a.more x.tx]).length = k + 1 ∧ (init ++ [a.more x.tx]).length ≤ i + 1) := by
                  have := hkk.out
                  simp at hol ⊢
                  show _ ∧ _
                  omega
                clear HCu HSm HSn2 HSy2 HKS HCe HMo HX HMi
                go_upto_region 9 with fail
                go_region
                all_goals (try go_wp2_with fail)
                go_roundg (L.length - (i + 1))
                case measure => omega
                case rel => exact ⟨i + 1, some ⟨g, 0, none⟩, sc, init ++ [a.more x.tx], by omega, by rw [HL3.out.1], by go_num, HL3.out.2, H3.out.touch (Touch.refl _ _).drew, HS.out.symm⟩
    · have hEq : i = L.length := by omega
      have HF : Hid (SlRn wr (.slice so out.length sc) N ∧ Touch (fun _ => False) w wr) := by
        refine ⟨?_, HI.out.1.t⟩
        have h1 := HI.out.2
        rw [hEq, HN.out] at h1
        rw [← h1]
        exact HI.out.1.sl
      subst hEq
      clear HI HA HM HD HDc HRL HN HW
      go_wp2_with fail
      go_ret
      exact ⟨_, rfl, HF.out.1, HF.out.2⟩
end Go.Proofs.YtijkekkjiboomaaGreatDoor

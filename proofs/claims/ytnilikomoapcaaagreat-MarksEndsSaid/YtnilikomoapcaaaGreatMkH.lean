/- Package marks: At. -/
import Derived.Test.YtnilikomoapcaaaGreatPart25
import Derived.Test.YtnilikomoapcaaaGreatPart27
namespace Go.Proofs.YtnilikomoapcaaaGreat
open Go.RowKit Go.Shelf Go.Maps Go.Sort
set_option linter.unusedVariables false
set_option linter.unusedSimpArgs false
set_option maxRecDepth 100000
attribute [local go_sem] Oper.semAt_some

theorem winsM_mem {place : Int} : ∀ (l : List Spn) (es : List (Key × O)) (p : Key × O), p ∈ l.foldl (winsM place) es → p ∈ es ∨ ∃ x ∈ l, p = (x.o.ky.data.toList, x.o)
  | [], es, p, h => .inl h
  | x :: l, es, p, h => by
    rw [List.foldl_cons] at h
    rcases winsM_mem l _ p h with h | ⟨y, hy, e⟩
    · have key : p ∈ aput x.o.ky.data.toList x.o es → p ∈ es ∨ ∃ y ∈ x :: l, p = (y.o.ky.data.toList, y.o) := fun h => by
        rcases mem_aput.1 h with e | e
        · exact .inr ⟨x, by simp, e⟩
        · exact .inl e.1
      unfold winsM at h
      split at h
      · exact .inl h
      · unfold winP at h
        split at h
        · exact key h
        · split at h
          · exact key h
          · exact .inl h
    · exact .inr ⟨y, by simp [hy], e⟩
theorem touch_below {w w' : World} (h : Below w.heap.size w w') : Touch (fun _ => False) w w' := ⟨h.os, h.tape, h.output, h.size, fun k hk _ => h.block k hk⟩
section
variable {F : Fence} {nF : Nat}
theorem wpListIn_lookO1 (w : World) {ops : Array Oper} {rest : List Oper} {o : Oper} {a : Act} {Q : Exit → Act → World → Prop}
    (hg : o.guard = none) (m x : Operand) (hop : o.op = Op.lookup 102 m x false) (b n : Nat) (es : List (Key × O))
    (hm : a.eval m = .map (some b)) (hown : w.ownsMap Tryz.prog 9 heldO b n (toO es)) (s : ByteArray) (hs : s.size ≤ maxLen) (hx : a.eval x = .string s)
    (hK : wpListIn F nF Tryz.prog ops Q rest (a.put o.dst (getO s.data.toList es).val) w) :
    wpListIn F nF Tryz.prog ops Q (o :: rest) a w := by
  refine wpListIn_plain hg fun K' hK' => ?_
  obtain ⟨v, ps, hrun, hv⟩ := hown.lookup lawS Tryz.underlying102 (zeroOpRun w) (R := heldO) rfl (keyStrO s hs)
  rw [toO_at] at hv
  simp only [heldO, Option.some.injEq, Prod.mk.injEq, DataW.held.injEq] at hv
  rw [hv.1] at hrun
  unfold Oper.wpIn
  refine ⟨by simp [Oper.about, hop], ?_⟩
  rw [Oper.semAt_plain F _ _ (by rw [hop]; intro c hc'; cases hc')]
  simp [execOp, hop, hm, hx, hrun, Result.andThen]
  exact hK' _ _ hK
theorem wpListIn_append_runY {w w' : World} {ops : Array Oper} {rest : List Oper} {o : Oper} {a : Act} {Q : Exit → Act → World → Prop} (hgd : o.guard = none) (s x : Operand)
    (ho : o.op = .call { callee := .builtin .append, args := #[s, x], argTypes := #[45, 45] }) (v y v' : Value) (hs : a.eval s = v) (hx : a.eval x = y)
    (hrun : (Builtin.append_ #[45, 45] o.type #[v, y]).run Tryz.prog w = .ok v' w') (h : wpListIn F nF Tryz.prog ops Q rest (a.put o.dst v') w') : wpListIn F nF Tryz.prog ops Q (o :: rest) a w := by
  refine wpListIn_plain hgd fun K' hK' => ?_
  unfold Oper.wpIn
  refine ⟨by simp [Oper.about, ho, resolve, Target.leads, Sem.run_pure], ?_⟩
  rw [Oper.semAt_plain F _ _ (by rw [ho]; intro c hc'; cases hc')]
  simp [execOp, ho, resolve, invoke, builtin, hs, hx, hrun, Result.andThen]
  exact hK' _ _ h
end
theorem build_mark (o : O) (W : World) : (Instr.buildSlice 45 1 #[(0, mkO o)]).run Tryz.prog W = .ok (.slice (some ⟨W.heap.size, 0, none⟩) 1 1) (W.alloc (myO (mk o))) := by kernel_rfl

set_option maxHeartbeats 4000000 in
theorem marksAt_any {w : World} {p g q cap : Nat} {S : SS} {l : List O} {R : Nat → Prop} (hRl : ∀ k, R k → k < w.heap.size) (hS : ∀ wr, Touch (fun k => ¬ R k) w wr → SeqRd wr p S)
    (rg : R g) (hle : l.length ≤ cap) (hmx : cap ≤ maxLen) (hl : ∀ i (h : i < l.length), w.rangeAt g (q + i * 22) l[i].vals.toList) (hf : ∀ o ∈ l, o.fits) (hky : ∀ o ∈ l, o.ky.size ≤ maxLen) (hll : l.length ≤ 1000000) (place : Int) :
    Calls Tryz.prog 17 #[.pointer (some ⟨p, 0, none⟩), .slice (some ⟨g, q, none⟩) l.length cap, .int .i64 place] w fun e w' => ∃ v, e = .returned v ∧ NewY w w' v (atM S l place) := by
  refine marksAt_upto hRl hS rg hle hmx hl hf hky place _ ?_
  intro D n Ψ W2 hD hnD hI hd
  obtain ⟨es, he⟩ : ∃ es, es = (spansM S l).foldl (winsM place) [] := ⟨_, rfl⟩
  have HR : Hid (Rising es) := by rw [he]; exact winsM_rising _ _ List.Pairwise.nil
  have HLn : Hid (es.length ≤ 1000000) := by
    have h1 := winsM_len (place := place) (spansM S l) []
    have h2 : (spansM S l).length ≤ l.length := List.length_filterMap_le _ _
    rw [Hid, he]
    simp only [List.length_nil] at h1
    omega
  have HAt : Hid (atM S l place = showM es) := by rw [he]; exact Eq.refl _
  have HKl : Hid (∀ j (h : j < es.length), (⟨⟨es[j].1⟩⟩ : ByteArray).size ≤ maxLen) := fun j h => by
    have hm : ∀ p ∈ es, p ∈ List.foldl (winsM place) [] (spansM S l) := fun p hp => by rw [← he]; exact hp
    rcases winsM_mem _ _ _ (hm _ (List.getElem_mem h)) with q | ⟨x, hx, e⟩
    · cases q
    · obtain ⟨o, ho, e2⟩ := List.mem_filterMap.1 hx
      have e3 : x.o = o := by
        unfold spanM at e2
        split at e2
        · cases e2; rfl
        · cases e2
      have := hky o ho
      rw [← e3] at this
      rw [e]
      exact this
  have HOwn : Hid (W2.ownsMap Tryz.prog 9 heldO (w.heap.size + 1) n (toO es)) := by rw [he]; exact hI.own
  have HWb : Hid (W2.heap[w.heap.size + 1 + 1]? = some (.cells #[.map (some (w.heap.size + 1))] 102 (0, 0))) := hI.wb
  have HT2 : Hid (Touch (fun _ => False) w W2) := hI.t
  have HD : Hid (w.heap.size + 5 ≤ D ∧ W2.heap[D]? = some (.deferred (some []))) := ⟨hD, hd⟩
  have HS : Hid (CallsIn Fence.wide 5 Tryz.prog 30 #[.func (.func 76) #[] #[.pointer (some ⟨W2.heap.size, 0, none⟩)]] (W2.alloc (.cells #[.map (some (w.heap.size + 1))] 102)) fun e w' => ∃ v, e = .returned v ∧ w'.ownsRow W2.heap.size 9 1 v es.length (es.map fun p => encStr p.1) ∧ Touch (fun _ => False) W2 w') := by
    refine (Tryz.slices_Sorted_keys_30_42 (w.heap.size + 1) n (toO es) heldO W2 HOwn.out (by rw [toO_size]; have := HLn.out; unfold maxLen; omega) (by rw [toO_size]; have := HLn.out; omega)).mono ?_
    rintro e w' ⟨v, ss, rfl, hS, hrow, hnil, hb⟩
    rw [toO_keys] at hS
    rw [rising_sortedO es HR.out hS, hS.length_eq, List.map_map, List.length_map] at hrow
    refine ⟨v, rfl, ownsRow_base_a hrow (by simp), ?_⟩
    exact ((Touch.refl _ W2).alloc _).trans (touch_below hb)
  have c0 : W2.cell? ⟨w.heap.size + 1 + 1, 0, none⟩ = some (.map (some (w.heap.size + 1))) := by rw [cell_of_block HWb.out]; rfl
  clear hRl hS rg hl hf hky hI hd hD hnD he
  rw [HAt.out]
  clear HAt
  generalize spansM S l = sp at *
  obtain ⟨Q, hQ⟩ : ∃ Q, Hid (Q = bodyPostM Fence.wide 3 Tryz.prog Tryz.f17 fun e w' => ∃ v, e = .returned v ∧ NewY w w' v (showM es)) := ⟨_, Eq.refl _⟩
  rw [← hQ.out]
  unfold restOf Tryz.f17
  simp only
  gi_wp2_with fail
  refine ⟨trivial, (callsIn_wide.2 (callsIn_wide.1 (Tryz.maps_Keys_42 _ _))).mono ?_⟩
  rintro e Wk ⟨rfl, hWk⟩
  rw [hWk]
  clear hWk
  gi_wp2_with fail
  refine ⟨trivial, (callsIn_wide.2 (callsIn_wide.1 HS.out)).mono ?_⟩
  rintro e W3 ⟨v, rfl, hrow, hT3⟩
  obtain ⟨no, nc, rfl, HNC⟩ : ∃ no nc, v = .slice no es.length nc ∧ Hid (∀ k (h : k < es.length), ∃ gN, no = some ⟨gN, 0, none⟩ ∧ gN < W3.heap.size ∧ W3.cell? ⟨gN, k, none⟩ = some (.string ⟨⟨es[k].1⟩⟩)) := by
    rcases hrow.2 with ⟨e, h0⟩ | ⟨gN, c, cur, e, hb, hg, h1, h2, h3, h4⟩
    · exact ⟨none, 0, by rw [e, h0], fun k h => by omega⟩
    · refine ⟨_, c, e, fun k h => ⟨gN, rfl, lt_of_heap hg, ?_⟩⟩
      rw [cell_of_block hg]
      have h5 : (es.map fun p => encStr p.1)[k]? = some (encStr es[k].1) := by simp [List.getElem?_eq_getElem h]
      rw [← h4, List.getElem?_take] at h5
      rw [if_pos (by omega)] at h5
      rw [← Array.getElem?_toList]
      exact h5
  have HT3 : Hid (Touch (fun _ => False) w W3) := HT2.out.trans hT3
  have HOwn3 : Hid (W3.ownsMap Tryz.prog 9 heldO (w.heap.size + 1) n (toO es)) := ownsO_touch HOwn.out hT3 id
  have HWb3 : Hid (W3.heap[w.heap.size + 1 + 1]? = some (.cells #[.map (some (w.heap.size + 1))] 102 (0, 0))) := heap_keep hT3 HWb.out
  have HD3 : Hid (w.heap.size + 5 ≤ D ∧ W3.heap[D]? = some (.deferred (some []))) := ⟨HD.out.1, heap_keep hT3 HD.out.2⟩
  clear hrow hT3 HS c0 HOwn HWb HD HT2
  gi_wp2_with fail
  gi_loopw [11, 56] (fun v i wr => ∃ j : Nat, i = iV (j : Int) ∧ j ≤ es.length ∧ NewY W3 wr v (showM (es.take j))) (fun v i _ => es.length - (intOf i).toNat)
  case atStart => exact ⟨0, rfl, Nat.zero_le _, by rw [List.take_zero]; exact NewY.nil W3 W3 (Touch.refl _ _)⟩
  case round =>
    obtain ⟨j, rfl, hj, hN⟩ := hrel
    by_cases hlt : j < es.length
    · obtain ⟨gN, rfl, hgN, hcN⟩ := HNC.out j hlt
      have ck : wr.cell? ⟨gN, j, none⟩ = some (.string ⟨⟨es[j].1⟩⟩) := by rw [World.cell?_of_block (hN.touch.block _ hgN id)]; exact hcN
      have c0 : wr.cell? ⟨w.heap.size + 1 + 1, 0, none⟩ = some (.map (some (w.heap.size + 1))) := by rw [cell_of_block (heap_keep hN.touch HWb3.out)]; rfl
      have HOr : Hid (wr.ownsMap Tryz.prog 9 heldO (w.heap.size + 1) n (toO es)) := ownsO_touch HOwn3.out hN.touch id
      have HG : Hid (getO (⟨⟨es[j].1⟩⟩ : ByteArray).data.toList es = es[j].2) := getO_at HR.out hlt
      have HKj : Hid ((⟨⟨es[j].1⟩⟩ : ByteArray).size ≤ maxLen) := HKl.out j hlt
      have HTk : Hid (showM (es.take (j + 1)) = showM (es.take j) ++ (if (es[j].2.vk == 0) = true then [] else [mk es[j].2])) := showM_take hlt
      have HSz : Hid ((showM (es.take j)).length ≤ 1000000) := by
        have h1 := showM_len (es.take j)
        have h2 := HLn.out
        rw [List.length_take] at h1
        rw [Hid]; omega
      have HN : Hid (NewY W3 wr u11 (showM (es.take j))) := hN
      have HLt : Hid (j < es.length) := hlt
      have hi1 : (0 : Int) ≤ (j : Int) := by omega
      have hi2 : (j : Int) < (es.length : Int) := by omega
      have hjm : (j : Int) + 1 < 9223372036854775808 := by have := HLn.out; omega
      generalize es[j].1 = kk at *
      generalize es[j].2 = o at *
      obtain ⟨ao, ac, rfl, -, -, -⟩ := hN.shape
      clear hN hcN HNC hlt hj
      obtain ⟨W4, hW4⟩ : ∃ W4, Hid (W4 = (wr.alloc zeroOp).setCells wr.heap.size 0 o.vals.toList) := ⟨_, Eq.refl _⟩
      have HW4 : Hid (Touch (fun _ => False) wr W4 ∧ W4.heap[wr.heap.size]? = some (opO o)) := by rw [hW4.out]; exact newOp wr o
      iterate 32 (first | go_values | gi_guarded | gi_step)
      refine wpListIn_plain rfl fun K hK => ?_
      go_simp
      refine hK _ _ ?_
      clear hK K
      refine wpListIn_plain rfl fun K hK => ?_
      go_simp
      refine hK _ _ ?_
      clear hK K
      refine wpListIn_lookO1 wr rfl (.tmp 60) (.tmp 61) rfl (w.heap.size + 1) n es rfl HOr.out ⟨⟨kk⟩⟩ HKj.out rfl ?_
      rw [HG.out]
      simp only [Act.put, List.setIfInBounds_toArray, List.set_cons_succ, List.set_cons_zero]
      refine wpListIn_plain rfl fun K hK => ?_
      go_simp
      refine hK _ _ ?_
      clear hK K
      refine wpListIn_store_mid rfl 39 (.tmp 14) (.tmp 62) rfl wr.heap.size 0 o.vals rfl rfl (there_ofS (heap_alloc_new wr zeroOp) 0 22 (by decide)) (by kernel_rfl) (by kernel_rfl) ?_
      simp only [Act.put]
      rw [← hW4.out]
      clear hW4 ck c0 HOr HG HKj
      generalize wr.heap.size = X at *
      iterate 5 (first | go_values | gi_guarded | gi_step)
      refine wpListIn_load_mid rfl 39 (.tmp 14) rfl X 0 rfl o.vals.toList _ (rangeAt_ofS HW4.out.2) Tryz.underlying39 rfl (by kernel_rfl) ?_
      simp only [Act.put, List.setIfInBounds_toArray, List.set_cons_succ, List.set_cons_zero]
      refine wpListIn_plain rfl fun K hK => ?_
      go_simp
      refine ⟨trivial, (callsIn_wide.2 (isShown_any o W4)).mono ?_⟩
      rintro e W5 ⟨rfl, t5⟩
      refine hK _ _ ?_
      clear hK K
      have HT5 : Hid (Touch (fun _ => False) wr W5) := HW4.out.1.trans t5
      have HX5 : Hid (W5.heap[X]? = some (opO o)) := heap_keep t5 HW4.out.2
      have HN5 : Hid (NewY W3 W5 (.slice ao (showM (es.take j)).length ac) (showM (es.take j))) := HN.out.on HT5.out
      clear t5 HW4 HN
      obtain ⟨z, hz⟩ : ∃ z, z = !(o.vk == 0) := ⟨_, rfl⟩
      rw [← hz]
      have HZ : Hid (z = !(o.vk == 0)) := hz
      clear hz
      generalize Value.agg #[.int .u64 o.c, .int .u64 o.k, .int .i64 o.kind, .int .u64 o.st, .int .u64 o.lc, .int .u64 o.lk, .int .u64 o.rc, .int .u64 o.rk, .string o.tx, .int .i64 o.vk, .int .i64 o.vn, .float .f64 o.vf, .string o.vs, .string o.ky, .int .u64 o.pc, .int .u64 o.pk, .int .u64 o.fc, .int .u64 o.fk, .bool o.fa, .int .u64 o.tc, .int .u64 o.tk, .bool o.ta] = v63
      cases z with
      | false =>
        have HU : Hid (∃ j' : Nat, iV ((j : Int) + 1) = iV (j' : Int) ∧ j' ≤ es.length ∧ NewY W3 W5 (.slice ao (showM (es.take j)).length ac) (showM (es.take j'))) := by
          have e0 : (o.vk == 0) = true := by have := HZ.out; cases h : (o.vk == 0) <;> simp [h] at this ⊢
          refine ⟨j + 1, by go_num, HLt.out, ?_⟩
          have := HTk.out
          rw [if_pos e0, List.append_nil] at this
          rw [this]
          exact HN5.out
        have hm0 : Hid (es.length - (j + 1) < es.length - j) := by have := HLt.out; rw [Hid]; omega
        clear HTk HN5 HZ HX5 HT5 HSz HLt
        gi_wp2_with fail
        go_roundw
        case rel => exact HU.out
        case measure => simp only [intOf]; have := hm0.out; omega
      | true =>
        have e0 : (o.vk == 0) = false := by have := HZ.out; cases h : (o.vk == 0) <;> simp [h] at this ⊢
        have HTk2 : Hid (showM (es.take (j + 1)) = showM (es.take j) ++ [mk o]) := by
          have := HTk.out
          rw [e0] at this
          rw [Hid, this]
          rfl
        clear HTk e0 HZ
        iterate 5 (first | go_values | gi_guarded | gi_step)
        refine wpListIn_plain rfl fun K hK => ?_
        go_simp
        refine hK _ _ ?_
        clear hK K
        refine wpListIn_load_mid rfl 39 (.tmp 14) rfl X 0 rfl o.vals.toList _ (rangeAt_ofS HX5.out) Tryz.underlying39 rfl (by kernel_rfl) ?_
        simp only [Act.put, List.setIfInBounds_toArray, List.set_cons_succ, List.set_cons_zero]
        refine wpListIn_plain rfl fun K hK => ?_
        go_simp
        refine ⟨trivial, (callsIn_wide.2 (markOf_any o W5)).mono ?_⟩
        rintro e W6 ⟨rfl, t6⟩
        refine hK _ _ ?_
        clear hK K
        have HN6 : Hid (NewY W3 W6 (.slice ao (showM (es.take j)).length ac) (showM (es.take j))) := HN5.out.on t6
        obtain ⟨v', w', hrun, hnew, -⟩ := HN6.out.app1 (mk o) (by have := HSz.out; omega)
        rw [← HTk2.out] at hnew
        have HNew : Hid (NewY W3 w' v' (showM (es.take (j + 1)))) := hnew
        obtain ⟨ao', ac', rfl, -, -, -⟩ := hnew.shape
        clear t6 HN5 HX5 HT5 HN6 hnew
        have hbs := build_mark o
        generalize Value.agg #[.int .u64 o.c, .int .u64 o.k, .int .i64 o.kind, .int .u64 o.st, .int .u64 o.lc, .int .u64 o.lk, .int .u64 o.rc, .int .u64 o.rk, .string o.tx, .int .i64 o.vk, .int .i64 o.vn, .float .f64 o.vf, .string o.vs, .string o.ky, .int .u64 o.pc, .int .u64 o.pk, .int .u64 o.fc, .int .u64 o.fk, .bool o.fa, .int .u64 o.tc, .int .u64 o.tk, .bool o.ta] = v66
        refine wpListIn_plain rfl fun K hK => ?_
        go_simp
        refine hK _ _ ?_
        clear hK K
        refine wpListIn_append_runY rfl (.tmp 65) (.tmp 68) rfl _ _ _ rfl rfl hrun ?_
        simp only [Act.put, List.setIfInBounds_toArray, List.set_cons_succ, List.set_cons_zero]
        have HU : Hid (∃ j' : Nat, iV ((j : Int) + 1) = iV (j' : Int) ∧ j' ≤ es.length ∧ NewY W3 w' (.slice ao' (showM (es.take (j + 1))).length ac') (showM (es.take j'))) := ⟨j + 1, by go_num, HLt.out, HNew.out⟩
        have hm0 : Hid (es.length - (j + 1) < es.length - j) := by have := HLt.out; rw [Hid]; omega
        clear HTk2 HNew HSz HLt hrun hbs
        gi_wp2_with fail
        go_roundw
        case rel => exact HU.out
        case measure => simp only [intOf]; have := hm0.out; omega
    · have hje : j = es.length := by omega
      subst hje
      rw [List.take_length] at hN
      have hi2 : ¬ (es.length : Int) < (es.length : Int) := by omega
      have hK : wr.heap[D]? = some (.deferred (some [])) := heap_keep hN.touch HD3.out.2
      have HNew : Hid (NewY w (wr.putObj D (.deferred none)) u11 (showM es)) := by
        have h1 := hN
        have hlt3 := lt_of_heap HD3.out.2
        have hD3 := HD3.out.1
        refine ⟨ownY_touch (S := (· = D)) h1.owns ((Touch.refl _ wr).putObj _ _ fun _ => rfl) fun k hk e => ?_, (HT3.out.trans h1.touch).putObj _ _ fun h => absurd h (by omega), fun k hk => Nat.le_trans HT3.out.size (h1.fresh k hk)⟩
        have := h1.fresh k hk
        omega
      obtain ⟨ao, ac, ev, -, -⟩ := hN.shape
      subst ev
      clear hN HNC HT3 HOwn3 HWb3 HKl HR hj hlt
      gi_wp2_with fail
      rw [hQ.out]
      refine ⟨by simp, .inl ⟨_, _, rfl, run_takeDeferred hK, ?_⟩⟩
      refine ⟨_, results_tmp rfl _ _ _, _, rfl, ?_⟩
      exact HNew.out
end Go.Proofs.YtnilikomoapcaaaGreat

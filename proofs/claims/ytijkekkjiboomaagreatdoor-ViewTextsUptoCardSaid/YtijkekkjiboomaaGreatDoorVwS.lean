/- The document's runs: Units. -/
import Derived.Test.YtijkekkjiboomaaGreatDoorVwQ
namespace Go.Proofs.YtijkekkjiboomaaGreatDoor
open Go.RowKit Go.Maps
set_option linter.unusedVariables false
set_option linter.unusedSimpArgs false
set_option maxRecDepth 100000

/-- Runes come in a row that is new. -/
theorem ref_runes_new (s : ByteArray) (hs : s.size ≤ 17592186044416) (w : World) : Calls Tryz.prog 42 #[.string s] w fun e w' => Touch (fun _ => False) w w' ∧ ∃ a c b, e = .returned (.tuple #[.slice a (rsOf s.data.toList).length c, .bool b]) ∧ Row w' a c (rsOf s.data.toList) ∧ (rsOf s.data.toList ≠ [] → ∃ g, a = some ⟨g, 0, none⟩ ∧ w.heap.size ≤ g ∧ g < w'.heap.size) := by
  refine (ref_runes s hs w).mono ?_
  rintro e w' ⟨hT, ⟨rs, v, h, rfl, hown⟩ | ⟨h, rfl⟩⟩
  · refine ⟨hT, ?_⟩
    rw [rsOf_some h]
    have hown0 := hown
    rcases hown.2 with ⟨e, h0⟩ | ⟨g, cap, cur, e, hgb, hb, hn, hm, _⟩
    · refine ⟨none, 0, true, ?_, ⟨by omega, Nat.zero_le _, fun hne => absurd (List.eq_nil_of_length_eq_zero h0) hne⟩, fun hne => absurd (List.eq_nil_of_length_eq_zero h0) hne⟩
      rw [e, h0]
    · subst e
      refine ⟨_, cap, true, rfl, ⟨hn, hm, fun _ => ⟨g, rfl, fun k hk => ?_⟩⟩, fun _ => ⟨g, rfl, hgb, lt_of_heap hb⟩⟩
      rw [hown0.cellAt k (by omega), runeCells, List.getElem?_map, List.getElem?_eq_getElem hk]
      rfl
  · refine ⟨hT, ?_⟩
    rw [rsOf_none h]
    exact ⟨none, 0, false, rfl, ⟨Nat.le_refl _, Nat.zero_le _, fun hne => absurd rfl hne⟩, fun hne => absurd rfl hne⟩
theorem Nu.app2 {w W : World} {out : List Rn} {v : Value} (h : Nu w out v W) (r : Rw) (x : Rn) (hr : MtR w r x) (hlen : out.length ≤ 1048576) :
    ∃ ao c W', (Builtin.append_ #[22, 22] 22 #[v, .slice (some ⟨W.heap.size, 0, none⟩) 1 1]).run Tryz.prog (W.alloc (rwO r)) = .ok (.slice ao (out.length + 1) c) W' ∧ Nu w (out ++ [x]) (.slice ao (out.length + 1) c) W' ∧ ∀ g, g < W.heap.size → v.ownBlock ≠ some g → (Value.slice ao (out.length + 1) c).ownBlock ≠ some g ∧ W'.heap[g]? = W.heap[g]? ∧ g < W'.heap.size := by
  obtain ⟨raw, h1, h2⟩ := h.row
  have hl := h2.len
  have ht := (Touch.refl (fun _ => False) W).alloc (rwO r)
  have h1' := h1.on ht
  obtain ⟨v', W', hrun, ho, hg, hb⟩ := run_appendW (W.alloc (rwO r)) v raw h1'.owns (some ⟨W.heap.size, 0, none⟩) 1 1 [r] rfl (fun h => by cases h) (LiesW.new W r) (by simp; omega)
  have hsz : (W.alloc (rwO r)).heap.size = W.heap.size + 1 := by show (W.heap.push _).size = _; simp
  have hN : NewW w W' v' (raw ++ [r]) := by
    refine ⟨ho, ?_, fun k hk => ?_⟩
    · exact h1'.touch.then ((Touch.refl (fun i => v.ownBlock = some i) (W.alloc (rwO r))).grown hg (fun i e _ => e)) fun i hi e => absurd hi (Nat.not_lt.2 (h1'.fresh i e))
    · rcases hb with e | e
      · exact h1'.fresh k (e ▸ hk)
      · rw [hk] at e; have := h1'.touch.size; simp at e; omega
  obtain ⟨ao, cap, e, -⟩ := hN.shape
  have e2 : (raw ++ [r]).length = out.length + 1 := by simp [hl]
  rw [e2] at e
  subst e
  refine ⟨ao, cap, W', hrun, ⟨raw ++ [r], hN, h2.snoc hr⟩, fun g hg1 hg2 => ⟨fun q => ?_, ?_, ?_⟩⟩
  · rcases hb with e | e
    · exact hg2 (by rw [← e]; exact q)
    · rw [q] at e; simp only [Option.some.injEq] at e; omega
  · rw [hg.block g (by omega) (fun e => hg2 e.symm)]
    exact ht.block g hg1 id
  · have := hg.size; omega
theorem step_append_runW {w w' : World} {ops : Array Oper} {o : Oper} {a : Act} {K : Act → World → Prop} {Q : Exit → Act → World → Prop} {E : Prop} (hw : Region.wanted o (yielded ops a.tmps) = true) (s x : Operand)
    (ho : o.op = .call { callee := .builtin .append, args := #[s, x], argTypes := #[22, 22] }) (v y v' : Value) (hs : a.eval s = v) (hx : a.eval x = y)
    (hrun : (Builtin.append_ #[22, 22] o.type #[v, y]).run Tryz.prog w = .ok v' w') (h : K (a.put o.dst v') w') :
    if Region.wanted o (yielded ops a.tmps) = true then Oper.wp Tryz.prog o a w K Q else E := by
  rw [if_pos hw]
  unfold Oper.wp
  simp [execOp, ho, resolve, invoke, builtin, hs, hx, hrun, Result.andThen]
  exact h
theorem sliceR_at (g n c k : Nat) (h : k < n) (hc : n ≤ c) (W : World) : (Instr.slice 72 (.slice (some ⟨g, 0, none⟩) n c) (some (.int .i64 (k : Int))) (some (.int .i64 ((k : Int) + 1))) none).run Tryz.prog W = .ok (.slice (some ⟨g, k, none⟩) 1 (c - k)) W := by
  obtain ⟨m, hm⟩ : ∃ m, m = k + 1 := ⟨_, rfl⟩
  have e : (k : Int) + 1 = (m : Int) := by omega
  have h1 : (k : Int) ≤ (m : Int) := by omega
  have h2 : (m : Int) ≤ (c : Int) := by omega
  have h3 : k ≤ m := by omega
  have h4 : m ≤ c := by omega
  have h5 : m - k = 1 := by omega
  have h6 : ¬ c = k := by omega
  have h7 : (⟨g, 0, none⟩ : Addr).add k = ⟨g, k, none⟩ := by rw [addr_addW, Nat.zero_add]
  have hu := Tryz.underlying72
  obtain ⟨i0, hi, hz0, hz1, hz2⟩ := info_parts Tryz.infoRune
  rw [e]
  simp [Instr.slice, run_underlying hu, Instr.sliceBounds, run_sliceBound, h1, h2, h3, h4, h5, h6, h7, sizeOf, typeInfo, hi, hz1]
theorem Row.same {W W' : World} {g c : Nat} {rs : List Nat} (h : Row W (some ⟨g, 0, none⟩) c rs) (e : W'.heap[g]? = W.heap[g]?) : Row W' (some ⟨g, 0, none⟩) c rs := by
  refine ⟨h.1, h.2.1, fun hne => ?_⟩
  obtain ⟨g', hg, hc⟩ := h.2.2 hne
  simp only [Option.some.injEq, Addr.mk.injEq] at hg
  obtain ⟨rfl, -, -⟩ := hg
  exact ⟨_, rfl, fun k hk => by rw [World.cell?_of_block e]; exact hc k hk⟩
theorem unitsR_take {L : List Rn} {i : Nat} (h : i < L.length) : unitsR (L.take (i + 1)) = unitsR (L.take i) ++ oneR L[i] := by
  unfold unitsR
  rw [List.take_succ_eq_append_getElem h, List.flatMap_append]; simp
theorem lenL_tot (L : List Rn) : lenL L ≤ tot L := by
  induction L with
  | nil => exact Nat.le_refl _
  | cons r L ih =>
    rw [lenL_cons, tot_cons]
    have : r.len ≤ r.tx.size + 1 := by
      unfold Rn.len
      split
      · omega
      · have := rsOf_len r.tx.data.toList
        simp at this
        show (rsOf r.tx.data.toList).length ≤ _
        omega
    omega
set_option maxHeartbeats 16000000 in
theorem qunits_any {w : World} {v : Value} {L : List Rn} (hv : SlRn w v L) (ht : tot L ≤ 1048576) :
    Calls Tryz.prog 17 #[v] w fun e w' => ∃ ao c, e = .returned (.slice ao (unitsR L).length c) ∧ Nu w (unitsR L) (.slice ao (unitsR L).length c) w' := by
  obtain ⟨raw, hr, hm⟩ := hv
  have hrl := hm.len
  obtain ⟨ao, cap, rfl, a1, a2, a3⟩ := hr.shape
  have HA : Hid (raw ≠ [] → _) := hr.at
  have HM : Hid (∀ j (h1 : j < raw.length) (h2 : j < L.length), MtR w raw[j] L[j]) := hm.get
  have hll : L.length ≤ 1048576 := Nat.le_trans (tot_len L) ht
  have HRL : Hid (raw.length = L.length) := hrl
  have HW : Hid (Touch (fun _ => False) w w) := Touch.refl _ _
  have HTo : Hid (∀ i, (h : i < L.length) → (unitsR (L.take i)).length + L[i].len ≤ 1048576 ∧ L[i].tx.size ≤ 1048576) := fun i h => by
    have h1 := lenL_tot (L.take (i + 1))
    have h2 := tot_take L (i + 1)
    rw [lenL_take_succ h] at h1
    have h3 := tot_mem (List.getElem_mem h)
    rw [unitsR_len]
    exact ⟨by omega, by omega⟩
  have HN : Hid (unitsR (L.take L.length) = unitsR L) := by rw [Hid, List.take_length]
  clear hr hm hrl a1 a2 a3 ht
  rw [HRL.out]
  generalize hN : unitsR L = N at *
  clear hN
  go_enter Tryz.func17, Tryz.ntmps17
  go_wp2_with fail
  go_loopg [3, 4] L.length (fun gk s3 s4 wr => ∃ (i : Nat) (ao : Option Addr) (c : Nat) (out : List Rn), i + gk = L.length ∧ s3 = .slice ao out.length c ∧ s4 = .int .i64 (i : Int) ∧ Hid (Nu w out (.slice ao out.length c) wr ∧ out = unitsR (L.take i)))
  case atStart => exact ⟨0, none, 0, [], by omega, rfl, rfl, Nu.nil _ HW.out, rfl⟩
  case round =>
    obtain ⟨i, so, sc, out, hig, rfl, rfl, HI⟩ := hrel
    by_cases hil : i < L.length
    · have hil2 : i < raw.length := by rw [HRL.out]; exact hil
      obtain ⟨b, o, rfl, hblt, hca⟩ := HA.out (by intro e; subst e; simp at hil2)
      have HX : Hid (∀ W, Touch (fun _ => False) w W → _) := fun W (t : Touch (fun _ => False) w W) => hca W t i hil2
      have HMi : Hid (MtR w raw[i] L[i]) := HM.out i hil2 hil
      have HNx : Hid (unitsR (L.take (i + 1)) = out ++ oneR L[i]) := by rw [HI.out.2]; exact unitsR_take hil
      have HCu : Hid (Nu w out (.slice so out.length sc) wr) := HI.out.1
      have HTi : Hid (out.length + L[i].len ≤ 1048576 ∧ L[i].tx.size ≤ 1048576) := by rw [HI.out.2]; exact HTo.out i hil
      have hi1 : (0 : Int) ≤ (i : Int) := by omega
      have hi2 : (i : Int) < (L.length : Int) := by omega
      have hiw1 : IntKind.i64.wrap ((i : Int) + 1) = (i : Int) + 1 := by rw [IntKind.wrap_i64]; omega
      clear hca HA HM HI HRL HN HTo
      generalize raw[i] = r at *
      generalize L[i] = x at *
      obtain ⟨x0, x1, x2, x3, x4, x5, x6⟩ := HX.out wr HCu.out.t
      obtain ⟨rtx, rem, rvk, rvn, rvf, rvs, ⟨rma, rmn, rmc⟩⟩ := r
      simp only at x0 x1 x2 x3 x4 x5 x6 HX
      have HEm : Hid (rem = x.em) := HMi.out.em
      have HTx : Hid (rtx = x.tx) := HMi.out.tx
      cases rem with
      | true =>
        have HS : Hid (unitsR (L.take (i + 1)) = out ++ [x]) := by
          rw [Hid, HNx.out]; unfold oneR; rw [if_pos HEm.out.symm]
        have hlo : out.length ≤ 1048576 := by have := HTi.out.1; omega
        obtain ⟨so2, sc2, W3, hrun, hC3, -⟩ := HCu.out.app2 _ _ HMi.out hlo
        have H3 : Hid (Nu w (out ++ [x]) (.slice so2 (out ++ [x]).length sc2) W3) := by rw [show (out ++ [x]).length = out.length + 1 from by simp]; exact hC3
        have HL2 : Hid ((out ++ [x]).length = out.length + 1) := by show _ = _; simp
        clear hC3 HCu HX HMi HNx
        go_wp2_with (at_builtin; refine wpList_append_runW rfl _ _ rfl _ _ _ rfl rfl hrun ?_)
        clear hrun
        go_wp2_with fail
        go_roundg (L.length - (i + 1))
        case measure => omega
        case rel => exact ⟨i + 1, so2, sc2, out ++ [x], by omega, by rw [HL2.out], by go_num, H3.out, HS.out.symm⟩
      | false =>
        have HOn : Hid (oneR x = x.rs.map fun c => ⟨strOf (encAll [c]), false, vz, x.ml⟩) := by
          rw [Hid]; unfold oneR; rw [if_neg (by rw [← HEm.out]; decide)]
        have HRu : Hid (Calls Tryz.prog 42 #[.string rtx] wr fun e w' => Touch (fun _ => False) wr w' ∧ ∃ a c b, e = .returned (.tuple #[.slice a x.rs.length c, .bool b]) ∧ Row w' a c x.rs ∧ (x.rs ≠ [] → ∃ g, a = some ⟨g, 0, none⟩ ∧ wr.heap.size ≤ g ∧ g < w'.heap.size)) := by
          have h1 := HTi.out.2
          rw [HTx.out]
          exact ref_runes_new x.tx (by omega) wr
        have HOk : Hid (∀ c ∈ x.rs, okRune c) := rsOf_ok _
        have HLn : Hid (out.length + x.rs.length ≤ 1048576) := by
          have h1 := HTi.out.1
          unfold Rn.len at h1
          rw [if_neg (by rw [← HEm.out]; decide)] at h1
          exact h1
        have HMx : Hid (∀ c, MtR w ⟨strOf (encAll [c]), false, 0, 0, 0, ⟨#[]⟩, ⟨rma, rmn, rmc⟩⟩ ⟨strOf (encAll [c]), false, vz, x.ml⟩) := fun c => ⟨rfl, rfl, rfl, HMi.out.ml⟩
        have HOb : Hid ((.slice so out.length sc : Value).ownBlock ≠ some wr.heap.size ∧ ∀ g, wr.heap.size ≤ g → (.slice so out.length sc : Value).ownBlock ≠ some g) := by
          have h : ∀ g, wr.heap.size ≤ g → (.slice so out.length sc : Value).ownBlock ≠ some g := fun g hg q => by
            obtain ⟨raw2, k1, -⟩ := HCu.out.row
            rcases k1.owns.2 with ⟨e, -⟩ | ⟨g', cap', cur, e, -, hb, -⟩
            · rw [e] at q; simp [Value.ownBlock] at q
            · rw [e] at q
              simp only [Value.ownBlock, Option.some.injEq] at q
              have := lt_of_heap hb
              omega
          exact ⟨h _ (Nat.le_refl _), h⟩
        rw [HOn.out] at HNx
        clear HMi HEm HTi HOn
        generalize x.rs = rs at *
        generalize x.ml = ml at *
        go_wp2_with fail
        refine HRu.out.mono ?_
        rintro e W1 ⟨t1, a', c', b', rfl, hrow, hnew⟩
        have H1 : Hid (Nu w out (.slice so out.length sc) W1 ∧ Row W1 a' c' rs ∧ (rs ≠ [] → ∃ g, a' = some ⟨g, 0, none⟩ ∧ g < W1.heap.size ∧ (.slice so out.length sc : Value).ownBlock ≠ some g)) := ⟨HCu.out.touch t1, hrow, fun hne => by
          obtain ⟨g, e1, e2, e3⟩ := hnew hne
          exact ⟨g, e1, e3, HOb.out.2 g e2⟩⟩
        clear t1 hrow hnew HRu HOb HCu x0 x1 x2 x3 x4 x5 x6
        go_wp2_with fail
        go_loopg [3, 7] rs.length (fun gk2 s3 s7 wq => ∃ (k : Nat) (ao : Option Addr) (c : Nat) (ou : List Rn), k + gk2 = rs.length ∧ s3 = .slice ao ou.length c ∧ s7 = .int .i64 (k : Int) ∧ Hid (Nu w ou (.slice ao ou.length c) wq ∧ ou = out ++ (rs.take k).map (fun c => ⟨strOf (encAll [c]), false, vz, ml⟩) ∧ Row wq a' c' rs ∧ (rs ≠ [] → ∃ g, a' = some ⟨g, 0, none⟩ ∧ g < wq.heap.size ∧ (.slice ao ou.length c : Value).ownBlock ≠ some g)))
        case atStart => exact ⟨0, so, sc, out, by omega, rfl, rfl, H1.out.1, by simp, H1.out.2.1, H1.out.2.2⟩
        case round =>
          obtain ⟨k, ao, c, ou, hkg, rfl, rfl, HJ⟩ := hrel
          by_cases hkl : k < rs.length
          · have hk0 : (0 : Int) ≤ (k : Int) := by omega
            have hk1 : (k : Int) < (rs.length : Int) := by omega
            have hrl := HLn.out
            have hkw : IntKind.i64.wrap ((k : Int) + 1) = (k : Int) + 1 := by rw [IntKind.wrap_i64]; omega
            have hne : rs ≠ [] := fun e => by rw [e] at hkl; simp at hkl
            obtain ⟨j1, j2, j3, j4⟩ := HJ.out
            obtain ⟨g, rfl, hgl, hgo⟩ := j4 hne
            obtain ⟨g', hg', hcr⟩ := j3.2.2 hne
            simp only [Option.some.injEq, Addr.mk.injEq] at hg'
            obtain ⟨rfl, -, -⟩ := hg'
            have hcap := j3.1
            have hsl := fun W => sliceR_at g rs.length c' k hkl hcap W
            have hcv := conv_mid wr.drew g k (c' - k) [rs[k]] (fun r hr => by rw [List.mem_singleton.1 hr]; exact HOk.out _ (List.getElem_mem hkl)) (fun q hq => by
              have : q = 0 := by simp at hq; omega
              subst this
              exact hcr k hkl)
            have hou : ou.length = out.length + k := by rw [j2]; simp; omega
            have hlo : ou.length ≤ 1048576 := by omega
            have hx6 := (HX.out _ (j1.t.drew)).2.2.2.2.2.2
            obtain ⟨ao2, c2, W3, hrun, hC3, hfar⟩ := (j1.touch (Touch.refl _ wr).drew).app2 _ _ (HMx.out rs[k]) hlo
            obtain ⟨f1, f2, f3⟩ := hfar g hgl hgo
            have hl1 : (ou ++ [(⟨strOf (encAll [rs[k]]), false, vz, ml⟩ : Rn)]).length = ou.length + 1 := by simp
            have H3 : Hid (Nu w (ou ++ [⟨strOf (encAll [rs[k]]), false, vz, ml⟩]) (.slice ao2 (ou ++ [(⟨strOf (encAll [rs[k]]), false, vz, ml⟩ : Rn)]).length c2) W3 ∧ ou ++ [⟨strOf (encAll [rs[k]]), false, vz, ml⟩] = out ++ (rs.take (k + 1)).map (fun c => ⟨strOf (encAll [c]), false, vz, ml⟩) ∧ Row W3 (some ⟨g, 0, none⟩) c' rs ∧ (rs ≠ [] → ∃ g', (some ⟨g, 0, none⟩ : Option Addr) = some ⟨g', 0, none⟩ ∧ g' < W3.heap.size ∧ (.slice ao2 (ou ++ [(⟨strOf (encAll [rs[k]]), false, vz, ml⟩ : Rn)]).length c2 : Value).ownBlock ≠ some g')) := by
              rw [hl1]
              refine ⟨hC3, ?_, j3.same f2, fun _ => ⟨g, rfl, f3, f1⟩⟩
              rw [j2, List.take_succ_eq_append_getElem hkl, List.map_append, List.append_assoc]; rfl
            have HL1 : Hid ((ou ++ [(⟨strOf (encAll [rs[k]]), false, vz, ml⟩ : Rn)]).length = ou.length + 1) := hl1
            obtain ⟨t, htt⟩ : ∃ t : ByteArray, Hid (t = strOf (encAll [rs[k]])) := ⟨strOf (encAll [rs[k]]), Eq.refl _⟩
            rw [← htt.out] at hcv hrun H3 HL1
            have HL2 : Hid (ou.length = out.length + k) := hou
            clear HJ j1 j2 j3 j4 hgl hgo hcr hC3 hfar f1 f2 f3 hl1 HMx htt hou hcap HX H1 HNx HTx
            simp only [List.length_singleton] at hcv
            go_upto_region 11 with fail
            go_region_law (refine step_append_runW (by rfl) _ _ rfl _ _ _ rfl rfl hrun ?_)
            all_goals (try go_wp2_with fail)
            all_goals (go_roundg (rs.length - (k + 1)))
            all_goals (first | (case measure => omega) | skip)
            all_goals exact ⟨k + 1, ao2, c2, ou ++ [(⟨t, false, vz, ml⟩ : Rn)], by omega, by rw [HL1.out], by go_num, H3.out⟩
          · have hEq : k = rs.length := by omega
            have HS : Hid (ou = unitsR (L.take (i + 1))) := by
              rw [Hid, HNx.out, HJ.out.2.1, hEq, List.take_length]
            have H3 : Hid (Nu w ou (.slice ao ou.length c) wr) := HJ.out.1
            subst hEq
            clear HJ HX H1 HNx HTx HMx HOk HLn
            go_wp2_with fail
            go_roundg (L.length - (i + 1))
            case measure => omega
            case rel => exact ⟨i + 1, ao, c, ou, by omega, rfl, by go_num, H3.out, HS.out⟩
    · have hEq : i = L.length := by omega
      have HF : Hid (∃ ao' c', (.slice so out.length sc : Value) = .slice ao' N.length c' ∧ Nu w N (.slice ao' N.length c') wr) := by
        have h1 := HI.out.2
        rw [hEq, HN.out] at h1
        subst h1
        exact ⟨_, _, rfl, HI.out.1⟩
      subst hEq
      clear HI HA HM HRL HN HW HTo
      go_wp2_with fail
      go_ret
      obtain ⟨ao', c', e1, e2⟩ := HF.out
      exact ⟨ao', c', by rw [← e1]; rfl, e2⟩
end Go.Proofs.YtijkekkjiboomaaGreatDoor

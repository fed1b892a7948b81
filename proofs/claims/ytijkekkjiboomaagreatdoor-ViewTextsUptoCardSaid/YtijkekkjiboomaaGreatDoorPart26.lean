/- The document's runs: Cut, Patch. -/
import Derived.Test.YtijkekkjiboomaaGreatDoorVwS
namespace Go.Proofs.YtijkekkjiboomaaGreatDoor
open Go.RowKit Go.Maps
set_option linter.unusedVariables false
set_option linter.unusedSimpArgs false
set_option maxRecDepth 100000

theorem sliceW_at (vo : Option Addr) (n cap F T : Nat) (h : F ≤ T) (hT : T ≤ cap) (W : World) : (Instr.slice 22 (.slice vo n cap) (some (.int .i64 (F : Int))) (some (.int .i64 (T : Int))) none).run Tryz.prog W = .ok (.slice (if cap = F then vo else vo.map (·.add (F * 7))) (T - F) (cap - F)) W := by
  have h1 : (F : Int) ≤ (T : Int) := by omega
  have h2 : (T : Int) ≤ (cap : Int) := by omega
  have hu := Tryz.underlying22
  obtain ⟨i0, hi, hz0, hz1, hz2⟩ := info_parts infoW
  simp [Instr.slice, run_underlying hu, Instr.sliceBounds, run_sliceBound, h1, h2, h, hT, sizeOf, typeInfo, hi, hz1]
theorem SlRn.cut {w : World} {ao : Option Addr} {n cap : Nat} {L : List Rn} (h : SlRn w (.slice ao n cap) L) {F T : Nat} (h1 : F ≤ T) (h2 : T ≤ L.length) : SlRn w (.slice (if cap = F then ao else ao.map (·.add (F * 7))) (T - F) (cap - F)) ((L.take T).drop F) ∧ T ≤ cap := by
  obtain ⟨raw, hs, hm⟩ := h
  have hl := hm.len
  have hs2 := (hs.upto T (by omega)).from F (by rw [List.length_take]; omega)
  refine ⟨⟨_, hs2, AllMt.of (by simp [hl]) fun i h3 h4 => ?_⟩, ?_⟩
  · simp only [List.length_drop, List.length_take] at h3 h4
    simp only [List.getElem_drop, List.getElem_take]
    exact hm.get _ (by omega) (by omega)
  · obtain ⟨ao', cap', e, -, q, -⟩ := hs.shape
    simp only [Value.slice.injEq] at e
    obtain ⟨-, -, rfl⟩ := e
    omega
theorem tot_drop (L : List Rn) (i : Nat) : tot (L.drop i) ≤ tot L := by
  have := tot_append (L.take i) (L.drop i)
  rw [List.take_append_drop] at this
  omega
set_option maxHeartbeats 8000000 in
theorem qcut_any {w : World} {v : Value} {L : List Rn} (hv : SlRn w v L) (ok : OkL L) (ht : tot L ≤ 1048576) (hu : tot (unitsR L) ≤ 1048576) (fr til : Int) :
    Calls Tryz.prog 22 #[v, .int .i64 fr, .int .i64 til] w fun e w' => ∃ v', e = .returned v' ∧ SlRn w' v' (cutRf L fr til) ∧ Touch (fun _ => False) w w' := by
  have HU : Hid (Calls Tryz.prog 17 #[v] w fun e w' => ∃ ao c, e = .returned (.slice ao (unitsR L).length c) ∧ Nu w (unitsR L) (.slice ao (unitsR L).length c) w') := qunits_any hv ht
  obtain ⟨F, hF⟩ : ∃ F : Nat, max fr 0 = (F : Int) := ⟨(max fr 0).toNat, by omega⟩
  have hul := unitsR_len L
  have HD : Hid (∀ r ∈ unitsR L, r.Dbl) := fun r hr => ((unitsR_ones ok).1 r hr).1.2
  have HTU : Hid (tot (unitsR L) ≤ 1048576) := hu
  have HC : Hid (cutRf L fr til = if min til ((unitsR L).length : Int) ≤ (F : Int) then [] else cleanR (((unitsR L).take (min til ((unitsR L).length : Int)).toNat).drop F)) := by
    rw [Hid, hul]
    unfold cutRf
    rw [hF]; rfl
  generalize cutRf L fr til = R at *
  clear hu ok ht hul
  generalize unitsR L = U at *
  obtain ⟨ao0, c0, rfl, -, -, -⟩ := hv.shape
  clear hv
  go_enter Tryz.func22, Tryz.ntmps22
  go_wp2_with fail
  refine HU.out.mono ?_
  rintro e W1 ⟨ao, c, rfl, hN⟩
  have HN : Hid (SlRn W1 (.slice ao U.length c) U ∧ Touch (fun _ => False) w W1) := ⟨hN.sl, hN.t⟩
  clear hN HU
  by_cases hle : min til (U.length : Int) ≤ (F : Int)
  · have HR : Hid (R = []) := by rw [Hid, HC.out, if_pos hle]
    clear HC
    go_wp2_with fail
    go_ret
    exact ⟨_, rfl, by rw [HR.out]; exact ⟨[], SlW.nil _, trivial⟩, HN.out.2⟩
  · have HR0 := HC.out
    rw [if_neg hle] at HR0
    clear HC
    obtain ⟨T, hT⟩ : ∃ T : Nat, min til (U.length : Int) = (T : Int) := ⟨(min til (U.length : Int)).toNat, by omega⟩
    have hFT : F ≤ T := by omega
    have hTl : T ≤ U.length := by omega
    rw [hT, Int.toNat_natCast] at HR0
    have HRR : Hid (R = cleanR ((U.take T).drop F)) := HR0
    clear HR0
    obtain ⟨k1, k2⟩ := HN.out.1.cut hFT hTl
    have hsl := fun W => sliceW_at ao U.length c F T hFT k2 W
    have HCl : Hid (Calls Tryz.prog 20 #[.slice (if c = F then ao else ao.map (·.add (F * 7))) (T - F) (c - F)] W1 fun e w' => ∃ v', e = .returned v' ∧ SlRn w' v' (cleanR ((U.take T).drop F)) ∧ Touch (fun _ => False) W1 w') := qclean_any k1 (fun r hr => HD.out r (List.mem_of_mem_take (List.mem_of_mem_drop hr))) (Nat.le_trans (tot_drop _ _) (Nat.le_trans (tot_take _ _) HTU.out))
    have HT : Hid (Touch (fun _ => False) w W1) := HN.out.2
    have hlt : ¬ (T : Int) ≤ (F : Int) := by omega
    have hld : decide ((T : Int) ≤ (F : Int)) = false := by rw [decide_eq_false_iff_not]; omega
    generalize (if c = F then ao else ao.map (·.add (F * 7))) = ap at *
    clear k1 k2 HN HD HTU hle
    go_wp2_with fail
    refine HCl.out.mono ?_
    rintro e W2 ⟨v2, rfl, h2, t2⟩
    have HR : Hid (SlRn W2 v2 (cleanR ((U.take T).drop F)) ∧ Touch (fun _ => False) w W2) := ⟨h2, HT.out.trans t2⟩
    obtain ⟨ao3, c3, e3, -⟩ := h2.shape
    clear h2 t2 HCl HT
    subst e3
    go_wp2_with fail
    go_ret
    exact ⟨_, rfl, by rw [HRR.out]; exact HR.out.1, HR.out.2⟩
theorem SlRn.upto {w : World} {ao : Option Addr} {n cap : Nat} {L : List Rn} (h : SlRn w (.slice ao n cap) L) {T : Nat} (h2 : T ≤ L.length) : SlRn w (.slice ao T cap) (L.take T) ∧ T ≤ cap := by
  obtain ⟨raw, hs, hm⟩ := h
  have hl := hm.len
  refine ⟨⟨_, hs.upto T (by omega), AllMt.of (by simp [hl]) fun i h3 h4 => ?_⟩, ?_⟩
  · simp only [List.length_take] at h3 h4
    simp only [List.getElem_take]
    exact hm.get _ (by omega) (by omega)
  · obtain ⟨ao', cap', e, -, q, -⟩ := hs.shape
    simp only [Value.slice.injEq] at e
    obtain ⟨-, -, rfl⟩ := e
    omega
theorem SlRn.fromN {w : World} {ao : Option Addr} {n cap : Nat} {L : List Rn} (h : SlRn w (.slice ao n cap) L) {F : Nat} (h2 : F ≤ L.length) : SlRn w (.slice (if cap = F then ao else ao.map (·.add (F * 7))) (n - F) (cap - F)) (L.drop F) := by
  obtain ⟨raw, hs, hm⟩ := h
  have hl := hm.len
  refine ⟨_, hs.from F (by omega), AllMt.of (by simp [hl]) fun i h3 h4 => ?_⟩
  simp only [List.length_drop] at h3 h4
  simp only [List.getElem_drop]
  exact hm.get _ (by omega) (by omega)
theorem Nu.apps {w W : World} {out B : List Rn} {v : Value} (h : Nu w out v W) {ao : Option Addr} {n cap : Nat} (hB : SlRn w (.slice ao n cap) B) (hlen : out.length + B.length ≤ 1073741824) :
    ∃ ao' c' W', (Builtin.append_ #[22, 22] 22 #[v, .slice ao n cap]).run Tryz.prog W = .ok (.slice ao' (out.length + B.length) c') W' ∧ Nu w (out ++ B) (.slice ao' (out.length + B.length) c') W' := by
  obtain ⟨raw, h1, h2⟩ := h.row
  obtain ⟨rb, k1, k2⟩ := hB
  have hl := h2.len
  have hl2 := k2.len
  obtain ⟨ao0, cap0, e, hno, -, -, hL⟩ := k1
  simp only [Value.slice.injEq] at e
  obtain ⟨rfl, e2, rfl⟩ := e
  obtain ⟨v', W', hrun, hO, -⟩ := h1.app ao n cap rb e2 hno (hL.touch h1.touch) (by omega)
  obtain ⟨ao', cap', e, -⟩ := hO.shape
  have e3 : (raw ++ rb).length = out.length + B.length := by rw [List.length_append, hl, hl2]
  rw [e3] at e
  subst e
  exact ⟨ao', cap', W', hrun, raw ++ rb, hO, h2.append k2⟩
end Go.Proofs.YtijkekkjiboomaaGreatDoor

/- The document's runs: Patch. -/
namespace Go.Proofs.YtijkekkjiboomaaGreatDoor
open Go.RowKit Go.Maps
set_option linter.unusedVariables false
set_option linter.unusedSimpArgs false
set_option maxRecDepth 100000

set_option maxHeartbeats 16000000 in
theorem qpatch_any {w : World} {v vl : Value} {A L : List Rn} (hv : SlRn w v A) (hl : SlRn w vl L) (ok : OkL A) (ol : OkL L) (ht : tot A ≤ 1048576) (hu : tot (unitsR A) + tot L ≤ 524288) (pt n : Int) :
    Calls Tryz.prog 24 #[v, .int .i64 pt, .int .i64 n, vl] w fun e w' => ∃ v', e = .returned v' ∧ SlRn w' v' (patchRf A pt n L) ∧ Touch (fun _ => False) w w' := by
  have HU : Hid (Calls Tryz.prog 17 #[v] w fun e w' => ∃ ao c, e = .returned (.slice ao (unitsR A).length c) ∧ Nu w (unitsR A) (.slice ao (unitsR A).length c) w') := qunits_any hv ht
  have hul := unitsR_len A
  have HD : Hid (∀ r, r ∈ unitsR A ∨ r ∈ L → r.Dbl) := fun r hr => hr.elim (fun h => ((unitsR_ones ok).1 r h).1.2) (fun h => (ol r h).2)
  have HTU : Hid (tot (unitsR A) + tot L ≤ 524288) := hu
  have HLl : Hid (∀ W, Touch (fun _ => False) w W → SlRn W vl L) := fun W t => hl.touch t
  obtain ⟨p, hp⟩ : ∃ p : Nat, min (max pt 0) ((unitsR A).length : Int) = (p : Int) := ⟨(min (max pt 0) ((unitsR A).length : Int)).toNat, by omega⟩
  have hp1 : p ≤ (unitsR A).length := by omega
  obtain ⟨q, hq⟩ : ∃ q : Nat, min (max n 0) (((unitsR A).length : Int) - (p : Int)) = (q : Int) := ⟨(min (max n 0) (((unitsR A).length : Int) - (p : Int))).toNat, by omega⟩
  have hq1 : p + q ≤ (unitsR A).length := by omega
  have HC : Hid (patchRf A pt n L = cleanR ((unitsR A).take p ++ L ++ (unitsR A).drop (p + q))) := by
    rw [Hid]
    unfold patchRf patN patAt
    rw [← hul, hp, hq, Int.toNat_natCast, show ((p : Int) + (q : Int)).toNat = p + q from by omega]
  have hUl : (unitsR A).length ≤ 524288 := by have := tot_len (unitsR A); omega
  generalize patchRf A pt n L = R at *
  have hLl : L.length ≤ 524288 := by have := tot_len L; omega
  clear hu ok ol ht hul
  generalize unitsR A = U at *
  obtain ⟨ao0, c0, rfl, -, -, -⟩ := hv.shape
  obtain ⟨al, cl, rfl, -, -, -⟩ := hl.shape
  clear hv hl
  have hs1 : IntKind.i64.wrap ((U.length : Int) - (p : Int)) = (U.length : Int) - (p : Int) := by rw [IntKind.wrap_i64]; omega
  have hs2 : IntKind.i64.wrap ((p : Int) + (q : Int)) = (p : Int) + (q : Int) := by rw [IntKind.wrap_i64]; omega
  obtain ⟨m, hm⟩ : ∃ m : Nat, (p : Int) + (q : Int) = (m : Int) ∧ m = p + q := ⟨p + q, by omega, rfl⟩
  obtain ⟨hm1, hm2⟩ := hm
  go_enter Tryz.func24, Tryz.ntmps24
  go_wp2_with fail
  refine HU.out.mono ?_
  rintro e W1 ⟨ao, c, rfl, hN⟩
  have HN : Hid (SlRn W1 (.slice ao U.length c) U ∧ Touch (fun _ => False) w W1) := ⟨hN.sl, hN.t⟩
  clear hN HU
  obtain ⟨s1, hc1⟩ := HN.out.1.upto hp1
  have s3 := HN.out.1.fromN (F := m) (by omega)
  have hsl1 := fun W => sliceW_to ao U.length c p hc1 W
  have hsl3 := fun W => sliceW_from ao U.length c m (by omega) W
  have s2 := HLl.out _ HN.out.2
  have hlt : (U.take p).length = p := by rw [List.length_take]; omega
  have hld : (U.drop m).length = U.length - m := List.length_drop
  obtain ⟨a1, c1, W2, hr1, n1⟩ := (Nu.nil W1 ((Touch.refl (fun _ => False) W1).drew)).apps s1 (by rw [hlt]; simp; omega)
  simp only [List.nil_append, List.length_nil, Nat.zero_add] at hr1 n1
  obtain ⟨a2, c2, W3, hr2, n2⟩ := n1.apps s2 (by omega)
  obtain ⟨a3, c3, W4, hr3, n3⟩ := n2.apps s3 (by rw [List.length_append]; omega)
  have hcl := qclean_any n3.sl (fun r hr => by
    rw [List.mem_append, List.mem_append] at hr
    exact HD.out r (hr.elim (fun h => h.elim (fun h => .inl (List.mem_of_mem_take h)) .inr) (fun h => .inl (List.mem_of_mem_drop h)))) (by
    rw [tot_append, tot_append]
    have k1 := tot_take U p
    have k2 := tot_drop U m
    have := HTU.out
    omega)
  have HCl : Hid (Calls Tryz.prog 20 #[.slice a3 ((U.take p ++ L).length + (U.drop m).length) c3] W4 fun e w' => ∃ v', e = .returned v' ∧ SlRn w' v' R ∧ Touch (fun _ => False) W4 w') := by
    rw [HC.out, ← hm2]; exact hcl
  have HT4 : Hid (Touch (fun _ => False) w W4) := HN.out.2.trans n3.t
  clear hcl n1 n2 n3 s1 s2 s3 HN HD HTU HLl HC
  generalize (U.take p ++ L).length + (U.drop m).length = nX at *
  rw [hlt] at hr1 hr2 hr3
  generalize (if c = m then ao else ao.map (·.add (m * 7))) = ap at *
  have hs4 : IntKind.i64.wrap ((p : Int) + (q : Int)) = (m : Int) := by rw [hs2, hm1]
  have hs3 : IntKind.i64.wrap (m : Int) = (m : Int) := by rw [← hm1]; exact hs2
  clear hlt hld hm2 hp1 hq1 hUl hLl hs2 hm1
  go_upto_region 4 with fail
  go_region_held3 (fun W => True) (first | trivial)
    (first
      | (refine step_append_runW (by rfl) _ _ rfl _ _ _ rfl rfl hr1 ?_)
      | (refine step_append_runW (by rfl) _ _ rfl _ _ _ rfl rfl hr2 ?_)
      | (refine step_append_runW (by rfl) _ _ rfl _ _ _ rfl rfl hr3 ?_)
      | (go_at_call 20; (with_reducible refine HCl.out.mono ?_); rintro e w5 ⟨v5, rfl, h5, t5⟩; have HR : Hid (SlRn w5 v5 R ∧ Touch (fun _ => False) w w5) := ⟨h5, HT4.out.trans t5⟩; clear h5 t5))
  all_goals (try go_wp2_with fail)
  all_goals go_ret
  all_goals exact ⟨_, rfl, HR.out.1, HR.out.2⟩
end Go.Proofs.YtijkekkjiboomaaGreatDoor

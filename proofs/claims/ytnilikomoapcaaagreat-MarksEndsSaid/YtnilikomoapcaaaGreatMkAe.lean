/- Package marks: All, whole, over what won of each key's spans. -/
import Derived.Test.YtnilikomoapcaaaGreatPart26
import Derived.Test.YtnilikomoapcaaaGreatMkAd
import Derived.Test.YtnilikomoapcaaaGreatPart27
import Derived.Deep.CutBlock
namespace Go.Proofs.YtnilikomoapcaaaGreat
open Go.RowKit Go.Shelf Go.Maps Go.Sort
set_option linter.unusedVariables false
set_option linter.unusedSimpArgs false
set_option maxRecDepth 100000

theorem rising_sortedV (es : List (Key × Value)) (h : Rising es) {ss : List Key} (hs : ss.Perm (es.map (·.1))) : ss.mergeSort (fun x y => decide (x ≤ y)) = es.map (·.1) := by
  have e : ss.mergeSort leB = (es.map (·.1)).mergeSort leB := mergeSort_of_perm hs
  refine e.trans (List.mergeSort_of_pairwise ?_)
  refine List.pairwise_map.2 (h.imp fun {p q} hpq => ?_)
  simp only [leB, decide_eq_true_eq]
  exact List.le_of_lt (before_lt _ _ hpq)
set_option maxHeartbeats 16000000 in
theorem marksAll_any {w : World} {p g q cap : Nat} {S : SS} {l : List O} {R : Nat → Prop} (hRl : ∀ k, R k → k < w.heap.size) (hS : ∀ wr, Touch (fun k => ¬ R k) w wr → SeqRd wr p S)
    (rg : R g) (hle : l.length ≤ cap) (hmx : cap ≤ maxLen) (hl : ∀ i (h : i < l.length), w.rangeAt g (q + i * 22) l[i].vals.toList) (hf : ∀ o ∈ l, o.fits) (hky : ∀ o ∈ l, o.ky.size ≤ maxLen) (hll : l.length ≤ 1000)
    (wl : Key → List Spn) (hwl : ∀ k, ∀ m ∈ wl k, 0 ≤ m.f ∧ m.f ≤ m.t ∧ m.t ≤ (S.units.length : Int)) (hwn : ∀ k, (wl k).length ≤ 1000)
    (hwon : ∀ k, byK (spansM S l) k ≠ [] → ∀ W v, W.ownsRow 0 88 24 v (byK (spansM S l) k).length (cellsX (byK (spansM S l) k)) → Calls Tryz.prog 32 #[v] W fun e w' => ∃ v', e = .returned v' ∧ NewX W w' v' (wl k)) :
    Calls Tryz.prog 12 #[.pointer (some ⟨p, 0, none⟩), .slice (some ⟨g, q, none⟩) l.length cap] w fun e w' => ∃ go M vs ks, e = .returned (.slice (some ⟨go, 0, none⟩) S.units.length S.units.length) ∧ OutM w w' go S.units.length M vs ∧ (∀ k, k ∈ ks ↔ byK (spansM S l) k ≠ []) ∧ ks.Pairwise (fun a b => bytesBefore a b = true) ∧ ∀ i, i < S.units.length → M i = allF wl ks i := by
  refine marksAll_upto hRl hS rg hle hmx hl hf hky (by omega) _ ?_
  intro D n es Ψ W2 hD hnD hI hd
  have hSr := hS W2 (hI.t.mono fun _ _ q => q.elim)
  obtain ⟨N, hN⟩ : ∃ N, Hid (N = S.units.length) := ⟨_, Eq.refl _⟩
  have hNle : N ≤ 1000000 := by rw [hN.out]; exact hSr.le
  have HLen : Hid (Calls Tryz.prog 13 #[.pointer (some ⟨p, 0, none⟩)] W2 fun e w' => e = .returned (.int .i64 (N : Int)) ∧ Touch (fun _ => False) W2 w') := by rw [hN.out]; exact hSr.len W2 (Touch.refl _ _)
  rw [← hN.out] at hwl ⊢
  have hsp : (spansM S l).length ≤ l.length := List.length_filterMap_le _ _
  have HEl : Hid (es.length ≤ 1000) := by have := hI.elen; rw [Hid]; omega
  have HKs : Hid (∀ k, k ∈ es.map (·.1) ↔ byK (spansM S l) k ≠ []) := fun k => by
    constructor
    · intro hk
      obtain ⟨p, hp, rfl⟩ := List.mem_map.1 hk
      exact hI.full p hp
    · intro hk
      cases e : aget k es with
      | none => exact absurd (hI.keys k e) hk
      | some v => exact List.mem_map.2 ⟨_, aget_mem e, rfl⟩
  have HPw : Hid ((es.map (·.1)).Pairwise (fun a b => bytesBefore a b = true)) := List.pairwise_map.2 hI.rise
  have HRi : Hid (Rising es) := hI.rise
  have HKl : Hid (∀ j (h : j < es.length), (⟨⟨es[j].1⟩⟩ : ByteArray).size ≤ maxLen) := fun j h => by
    have h1 := hI.full _ (List.getElem_mem h)
    obtain ⟨x, hx⟩ := List.exists_mem_of_ne_nil _ h1
    obtain ⟨hx1, hx2⟩ := List.mem_filter.1 hx
    obtain ⟨o, ho, e2⟩ := List.mem_filterMap.1 hx1
    have e3 : x.o = o := by
      unfold spanM at e2
      split at e2
      · cases e2; rfl
      · cases e2
    have h4 := hky o ho
    rw [← e3] at h4
    have e5 : x.o.ky.data.toList = es[j].1 := by simpa using hx2
    rw [← e5]
    exact h4
  have HWon : Hid (∀ j (h : j < es.length) W, Touch (fun _ => False) W2 W → Calls Tryz.prog 32 #[es[j].2] W fun e w' => ∃ v', e = .returned v' ∧ NewX W w' v' (wl es[j].1)) := fun j h W t => hwon _ (hI.full _ (List.getElem_mem h)) W _ (ownX_touch (hI.rows _ (List.getElem_mem h)) t fun _ _ => id)
  have HOwn : Hid (∀ W, Touch (fun _ => False) W2 W → W.ownsMap Tryz.prog 9 heldO w.heap.size n (toV es) ∧ W.cell? ⟨w.heap.size + 1, 0, none⟩ = some (.map (some w.heap.size))) := fun W t => ⟨ownsO_touch hI.own t id, by rw [cell_of_block (heap_keep t hI.wb)]; rfl⟩
  have HD : Hid (w.heap.size + 4 ≤ D ∧ W2.heap[D]? = some (.deferred (some []))) := ⟨hD, hd⟩
  have HT2 : Hid (Touch (fun _ => False) w W2) := hI.t
  have HWl : Hid (∀ k, ∀ m ∈ wl k, 0 ≤ m.f ∧ m.f ≤ m.t ∧ m.t ≤ (N : Int)) := hwl
  have HWn : Hid (∀ k, (wl k).length ≤ 1000) := hwn
  clear hRl hS rg hl hf hky hI hd hD hnD hSr hwl hwn hwon hle hmx hN hsp
  generalize spansM S l = sp at *
  generalize hws : w.heap.size = ws at *
  have HWs : Hid (w.heap.size = ws) := hws
  clear hws
  refine wpIn_wide.2 ?_
  obtain ⟨Q, hQ⟩ : ∃ Q, Hid (Q = bodyPostM Fence.wide 3 Tryz.prog Tryz.f12 fun e w' => ∃ go M vs ks, e = .returned (.slice (some ⟨go, 0, none⟩) N N) ∧ OutM w w' go N M vs ∧ (∀ k, k ∈ ks ↔ byK sp k ≠ []) ∧ ks.Pairwise (fun a b => bytesBefore a b = true) ∧ ∀ i, i < N → M i = allF wl ks i) := ⟨_, Eq.refl _⟩
  rw [← hQ.out]
  unfold restOf Tryz.f12
  simp only
  go_wp2_with fail
  refine HLen.out.mono ?_
  rintro e W3 ⟨rfl, t3⟩
  have hmk := make_rows N hNle
  obtain ⟨W4, hW4⟩ : ∃ W4, Hid (W4 = W3.alloc (.cells (Array.replicate N (.slice none 0 0)) 45)) := ⟨_, Eq.refl _⟩
  have HO4 : Hid (OutM W3 W4 W3.heap.size N (fun _ => []) (fun _ => .slice none 0 0)) := by rw [hW4.out]; exact OutM.made W3 W3 N (Touch.refl _ _)
  have HT3 : Hid (Touch (fun _ => False) W2 W3) := t3
  have HT4 : Hid (Touch (fun _ => False) W2 W4) := t3.trans HO4.out.t
  clear t3 HLen
  go_upto_region 6 with fail
  rw [← hW4.out]
  clear hW4 hmk
  generalize W3.heap.size = go at *
  have HSo : Hid (Calls Tryz.prog 30 #[.func (.func 62) #[] #[.pointer (some ⟨W4.heap.size, 0, none⟩)]] (W4.alloc (.cells #[.map (some ws)] 83)) fun e w' => ∃ v, e = .returned v ∧ w'.ownsRow W4.heap.size 9 1 v es.length (es.map fun p => encStr p.1) ∧ Touch (fun _ => False) W4 w') := by
    refine (callsIn_wide (n := 5)).1 ((Tryz.slices_Sorted_keys_30_31 ws n (toV es) heldO W4 (HOwn.out W4 HT4.out).1 (by rw [toV_size]; have := HEl.out; unfold maxLen; omega) (by rw [toV_size]; have := HEl.out; omega)).mono ?_)
    rintro e w' ⟨v, ss, rfl, hS, hrow, hnil, hb⟩
    rw [toV_keys] at hS
    rw [rising_sortedV es HRi.out hS, hS.length_eq, List.map_map, List.length_map] at hrow
    refine ⟨v, rfl, ownsRow_base_a hrow (by simp), ?_⟩
    exact ((Touch.refl _ W4).alloc _).trans (touch_below hb)
  have c5 := (HOwn.out W4 HT4.out).2
  go_wp2_with fail
  refine (callsIn_wide.1 (Tryz.maps_Keys_31 _ _)).mono ?_
  rintro e Wk ⟨rfl, hWk⟩
  rw [hWk]
  clear hWk
  go_wp2_with fail
  refine HSo.out.mono ?_
  rintro e W5 ⟨v, rfl, hrow, hT5⟩
  obtain ⟨no, nc, rfl, HNC⟩ : ∃ no nc, v = .slice no es.length nc ∧ Hid (0 < es.length → ∃ gN cN fr, no = some ⟨gN, 0, none⟩ ∧ W5.heap[gN]? = some (.cells cN 9 fr) ∧ ∀ k (h : k < es.length), cN[k]? = some (.string ⟨⟨es[k].1⟩⟩)) := by
    rcases hrow.2 with ⟨e, h0⟩ | ⟨gN, c, cur, e, hb, hg, h1, h2, h3, h4⟩
    · exact ⟨none, 0, by rw [e, h0], fun h => by omega⟩
    · refine ⟨_, c, e, fun _ => ⟨gN, cur, _, rfl, hg, fun k h => ?_⟩⟩
      have h5 : (es.map fun p => encStr p.1)[k]? = some (encStr es[k].1) := by simp [List.getElem?_eq_getElem h]
      rw [← h4, List.getElem?_take] at h5
      rw [if_pos (by omega)] at h5
      rw [← Array.getElem?_toList]
      exact h5
  have HO5 : Hid (OutM W3 W5 go N (fun _ => []) (fun _ => .slice none 0 0)) := HO4.out.keep hT5
  clear hrow hT5 HSo c5 HO4 HT4
  go_wp2_with fail
  go_loopw [37] (fun i wr => ∃ j : Nat, i = .int .i64 (j : Int) ∧ j ≤ es.length ∧ ∃ M vs, OutM W3 wr go N M vs ∧ KeepT W5 wr ∧ ∀ k, k < N → M k = allF wl ((es.map (·.1)).take j) k) (fun i _ => es.length - (intOf i).toNat)
  case atStart => exact ⟨0, rfl, Nat.zero_le _, _, _, HO5.out, KeepT.refl _, fun k _ => rfl⟩
  case round =>
    obtain ⟨j, rfl, hj, M, vs, hO, hKT, hM⟩ := hrel
    by_cases hlt : j < es.length
    · obtain ⟨gN, cN, fr, rfl, hgN, hcN⟩ := HNC.out (by omega)
      have ck : wr.cell? ⟨gN, j, none⟩ = some (.string ⟨⟨es[j].1⟩⟩) := by rw [cell_of_block (hKT _ _ _ _ hgN (by decide) (by decide))]; exact hcN j hlt
      have tW : Touch (fun _ => False) W2 wr := HT3.out.trans hO.t
      obtain ⟨hom, c5⟩ := HOwn.out wr tW
      have hlk : (Instr.lookup 83 (.map (some ws)) (.string ⟨⟨es[j].1⟩⟩) false).run Tryz.prog wr = .ok es[j].2 wr := by
        rw [lookV1_run hom ⟨⟨es[j].1⟩⟩ (HKl.out j hlt)]
        have e : getV (⟨⟨es[j].1⟩⟩ : ByteArray).data.toList es = es[j].2 := getV_at HRi.out hlt
        rw [e]
      have HW : Hid (Calls Tryz.prog 32 #[es[j].2] wr fun e w' => ∃ v', e = .returned v' ∧ NewX wr w' v' (wl es[j].1)) := HWon.out j hlt wr tW
      have HMl : Hid (∀ k, k < N → (M k).length ≤ 1000000) := fun k hk => by
        rw [hM k hk]
        have h1 := allF_len wl HWn.out ((es.map (·.1)).take j) k
        have h2 : ((es.map (·.1)).take j).length ≤ 1000 := by rw [List.length_take, List.length_map]; have := HEl.out; omega
        have h3 := Nat.mul_le_mul_right 1000 h2
        omega
      have HNx : Hid (∀ k, allF wl ((es.map (·.1)).take (j + 1)) k = allF wl ((es.map (·.1)).take j) k ++ shM (wl es[j].1) k) := fun k => by
        rw [allF_take wl (show j < (es.map (·.1)).length by simpa using hlt), List.getElem_map]
      have HM : Hid (∀ k, k < N → M k = allF wl ((es.map (·.1)).take j) k) := hM
      have HO : Hid (OutM W3 wr go N M vs) := hO
      have HKT : Hid (KeepT W5 wr) := hKT
      have HMw : Hid (∀ m ∈ wl es[j].1, 0 ≤ m.f ∧ m.f ≤ m.t ∧ m.t ≤ (N : Int)) := HWl.out _
      have HMn : Hid ((wl es[j].1).length ≤ 1000) := HWn.out _
      have HLt : Hid (j < es.length) := hlt
      have hi1 : (0 : Int) ≤ (j : Int) := by omega
      have hi2 : (j : Int) < (es.length : Int) := by omega
      have hjm : (j : Int) + 1 < 9223372036854775808 := by have := HEl.out; omega
      clear hM hO hKT hj hcN hgN hom tW
      generalize hms : wl es[j].1 = ms at *
      clear hms
      generalize es[j].1 = kk at *
      generalize es[j].2 = vv at *
      clear hlt
      go_wp2_with fail
      refine HW.out.mono ?_
      rintro e W6 ⟨v', rfl, hNew⟩
      have HO6 : Hid (OutM W3 W6 go N M vs) := HO.out.keep hNew.touch
      have HK6 : Hid (KeepT W5 W6) := HKT.out.trans (KeepT.of hNew.touch)
      obtain ⟨ao, ac, rfl, -, -, -⟩ := hNew.shape
      have HN6 : Hid (NewX wr W6 (.slice ao ms.length ac) ms) := hNew
      clear hNew HW ck c5 hlk HO HKT
      go_wp2_with fail
      go_loopw [46] (fun i wq => ∃ j2 : Nat, i = .int .i64 (j2 : Int) ∧ j2 ≤ ms.length ∧ ∃ M2 vs2, OutM W3 wq go N M2 vs2 ∧ KeepT W6 wq ∧ ∀ k, k < N → M2 k = M k ++ shM (ms.take j2) k) (fun i _ => ms.length - (intOf i).toNat)
      case atStart => exact ⟨0, rfl, Nat.zero_le _, _, _, HO6.out, KeepT.refl _, fun k _ => by simp [shM]⟩
      case round =>
        obtain ⟨j2, rfl, hj2, M2, vs2, hO2, hK2, hM2⟩ := hrel
        rename World => wq
        by_cases hlt2 : j2 < ms.length
        · obtain ⟨gv, ac', ev, hrg⟩ := HN6.out.kept (by omega)
          simp only [Value.slice.injEq] at ev
          obtain ⟨rfl, -, -⟩ := ev
          have HRg : Hid (wq.rangeAt gv (j2 * 24) ms[j2].vals.toList) := hrg wq hK2 j2 hlt2
          have HXb : Hid (0 ≤ ms[j2].f ∧ ms[j2].f ≤ ms[j2].t ∧ ms[j2].t ≤ (N : Int)) := HMw.out _ (List.getElem_mem hlt2)
          have HSt : Hid (∀ k, shM (ms.take (j2 + 1)) k = shM (ms.take j2) k ++ sh1 ms[j2] k) := fun k => shM_take hlt2 k
          have HM2 : Hid (∀ k, k < N → M2 k = M k ++ shM (ms.take j2) k) := hM2
          have HM2l : Hid (∀ k, k < N → (M2 k).length ≤ 1002000) := fun k hk => by
            rw [hM2 k hk, List.length_append]
            have h1 := HMl.out k hk
            have h2 := shM_len (ms.take j2) k
            have h3 := HMn.out
            rw [List.length_take] at h2
            omega
          have HO2 : Hid (OutM W3 wq go N M2 vs2) := hO2
          have HK2 : Hid (KeepT W6 wq) := hK2
          have HLt2 : Hid (j2 < ms.length) := hlt2
          have hi3 : (0 : Int) ≤ (j2 : Int) := by omega
          have hi4 : (j2 : Int) < (ms.length : Int) := by omega
          have hj2m : (j2 : Int) + 1 < 9223372036854775808 := by have := HMn.out; omega
          clear hrg hM2 hO2 hK2 hj2
          generalize ms[j2] = x at *
          clear hlt2
          obtain ⟨W7, hW7⟩ : ∃ W7, Hid (W7 = (wq.alloc zeroSpn).setCells wq.heap.size 0 x.vals.toList) := ⟨_, Eq.refl _⟩
          have HW7 : Hid (Touch (fun _ => False) wq W7 ∧ W7.heap[wq.heap.size]? = some (spnO x)) := by rw [hW7.out]; exact newSpn wq x
          go_upto_region 11 with fail
          refine wp_region_lit ?_
          refine wpList_plain rfl fun K hK => ?_
          go_simp
          refine hK _ _ ?_
          clear hK K
          refine wpList_load_mid rfl 88 (.tmp 48) rfl gv (j2 * 24) rfl x.vals.toList _ HRg.out Tryz.underlying88 rfl (by kernel_rfl) ?_
          simp only [Act.put, List.setIfInBounds_toArray, List.set_cons_succ, List.set_cons_zero]
          refine wpList_plain rfl fun K hK => ?_
          go_simp
          refine hK _ _ ?_
          clear hK K
          refine wpList_store_mid rfl 88 (.tmp 11) (.tmp 49) rfl wq.heap.size 0 x.vals rfl rfl (there_ofS (heap_alloc_new wq zeroSpn) 0 24 (by decide)) (by kernel_rfl) (by kernel_rfl) ?_
          simp only [Act.put]
          rw [← hW7.out]
          clear hW7 HRg
          generalize wq.heap.size = X at *
          generalize Value.agg #[.int .i64 x.f, .int .i64 x.t, .int .u64 x.o.c, .int .u64 x.o.k, .int .i64 x.o.kind, .int .u64 x.o.st, .int .u64 x.o.lc, .int .u64 x.o.lk, .int .u64 x.o.rc, .int .u64 x.o.rk, .string x.o.tx, .int .i64 x.o.vk, .int .i64 x.o.vn, .float .f64 x.o.vf, .string x.o.vs, .string x.o.ky, .int .u64 x.o.pc, .int .u64 x.o.pk, .int .u64 x.o.fc, .int .u64 x.o.fk, .bool x.o.fa, .int .u64 x.o.tc, .int .u64 x.o.tk, .bool x.o.ta] = v49
          go_upto_region 12 with fail
          refine wp_region_lit ?_
          refine wpList_plain rfl fun K hK => ?_
          go_simp
          refine hK _ _ ?_
          clear hK K
          refine wpList_load_mid rfl 39 (.tmp 50) rfl X 2 rfl x.o.vals.toList _ (rangeAt_spn HW7.out.2) Tryz.underlying39 rfl (by kernel_rfl) ?_
          simp only [Act.put, List.setIfInBounds_toArray, List.set_cons_succ, List.set_cons_zero]
          refine wpList_plain rfl fun K hK => ?_
          go_simp
          refine (isShown_any x.o W7).mono ?_
          rintro e W8 ⟨rfl, t8⟩
          refine hK _ _ ?_
          clear hK K
          have HX8 : Hid (W8.heap[X]? = some (spnO x)) := heap_keep t8 HW7.out.2
          have HO8 : Hid (OutM W3 W8 go N M2 vs2) := HO2.out.keep (HW7.out.1.trans t8)
          have HK8 : Hid (KeepT W6 W8) := HK2.out.trans (KeepT.of (HW7.out.1.trans t8))
          clear t8 HW7 HO2 HK2
          generalize Value.agg #[.int .u64 x.o.c, .int .u64 x.o.k, .int .i64 x.o.kind, .int .u64 x.o.st, .int .u64 x.o.lc, .int .u64 x.o.lk, .int .u64 x.o.rc, .int .u64 x.o.rk, .string x.o.tx, .int .i64 x.o.vk, .int .i64 x.o.vn, .float .f64 x.o.vf, .string x.o.vs, .string x.o.ky, .int .u64 x.o.pc, .int .u64 x.o.pk, .int .u64 x.o.fc, .int .u64 x.o.fk, .bool x.o.fa, .int .u64 x.o.tc, .int .u64 x.o.tk, .bool x.o.ta] = v51
          obtain ⟨z, hz⟩ : ∃ z, z = !(x.o.vk == 0) := ⟨_, rfl⟩
          rw [← hz]
          have HZ : Hid (z = !(x.o.vk == 0)) := hz
          clear hz
          have hm0 : Hid (ms.length - (j2 + 1) < ms.length - j2) := by have := HLt2.out; rw [Hid]; omega
          cases z with
          | false =>
            have e0 : (x.o.vk == 0) = true := by have := HZ.out; cases h : (x.o.vk == 0) <;> simp [h] at this ⊢
            have HU : Hid (∃ j' : Nat, (.int .i64 ((j2 : Int) + 1) : Value) = .int .i64 (j' : Int) ∧ j' ≤ ms.length ∧ ∃ M2 vs2, OutM W3 W8 go N M2 vs2 ∧ KeepT W6 W8 ∧ ∀ k, k < N → M2 k = M k ++ shM (ms.take j') k) :=
              ⟨j2 + 1, by go_num, HLt2.out, M2, vs2, HO8.out, HK8.out, fun k hk => by rw [HM2.out k hk, HSt.out k, sh1_null x k e0, List.append_nil]⟩
            clear e0 HZ HO8 HK8 HX8 HM2 HSt
            go_wp2_with fail
            go_roundw
            case rel => exact HU.out
            case measure => simp only [intOf]; have := hm0.out; omega
          | true =>
            have HE0 : Hid ((x.o.vk == 0) = false) := by have := HZ.out; rw [Hid]; cases h : (x.o.vk == 0) <;> simp [h] at this ⊢
            obtain ⟨fN, tN, HFT, hfN, htN⟩ : ∃ fN tN : Nat, Hid (fN ≤ tN ∧ tN ≤ N) ∧ x.f = (fN : Int) ∧ x.t = (tN : Int) := by
              have := HXb.out
              exact ⟨x.f.toNat, x.t.toNat, by rw [Hid]; omega, by omega, by omega⟩
            have c0 : W8.cell? ⟨X, 0, none⟩ = some (.int .i64 (fN : Int)) := by rw [cell_of_block HX8.out, ← hfN]; rfl
            have HC1 : Hid (∀ W, KeepT W8 W → W.heap[X]? = some (spnO x) ∧ W.cell? ⟨X, 1, none⟩ = some (.int .i64 (tN : Int))) := fun W hk => by
              have h1 : W.heap[X]? = some (spnO x) := hk _ _ _ _ HX8.out (by decide) (by decide)
              refine ⟨h1, ?_⟩
              rw [cell_of_block h1, ← htN]; rfl
            have HSh : Hid ((∀ k, shC x fN k = []) ∧ (∀ k, shC x tN k = sh1 x k) ∧ ∀ c k, fN ≤ c → shC x (c + 1) k = if k = c then shC x c c ++ [mk x.o] else shC x c k) := by
              refine ⟨fun k => shC_0 x fN k (by omega), fun k => shC_end x tN k htN.symm HE0.out, fun c k hc => ?_⟩
              by_cases e : k = c
              · subst e
                rw [if_pos rfl, (shC_at x k (by omega)).1, (shC_at x k (by omega)).2]; rfl
              · rw [if_neg e, shC_other x c k e]
            clear HZ HX8 hfN htN HXb
            go_wp2_with fail
            clear c0
            go_loopw [12] (fun pl wp => ∃ c : Nat, pl = .int .i64 (c : Int) ∧ fN ≤ c ∧ c ≤ tN ∧ ∃ M3 vs3, OutM W3 wp go N M3 vs3 ∧ KeepT W8 wp ∧ ∀ k, k < N → M3 k = M2 k ++ shC x c k) (fun pl _ => tN - (intOf pl).toNat)
            case atStart => exact ⟨fN, rfl, Nat.le_refl _, HFT.out.1, M2, vs2, HO8.out, KeepT.refl _, fun k _ => by rw [HSh.out.1 k, List.append_nil]⟩
            case round =>
              obtain ⟨c, rfl, hc1, hc2, M3, vs3, hO3, hK3, hM3⟩ := hrel
              rename World => wp
              obtain ⟨hXw, x1⟩ := HC1.out wp hK3
              by_cases hlt3 : c < tN
              · have hi5 : (c : Int) < (tN : Int) := by omega
                have hi6 : (0 : Int) ≤ (c : Int) := by omega
                have hcN : c < N := by have := HFT.out; omega
                have hi7 : (c : Int) < (N : Int) := by omega
                have hcm : (c : Int) + 1 < 9223372036854775808 := by omega
                have hml : (M3 c).length ≤ 1073741824 := by
                  rw [hM3 c hcN, List.length_append]
                  have h1 := HM2l.out c hcN
                  have h2 : (shC x c c).length ≤ 1 := by unfold shC; split <;> simp
                  omega
                obtain ⟨a0, l0, c0, e0⟩ := ownY_shape (hO3.own c hcN)
                have HRx : Hid (∀ V, Touch (fun _ => False) wp V → V.rangeAt X 2 x.o.vals.toList) := fun V tV => rangeAt_spn (heap_keep tV hXw)
                have HCx : Hid (∀ V, Touch (fun _ => False) wp V → V.cell? ⟨go, c, none⟩ = some (.slice a0 l0 c0)) := fun V tV => by
                  obtain ⟨cc, b1, b2, b3⟩ := (hO3.keep tV).blk
                  rw [cell_of_block b1, ← e0]
                  exact b3 c hcN
                have HAx : Hid (∀ V, Touch (fun _ => False) wp V → ∃ a1 l1 c1 w2, (Builtin.append_ #[45, 45] 45 #[.slice a0 l0 c0, .slice (some ⟨V.heap.size, 0, none⟩) 1 1]).run Tryz.prog (V.alloc (myO (mk x.o))) = .ok (.slice a1 l1 c1) w2 ∧ w2.cell? ⟨go, c, none⟩ = some (.slice a0 l0 c0) ∧ w2.frozen? ⟨go, c, none⟩ = false ∧ w2.rangeAt X 2 x.o.vals.toList ∧ (w2.setCell ⟨go, c, none⟩ (.slice a1 l1 c1)).rangeAt X 2 x.o.vals.toList ∧ ∃ c' : Nat, (.int .i64 ((c : Int) + 1) : Value) = .int .i64 (c' : Int) ∧ fN ≤ c' ∧ c' ≤ tN ∧ ∃ M3 vs3, OutM W3 (w2.setCell ⟨go, c, none⟩ (.slice a1 l1 c1)) go N M3 vs3 ∧ KeepT W8 (w2.setCell ⟨go, c, none⟩ (.slice a1 l1 c1)) ∧ ∀ k, k < N → M3 k = M2 k ++ shC x c' k) := fun V tV => by
                  obtain ⟨v', w', r1, r2, r3, r4, r5, r6⟩ := hO3.app2 hcN (mk x.o) hml tV
                  obtain ⟨a1, l1, c1, e1⟩ := ownY_shape (r6.own c hcN)
                  simp only [if_true] at e1
                  subst e1
                  rw [e0] at r1 r2
                  refine ⟨a1, l1, c1, w', r1, r2, r3, rangeAt_spn (r4 _ _ _ _ hXw (by decide) (by decide)), rangeAt_spn (r5 _ _ _ _ hXw (by decide) (by decide)), c + 1, by go_num, by omega, by omega, _, _, r6, hK3.trans r5, fun k hk => ?_⟩
                  rw [HSh.out.2.2 c k hc1]
                  by_cases ek : k = c
                  · subst ek
                    rw [if_pos rfl, if_pos rfl, hM3 k hk, List.append_assoc]
                  · rw [if_neg ek, if_neg ek, hM3 k hk]
                have hm1 : Hid (tN - (c + 1) < tN - c) := by rw [Hid]; omega
                clear hO3 hK3 hM3 hml hcN hlt3 hc1 hc2 e0 hXw HSh
                go_wp2_with fail
                refine all_reg16 go N c X x.o a0 l0 c0 _ _ _ _ _ _ _ _ _ _ _ _ _ _ _ _ _ _ _ _ _ _ _ _ _ _ _ _ _ _ _ _ _ _ _ _ _ _ _ _ _ _ _ _ _ _ _ _ _ _ _ _ _ _ _ _ _ _ _ _ _ _ _ _ _ _ _ _ _ _ _ _ _ _ _ hi6 hi7 HRx.out HCx.out ?_
                intro V tV
                obtain ⟨a1, l1, c1, w2, r1, r2, r3, r4, r5, r6⟩ := HAx.out V tV
                refine ⟨a1, l1, c1, w2, r1, r2, r3, r4, r5, ?_⟩
                have HU : Hid (∃ c' : Nat, (.int .i64 ((c : Int) + 1) : Value) = .int .i64 (c' : Int) ∧ fN ≤ c' ∧ c' ≤ tN ∧ ∃ M3 vs3, OutM W3 (w2.setCell ⟨go, c, none⟩ (.slice a1 l1 c1)) go N M3 vs3 ∧ KeepT W8 (w2.setCell ⟨go, c, none⟩ (.slice a1 l1 c1)) ∧ ∀ k, k < N → M3 k = M2 k ++ shC x c' k) := r6
                clear r1 r2 r3 r4 r5 r6 HAx HRx HCx
                generalize w2.setCell ⟨go, c, none⟩ (.slice a1 l1 c1) = W9 at *
                generalize V.heap.size = vz at *
                go_wp2_with fail
                go_roundw
                case rel => exact HU.out
                case measure => simp only [intOf]; have := hm1.out; omega
              · have hi5 : ¬ (c : Int) < (tN : Int) := by omega
                have hce : c = tN := by omega
                subst hce
                have HU : Hid (∃ j' : Nat, (.int .i64 ((j2 : Int) + 1) : Value) = .int .i64 (j' : Int) ∧ j' ≤ ms.length ∧ ∃ M2 vs2, OutM W3 wp go N M2 vs2 ∧ KeepT W6 wp ∧ ∀ k, k < N → M2 k = M k ++ shM (ms.take j') k) :=
                  ⟨j2 + 1, by go_num, HLt2.out, M3, vs3, hO3, HK8.out.trans hK3, fun k hk => by rw [hM3 k hk, HM2.out k hk, HSh.out.2.1 k, HSt.out k, List.append_assoc]⟩
                clear hO3 hK3 hM3 hlt3 hc1 hc2 hXw HSh HC1 HM2 HSt HO8 HK8 HFT
                go_wp2_with fail
                go_roundw
                case rel => exact HU.out
                case measure => simp only [intOf]; have := hm0.out; omega
        · have hi4 : ¬ (j2 : Int) < (ms.length : Int) := by omega
          have hje : j2 = ms.length := by omega
          have HU : Hid (∃ j' : Nat, (.int .i64 ((j : Int) + 1) : Value) = .int .i64 (j' : Int) ∧ j' ≤ es.length ∧ ∃ M vs, OutM W3 wq go N M vs ∧ KeepT W5 wq ∧ ∀ k, k < N → M k = allF wl ((es.map (·.1)).take j') k) :=
            ⟨j + 1, by go_num, HLt.out, M2, vs2, hO2, HK6.out.trans hK2, fun k hk => by rw [hM2 k hk, HM.out k hk, HNx.out k, hje, List.take_length]⟩
          have hm0 : Hid (es.length - (j + 1) < es.length - j) := by have := HLt.out; rw [Hid]; omega
          clear hO2 hK2 hM2 hlt2 hj2 HN6 HO6 HK6 HM HNx hje
          go_wp2_with fail
          go_roundw
          case rel => exact HU.out
          case measure => simp only [intOf]; have := hm0.out; omega
    · have hje : j = es.length := by omega
      subst hje
      have hi2 : ¬ (es.length : Int) < (es.length : Int) := by omega
      have hK : wr.heap[D]? = some (.deferred (some [])) := heap_keep hO.t (heap_keep HT3.out HD.out.2)
      have HNew : Hid (OutM w (wr.putObj D (.deferred none)) go N M vs) := (hO.since (HT2.out.trans HT3.out)).putD hK (fun _ _ _ h => by cases h) (by have := HWs.out; have := HD.out.1; omega)
      have HMf : Hid (∀ i, i < N → M i = allF wl (es.map (·.1)) i) := fun i hi => by
        rw [hM i hi, List.take_of_length_le (by simp)]
      clear hO hM hKT HNC HT3 HOwn HKl HWon hlt hj
      go_wp2_with fail
      rw [hQ.out]
      refine ⟨by simp, .inl ⟨_, _, rfl, run_takeDeferred hK, ?_⟩⟩
      refine ⟨_, results_tmp rfl _ _ _, go, M, vs, es.map (·.1), rfl, HNew.out, HKs.out, HPw.out, HMf.out⟩
end Go.Proofs.YtnilikomoapcaaaGreat

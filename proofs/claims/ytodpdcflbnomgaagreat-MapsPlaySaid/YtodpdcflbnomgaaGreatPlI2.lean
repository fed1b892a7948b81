/- Package maps: Copy. -/
import Derived.Test.YtodpdcflbnomgaaGreatPart21
import Derived.Deep.RegionHeld3
namespace Go.Proofs.YtodpdcflbnomgaaGreat
open Go.RowKit Go.Maps
set_option linter.unusedVariables false
set_option linter.unusedSimpArgs false
set_option maxRecDepth 100000

theorem touch_blw {w w' : World} (h : Below w.heap.size w w') : Touch (fun _ => False) w w' := ⟨h.os, h.tape, h.output, h.size, fun k hk _ => h.block k hk⟩
theorem makeI (n : Int) (W : World) : (Instr.makeMap 64 (some (.int .i64 n))).run Tryz.prog W = .ok (.map (some W.heap.size)) (W.alloc (.map #[] 0)) := by kernel_rfl
theorem makeS (n : Int) (W : World) : (Instr.makeMap 63 (some (.int .i64 n))).run Tryz.prog W = .ok (.map (some W.heap.size)) (W.alloc (.map #[] 0)) := by kernel_rfl
/-- What is read of an inner map while it is copied. -/
theorem inn_rank {i : Inn} {x : ByteArray} {c : Value} (hat : ∀ zd, (toV (amap Rk.v i.es)).atKey (.string x.data.toList) zd = DataW.held c) (hl : (Maps.has (toV (amap Rk.v i.es))) (.string x.data.toList) = true) : ∃ r, aget x.data.toList i.es = some r ∧ c = r.v := by
  rw [toV_has, aget_amap] at hl
  have h1 := hat (.held (.bool false))
  rw [toV_at, aget_amap] at h1
  cases e : aget x.data.toList i.es with
  | none => rw [e] at hl; cases hl
  | some r =>
    rw [e] at h1
    simp only [Option.map_some, Option.getD_some, DataW.held.injEq] at h1
    exact ⟨r, rfl, h1.symm⟩
theorem out_inn {os : List (Key × Inn)} {c k : Int} {v : Value} (hat : ∀ zd, (toV (amap innV os)).atKey (.string (kI c k)) zd = DataW.held v) (hl : (Maps.has (toV (amap innV os))) (.string (kI c k)) = true) : ∃ i, aget (kI c k) os = some i ∧ v = .map (some i.b) := by
  rw [toV_has, aget_amap] at hl
  have h1 := hat (.held (.bool false))
  rw [toV_at, aget_amap] at h1
  cases e : aget (kI c k) os with
  | none => rw [e] at hl; cases hl
  | some i =>
    rw [e] at h1
    simp only [Option.map_some, Option.getD_some, DataW.held.injEq] at h1
    exact ⟨i, rfl, h1.symm⟩
theorem rowP_sl {w : World} {v : Value} {l : List O} (h : w.ownsRow 0 41 22 v l.length (cellsP l)) : SlP w v l := by
  rcases h.2 with ⟨e, h0⟩ | ⟨g, cap, cur, e, hb, hg, q1, q2, q3, q4⟩
  · have : l = [] := List.length_eq_zero_iff.1 (by omega)
    subst this
    rw [e]; exact SlP.nil w
  · refine ⟨_, cap, e, (fun h => by cases h), q1, q2, .inr ⟨g, 0, rfl, fun j u hu => ?_⟩⟩
    rw [← q4, List.getElem?_take] at hu
    split at hu
    · rw [cell_of_block hg, Nat.zero_add, ← Array.getElem?_toList]; exact hu
    · cases hu
set_option maxHeartbeats 16000000 in
theorem copyM_any {w : World} {g mt mk : Nat} {hv : Value} {os : List (Key × Inn)} {s : MS} (hC : MapsC w g mt mk hv os s) (hn : os.length ≤ 1000000) (hn2 : ∀ p ∈ os, p.2.es.length ≤ 1000000) :
    Calls Tryz.prog 14 #[.pointer (some ⟨g, 0, none⟩)] w fun e w' => ∃ X mt' Bk os', e = .returned (.pointer (some ⟨X, 0, none⟩)) ∧ MapsC w' X mt' Bk hv os' s ∧ (∀ k, footM X mt' Bk hv os' k → w.heap.size ≤ k ∨ hv.ownBlock = some k) ∧ Touch (fun _ => False) w w' := by
  obtain ⟨ho, hc, rfl, -⟩ := (rowR_sl hC.hidR).shape
  obtain ⟨hn3, hn3e⟩ : ∃ n, n = s.hid.length := ⟨_, rfl⟩
  rw [← hn3e] at hC
  rw [← hn3e]
  clear hn3e
  have HC : Hid (MapsC w g mt mk (.slice ho hn3 hc) os s) := hC
  obtain ⟨Bk, hBk⟩ : ∃ B, Hid (B = w.heap.size) := ⟨_, Eq.refl _⟩
  obtain ⟨W1, hW1⟩ : ∃ W, Hid (W = w.alloc (.map #[] 0)) := ⟨_, Eq.refl _⟩
  have HT1 : Hid (Touch (fun _ => False) w W1 ∧ W1.ownsMap Tryz.prog 34 heldO Bk 0 (toV []) ∧ W1.heap.size = Bk + 1 ∧ w.heap.size ≤ Bk) := by
    rw [hW1.out, hBk.out]
    exact ⟨(Touch.refl _ _).alloc _, World.ownsMap_made (H := Value) w Tryz.prog 34 heldO, by simp, Nat.le_refl _⟩
  have hmk : mk < w.heap.size := hC.keys.lt
  have c1 := hC.c1
  have hln := fun ty => hC.keys.len Tryz.underlying64 ty
  simp only [toV_size, length_amap] at hln
  have hmake := makeI (os.length : Int) w
  rw [← hW1.out, ← hBk.out] at hmake
  have hC1 := hC.quiet HT1.out.1
  have d1 := hC1.c1
  have hown : W1.ownsMap Tryz.prog 34 heldO mk os.length (toV (amap innV os)) := hC1.keys
  clear hC hC1 hW1
  go_enter Tryz.func14, Tryz.ntmps14
  go_upto_region 2 with fail
  go_wp2_with (first
    | (at_range; refine wpList_range_own _ rfl _ 64 rfl 34 63 lawI Tryz.underlying64 _ mk os.length _ rfl hown ?_; intro w0 hrg0 hg0 hs0)
    | fail)
  go_frame
  obtain ⟨Bx, hBx⟩ : ∃ B, Hid (B = W1.heap.size) := ⟨_, Eq.refl _⟩
  rw [← hBx.out] at hrg0 ⊢
  simp only [toV_size, length_amap] at hrg0
  have HB : Hid (Bk < Bx ∧ Bx < w0.heap.size ∧ w.heap.size ≤ Bk ∧ w.heap.size ≤ w0.heap.size) := by
    have := HT1.out.2.2
    rw [Hid, hBx.out, hs0]
    have := HT1.out.1.size
    omega
  have HT0 : Hid (Touch (fun _ => False) w w0) := HT1.out.1.grown hg0 (fun i e _ => by cases e)
  have HO0 : Hid (CpOut w w0 os mk Bk Bx (Maps.has (toV (amap innV os))) os.length []) := by
    refine ⟨hrg0, Nat.le_refl _, ?_, cp_start innL innV os, List.Pairwise.nil, (fun p hp => by cases hp), (fun p hp => by cases hp), ⟨fun _ => none, fun p hp => by cases hp⟩, ⟨fun _ => none, fun p hp => by cases hp⟩, HT0.out⟩
    exact (HT1.out.2.1.kept hg0 (by simp)).mono (Nat.zero_le _)
  have HM : Hid (os.length ≤ 1000000) := hn
  clear hrg0 hg0 hs0 hBx hown d1 hmake hln c1 HT1 hn
  go_loopw [4, 5] (fun _ _ wr => ∃ left cnt os', Hid (CpOut w wr os mk Bk Bx left cnt os' ∧ Bx < wr.heap.size)) (fun _ _ wr => wr.rangeLeft mk Bx)
  case atStart => exact ⟨_, _, [], HO0.out, HB.out.2.1⟩
  case round =>
    obtain ⟨left, cnt, os', HO⟩ := hrel
    obtain ⟨wo, hwo⟩ : ∃ wo, wo = wr := ⟨_, rfl⟩
    subst hwo
    have hrg := HO.out.1.rg
    go_wp2_with (first
      | (at_next; refine wpList_next_ranges _ rfl _ rfl 34 lawI heldO (fun x : Int × Int => idV x.1 x.2) (id : Value → Value) (fun key kl h => by obtain ⟨c, k, e, -⟩ := keyI_inv h; exact ⟨(c, k), e⟩) (fun v y _ => ⟨v, rfl⟩) mk Bx os.length _ _ _ rfl hrg ?_ ?_)
      | fail)
    · intro hc0 hl0
      subst hc0
      have HCD : Hid (∀ (w2 : World) (mt9 X : Nat), Touch (fun _ => False) wo w2 → ToldAt w2 mt9 s.told.length (amap (fun _ => .agg #[]) s.told) → wo.heap.size ≤ mt9 → w2.heap[X]? = some (.cells #[.map (some mt9), .map (some Bk), .slice ho hn3 hc] 66 (0, 0)) → w.heap.size ≤ X → MapsC w2 X mt9 Bk (.slice ho hn3 hc) os' s ∧ (∀ k, footM X mt9 Bk (.slice ho hn3 hc) os' k → w.heap.size ≤ k ∨ (Value.slice ho hn3 hc).ownBlock = some k) ∧ Touch (fun _ => False) w w2) := fun w2 mt9 X t ht h1 hX h2 => HO.out.1.done HC.out hl0 HB.out.2.2.1 HB.out.1 t ht h1 hX h2
      have HS : Hid (∀ V, Touch (fun _ => False) wo V → V.cell? ⟨g, 0, none⟩ = some (.map (some mt)) ∧ V.cell? ⟨g, 2, none⟩ = some (.slice ho hn3 hc)) := fun V t => by
        have hq := HC.out.quiet (HO.out.1.touch.trans t)
        exact ⟨hq.c0, hq.c2⟩
      have HTo : Hid (∀ V, Touch (fun _ => False) wo V → ToldAt V mt s.told.length (amap (fun _ => .agg #[]) s.told)) := fun V t => (HC.out.quiet (HO.out.1.touch.trans t)).told
      have hws : Hid (w.heap.size ≤ wo.heap.size) := HO.out.1.touch.size
      clear HO HC hl0 hrg HO0 HT0
      go_upto_region 11 with fail
      refine wp_region_held_drew (S := fun V => V.cell? ⟨g, 0, none⟩ = some (.map (some mt)) ∧ V.cell? ⟨g, 2, none⟩ = some (.slice ho hn3 hc)) (by kernel_rfl) (HS.out _ (Touch.refl _ wo).drew) (fun hHeld => ?_)
      obtain ⟨V, hV⟩ : ∃ V, Hid (V = wo.drew) := ⟨_, Eq.refl _⟩
      have HTV : Hid (Touch (fun _ => False) wo V) := by rw [hV.out]; exact (Touch.refl _ _).drew
      rw [← hV.out] at hHeld ⊢
      clear hV
      refine wpAnyH_take (i := 0) (oi := { dst := some 42, op := Op.move (Operand.tmp 0), type := 25, pos := "maps.go:87", after := #[], guard := none }) (v := (.pointer (some ⟨g, 0, none⟩))) rfl (by kernel_rfl) (by kernel_rfl) (by kernel_rfl) (fun _ _ _ h => h) (Or.inl ⟨by kernel_rfl, ?_⟩) hHeld ?_
      · intro V1 hV1; clear hV1; go_simp
      simp only [Act.put, List.setIfInBounds_toArray, List.set_cons_succ, List.set_cons_zero]
      refine wpAnyH_take (i := 1) (oi := { dst := some 43, op := Op.nilCheck (Operand.tmp 42), type := 0, pos := "maps.go:87", after := #[{ on := 0, ground := Ground.data }], guard := none }) (v := (.pointer (some ⟨g, 0, none⟩))) rfl (by kernel_rfl) (by kernel_rfl) (by kernel_rfl) (fun _ _ _ h => h) (Or.inl ⟨by kernel_rfl, ?_⟩) hHeld ?_
      · intro V1 hV1; clear hV1; go_simp
      simp only [Act.put, List.setIfInBounds_toArray, List.set_cons_succ, List.set_cons_zero]
      refine wpAnyH_take (i := 2) (oi := { dst := some 44, op := Op.fieldAddr 66 (Operand.tmp 43) 0, type := 0, pos := "maps.go:87", after := #[{ on := 1, ground := Ground.data }], guard := none }) (v := (.pointer (some ⟨g, 0, none⟩))) rfl (by kernel_rfl) (by kernel_rfl) (by kernel_rfl) (fun _ _ _ h => h) (Or.inl ⟨by kernel_rfl, ?_⟩) hHeld ?_
      · intro V1 hV1; clear hV1; go_simp
      simp only [Act.put, List.setIfInBounds_toArray, List.set_cons_succ, List.set_cons_zero]
      refine wpAnyH_take (i := 3) (oi := { dst := some 45, op := Op.load 62 (Operand.tmp 44), type := 62, pos := "maps.go:87", after := #[{ on := 2, ground := Ground.data }], guard := none }) (v := (.map (some mt))) rfl (by kernel_rfl) (by kernel_rfl) (by kernel_rfl) (fun _ _ _ h => h) (Or.inl ⟨by kernel_rfl, ?_⟩) hHeld ?_
      · intro V1 hV1; obtain ⟨s0, -⟩ := hV1; go_simp
      simp only [Act.put, List.setIfInBounds_toArray, List.set_cons_succ, List.set_cons_zero]
      refine wpAnyH_take (i := 5) (oi := { dst := some 47, op := Op.move (Operand.tmp 3), type := 64, pos := "maps.go:87", after := #[], guard := none }) (v := (.map (some Bk))) rfl (by kernel_rfl) (by kernel_rfl) (by kernel_rfl) (fun _ _ _ h => h) (Or.inl ⟨by kernel_rfl, ?_⟩) hHeld ?_
      · intro V1 hV1; clear hV1; go_simp
      simp only [Act.put, List.setIfInBounds_toArray, List.set_cons_succ, List.set_cons_zero]
      refine wpAnyH_take (i := 6) (oi := { dst := some 48, op := Op.move (Operand.tmp 0), type := 25, pos := "maps.go:87", after := #[], guard := none }) (v := (.pointer (some ⟨g, 0, none⟩))) rfl (by kernel_rfl) (by kernel_rfl) (by kernel_rfl) (fun _ _ _ h => h) (Or.inl ⟨by kernel_rfl, ?_⟩) hHeld ?_
      · intro V1 hV1; clear hV1; go_simp
      simp only [Act.put, List.setIfInBounds_toArray, List.set_cons_succ, List.set_cons_zero]
      refine wpAnyH_take (i := 7) (oi := { dst := some 49, op := Op.nilCheck (Operand.tmp 48), type := 0, pos := "maps.go:87", after := #[{ on := 6, ground := Ground.data }], guard := none }) (v := (.pointer (some ⟨g, 0, none⟩))) rfl (by kernel_rfl) (by kernel_rfl) (by kernel_rfl) (fun _ _ _ h => h) (Or.inl ⟨by kernel_rfl, ?_⟩) hHeld ?_
      · intro V1 hV1; clear hV1; go_simp
      simp only [Act.put, List.setIfInBounds_toArray, List.set_cons_succ, List.set_cons_zero]
      refine wpAnyH_take (i := 8) (oi := { dst := some 50, op := Op.fieldAddr 66 (Operand.tmp 49) 2, type := 0, pos := "maps.go:87", after := #[{ on := 7, ground := Ground.data }], guard := none }) (v := (.pointer (some ⟨g, 2, none⟩))) rfl (by kernel_rfl) (by kernel_rfl) (by kernel_rfl) (fun _ _ _ h => h) (Or.inl ⟨by kernel_rfl, ?_⟩) hHeld ?_
      · intro V1 hV1; clear hV1; go_simp
      simp only [Act.put, List.setIfInBounds_toArray, List.set_cons_succ, List.set_cons_zero]
      refine wpAnyH_take (i := 9) (oi := { dst := some 51, op := Op.load 29 (Operand.tmp 50), type := 29, pos := "maps.go:87", after := #[{ on := 8, ground := Ground.data }], guard := none }) (v := (.slice ho hn3 hc)) rfl (by kernel_rfl) (by kernel_rfl) (by kernel_rfl) (fun _ _ _ h => h) (Or.inl ⟨by kernel_rfl, ?_⟩) hHeld ?_
      · intro V1 hV1; obtain ⟨-, s2⟩ := hV1; go_simp
      simp only [Act.put, List.setIfInBounds_toArray, List.set_cons_succ, List.set_cons_zero]
      refine wpAnyH_ready (rs := [4]) (by kernel_rfl) (by simp) ?_
      refine AllReadyH.cons (o := { dst := some 46, op := Op.call { callee := Callee.value (Operand.func 31), args := #[Operand.tmp 45], argTypes := #[62] }, type := 62, pos := "maps.go:87", after := #[{ on := 3, ground := Ground.data }], guard := none }) rfl (fun K hK => ?_) AllReadyH.nil
      rw [if_pos (by kernel_rfl)]
      go_simp
      have HCl : Calls Tryz.prog 31 #[.map (some mt)] V fun e w' => e = .returned (.map (some V.heap.size)) ∧ w'.ownsMap Tryz.prog 34 heldO V.heap.size s.told.length (toV (amap (fun _ => .agg #[]) s.told)) ∧ w'.ownsMap Tryz.prog 34 heldO mt s.told.length (toV (amap (fun _ => .agg #[]) s.told)) ∧ Below V.heap.size V w' := AnyW.maps_Clone_owns Tryz.cloneT 34 heldO mt s.told.length (toV (amap (fun _ => .agg #[]) s.told)) V (HTo.out V HTV.out)
      refine HCl.mono ?_
      rintro e w2 ⟨rfl, ho2, -, hb2⟩
      have HT2 : Hid (Touch (fun _ => False) wo w2 ∧ ToldAt w2 V.heap.size s.told.length (amap (fun _ => .agg #[]) s.told) ∧ wo.heap.size ≤ V.heap.size) := ⟨HTV.out.trans (touch_blw hb2), ho2, HTV.out.size⟩
      obtain ⟨mt9, hmt9⟩ : ∃ m, Hid (m = V.heap.size) := ⟨_, Eq.refl _⟩
      rw [← hmt9.out] at HT2 ⊢
      clear hmt9 HCl ho2 hb2 HTV HTo
      refine hK.out _ _ (HS.out _ HT2.out.1) (fun hHeld => ?_)
      clear hK K
      refine wpAnyH_take (i := 10) (oi := { dst := some 52, op := Op.build 66 #[(0, Operand.tmp 46), (1, Operand.tmp 47), (2, Operand.tmp 51)], type := 66, pos := "maps.go:87", after := #[{ on := 4, ground := Ground.data }, { on := 5, ground := Ground.data }, { on := 9, ground := Ground.data }], guard := none }) (v := (.agg #[.map (some mt9), .map (some Bk), .slice ho hn3 hc])) rfl (by kernel_rfl) (by kernel_rfl) (by kernel_rfl) (fun _ _ _ h => h) (Or.inl ⟨by kernel_rfl, ?_⟩) hHeld ?_
      · intro V1 hV1; clear hV1; go_simp
      simp only [Act.put, List.setIfInBounds_toArray, List.set_cons_succ, List.set_cons_zero]
      refine wpAnyH_ready (rs := [11]) (by kernel_rfl) (by simp) ?_
      refine AllReadyH.cons (o := { dst := some 53, op := Op.box 66 (Operand.tmp 52), type := 25, pos := "maps.go:87", after := #[{ on := 10, ground := Ground.data }], guard := none }) rfl (fun K hK => ?_) AllReadyH.nil
      rw [if_pos (by kernel_rfl)]
      refine wpO_of_run (v := .pointer (some ⟨w2.heap.size, 0, none⟩)) (w' := w2.alloc (.cells #[.map (some mt9), .map (some Bk), .slice ho hn3 hc] 66)) ?_ ?_
      · go_simp
      simp only [Act.put, List.setIfInBounds_toArray, List.set_cons_succ, List.set_cons_zero]
      obtain ⟨W3, hW3⟩ : ∃ W, Hid (W = w2.alloc (.cells #[.map (some mt9), .map (some Bk), .slice ho hn3 hc] 66)) := ⟨_, Eq.refl _⟩
      obtain ⟨X, hX⟩ : ∃ X, Hid (X = w2.heap.size) := ⟨_, Eq.refl _⟩
      have HT3 : Hid (Touch (fun _ => False) w2 W3 ∧ W3.heap[X]? = some (.cells #[.map (some mt9), .map (some Bk), .slice ho hn3 hc] 66 (0, 0)) ∧ w2.heap.size ≤ X) := by rw [hX.out, hW3.out]; exact ⟨(Touch.refl _ _).alloc _, heap_alloc_new _ _, Nat.le_refl _⟩
      rw [← hW3.out, ← hX.out]
      clear hW3 hX
      refine hK.out _ _ (HS.out _ (HT2.out.1.trans HT3.out.1)) (fun hHeld => ?_)
      clear hK K
      refine wpAnyH_take (i := 12) (oi := { dst := some 2, op := Op.assign (Operand.tmp 53), type := 25, pos := "maps.go:87", after := #[{ on := 11, ground := Ground.data }, { on := 4, ground := Ground.chain }, { on := 0, ground := Ground.phase }, { on := 1, ground := Ground.phase }, { on := 2, ground := Ground.phase }, { on := 3, ground := Ground.phase }, { on := 4, ground := Ground.phase }, { on := 5, ground := Ground.phase }, { on := 6, ground := Ground.phase }, { on := 7, ground := Ground.phase }, { on := 8, ground := Ground.phase }, { on := 9, ground := Ground.phase }, { on := 10, ground := Ground.phase }, { on := 11, ground := Ground.phase }], guard := none }) (v := (.pointer (some ⟨X, 0, none⟩))) rfl (by kernel_rfl) (by kernel_rfl) (by kernel_rfl) (fun _ _ _ h => h) (Or.inl ⟨by kernel_rfl, ?_⟩) hHeld ?_
      · intro V1 hV1; clear hV1; go_simp
      simp only [Act.put, List.setIfInBounds_toArray, List.set_cons_succ, List.set_cons_zero]
      refine wpAnyH_done (by kernel_rfl) ?_ _
      try simp only [List.getElem_toArray, List.getElem_cons_succ, List.getElem_cons_zero, List.setIfInBounds_toArray, List.set_cons_succ, List.set_cons_zero]
      clear hHeld HS
      have HQ : Hid (_ ∧ _ ∧ _) := HCD.out W3 mt9 X (HT2.out.1.trans HT3.out.1) (owns_touchM HT2.out.2.1 HT3.out.1 id) HT2.out.2.2 HT3.out.2.1 (by have := HT3.out.2.2; have := HT2.out.1.size; have := hws.out; omega)
      clear HT2 HT3 HCD hws
      go_wp2_with fail
      go_ret
      exact ⟨_, _, _, _, rfl, HQ.out⟩
    · intro c k v kl yd yp w1 cnt1 hkey hlk hvy hat hrg1 hlt hg1 hs1 hen
      obtain ⟨c', k', e1, hcU, hkU, rfl⟩ := keyI_inv hkey
      simp only [Value.agg.injEq, Array.mk.injEq, List.cons.injEq, Value.int.injEq, true_and, and_true] at e1
      obtain ⟨rfl, rfl⟩ := e1
      simp only [heldO, Option.some.injEq, Prod.mk.injEq] at hvy
      obtain ⟨rfl, rfl⟩ := hvy
      obtain ⟨i, hio, rfl⟩ := out_inn hat (has_true_of_atKey hat)
      have HS : Hid (w1.ranges Tryz.prog 34 heldO mk Bx os.length (toV (amap innV os)) (fun z => left z && !z.sameKey (.string (kI c k))) cnt1 ∧ wo.grownBy w1 (some Bx) ∧ cnt1 < cnt ∧ aget (kI c k) os = some i) := ⟨hrg1, hg1, hlt, hio⟩
      have HIn : Hid (InnAt w i) := HC.out.inn _ (aget_mem hio)
      have HIl : Hid (i.es.length ≤ 1000000) := hn2 _ (aget_mem hio)
      have TO : Touch (fun k => k = Bx) wo w1 := grown_touch hg1
      have HT1 : Hid (Touch (fun _ => False) w w1) := HO.out.1.touch.then TO fun j hj e => by have := HB.out; omega
      obtain ⟨A0, hA0⟩ : ∃ A, Hid (A = wo.heap.size) := ⟨_, Eq.refl _⟩
      obtain ⟨W2, hW2⟩ : ∃ W, Hid (W = w1.alloc (idO c k)) := ⟨_, Eq.refl _⟩
      obtain ⟨Bi, hBi⟩ : ∃ B, Hid (B = W2.heap.size) := ⟨_, Eq.refl _⟩
      obtain ⟨W3, hW3⟩ : ∃ W, Hid (W = W2.alloc (.map #[] 0)) := ⟨_, Eq.refl _⟩
      have HT3 : Hid (Touch (fun _ => False) w1 W3 ∧ W3.heap[A0]? = some (idO c k) ∧ W3.ownsMap Tryz.prog 9 heldO Bi 0 (toV []) ∧ A0 < Bi ∧ W3.heap.size = Bi + 1 ∧ w1.heap.size ≤ A0 ∧ Touch (fun _ => False) w1 W2) := by
        have e2 : W2.heap[A0]? = some (idO c k) := by rw [hW2.out, hA0.out, ← hs1]; exact heap_alloc_new _ _
        have t2 : Touch (fun _ => False) W2 W3 := by rw [hW3.out]; exact (Touch.refl _ _).alloc _
        have t1 : Touch (fun _ => False) w1 W2 := by rw [hW2.out]; exact (Touch.refl _ _).alloc _
        refine ⟨t1.trans t2, (t2.block A0 (lt_of_heap e2) id).trans e2, ?_, by rw [hBi.out]; exact lt_of_heap e2, by rw [hW3.out, hBi.out]; simp, by rw [hA0.out, hs1]; exact Nat.le_refl _, t1⟩
        rw [hW3.out, hBi.out]
        exact World.ownsMap_made (H := Value) W2 Tryz.prog 9 heldO
      have hI2 := HIn.out.touch (HT1.out.trans HT3.out.2.2.2.2.2.2) id fun _ _ _ _ => id
      have hlnS := fun ty => hI2.owns.len Tryz.underlying63 ty
      simp only [toV_size, length_amap] at hlnS
      have hmakeS := makeS (i.es.length : Int) W2
      rw [← hW3.out, ← hBi.out] at hmakeS
      have hownS : W3.ownsMap Tryz.prog 9 heldO i.b i.es.length (toV (amap Rk.v i.es)) := (HIn.out.touch (HT1.out.trans HT3.out.1) id fun _ _ _ _ => id).owns
      clear hrg1 hg1 hlt hat hlk hio TO hI2 hW3
      go_upto_region 5 with fail
      rw [← hW2.out, ← hA0.out]
      clear hW2 hA0
      go_wp2_with (first
        | (at_range; refine wpList_range_own _ rfl _ 63 rfl 9 68 lawS Tryz.underlying63 _ i.b i.es.length _ rfl hownS ?_; intro w4 hrg4 hg4 hs4)
        | fail)
      obtain ⟨Br, hBr⟩ : ∃ B, Hid (B = W3.heap.size) := ⟨_, Eq.refl _⟩
      rw [← hBr.out] at hrg4 ⊢
      simp only [toV_size, length_amap] at hrg4
      have t4 : Touch (fun _ => False) W3 w4 := (Touch.refl (fun _ => False) W3).grown hg4 (fun j e _ => by cases e)
      have HT4 : Hid (Touch (fun _ => False) w1 w4 ∧ w4.heap[A0]? = some (idO c k) ∧ A0 < Bi ∧ Bi < Br ∧ Br < w4.heap.size ∧ w1.heap.size ≤ A0 ∧ i.b < w.heap.size ∧ w.heap.size ≤ w1.heap.size) := ⟨HT3.out.1.trans t4, (t4.block A0 (lt_of_heap HT3.out.2.1) id).trans HT3.out.2.1, HT3.out.2.2.2.1, by rw [hBr.out, HT3.out.2.2.2.2.1]; omega, by rw [hBr.out, hs4]; omega, HT3.out.2.2.2.2.2.1, HIn.out.owns.lt, HT1.out.size⟩
      have HI0 : Hid (CpIn w4 w4 i Bi Br (Maps.has (toV (amap Rk.v i.es))) i.es.length []) := by
        refine ⟨hrg4, Nat.le_refl _, ?_, cp_start Rk.l Rk.v i.es, List.Pairwise.nil, (fun p hp => by cases hp), (fun p hp => by cases hp), ⟨fun _ => none, fun p hp => by cases hp⟩, (fun p hp => by cases hp), Touch.refl _ _⟩
        exact (HT3.out.2.2.1.kept hg4 (by simp)).mono (Nat.zero_le _)
      clear hrg4 hg4 hs4 t4 hBr hownS hmakeS hlnS HT3 hBi
      go_loopw [7, 8] (fun _ _ wr => ∃ left2 cnt2 es', Hid (CpIn w4 wr i Bi Br left2 cnt2 es')) (fun _ _ wr => wr.rangeLeft i.b Br)
      case atStart => exact ⟨_, _, [], HI0.out⟩
      case round =>
        obtain ⟨left2, cnt2, es', HI⟩ := hrel
        have hrgI := HI.out.rg
        go_wp2_with (first
          | (at_next; refine wpList_next_ranges _ rfl _ rfl 9 lawS heldO Value.string (id : Value → Value) (fun key kl h => Maps.keyOf_string_inv Tryz.underlying9 h) (fun v y _ => ⟨v, rfl⟩) i.b Br i.es.length _ _ _ rfl hrgI ?_ ?_)
          | fail)
        · intro hc0 hl0
          subst hc0
          obtain ⟨hI', heq'⟩ := HI.out.done hl0 HIn.out.rising
          have tI : Touch (fun _ => False) w1 wr := HT4.out.1.then HI.out.touch fun j hj e => by have := HT4.out; omega
          have hA : wr.heap[A0]? = some (idO c k) := (HI.out.touch.block A0 (lt_of_heap HT4.out.2.1) (by have := HT4.out; omega)).trans HT4.out.2.1
          have hBkO := HO.out.1.own
          have hBko : Bk < wo.heap.size := hBkO.lt
          have hown9 : wr.ownsMap Tryz.prog 34 heldO Bk (os.length - cnt) (toV (amap innV os')) := owns_touchM (hBkO.kept HS.out.2.1 (by have := HB.out; simp; omega)) tI id
          obtain ⟨w7, hrun, ho7, hg7⟩ := hown9.update lawI Tryz.underlying64 (by have := HM.out; unfold maxLen; omega) (keyI hcU hkU) (val := .map (some Bi)) (d := .held (.map (some Bi))) (ps := []) rfl
          have HF : Hid (CpOut w w7 os mk Bk Bx (fun z => left z && !z.sameKey (.string (kI c k))) cnt1 (aput (kI c k) ⟨Bi, es'⟩ os') ∧ Bx < w7.heap.size) := by
            refine ⟨HO.out.1.step HB.out.2.2.1 HB.out.1 HO.out.2 hmk HS.out.2.2.2 HS.out.2.1 HS.out.1 HS.out.2.2.1 tI hI' heq' (by show w1.heap.size ≤ Bi; have := HT4.out; omega) (fun q hq j hj => by have h1 := HI.out.new q hq j hj; have h2 := HT4.out.1.size; omega) HI.out.apart ho7 hg7, ?_⟩
            have h1 := hg7.size
            have h2 := tI.size
            have h3 := HO.out.2
            have h4 := HS.out.2.1.size
            omega
          have HL : Hid (cnt1 < cnt) := HS.out.2.2.1
          have a0 : wr.cell? ⟨A0, 0, none⟩ = some (.int .u64 c) := by rw [cell_of_block hA]; rfl
          have a1 : wr.cell? ⟨A0, 1, none⟩ = some (.int .u64 k) := by rw [cell_of_block hA]; rfl
          clear hI' heq' tI hA hBkO hBko hown9 ho7 hg7 HS HT4 HI0 HI HIn hl0 hrgI
          go_wp2_with fail
          go_roundw
          case rel => exact ⟨_, _, _, HF.out⟩
          case measure => rw [HF.out.1.rg.left_eq, hrg.left_eq]; exact HL.out
        · intro x cv kl yd yp w5 cnt3 hkey hlk hvy hat hrg5 hlt5 hg5 hs5 hen5
          have hx : x.size ≤ maxLen ∧ kl = .string x.data.toList := by
            have h1 := hkey
            simp [keyOf, Tryz.underlying9, mapKey] at h1
            exact ⟨h1.1, h1.2.symm⟩
          obtain ⟨hx, rfl⟩ := hx
          simp only [heldO, Option.some.injEq, Prod.mk.injEq] at hvy
          obtain ⟨rfl, rfl⟩ := hvy
          obtain ⟨r, hre, rfl⟩ := inn_rank hat (has_true_of_atKey hat)
          have t5 := grown_touch hg5
          have tw : Touch (fun _ => False) w wr := (HT1.out.trans HT4.out.1).then HI.out.touch fun j hj e => by have := HT4.out; omega
          have tw5 : Touch (fun _ => False) w w5 := tw.then t5 fun j hj e => by have := HT4.out; omega
          have hlen := HIn.out.lens _ (aget_mem hre)
          have HCl : Hid (Calls Tryz.prog 30 #[r.v] w5 fun e w' => ∃ v', e = .returned v' ∧ NewP w5 w' v' r.l) := cloneP_any ((rowP_sl (HIn.out.rows _ (aget_mem hre))).touch tw5) hlen
          have HO5 : Hid (∀ W, Touch (fun _ => False) w5 W → W.ownsMap Tryz.prog 9 heldO Bi (i.es.length - cnt2) (toV (amap Rk.v es'))) := fun W t => owns_touchM (HI.out.own.kept hg5 (by have := HT4.out; simp; omega)) t id
          have HSt : Hid (∀ (v' : Value) (w6 w7 : World), NewP w5 w6 v' r.l → w7.ownsMap Tryz.prog 9 heldO Bi (i.es.length - cnt2 + 1) ((toV (amap Rk.v es')).put (.string x.data.toList) (.held v')) → w6.grownBy w7 (some Bi) → CpIn w4 w7 i Bi Br (fun z => left2 z && !z.sameKey (.string x.data.toList)) cnt3 (aput x.data.toList ⟨v', r.l⟩ es')) := fun v' w6 w7 hN ho hg => HI.out.step (by have := HT4.out; omega) (by have := HT4.out; omega) (by have := HT4.out; have := HT4.out.1.size; omega) (by have := HT4.out; omega) (by have := HT4.out; omega) hre hlen hg5 hrg5 hlt5 hN ho hg
          have HL : Hid (cnt3 < cnt2) := hlt5
          have HKx : Hid (keyOf Tryz.prog 9 (.string x) = some (.string x.data.toList)) := hkey
          obtain ⟨ra, rn, rc, hrv⟩ : ∃ ra rn rc, r.v = .slice ra rn rc := by
            obtain ⟨a, cp, e, -⟩ := (rowP_sl (HIn.out.rows _ (aget_mem hre))).shape
            exact ⟨_, _, _, e⟩
          rw [hrv] at HCl hen5 ⊢
          clear hrg5 hg5 hlt5 hat hlk hre t5 tw tw5 hlen hkey
          go_wp2_with fail
          refine HCl.out.mono ?_
          rintro e w6 ⟨v', rfl, hN⟩
          obtain ⟨w7, hrun, ho7, hg7⟩ := (HO5.out w6 hN.touch).update lawS Tryz.underlying63 (by have := HIl.out; unfold maxLen; omega) HKx.out (val := v') (d := .held v') (ps := []) rfl
          have HF : Hid (CpIn w4 w7 i Bi Br (fun z => left2 z && !z.sameKey (.string x.data.toList)) cnt3 (aput x.data.toList ⟨v', r.l⟩ es')) := HSt.out v' w6 w7 hN ho7 hg7
          clear HCl HO5 HSt hN ho7 hg7 HKx
          go_wp2_with fail
          go_roundw
          case rel => exact ⟨_, _, _, HF.out⟩
          case measure => rw [HF.out.rg.left_eq, hrgI.left_eq]; exact HL.out
end Go.Proofs.YtodpdcflbnomgaaGreat

/- The document's Maps in memory: Set. -/
import Derived.Test.YtodpdcflbnomgaaGreatPart19
import Derived.Test.YtodpdcflbnomgaaGreatPart17
namespace Go.Proofs.YtodpdcflbnomgaaGreat
open Go.RowKit Go.Maps
set_option linter.unusedVariables false
set_option linter.unusedSimpArgs false
set_option maxRecDepth 100000

theorem RfC.hv_ne {w : World} {b : Nat} {lv hv : Value} {L : List O} {H : List Rg} (h : RfC w b lv hv L H) : H = [] ∨ ∃ g o cap, hv = .slice (some ⟨g, o, none⟩) H.length cap ∧ g ≠ b := by
  by_cases hH : H = []
  · exact .inl hH
  · right
    obtain ⟨g, o, cap, e, h1, h2, h3, hr⟩ := h.h.row hH
    refine ⟨g, o, cap, e, ?_⟩
    rintro rfl
    have hH0 : 0 < H.length := List.length_pos_iff.2 hH
    have h0 := (hr 0 hH0).1
    rw [cell_of_block h.cells] at h0
    obtain ⟨ao, cp, e2, -⟩ := h.l.shape
    match o, h0 with
    | 0, h0 =>
      have h0 : lv = .int .u64 H[0].c := by simpa using h0
      rw [h0] at e2; cases e2
    | 1, h0 =>
      have h0 : hv = .int .u64 H[0].c := by simpa using h0
      rw [h0] at e; cases e
    | o + 2, h0 => simp at h0
/-- The ranges behind a store into the Maps' own block. -/
theorem RfC.hv_on {w w' : World} {b : Nat} {lv hv : Value} {L : List O} {H : List Rg} (h : RfC w b lv hv L H) (t : Touch (fun k => k = b) w w') : SlR w' hv H := by
  obtain ⟨ao, cap, e, h1, h2, h3, h4⟩ := h.h
  refine ⟨ao, cap, e, h1, h2, h3, ?_⟩
  rcases h.hv_ne with hH | ⟨g, o, cp, e2, hne⟩
  · exact .inl hH
  · rw [e2] at e
    simp only [Value.slice.injEq] at e
    obtain ⟨rfl, -, -⟩ := e
    rcases h4 with h4 | ⟨g2, o2, e3, h5⟩
    · exact .inl h4
    · refine .inr ⟨g2, o2, e3, ?_⟩
      simp only [Option.some.injEq, Addr.mk.injEq] at e3
      obtain ⟨rfl, rfl, -⟩ := e3
      intro j u hu
      have h0 := h5 j u hu
      rw [World.cell?_of_block (t.block g (World.block_lt_of_cell? _ _ h0) hne)]; exact h0
/-- What Set answers and leaves. -/
def RsPost (w : World) (b : Nat) (hv : Value) (L : List O) (H : List Rg) (o : O) (e : Ending) (w' : World) : Prop :=
  e = .returned (.bool (okR L o)) ∧ ((okR L o = false ∧ Touch (fun _ => False) w w') ∨ (okR L o = true ∧ ∃ lv', RfC w' b lv' hv (L ++ [o]) H ∧ Touch (fun k => k = b) w w' ∧ ∀ k, lv'.ownBlock = some k → w.heap.size ≤ k))
theorem idR_of (c k : Int) (o : O) : idR c k o = (o.c == c && o.k == k) := by unfold idR; congr 1
set_option maxHeartbeats 16000000 in
theorem rset_any {w : World} {b : Nat} {lv hv : Value} {L : List O} {H : List Rg} (h : RfC w b lv hv L H) (o : O) (hl : L.length ≤ 1000000) :
    Calls Tryz.prog 17 #[.pointer (some ⟨b, 0, none⟩), o.val] w fun e w' => RsPost w b hv L H o e w' := by
  obtain ⟨E, hE⟩ : ∃ E, Hid (E = w.alloc (opO o)) := ⟨_, Eq.refl _⟩
  obtain ⟨B, hB⟩ : ∃ B, Hid (B = w.heap.size) := ⟨_, Eq.refl _⟩
  have HE : Hid (Touch (fun _ => False) w E ∧ OpAt B o E ∧ w.heap.size ≤ B) := by rw [hE.out, hB.out]; exact ⟨(Touch.refl _ _).alloc _, heap_alloc_new _ _, Nat.le_refl _⟩
  have HR : Hid (∀ W, Calls Tryz.prog 35 #[idV o.c o.k] W fun e w' => e = .returned (.bool (numOk o.c && numOk o.k)) ∧ Touch (fun _ => False) W w') := fun W => (rRight_any o.c o.k W).mono fun e w' q => ⟨q.1, by rw [q.2]; exact (Touch.refl _ _).alloc _⟩
  have HI : Hid (∀ W, Touch (fun _ => False) w W → Calls Tryz.prog 19 #[.pointer (some ⟨b, 0, none⟩), idV o.pc o.pk] W fun e w' => e = .returned (.bool (isR L o.pc o.pk)) ∧ Touch (fun _ => False) W w') := fun W t => ris_any (h.touch t) o.pc o.pk
  have HKe : Hid (∀ W, Touch (fun _ => False) E W → W.cell? ⟨B, 0, none⟩ = some (.int .u64 o.c) ∧ W.cell? ⟨B, 1, none⟩ = some (.int .u64 o.k) ∧ W.cell? ⟨B, 14, none⟩ = some (.int .u64 o.pc) ∧ W.cell? ⟨B, 15, none⟩ = some (.int .u64 o.pk)) := fun W t => by
    have := HE.out.2.1.keep t
    exact ⟨this.q0, this.q1, this.q14, this.q15⟩
  have q0 := HE.out.2.1.q0
  have q1 := HE.out.2.1.q1
  have q2 := HE.out.2.1.q2
  have q14 := HE.out.2.1.q14
  have q15 := HE.out.2.1.q15
  have HOk : Hid (okR L o = ((decide (o.kind = 4) && (numOk o.c && numOk o.k) && isR L o.pc o.pk) && !(L.any (idR o.c o.k)))) := rfl
  have HPn : Hid (∀ e W, okR L o = false → e = .returned (.bool false) → Touch (fun _ => False) w W → RsPost w b hv L H o e W) := fun e W q1 q2 t => ⟨by rw [q1]; exact q2, .inl ⟨q1, t⟩⟩
  have HPy : Hid (∀ W lv', okR L o = true → RfC W b lv' hv (L ++ [o]) H → Touch (fun k => k = b) w W → (∀ k, lv'.ownBlock = some k → w.heap.size ≤ k) → RsPost w b hv L H o (.returned (.bool true)) W) := fun W lv' q1 q2 t q3 => ⟨by rw [q1], .inr ⟨q1, lv', q2, t, q3⟩⟩
  have HR0 : Hid (RfC w b lv hv L H) := h
  have HRw : Hid (∀ W, Touch (fun _ => False) E W → _) := fun W (t : Touch (fun _ => False) E W) => h.rows (HE.out.1.trans t)
  have HSl0 : Hid (∀ W, Touch (fun _ => False) E W → SlP W lv L) := fun W t => h.l.touch (HE.out.1.trans t)
  have HFr0 : Hid (∀ W, Touch (fun _ => False) E W → W.frozen? ⟨b, 0, none⟩ = false) := fun W t => free_of_block (h.touch (HE.out.1.trans t)).cells
  have HLl : Hid (L.length ≤ 1000000) := hl
  clear h hl
  generalize isR L o.pc o.pk = ib at *
  generalize (numOk o.c && numOk o.k) = rb at *
  obtain ⟨kd, hkd⟩ : ∃ kd, kd = o.kind := ⟨_, rfl⟩
  rw [← hkd] at q2 HOk
  clear hkd
  go_enter Tryz.func17, Tryz.ntmps17
  go_upto_region 1 with fail
  rw [← hE.out, ← hB.out]
  clear hE hB
  by_cases hk : kd = 4
  · subst hk
    cases rb with
    | false =>
      have HF : Hid (okR L o = false) := by rw [Hid, HOk.out]; simp
      go_wp2_with fail
      refine (HR.out _).mono ?_
      rintro e W1 ⟨rfl, t1⟩
      have HT1 : Hid (Touch (fun _ => False) w W1) := HE.out.1.trans t1
      clear t1 q0 q1 q2 q14 q15
      go_wp2_with fail
      go_ret
      exact HPn.out _ _ HF.out rfl HT1.out
    | true =>
      cases ib with
      | false =>
        have HF : Hid (okR L o = false) := by rw [Hid, HOk.out]; simp
        go_wp2_with fail
        refine (HR.out _).mono ?_
        rintro e W1 ⟨rfl, t1⟩
        have HT1 : Hid (Touch (fun _ => False) w W1) := HE.out.1.trans t1
        obtain ⟨k0, k1, k14, k15⟩ := HKe.out _ t1
        clear t1 q0 q1 q2 q14 q15 k0 k1
        go_wp2_with fail
        refine (HI.out _ HT1.out).mono ?_
        rintro e W2 ⟨rfl, t2⟩
        have HT2 : Hid (Touch (fun _ => False) w W2) := HT1.out.trans t2
        clear t2 k14 k15
        go_wp2_with fail
        go_ret
        exact HPn.out _ _ HF.out rfl HT2.out
      | true =>
        have HOk2 : Hid (okR L o = !(L.any (idR o.c o.k))) := by rw [Hid, HOk.out]; simp
        clear HOk
        have HN : Hid ((∀ i, i < L.length → idR o.c o.k (L.getD i zeroO) = false) → okR L o = true) := fun q => by rw [HOk2.out, any_none q]; rfl
        have HSm : Hid (∀ i, i < L.length → idR o.c o.k (L.getD i zeroO) = true → okR L o = false) := fun i hi q => by rw [HOk2.out, any_some hi q]; rfl
        go_wp2_with fail
        refine (HR.out _).mono ?_
        rintro e W1 ⟨rfl, t1⟩
        have HT1 : Hid (Touch (fun _ => False) E W1) := t1
        obtain ⟨k0, k1, k14, k15⟩ := HKe.out _ t1
        clear t1 q0 q1 q2 q14 q15 k0 k1
        go_wp2_with fail
        refine (HI.out _ (HE.out.1.trans HT1.out)).mono ?_
        rintro e W2 ⟨rfl, t2⟩
        have HT2 : Hid (Touch (fun _ => False) E W2) := HT1.out.trans t2
        clear t2 k14 k15 HT1 HOk2 HR HI
        go_wp2_with fail
        go_loopw [5] (fun i wr => ∃ j : Nat, i = .int .i64 (j : Int) ∧ j ≤ L.length ∧ Hid ((∀ i, i < j → idR o.c o.k (L.getD i zeroO) = false) ∧ Touch (fun _ => False) E wr)) (fun i _ => (L.length - intOf i).toNat)
        case atStart => exact ⟨0, rfl, Nat.zero_le _, (fun i hi => absurd hi (Nat.not_lt_zero _)), HT2.out⟩
        case round =>
          obtain ⟨j, rfl, hj, HJ⟩ := hrel
          obtain ⟨ao, cap, hlv, p0, p1, c0, -, p2⟩ := HRw.out _ HJ.out.2
          subst hlv
          obtain ⟨b0, b1, -, -⟩ := HKe.out _ HJ.out.2
          by_cases hlt : j < L.length
          · obtain ⟨g, of, rfl, p3⟩ := p2 (by omega)
            obtain ⟨d0, d1, -, -, -, -⟩ := rng_cells (p3 j hlt)
            clear p2 p3
            have HId : Hid (idR o.c o.k (L.getD j zeroO) = ((L.getD j zeroO).c == o.c && (L.getD j zeroO).k == o.k)) := idR_of _ _ _
            have l0 : (j : Int) < (L.length : Int) := by omega
            have l1 : (0 : Int) ≤ (j : Int) := by omega
            have HD : Hid (idR o.c o.k (L.getD j zeroO) = false → ∀ i, i < j + 1 → idR o.c o.k (L.getD i zeroO) = false) := fun q i hi => by
              rcases Nat.lt_or_ge i j with x | x
              · exact HJ.out.1 i x
              · rw [show i = j from by omega]; exact q
            have HT9 : Hid (Touch (fun _ => False) w wr ∧ Touch (fun _ => False) E wr) := ⟨HE.out.1.trans HJ.out.2, HJ.out.2⟩
            have HSm2 : Hid (idR o.c o.k (L.getD j zeroO) = true → okR L o = false) := HSm.out j hlt
            clear HN HSm HSl0 HFr0 HPy HJ HRw
            generalize idR o.c o.k (L.getD j zeroO) = hit at *
            generalize (L.getD j zeroO).c = uc at *
            generalize (L.getD j zeroO).k = uk at *
            generalize hnn : L.length = n at *
            cases e1 : (uc == o.c) with
            | false =>
              have HF : Hid (hit = false) := by rw [HId.out, e1]; rfl
              clear HId
              go_wp2_with fail
              go_quiet (fail)
              go_wp2_with fail
              refine ⟨⟨j + 1, by go_num, by omega, HD.out HF.out, ?_⟩, by simp [intOf]; omega⟩
              exact HT9.out.2.drewN' _
            | true =>
              cases e2 : (uk == o.k) with
              | false =>
                have HF : Hid (hit = false) := by rw [HId.out, e1, e2]; rfl
                clear HId
                go_wp2_with fail
                go_quiet (fail)
                go_wp2_with fail
                refine ⟨⟨j + 1, by go_num, by omega, HD.out HF.out, ?_⟩, by simp [intOf]; omega⟩
                exact HT9.out.2.drewN' _
              | true =>
                have HF : Hid (okR L o = false) := HSm2.out (by rw [HId.out, e1, e2]; rfl)
                clear HId
                go_wp2_with fail
                go_quiet (fail)
                go_wp2_with fail
                go_ret
                exact HPn.out _ _ HF.out rfl (HT9.out.1.drewN' _)
          · have hjn : j = L.length := by omega
            have HF : Hid (okR L o = true) := HN.out (by rw [← hjn]; exact HJ.out.1)
            have HT : Hid (Touch (fun _ => False) E wr) := HJ.out.2
            have HS : Hid (∀ V, Touch (fun _ => False) wr V → V.cell? ⟨b, 0, none⟩ = some (.slice ao L.length cap) ∧ V.rangeAt B 0 o.vals.toList) := fun V t => by
              obtain ⟨ao', cap', e', _, _, c0', -, -⟩ := HRw.out V (HT.out.trans t)
              simp only [Value.slice.injEq] at e'
              obtain ⟨rfl, -, rfl⟩ := e'
              exact ⟨c0', rangeAt_of (HE.out.2.1.keep (HT.out.trans t))⟩
            have HSl : Hid (∀ V, Touch (fun _ => False) wr V → SlP V (.slice ao L.length cap) L) := fun V t => HSl0.out V (HT.out.trans t)
            have HSf : Hid (∀ W, (Instr.slice 28 (.slice ao L.length cap) none (some (.int .i64 (L.length : Int))) (some (.int .i64 (L.length : Int)))).run Tryz.prog W = .ok (.slice ao L.length L.length) W) := fun W => sliceO_full ao L.length cap p0 W
            have HFr : Hid (∀ V, Touch (fun _ => False) wr V → V.cell? ⟨b, 0, none⟩ = some (.slice ao L.length cap) ∧ V.frozen? ⟨b, 0, none⟩ = false) := fun V t => ⟨(HS.out V t).1, HFr0.out V (HT.out.trans t)⟩
            have HLn : Hid (L.length ≤ 1000000) := HLl.out
            clear HN HSm HSl0 HFr0 HPn HJ HRw p2 b0 b1 HKe HT2
            obtain ⟨n, hn⟩ : ∃ n, n = L.length := ⟨_, rfl⟩
            have HLn2 : Hid (L.length = n) := hn.symm
            have hjn2 : n = j := by omega
            rw [← hn] at HS HSf HFr c0 p0 hj hlt
            clear hn hjn
            subst hjn2
            go_upto_region 8 with fail
            refine region_G (S := fun V => V.cell? ⟨b, 0, none⟩ = some (.slice ao n cap) ∧ V.rangeAt B 0 o.vals.toList) (late := fun k => k == 21) (by kernel_rfl) ?_
            obtain ⟨V, hV⟩ : ∃ V, Hid (V = wr.drew) := ⟨_, Eq.refl _⟩
            have HTV : Hid (Touch (fun _ => False) wr V) := by rw [hV.out]; exact (Touch.refl _ _).drew
            have hHeld := HS.out V HTV.out
            rw [← hV.out]
            clear hV
            refine wpAnyG_pure (i := 0) (oi := { dst := some 42, op := Op.move (Operand.tmp 0), type := 27, pos := "quireref12.go:36", after := #[], guard := none }) (v := (.pointer (some ⟨b, 0, none⟩))) rfl (by kernel_rfl) (by kernel_rfl) (by kernel_rfl) (by kernel_rfl) (fun _ _ _ h => h) (Or.inl ⟨by kernel_rfl, ?_⟩) hHeld ?_
            · intro V1 _; go_simp
            simp only [Act.put, List.setIfInBounds_toArray, List.set_cons_succ, List.set_cons_zero]
            refine wpAnyG_pure (i := 1) (oi := { dst := some 43, op := Op.move (Operand.tmp 0), type := 27, pos := "quireref12.go:36", after := #[], guard := none }) (v := (.pointer (some ⟨b, 0, none⟩))) rfl (by kernel_rfl) (by kernel_rfl) (by kernel_rfl) (by kernel_rfl) (fun _ _ _ h => h) (Or.inl ⟨by kernel_rfl, ?_⟩) hHeld ?_
            · intro V1 _; go_simp
            simp only [Act.put, List.setIfInBounds_toArray, List.set_cons_succ, List.set_cons_zero]
            refine wpAnyG_pure (i := 2) (oi := { dst := some 44, op := Op.nilCheck (Operand.tmp 43), type := 0, pos := "quireref12.go:36", after := #[{ on := 1, ground := Ground.data }], guard := none }) (v := (.pointer (some ⟨b, 0, none⟩))) rfl (by kernel_rfl) (by kernel_rfl) (by kernel_rfl) (by kernel_rfl) (fun _ _ _ h => h) (Or.inl ⟨by kernel_rfl, ?_⟩) hHeld ?_
            · intro V1 _; go_simp
            simp only [Act.put, List.setIfInBounds_toArray, List.set_cons_succ, List.set_cons_zero]
            refine wpAnyG_pure (i := 3) (oi := { dst := some 45, op := Op.fieldAddr 31 (Operand.tmp 44) 0, type := 0, pos := "quireref12.go:36", after := #[{ on := 2, ground := Ground.data }], guard := none }) (v := (.pointer (some ⟨b, 0, none⟩))) rfl (by kernel_rfl) (by kernel_rfl) (by kernel_rfl) (by kernel_rfl) (fun _ _ _ h => h) (Or.inl ⟨by kernel_rfl, ?_⟩) hHeld ?_
            · intro V1 _; go_simp
            simp only [Act.put, List.setIfInBounds_toArray, List.set_cons_succ, List.set_cons_zero]
            refine wpAnyG_take (i := 4) (oi := { dst := some 46, op := Op.load 28 (Operand.tmp 45), type := 28, pos := "quireref12.go:36", after := #[{ on := 3, ground := Ground.data }], guard := none }) (v := (.slice ao n cap)) rfl (by kernel_rfl) (by kernel_rfl) (by kernel_rfl) (by kernel_rfl) (by kernel_rfl) (by kernel_rfl) (fun _ _ _ h => h) (Or.inl ⟨by kernel_rfl, ?_⟩) hHeld ?_
            · intro V1 hV1; obtain ⟨s0, -⟩ := hV1; go_simp
            simp only [Act.put, List.setIfInBounds_toArray, List.set_cons_succ, List.set_cons_zero]
            refine wpAnyG_pure (i := 5) (oi := { dst := some 47, op := Op.move (Operand.tmp 0), type := 27, pos := "quireref12.go:36", after := #[], guard := none }) (v := (.pointer (some ⟨b, 0, none⟩))) rfl (by kernel_rfl) (by kernel_rfl) (by kernel_rfl) (by kernel_rfl) (fun _ _ _ h => h) (Or.inl ⟨by kernel_rfl, ?_⟩) hHeld ?_
            · intro V1 _; go_simp
            simp only [Act.put, List.setIfInBounds_toArray, List.set_cons_succ, List.set_cons_zero]
            refine wpAnyG_pure (i := 6) (oi := { dst := some 48, op := Op.nilCheck (Operand.tmp 47), type := 0, pos := "quireref12.go:36", after := #[{ on := 5, ground := Ground.data }], guard := none }) (v := (.pointer (some ⟨b, 0, none⟩))) rfl (by kernel_rfl) (by kernel_rfl) (by kernel_rfl) (by kernel_rfl) (fun _ _ _ h => h) (Or.inl ⟨by kernel_rfl, ?_⟩) hHeld ?_
            · intro V1 _; go_simp
            simp only [Act.put, List.setIfInBounds_toArray, List.set_cons_succ, List.set_cons_zero]
            refine wpAnyG_pure (i := 7) (oi := { dst := some 49, op := Op.fieldAddr 31 (Operand.tmp 48) 0, type := 0, pos := "quireref12.go:36", after := #[{ on := 6, ground := Ground.data }], guard := none }) (v := (.pointer (some ⟨b, 0, none⟩))) rfl (by kernel_rfl) (by kernel_rfl) (by kernel_rfl) (by kernel_rfl) (fun _ _ _ h => h) (Or.inl ⟨by kernel_rfl, ?_⟩) hHeld ?_
            · intro V1 _; go_simp
            simp only [Act.put, List.setIfInBounds_toArray, List.set_cons_succ, List.set_cons_zero]
            refine wpAnyG_take (i := 8) (oi := { dst := some 50, op := Op.load 28 (Operand.tmp 49), type := 28, pos := "quireref12.go:36", after := #[{ on := 7, ground := Ground.data }], guard := none }) (v := (.slice ao n cap)) rfl (by kernel_rfl) (by kernel_rfl) (by kernel_rfl) (by kernel_rfl) (by kernel_rfl) (by kernel_rfl) (fun _ _ _ h => h) (Or.inl ⟨by kernel_rfl, ?_⟩) hHeld ?_
            · intro V1 hV1; obtain ⟨s0, -⟩ := hV1; go_simp
            simp only [Act.put, List.setIfInBounds_toArray, List.set_cons_succ, List.set_cons_zero]
            refine wpAnyG_pure (i := 9) (oi := { dst := some 51, op := Op.call { callee := Callee.builtin Builtin.len, args := #[Operand.tmp 50], argTypes := #[28] }, type := 3, pos := "quireref12.go:36", after := #[{ on := 8, ground := Ground.data }], guard := none }) (v := (.int .i64 (n : Int))) rfl (by kernel_rfl) (by kernel_rfl) (by kernel_rfl) (by kernel_rfl) (fun _ _ _ h => h) (Or.inl ⟨by kernel_rfl, ?_⟩) hHeld ?_
            · intro V1 _; go_simp
            simp only [Act.put, List.setIfInBounds_toArray, List.set_cons_succ, List.set_cons_zero]
            refine wpAnyG_pure (i := 10) (oi := { dst := some 52, op := Op.move (Operand.tmp 0), type := 27, pos := "quireref12.go:36", after := #[], guard := none }) (v := (.pointer (some ⟨b, 0, none⟩))) rfl (by kernel_rfl) (by kernel_rfl) (by kernel_rfl) (by kernel_rfl) (fun _ _ _ h => h) (Or.inl ⟨by kernel_rfl, ?_⟩) hHeld ?_
            · intro V1 _; go_simp
            simp only [Act.put, List.setIfInBounds_toArray, List.set_cons_succ, List.set_cons_zero]
            refine wpAnyG_pure (i := 11) (oi := { dst := some 53, op := Op.nilCheck (Operand.tmp 52), type := 0, pos := "quireref12.go:36", after := #[{ on := 10, ground := Ground.data }], guard := none }) (v := (.pointer (some ⟨b, 0, none⟩))) rfl (by kernel_rfl) (by kernel_rfl) (by kernel_rfl) (by kernel_rfl) (fun _ _ _ h => h) (Or.inl ⟨by kernel_rfl, ?_⟩) hHeld ?_
            · intro V1 _; go_simp
            simp only [Act.put, List.setIfInBounds_toArray, List.set_cons_succ, List.set_cons_zero]
            refine wpAnyG_pure (i := 12) (oi := { dst := some 54, op := Op.fieldAddr 31 (Operand.tmp 53) 0, type := 0, pos := "quireref12.go:36", after := #[{ on := 11, ground := Ground.data }], guard := none }) (v := (.pointer (some ⟨b, 0, none⟩))) rfl (by kernel_rfl) (by kernel_rfl) (by kernel_rfl) (by kernel_rfl) (fun _ _ _ h => h) (Or.inl ⟨by kernel_rfl, ?_⟩) hHeld ?_
            · intro V1 _; go_simp
            simp only [Act.put, List.setIfInBounds_toArray, List.set_cons_succ, List.set_cons_zero]
            refine wpAnyG_take (i := 13) (oi := { dst := some 55, op := Op.load 28 (Operand.tmp 54), type := 28, pos := "quireref12.go:36", after := #[{ on := 12, ground := Ground.data }], guard := none }) (v := (.slice ao n cap)) rfl (by kernel_rfl) (by kernel_rfl) (by kernel_rfl) (by kernel_rfl) (by kernel_rfl) (by kernel_rfl) (fun _ _ _ h => h) (Or.inl ⟨by kernel_rfl, ?_⟩) hHeld ?_
            · intro V1 hV1; obtain ⟨s0, -⟩ := hV1; go_simp
            simp only [Act.put, List.setIfInBounds_toArray, List.set_cons_succ, List.set_cons_zero]
            refine wpAnyG_pure (i := 14) (oi := { dst := some 56, op := Op.call { callee := Callee.builtin Builtin.len, args := #[Operand.tmp 55], argTypes := #[28] }, type := 3, pos := "quireref12.go:36", after := #[{ on := 13, ground := Ground.data }], guard := none }) (v := (.int .i64 (n : Int))) rfl (by kernel_rfl) (by kernel_rfl) (by kernel_rfl) (by kernel_rfl) (fun _ _ _ h => h) (Or.inl ⟨by kernel_rfl, ?_⟩) hHeld ?_
            · intro V1 _; go_simp
            simp only [Act.put, List.setIfInBounds_toArray, List.set_cons_succ, List.set_cons_zero]
            refine wpAnyG_pure (i := 15) (oi := { dst := some 57, op := Op.slice 28 (Operand.tmp 46) none (some (Operand.tmp 51)) (some (Operand.tmp 56)), type := 28, pos := "quireref12.go:36", after := #[{ on := 4, ground := Ground.data }, { on := 9, ground := Ground.data }, { on := 14, ground := Ground.data }], guard := none }) (v := (.slice ao n n)) rfl (by kernel_rfl) (by kernel_rfl) (by kernel_rfl) (by kernel_rfl) (fun _ _ _ h => h) (Or.inl ⟨by kernel_rfl, ?_⟩) hHeld ?_
            · intro V1 _; have hsf := HSf.out V1; go_simp
            simp only [Act.put, List.setIfInBounds_toArray, List.set_cons_succ, List.set_cons_zero]
            refine wpAnyG_take (i := 16) (oi := { dst := some 58, op := Op.load 41 (Operand.tmp 3), type := 41, pos := "quireref12.go:36", after := #[], guard := none }) (v := (.agg o.vals)) rfl (by kernel_rfl) (by kernel_rfl) (by kernel_rfl) (by kernel_rfl) (by kernel_rfl) (by kernel_rfl) (fun _ _ _ h => h) (yieldsIf_load_mid (by kernel_rfl) 41 (.tmp 3) rfl B 0 rfl o.vals.toList _ (fun V hV => hV.2) Tryz.underlying41 rfl (by kernel_rfl)) hHeld ?_
            simp only [Act.put, List.setIfInBounds_toArray, List.set_cons_succ, List.set_cons_zero]
            obtain ⟨g1, cp1, W2, hrun, hsl, hg1, t2⟩ := append_opR (HSl.out V HTV.out) o (by have := HLn.out; omega)
            have hbs : (Instr.buildSlice 28 1 #[(0, .agg o.vals)]).run Tryz.prog V = .ok (.slice (some ⟨V.heap.size, 0, none⟩) 1 1) (V.alloc (opO o)) := by kernel_rfl
            refine wpAnyG_mid (i := 17) (o := { dst := some 59, op := Op.buildSlice 28 1 #[(0, Operand.tmp 58)], type := 28, pos := "quireref12.go:36", after := #[{ on := 16, ground := Ground.data }], guard := none }) rfl (by kernel_rfl) (by kernel_rfl) (fun K hK => ?_)
            refine wpO_of_run (v := .slice (some ⟨V.heap.size, 0, none⟩) 1 1) (w' := V.alloc (opO o)) ?_ ?_
            · go_simp
            simp only [Act.put, List.setIfInBounds_toArray, List.set_cons_succ, List.set_cons_zero]
            have hHeld := HS.out _ (HTV.out.alloc (opO o))
            refine hK.out _ _ ⟨hHeld, ?_⟩
            clear hK K hbs
            refine wpAnyG_mid (i := 18) (o := { dst := some 60, op := Op.call { callee := Callee.builtin Builtin.append, args := #[Operand.tmp 57, Operand.tmp 59], argTypes := #[28, 28] }, type := 28, pos := "quireref12.go:36", after := #[{ on := 15, ground := Ground.data }, { on := 17, ground := Ground.data }], guard := none }) rfl (by kernel_rfl) (by kernel_rfl) (fun K hK => ?_)
            refine wpO_of_run (v := .slice (some ⟨g1, 0, none⟩) (n + 1) cp1) (w' := W2) ?_ ?_
            · have hr9 := hrun; simp only [HLn2.out] at hr9; clear hrun; simp [execOp, resolve, invoke, builtin, Act.eval, hr9, Result.andThen]
            simp only [Act.put, List.setIfInBounds_toArray, List.set_cons_succ, List.set_cons_zero]
            have HT2 : Hid (Touch (fun _ => False) wr W2 ∧ SlP W2 (.slice (some ⟨g1, 0, none⟩) (n + 1) cp1) (L ++ [o]) ∧ wr.heap.size ≤ g1) := ⟨HTV.out.trans t2, by rw [← HLn2.out]; exact hsl, Nat.le_trans HTV.out.size hg1⟩
            clear hrun hsl hg1 t2 HTV hHeld
            have hHeld := HS.out _ HT2.out.1
            refine hK.out _ _ ⟨hHeld, ?_⟩
            clear hK K
            refine wpAnyG_pure (i := 19) (oi := { dst := some 61, op := Op.nilCheck (Operand.tmp 42), type := 0, pos := "quireref12.go:36", after := #[{ on := 0, ground := Ground.data }, { on := 0, ground := Ground.phase }, { on := 1, ground := Ground.phase }, { on := 2, ground := Ground.phase }, { on := 3, ground := Ground.phase }, { on := 4, ground := Ground.phase }, { on := 5, ground := Ground.phase }, { on := 6, ground := Ground.phase }, { on := 7, ground := Ground.phase }, { on := 8, ground := Ground.phase }, { on := 9, ground := Ground.phase }, { on := 10, ground := Ground.phase }, { on := 11, ground := Ground.phase }, { on := 12, ground := Ground.phase }, { on := 13, ground := Ground.phase }, { on := 14, ground := Ground.phase }, { on := 15, ground := Ground.phase }, { on := 16, ground := Ground.phase }, { on := 17, ground := Ground.phase }, { on := 18, ground := Ground.phase }], guard := none }) (v := (.pointer (some ⟨b, 0, none⟩))) rfl (by kernel_rfl) (by kernel_rfl) (by kernel_rfl) (by kernel_rfl) (fun _ _ _ h => h) (Or.inl ⟨by kernel_rfl, ?_⟩) hHeld ?_
            · intro V1 _; go_simp
            simp only [Act.put, List.setIfInBounds_toArray, List.set_cons_succ, List.set_cons_zero]
            refine wpAnyG_pure (i := 20) (oi := { dst := some 62, op := Op.fieldAddr 31 (Operand.tmp 61) 0, type := 0, pos := "quireref12.go:36", after := #[{ on := 19, ground := Ground.data }, { on := 0, ground := Ground.phase }, { on := 1, ground := Ground.phase }, { on := 2, ground := Ground.phase }, { on := 3, ground := Ground.phase }, { on := 4, ground := Ground.phase }, { on := 5, ground := Ground.phase }, { on := 6, ground := Ground.phase }, { on := 7, ground := Ground.phase }, { on := 8, ground := Ground.phase }, { on := 9, ground := Ground.phase }, { on := 10, ground := Ground.phase }, { on := 11, ground := Ground.phase }, { on := 12, ground := Ground.phase }, { on := 13, ground := Ground.phase }, { on := 14, ground := Ground.phase }, { on := 15, ground := Ground.phase }, { on := 16, ground := Ground.phase }, { on := 17, ground := Ground.phase }, { on := 18, ground := Ground.phase }], guard := none }) (v := (.pointer (some ⟨b, 0, none⟩))) rfl (by kernel_rfl) (by kernel_rfl) (by kernel_rfl) (by kernel_rfl) (fun _ _ _ h => h) (Or.inl ⟨by kernel_rfl, ?_⟩) hHeld ?_
            · intro V1 _; go_simp
            simp only [Act.put, List.setIfInBounds_toArray, List.set_cons_succ, List.set_cons_zero]
            obtain ⟨c0, f0⟩ := HFr.out W2 HT2.out.1
            refine wpAnyG_call (i := 21) (o := { dst := none, op := Op.store 28 (Operand.tmp 62) (Operand.tmp 60), type := 0, pos := "quireref12.go:36", after := #[{ on := 20, ground := Ground.data }, { on := 18, ground := Ground.data }, { on := 18, ground := Ground.chain }, { on := 0, ground := Ground.phase }, { on := 1, ground := Ground.phase }, { on := 2, ground := Ground.phase }, { on := 3, ground := Ground.phase }, { on := 4, ground := Ground.phase }, { on := 5, ground := Ground.phase }, { on := 6, ground := Ground.phase }, { on := 7, ground := Ground.phase }, { on := 8, ground := Ground.phase }, { on := 9, ground := Ground.phase }, { on := 10, ground := Ground.phase }, { on := 11, ground := Ground.phase }, { on := 12, ground := Ground.phase }, { on := 13, ground := Ground.phase }, { on := 14, ground := Ground.phase }, { on := 15, ground := Ground.phase }, { on := 16, ground := Ground.phase }, { on := 17, ground := Ground.phase }, { on := 18, ground := Ground.phase }], guard := none }) rfl (by kernel_rfl) (by kernel_rfl) (by kernel_rfl) (fun K hK => ?_)
            go_simp
            refine hK.out _ _ ?_
            clear hK K
            refine wpAnyG_done (by kernel_rfl) ?_
            refine NoPanic.normal ?_
            clear hHeld c0 f0
            have HRz : Hid (RfC (W2.setCell ⟨b, 0, none⟩ (.slice (some ⟨g1, 0, none⟩) (n + 1) cp1)) b (.slice (some ⟨g1, 0, none⟩) (n + 1) cp1) hv (L ++ [o]) H ∧ Touch (fun k => k = b) w (W2.setCell ⟨b, 0, none⟩ (.slice (some ⟨g1, 0, none⟩) (n + 1) cp1)) ∧ w.heap.size ≤ g1) := by
              have t0 : Touch (fun _ => False) w W2 := HE.out.1.trans (HT.out.trans HT2.out.1)
              have t1 : Touch (fun k => k = b) W2 (W2.setCell ⟨b, 0, none⟩ (.slice (some ⟨g1, 0, none⟩) (n + 1) cp1)) := (Touch.refl (fun k => k = b) W2).setCell _ _ fun _ => rfl
              have t2 : Touch (fun k => k = b) w (W2.setCell ⟨b, 0, none⟩ (.slice (some ⟨g1, 0, none⟩) (n + 1) cp1)) := (t0.mono fun k _ h => h.elim).trans t1
              have hc := (HR0.out.touch t0).cells
              have hlt := lt_of_heap HR0.out.cells
              have hg : w.heap.size ≤ g1 := Nat.le_trans (HE.out.1.trans HT.out).size HT2.out.2.2
              refine ⟨⟨by rw [heap_setCell_same _ _ _ _ hc]; rfl, ?_, HR0.out.hv_on t2⟩, t2, hg⟩
              obtain ⟨ao9, cap9, e9, r1, r2, r3, r4⟩ := HT2.out.2.1
              refine ⟨ao9, cap9, e9, r1, r2, r3, ?_⟩
              simp only [Value.slice.injEq] at e9
              rcases r4 with r4 | ⟨g9, o9, e8, hc9⟩
              · exact .inl r4
              · refine .inr ⟨g9, o9, e8, fun j u hu => ?_⟩
                have h0 := hc9 j u hu
                have hgg : g9 = g1 := by rw [← e9.1] at e8; simp only [Option.some.injEq, Addr.mk.injEq] at e8; exact e8.1.symm
                rw [World.cell?_of_block (t1.block g9 (World.block_lt_of_cell? _ _ h0) (by omega))]; exact h0
            clear HT2 HT HR0 HSl HS HFr HSf HE
            go_wp2_with fail
            go_ret
            exact HPy.out _ _ HF.out HRz.out.1 HRz.out.2.1 (fun k hk => by simp only [Value.ownBlock, Option.some.injEq] at hk; subst hk; exact HRz.out.2.2)
  · have hkb : (kd == 4) = false := by simpa using hk
    have HF : Hid (okR L o = false) := by rw [Hid, HOk.out, decide_eq_false hk]; simp
    go_wp2_with fail
    go_ret
    exact HPn.out _ _ HF.out rfl HE.out.1
end Go.Proofs.YtodpdcflbnomgaaGreat

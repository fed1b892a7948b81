/- The document's Maps in memory: Get. -/
import Derived.Test.YtodpdcflbnomgaaGreatPart17
import Derived.Test.YtodpdcflbnomgaaGreatRfHas
import Derived.Deep.LoopGhost
import Derived.Deep.MidRow
namespace Go.Proofs.YtodpdcflbnomgaaGreat
open Go.RowKit
set_option linter.unusedVariables false
set_option linter.unusedSimpArgs false
set_option maxRecDepth 100000

theorem step_at {H : List Rg} {L : List O} {c k : Int} {ky : ByteArray} {i : Nat} (hi : i < L.length) : (L.take (i + 1)).foldl (stepR H c k ky) (zeroO, false) = stepR H c k ky ((L.take i).foldl (stepR H c k ky) (zeroO, false)) (L.getD i zeroO) := by
  rw [List.take_succ_eq_append_getElem hi, List.foldl_append, List.foldl_cons, List.foldl_nil, List.getD_eq_getElem?_getD, List.getElem?_eq_getElem hi]
  rfl
theorem bytes_eqP {a b : ByteArray} : (a.toList == b.toList) = true ↔ a = b := by
  rw [beq_iff_eq]
  constructor
  · intro h
    rw [ByteArray.toList_eq, ByteArray.toList_eq] at h
    exact ByteArray.ext (Array.ext' h)
  · intro h; rw [h]
set_option maxHeartbeats 8000000 in
theorem rget_any {w : World} {b : Nat} {lv hv : Value} {L : List O} {H : List Rg} (h : RfC w b lv hv L H) (hHl : H.length ≤ 1073741824) (c k : Int) (ky : ByteArray) :
    Calls Tryz.prog 10 #[.pointer (some ⟨b, 0, none⟩), idV c k, .string ky] w fun e w' => e = .returned (.tuple #[(getR H L c k ky).1.val, .bool (getR H L c k ky).2]) ∧ Touch (fun _ => False) w w' := by
  obtain ⟨Bi, hBi⟩ : ∃ B, Hid (B = w.heap.size) := ⟨_, Eq.refl _⟩
  obtain ⟨E1, hE1⟩ : ∃ E, Hid (E = (w.alloc (idO c k)).alloc zeroOp) := ⟨_, Eq.refl _⟩
  obtain ⟨Bb, hBb⟩ : ∃ B, Hid (B = E1.heap.size) := ⟨_, Eq.refl _⟩
  obtain ⟨E, hE⟩ : ∃ E, Hid (E = E1.alloc zeroOp) := ⟨_, Eq.refl _⟩
  have HE : Hid (Touch (fun _ => False) w E ∧ E.heap[Bi]? = some (idO c k) ∧ OpAt (Bi + 1) zeroO E ∧ OpAt Bb zeroO E ∧ w.heap.size ≤ Bi ∧ Bi + 1 < Bb) := by
    have h2 := heap_two w (idO c k) zeroOp
    rw [← hE1.out] at h2
    have t1 : Touch (fun _ => False) w E1 := by rw [hE1.out]; exact ((Touch.refl _ _).alloc _).alloc _
    have t2 : Touch (fun _ => False) E1 E := by rw [hE.out]; exact (Touch.refl _ _).alloc _
    have hs : E1.heap.size = w.heap.size + 2 := by rw [hE1.out]; simp
    refine ⟨t1.trans t2, ?_, ?_, ?_, by rw [hBi.out]; exact Nat.le_refl _, by rw [hBi.out, hBb.out]; omega⟩
    · rw [hBi.out]; exact (t2.block _ (by omega) id).trans h2.1
    · rw [hBi.out]; exact (t2.block _ (by omega) id).trans h2.2
    · rw [hBb.out, hE.out]; exact heap_alloc_new _ _
  have HR : Hid (∀ W, Touch (fun _ => False) w W → _) := fun W (t : Touch (fun _ => False) w W) => h.rows t
  have HHs : Hid (∀ c k W, Touch (fun _ => False) w W → Calls Tryz.prog 26 #[hv, idV c k] W fun e w' => e = .returned (.bool (hasB H c k)) ∧ Touch (fun _ => False) W w') := fun c k W t => rhas_any H hv c k W (h.h.touch t) hHl
  have HLn : Hid (∀ i, i < L.length → (L.take (i + 1)).foldl (stepR H c k ky) (zeroO, false) = stepR H c k ky ((L.take i).foldl (stepR H c k ky) (zeroO, false)) (L.getD i zeroO)) := fun i hi => step_at hi
  have HG : Hid (getR H L c k ky = if ((L.take L.length).foldl (stepR H c k ky) (zeroO, false)).2 = true ∧ ((L.take L.length).foldl (stepR H c k ky) (zeroO, false)).1.vk ≠ 0 then (L.take L.length).foldl (stepR H c k ky) (zeroO, false) else (zeroO, false)) := by rw [Hid, List.take_length]; rfl
  have H0 : Hid ((L.take 0).foldl (stepR H c k ky) (zeroO, false) = (zeroO, false)) := rfl
  clear h hHl
  generalize getR H L c k ky = GR at *
  generalize hn : L.length = n at *
  generalize hnd : (fun i => L.getD i zeroO) = nd at *
  have hnd2 : ∀ i, L.getD i zeroO = nd i := fun i => by rw [← hnd]
  simp only [hnd2] at HR HLn
  generalize hfo : (fun i => (L.take i).foldl (stepR H c k ky) (zeroO, false)) = fo at *
  have hfo2 : ∀ i, (L.take i).foldl (stepR H c k ky) (zeroO, false) = fo i := fun i => by rw [← hfo]
  simp only [hfo2] at HLn HG H0
  clear hn hnd hnd2 hfo hfo2
  go_enter Tryz.func10, Tryz.ntmps10
  go_upto_region 1 with fail
  rw [← hE1.out, ← hBi.out]
  go_upto_region 3 with fail
  rw [← hE.out, ← hBb.out]
  clear hE hBb hE1 hBi
  go_wp2_with fail
  go_loopg [9, 10] n (fun gk s9 s10 wr => ∃ (i : Nat) (bst : O) (bs : Bool), i + gk = n ∧ s9 = .bool bs ∧ s10 = .int .i64 (i : Int) ∧ Hid (Touch (fun _ => False) w wr ∧ wr.heap[Bi]? = some (idO c k) ∧ OpAt (Bi + 1) zeroO wr ∧ OpAt Bb bst wr ∧ fo i = (bst, bs)))
  case atStart => exact ⟨0, zeroO, false, by omega, rfl, rfl, HE.out.1, HE.out.2.1, HE.out.2.2.1, HE.out.2.2.2.1, H0.out⟩
  case round =>
    obtain ⟨i, bst, bs, hig, rfl, rfl, HI⟩ := hrel
    obtain ⟨ao, cap, hlv, q0, q1, c0, c1, q2⟩ := HR.out wr HI.out.1
    have hn1 : n ≤ 9223372036854775807 := by omega
    by_cases hil : i < n
    · obtain ⟨g, o, rfl, q3⟩ := q2 (by omega)
      have HRg : Hid (wr.rangeAt g (o + i * 22) (nd i).vals.toList) := q3 i hil
      have HSt : Hid (fo (i + 1) = stepR H c k ky (bst, bs) (nd i)) := by rw [Hid, HLn.out i hil, HI.out.2.2.2.2]
      have Hil : Hid (i + 1 ≤ n) := hil
      have l1 : (i : Int) < (n : Int) := by omega
      have l0 : (0 : Int) ≤ (i : Int) := by omega
      generalize nd i = x at *
      clear q3 q2 q1 q0
      subst hlv
      obtain ⟨X, hX⟩ : ∃ X, Hid (X = wr.heap.size) := ⟨_, Eq.refl _⟩
      obtain ⟨W2, hW2⟩ : ∃ W, Hid (W = (wr.alloc zeroOp).setCells wr.heap.size 0 x.vals.toList) := ⟨_, Eq.refl _⟩
      have hn4 := newOp wr x
      rw [← hW2.out, ← hX.out] at hn4
      have T2 : Touch (fun _ => False) w W2 := HI.out.1.trans hn4.1
      have HW : Hid (Touch (fun _ => False) w W2 ∧ W2.heap[Bi]? = some (idO c k) ∧ OpAt (Bi + 1) zeroO W2 ∧ OpAt Bb bst W2 ∧ OpAt X x W2) := ⟨T2, (hn4.1.block Bi (lt_of_heap HI.out.2.1) id).trans HI.out.2.1, HI.out.2.2.1.keep hn4.1, HI.out.2.2.2.1.keep hn4.1, hn4.2⟩
      have HS : Hid (∀ W, Touch (fun _ => False) W2 W → W.cell? ⟨X, 13, none⟩ = some (.string x.ky) ∧ W.cell? ⟨X, 14, none⟩ = some (.int .u64 x.pc) ∧ W.cell? ⟨X, 15, none⟩ = some (.int .u64 x.pk) ∧ W.cell? ⟨X, 0, none⟩ = some (.int .u64 x.c) ∧ W.cell? ⟨X, 1, none⟩ = some (.int .u64 x.k) ∧ W.cell? ⟨Bi, 0, none⟩ = some (.int .u64 c) ∧ W.cell? ⟨Bi, 1, none⟩ = some (.int .u64 k) ∧ W.cell? ⟨b, 1, none⟩ = some hv ∧ W.rangeAt Bb 0 bst.vals.toList ∧ W.rangeAt X 0 x.vals.toList) := fun W t => by
        have p1 := HW.out.2.2.2.2.keep t
        have p2 := (t.block Bi (lt_of_heap HW.out.2.1) id).trans HW.out.2.1
        obtain ⟨_, _, _, _, _, _, c1', _⟩ := HR.out W (T2.trans t)
        exact ⟨p1.q13, p1.q14, p1.q15, p1.q0, p1.q1, by rw [cell_of_block p2]; rfl, by rw [cell_of_block p2]; rfl, c1', rangeAt_of (HW.out.2.2.2.1.keep t), rangeAt_of p1⟩
      have HHas : Hid (∀ W, Touch (fun _ => False) W2 W → Calls Tryz.prog 26 #[hv, .agg #[.int .u64 x.c, .int .u64 x.k]] W fun e w' => e = .returned (.bool (hasB H x.c x.k)) ∧ Touch (fun _ => False) W w') := fun W t => HHs.out x.c x.k W (T2.trans t)
      have HLess : Hid (∀ W, Calls Tryz.prog 27 #[bst.val, x.val] W fun e w' => e = .returned (.bool (lessM bst x)) ∧ Touch (fun _ => False) W w') := fun W => qmless_any bst x W
      clear hn4
      go_upto_region 6 with fail
      refine wp_region_lit ?_
      iterate 6 (refine wpList_plain rfl fun K hK => ?_; go_simp; refine hK _ _ ?_; clear hK K)
      refine wpList_load_mid rfl 41 (.tmp 26) rfl g (o + i * 22) rfl x.vals.toList _ HRg.out Tryz.underlying41 rfl (by kernel_rfl) ?_
      simp only [Act.put, List.setIfInBounds_toArray, List.set_cons_succ, List.set_cons_zero]
      iterate 1 (refine wpList_plain rfl fun K hK => ?_; go_simp; refine hK _ _ ?_; clear hK K)
      refine wpList_store_mid rfl 41 (.tmp 11) (.tmp 27) rfl wr.heap.size 0 x.vals rfl rfl (OpAt.there (o := zeroO) (heap_alloc_new wr zeroOp) 0 22 (by decide)) (by kernel_rfl) (by kernel_rfl) ?_
      simp only [Act.put]
      rw [← hW2.out, ← hX.out]
      clear hW2 hX c0 c1
      have HA : Hid (stepR H c k ky (bst, bs) x = if (((x.pc == c && x.pk == k) && (x.ky.toList == ky.toList)) && !(hasB H x.c x.k)) = true ∧ (bs = false ∨ lessM bst x = true) then (x, true) else (bst, bs)) := by
        rw [Hid]
        unfold stepR atR
        have e9 : decide (x.ky = ky) = (x.ky.toList == ky.toList) := by rw [Bool.eq_iff_iff, decide_eq_true_iff, bytes_eqP]
        rw [e9]
        rfl
      have HXt : Hid (stepR H c k ky (bst, bs) x = fo (i + 1)) := HSt.out.symm
      clear HSt HI HRg
      generalize stepR H c k ky (bst, bs) x = SR at *
      generalize hasB H x.c x.k = hb at *
      generalize lessM bst x = lb at *
      have hld1 : ∀ W : World, W.rangeAt Bb 0 bst.vals.toList → (Instr.loadAt 41 (.pointer (some ⟨Bb, 0, none⟩))).run Tryz.prog W = .ok (.agg bst.vals) W := fun W hW => run_loadAt_mid W Bb 0 41 bst.vals.toList _ hW Tryz.underlying41 rfl (by kernel_rfl)
      have hld2 : ∀ W : World, W.rangeAt X 0 x.vals.toList → (Instr.loadAt 41 (.pointer (some ⟨X, 0, none⟩))).run Tryz.prog W = .ok (.agg x.vals) W := fun W hW => run_loadAt_mid W X 0 41 x.vals.toList _ hW Tryz.underlying41 rfl (by kernel_rfl)
      have TD : Touch (fun _ => False) W2 W2.drew := (Touch.refl _ W2).drew
      have S0 := HS.out _ TD
      cases e1 : (x.pc == c) with
      | false =>
        go_upto_region 7 with fail
        refine wp_region_noPanic ?_
        refine wp_region_held_drew (S := fun W : World => (W.cell? ⟨X, 13, none⟩ = some (.string x.ky) ∧ W.cell? ⟨X, 14, none⟩ = some (.int .u64 x.pc) ∧ W.cell? ⟨X, 15, none⟩ = some (.int .u64 x.pk) ∧ W.cell? ⟨X, 0, none⟩ = some (.int .u64 x.c) ∧ W.cell? ⟨X, 1, none⟩ = some (.int .u64 x.k) ∧ W.cell? ⟨Bi, 0, none⟩ = some (.int .u64 c) ∧ W.cell? ⟨Bi, 1, none⟩ = some (.int .u64 k) ∧ W.cell? ⟨b, 1, none⟩ = some hv ∧ W.rangeAt Bb 0 bst.vals.toList ∧ W.rangeAt X 0 x.vals.toList) ∧ Hid (Touch (fun _ => False) W2 W)) (by kernel_rfl) ⟨S0, TD⟩ (fun hHeld => ?_)
        clear S0 TD
        refine wpAnyH_take (i := 0) (oi := { dst := some 28, op := Op.fieldAddr 41 (Operand.tmp 11) 8, type := 0, pos := "quireref12.go:46", after := #[], guard := none }) (v := (.pointer (some ⟨X, 14, none⟩))) rfl (by kernel_rfl) (by kernel_rfl) (by kernel_rfl) (fun _ _ _ h => h) (Or.inl ⟨by rfl, ?_⟩) hHeld ?_
        · intro w' hSw; (try dsimp only at hSw); go_simp
        simp only [Act.put, List.setIfInBounds_toArray, List.set_cons_zero, List.set_cons_succ]
        refine wpAnyH_take (i := 1) (oi := { dst := some 29, op := Op.load 34 (Operand.tmp 28), type := 34, pos := "quireref12.go:46", after := #[{ on := 0, ground := Ground.data }], guard := none }) (v := (.agg #[.int .u64 x.pc, .int .u64 x.pk])) rfl (by kernel_rfl) (by kernel_rfl) (by kernel_rfl) (fun _ _ _ h => h) (Or.inl ⟨by rfl, ?_⟩) hHeld ?_
        · intro w' hSw; (try dsimp only at hSw); go_simp
        simp only [Act.put, List.setIfInBounds_toArray, List.set_cons_zero, List.set_cons_succ]
        refine wpAnyH_take (i := 2) (oi := { dst := some 30, op := Op.load 34 (Operand.tmp 4), type := 34, pos := "quireref12.go:46", after := #[], guard := none }) (v := (.agg #[.int .u64 c, .int .u64 k])) rfl (by kernel_rfl) (by kernel_rfl) (by kernel_rfl) (fun _ _ _ h => h) (Or.inl ⟨by rfl, ?_⟩) hHeld ?_
        · intro w' hSw; (try dsimp only at hSw); go_simp
        simp only [Act.put, List.setIfInBounds_toArray, List.set_cons_zero, List.set_cons_succ]
        refine wpAnyH_take (i := 3) (oi := { dst := some 31, op := Op.binOp BinOp.eql 34 (Operand.tmp 29) (Operand.tmp 30) 34, type := 4, pos := "quireref12.go:46", after := #[{ on := 1, ground := Ground.data }, { on := 2, ground := Ground.data }], guard := none }) (v := (.bool false)) rfl (by kernel_rfl) (by kernel_rfl) (by kernel_rfl) (fun _ _ _ h => h) (Or.inl ⟨by rfl, ?_⟩) hHeld ?_
        · intro w' hSw; (try dsimp only at hSw); go_simp
        simp only [Act.put, List.setIfInBounds_toArray, List.set_cons_zero, List.set_cons_succ]
        refine wpAnyH_take (i := 4) (oi := { dst := some 32, op := Op.move (Operand.tmp 31), type := 4, pos := "quireref12.go:46", after := #[{ on := 3, ground := Ground.data }], guard := none }) (v := (.bool false)) rfl (by kernel_rfl) (by kernel_rfl) (by kernel_rfl) (fun _ _ _ h => h) (Or.inl ⟨by rfl, ?_⟩) hHeld ?_
        · intro w' hSw; (try dsimp only at hSw); go_simp
        simp only [Act.put, List.setIfInBounds_toArray, List.set_cons_zero, List.set_cons_succ]
        refine wpAnyH_take (i := 5) (oi := { dst := some 33, op := Op.fieldAddr 41 (Operand.tmp 11) 7, type := 0, pos := "quireref12.go:46", after := #[{ on := 4, ground := Ground.guard }], guard := some (4, true) }) (v := undef) rfl (by kernel_rfl) (by kernel_rfl) (by kernel_rfl) (fun _ _ _ h => h) (Or.inr ⟨by rfl, rfl⟩) hHeld ?_
        simp only [Act.put, List.setIfInBounds_toArray, List.set_cons_zero, List.set_cons_succ]
        refine wpAnyH_take (i := 6) (oi := { dst := some 34, op := Op.load 9 (Operand.tmp 33), type := 9, pos := "quireref12.go:46", after := #[{ on := 5, ground := Ground.data }, { on := 4, ground := Ground.guard }], guard := some (4, true) }) (v := undef) rfl (by kernel_rfl) (by kernel_rfl) (by kernel_rfl) (fun _ _ _ h => h) (Or.inr ⟨by rfl, rfl⟩) hHeld ?_
        simp only [Act.put, List.setIfInBounds_toArray, List.set_cons_zero, List.set_cons_succ]
        refine wpAnyH_take (i := 7) (oi := { dst := some 35, op := Op.move (Operand.tmp 2), type := 9, pos := "quireref12.go:46", after := #[{ on := 4, ground := Ground.guard }], guard := some (4, true) }) (v := undef) rfl (by kernel_rfl) (by kernel_rfl) (by kernel_rfl) (fun _ _ _ h => h) (Or.inr ⟨by rfl, rfl⟩) hHeld ?_
        simp only [Act.put, List.setIfInBounds_toArray, List.set_cons_zero, List.set_cons_succ]
        refine wpAnyH_take (i := 8) (oi := { dst := some 36, op := Op.binOp BinOp.eql 9 (Operand.tmp 34) (Operand.tmp 35) 9, type := 4, pos := "quireref12.go:46", after := #[{ on := 6, ground := Ground.data }, { on := 7, ground := Ground.data }, { on := 4, ground := Ground.guard }], guard := some (4, true) }) (v := undef) rfl (by kernel_rfl) (by kernel_rfl) (by kernel_rfl) (fun _ _ _ h => h) (Or.inr ⟨by rfl, rfl⟩) hHeld ?_
        simp only [Act.put, List.setIfInBounds_toArray, List.set_cons_zero, List.set_cons_succ]
        refine wpAnyH_take (i := 9) (oi := { dst := some 37, op := Op.pick (Operand.tmp 32) (Operand.tmp 36) (Operand.const (Value.bool false)), type := 4, pos := "quireref12.go:46", after := #[{ on := 4, ground := Ground.data }, { on := 8, ground := Ground.data }], guard := none }) (v := (.bool false)) rfl (by kernel_rfl) (by kernel_rfl) (by kernel_rfl) (fun _ _ _ h => h) (Or.inl ⟨by rfl, ?_⟩) hHeld ?_
        · intro w' hSw; (try dsimp only at hSw); go_simp
        simp only [Act.put, List.setIfInBounds_toArray, List.set_cons_zero, List.set_cons_succ]
        refine wpAnyH_take (i := 10) (oi := { dst := some 38, op := Op.move (Operand.tmp 37), type := 4, pos := "quireref12.go:46", after := #[{ on := 9, ground := Ground.data }, { on := 4, ground := Ground.chain }], guard := none }) (v := (.bool false)) rfl (by kernel_rfl) (by kernel_rfl) (by kernel_rfl) (fun _ _ _ h => h) (Or.inl ⟨by rfl, ?_⟩) hHeld ?_
        · intro w' hSw; (try dsimp only at hSw); go_simp
        simp only [Act.put, List.setIfInBounds_toArray, List.set_cons_zero, List.set_cons_succ]
        refine wpAnyH_take (i := 11) (oi := { dst := some 39, op := Op.move (Operand.tmp 0), type := 27, pos := "quireref12.go:46", after := #[{ on := 10, ground := Ground.guard }], guard := some (10, true) }) (v := undef) rfl (by kernel_rfl) (by kernel_rfl) (by kernel_rfl) (fun _ _ _ h => h) (Or.inr ⟨by rfl, rfl⟩) hHeld ?_
        simp only [Act.put, List.setIfInBounds_toArray, List.set_cons_zero, List.set_cons_succ]
        refine wpAnyH_take (i := 12) (oi := { dst := some 40, op := Op.nilCheck (Operand.tmp 39), type := 0, pos := "quireref12.go:46", after := #[{ on := 11, ground := Ground.data }, { on := 10, ground := Ground.guard }], guard := some (10, true) }) (v := undef) rfl (by kernel_rfl) (by kernel_rfl) (by kernel_rfl) (fun _ _ _ h => h) (Or.inr ⟨by rfl, rfl⟩) hHeld ?_
        simp only [Act.put, List.setIfInBounds_toArray, List.set_cons_zero, List.set_cons_succ]
        refine wpAnyH_take (i := 13) (oi := { dst := some 41, op := Op.fieldAddr 31 (Operand.tmp 40) 1, type := 0, pos := "quireref12.go:46", after := #[{ on := 12, ground := Ground.data }, { on := 10, ground := Ground.guard }], guard := some (10, true) }) (v := undef) rfl (by kernel_rfl) (by kernel_rfl) (by kernel_rfl) (fun _ _ _ h => h) (Or.inr ⟨by rfl, rfl⟩) hHeld ?_
        simp only [Act.put, List.setIfInBounds_toArray, List.set_cons_zero, List.set_cons_succ]
        refine wpAnyH_take (i := 14) (oi := { dst := some 42, op := Op.load 29 (Operand.tmp 41), type := 29, pos := "quireref12.go:46", after := #[{ on := 13, ground := Ground.data }, { on := 10, ground := Ground.guard }], guard := some (10, true) }) (v := undef) rfl (by kernel_rfl) (by kernel_rfl) (by kernel_rfl) (fun _ _ _ h => h) (Or.inr ⟨by rfl, rfl⟩) hHeld ?_
        simp only [Act.put, List.setIfInBounds_toArray, List.set_cons_zero, List.set_cons_succ]
        refine wpAnyH_take (i := 15) (oi := { dst := some 43, op := Op.fieldAddr 41 (Operand.tmp 11) 0, type := 0, pos := "quireref12.go:46", after := #[{ on := 10, ground := Ground.guard }], guard := some (10, true) }) (v := undef) rfl (by kernel_rfl) (by kernel_rfl) (by kernel_rfl) (fun _ _ _ h => h) (Or.inr ⟨by rfl, rfl⟩) hHeld ?_
        simp only [Act.put, List.setIfInBounds_toArray, List.set_cons_zero, List.set_cons_succ]
        refine wpAnyH_take (i := 16) (oi := { dst := some 44, op := Op.load 34 (Operand.tmp 43), type := 34, pos := "quireref12.go:46", after := #[{ on := 15, ground := Ground.data }, { on := 10, ground := Ground.guard }], guard := some (10, true) }) (v := undef) rfl (by kernel_rfl) (by kernel_rfl) (by kernel_rfl) (fun _ _ _ h => h) (Or.inr ⟨by rfl, rfl⟩) hHeld ?_
        simp only [Act.put, List.setIfInBounds_toArray, List.set_cons_zero, List.set_cons_succ]
        refine wpAnyH_take (i := 17) (oi := { dst := some 45, op := Op.call { callee := Callee.value (Operand.func 26), args := #[Operand.tmp 42, Operand.tmp 44], argTypes := #[29, 34] }, type := 4, pos := "quireref12.go:46", after := #[{ on := 14, ground := Ground.data }, { on := 16, ground := Ground.data }, { on := 10, ground := Ground.chain }, { on := 10, ground := Ground.guard }], guard := some (10, true) }) (v := undef) rfl (by kernel_rfl) (by kernel_rfl) (by kernel_rfl) (fun _ _ _ h => h) (Or.inr ⟨by rfl, rfl⟩) hHeld ?_
        simp only [Act.put, List.setIfInBounds_toArray, List.set_cons_zero, List.set_cons_succ]
        refine wpAnyH_take (i := 18) (oi := { dst := some 46, op := Op.unOp UnOp.not 4 (Operand.tmp 45), type := 4, pos := "quireref12.go:46", after := #[{ on := 17, ground := Ground.data }, { on := 10, ground := Ground.guard }], guard := some (10, true) }) (v := undef) rfl (by kernel_rfl) (by kernel_rfl) (by kernel_rfl) (fun _ _ _ h => h) (Or.inr ⟨by rfl, rfl⟩) hHeld ?_
        simp only [Act.put, List.setIfInBounds_toArray, List.set_cons_zero, List.set_cons_succ]
        refine wpAnyH_take (i := 19) (oi := { dst := some 47, op := Op.pick (Operand.tmp 38) (Operand.tmp 46) (Operand.const (Value.bool false)), type := 4, pos := "quireref12.go:46", after := #[{ on := 10, ground := Ground.data }, { on := 18, ground := Ground.data }], guard := none }) (v := (.bool false)) rfl (by kernel_rfl) (by kernel_rfl) (by kernel_rfl) (fun _ _ _ h => h) (Or.inl ⟨by rfl, ?_⟩) hHeld ?_
        · intro w' hSw; (try dsimp only at hSw); go_simp
        simp only [Act.put, List.setIfInBounds_toArray, List.set_cons_zero, List.set_cons_succ]
        refine wpAnyH_take (i := 20) (oi := { dst := some 48, op := Op.move (Operand.tmp 47), type := 4, pos := "quireref12.go:46", after := #[{ on := 19, ground := Ground.data }, { on := 17, ground := Ground.chain }], guard := none }) (v := (.bool false)) rfl (by kernel_rfl) (by kernel_rfl) (by kernel_rfl) (fun _ _ _ h => h) (Or.inl ⟨by rfl, ?_⟩) hHeld ?_
        · intro w' hSw; (try dsimp only at hSw); go_simp
        simp only [Act.put, List.setIfInBounds_toArray, List.set_cons_zero, List.set_cons_succ]
        refine wpAnyH_take (i := 21) (oi := { dst := some 49, op := Op.move (Operand.tmp 9), type := 4, pos := "quireref12.go:46", after := #[{ on := 20, ground := Ground.guard }], guard := some (20, true) }) (v := undef) rfl (by kernel_rfl) (by kernel_rfl) (by kernel_rfl) (fun _ _ _ h => h) (Or.inr ⟨by rfl, rfl⟩) hHeld ?_
        simp only [Act.put, List.setIfInBounds_toArray, List.set_cons_zero, List.set_cons_succ]
        refine wpAnyH_take (i := 22) (oi := { dst := some 50, op := Op.unOp UnOp.not 4 (Operand.tmp 49), type := 4, pos := "quireref12.go:46", after := #[{ on := 21, ground := Ground.data }, { on := 20, ground := Ground.guard }], guard := some (20, true) }) (v := undef) rfl (by kernel_rfl) (by kernel_rfl) (by kernel_rfl) (fun _ _ _ h => h) (Or.inr ⟨by rfl, rfl⟩) hHeld ?_
        simp only [Act.put, List.setIfInBounds_toArray, List.set_cons_zero, List.set_cons_succ]
        refine wpAnyH_take (i := 23) (oi := { dst := some 51, op := Op.move (Operand.tmp 50), type := 4, pos := "quireref12.go:46", after := #[{ on := 22, ground := Ground.data }, { on := 20, ground := Ground.chain }, { on := 20, ground := Ground.guard }], guard := some (20, true) }) (v := undef) rfl (by kernel_rfl) (by kernel_rfl) (by kernel_rfl) (fun _ _ _ h => h) (Or.inr ⟨by rfl, rfl⟩) hHeld ?_
        simp only [Act.put, List.setIfInBounds_toArray, List.set_cons_zero, List.set_cons_succ]
        refine wpAnyH_take (i := 24) (oi := { dst := some 52, op := Op.load 41 (Operand.tmp 8), type := 41, pos := "quireref12.go:46", after := #[{ on := 23, ground := Ground.guard }], guard := some (23, false) }) (v := undef) rfl (by kernel_rfl) (by kernel_rfl) (by kernel_rfl) (fun _ _ _ h => h) (Or.inr ⟨by rfl, rfl⟩) hHeld ?_
        simp only [Act.put, List.setIfInBounds_toArray, List.set_cons_zero, List.set_cons_succ]
        refine wpAnyH_take (i := 25) (oi := { dst := some 53, op := Op.load 41 (Operand.tmp 11), type := 41, pos := "quireref12.go:46", after := #[{ on := 23, ground := Ground.guard }], guard := some (23, false) }) (v := undef) rfl (by kernel_rfl) (by kernel_rfl) (by kernel_rfl) (fun _ _ _ h => h) (Or.inr ⟨by rfl, rfl⟩) hHeld ?_
        simp only [Act.put, List.setIfInBounds_toArray, List.set_cons_zero, List.set_cons_succ]
        refine wpAnyH_take (i := 26) (oi := { dst := some 54, op := Op.call { callee := Callee.value (Operand.func 27), args := #[Operand.tmp 52, Operand.tmp 53], argTypes := #[41, 41] }, type := 4, pos := "quireref12.go:46", after := #[{ on := 24, ground := Ground.data }, { on := 25, ground := Ground.data }, { on := 23, ground := Ground.chain }, { on := 23, ground := Ground.guard }], guard := some (23, false) }) (v := undef) rfl (by kernel_rfl) (by kernel_rfl) (by kernel_rfl) (fun _ _ _ h => h) (Or.inr ⟨by rfl, rfl⟩) hHeld ?_
        simp only [Act.put, List.setIfInBounds_toArray, List.set_cons_zero, List.set_cons_succ]
        refine wpAnyH_take (i := 27) (oi := { dst := some 55, op := Op.pick (Operand.tmp 51) (Operand.const (Value.bool true)) (Operand.tmp 54), type := 4, pos := "quireref12.go:46", after := #[{ on := 23, ground := Ground.data }, { on := 26, ground := Ground.data }, { on := 20, ground := Ground.guard }], guard := some (20, true) }) (v := undef) rfl (by kernel_rfl) (by kernel_rfl) (by kernel_rfl) (fun _ _ _ h => h) (Or.inr ⟨by rfl, rfl⟩) hHeld ?_
        simp only [Act.put, List.setIfInBounds_toArray, List.set_cons_zero, List.set_cons_succ]
        refine wpAnyH_take (i := 28) (oi := { dst := some 56, op := Op.pick (Operand.tmp 48) (Operand.tmp 55) (Operand.const (Value.bool false)), type := 4, pos := "quireref12.go:46", after := #[{ on := 20, ground := Ground.data }, { on := 27, ground := Ground.data }], guard := none }) (v := (.bool false)) rfl (by kernel_rfl) (by kernel_rfl) (by kernel_rfl) (fun _ _ _ h => h) (Or.inl ⟨by rfl, ?_⟩) hHeld ?_
        · intro w' hSw; (try dsimp only at hSw); go_simp
        simp only [Act.put, List.setIfInBounds_toArray, List.set_cons_zero, List.set_cons_succ]
        refine wpAnyH_done (by kernel_rfl) ?_ _
        have HT5 := hHeld.2
        clear hHeld
        first | refine NoPanic.normal ?_ | skip
        have HF : Hid (fo (i + 1) = (bst, bs)) := by rw [Hid, ← HXt.out, HA.out, if_neg (by simp [*])]
        have HQ : Hid (∀ V, Touch (fun _ => False) W2 V → Touch (fun _ => False) w V ∧ V.heap[Bi]? = some (idO c k) ∧ OpAt (Bi + 1) zeroO V ∧ OpAt Bb bst V) := fun V t => ⟨HW.out.1.trans t, (t.block Bi (lt_of_heap HW.out.2.1) id).trans HW.out.2.1, HW.out.2.2.1.keep t, HW.out.2.2.2.1.keep t⟩
        have HQ2 := HQ.out _ HT5.out
        clear HW HA HXt hld1 hld2 HS HHas HLess HHs
        go_wp2_with fail
        go_roundg (n - (i + 1))
        case measure => omega
        case rel => exact ⟨i + 1, bst, bs, by have := Hil.out; omega, rfl, by go_num, HQ2.1, HQ2.2.1, HQ2.2.2.1, HQ2.2.2.2, HF.out⟩
      | true =>
        cases e2 : (x.pk == k) with
        | false =>
          go_upto_region 7 with fail
          refine wp_region_noPanic ?_
          refine wp_region_held_drew (S := fun W : World => (W.cell? ⟨X, 13, none⟩ = some (.string x.ky) ∧ W.cell? ⟨X, 14, none⟩ = some (.int .u64 x.pc) ∧ W.cell? ⟨X, 15, none⟩ = some (.int .u64 x.pk) ∧ W.cell? ⟨X, 0, none⟩ = some (.int .u64 x.c) ∧ W.cell? ⟨X, 1, none⟩ = some (.int .u64 x.k) ∧ W.cell? ⟨Bi, 0, none⟩ = some (.int .u64 c) ∧ W.cell? ⟨Bi, 1, none⟩ = some (.int .u64 k) ∧ W.cell? ⟨b, 1, none⟩ = some hv ∧ W.rangeAt Bb 0 bst.vals.toList ∧ W.rangeAt X 0 x.vals.toList) ∧ Hid (Touch (fun _ => False) W2 W)) (by kernel_rfl) ⟨S0, TD⟩ (fun hHeld => ?_)
          clear S0 TD
          refine wpAnyH_take (i := 0) (oi := { dst := some 28, op := Op.fieldAddr 41 (Operand.tmp 11) 8, type := 0, pos := "quireref12.go:46", after := #[], guard := none }) (v := (.pointer (some ⟨X, 14, none⟩))) rfl (by kernel_rfl) (by kernel_rfl) (by kernel_rfl) (fun _ _ _ h => h) (Or.inl ⟨by rfl, ?_⟩) hHeld ?_
          · intro w' hSw; (try dsimp only at hSw); go_simp
          simp only [Act.put, List.setIfInBounds_toArray, List.set_cons_zero, List.set_cons_succ]
          refine wpAnyH_take (i := 1) (oi := { dst := some 29, op := Op.load 34 (Operand.tmp 28), type := 34, pos := "quireref12.go:46", after := #[{ on := 0, ground := Ground.data }], guard := none }) (v := (.agg #[.int .u64 x.pc, .int .u64 x.pk])) rfl (by kernel_rfl) (by kernel_rfl) (by kernel_rfl) (fun _ _ _ h => h) (Or.inl ⟨by rfl, ?_⟩) hHeld ?_
          · intro w' hSw; (try dsimp only at hSw); go_simp
          simp only [Act.put, List.setIfInBounds_toArray, List.set_cons_zero, List.set_cons_succ]
          refine wpAnyH_take (i := 2) (oi := { dst := some 30, op := Op.load 34 (Operand.tmp 4), type := 34, pos := "quireref12.go:46", after := #[], guard := none }) (v := (.agg #[.int .u64 c, .int .u64 k])) rfl (by kernel_rfl) (by kernel_rfl) (by kernel_rfl) (fun _ _ _ h => h) (Or.inl ⟨by rfl, ?_⟩) hHeld ?_
          · intro w' hSw; (try dsimp only at hSw); go_simp
          simp only [Act.put, List.setIfInBounds_toArray, List.set_cons_zero, List.set_cons_succ]
          refine wpAnyH_take (i := 3) (oi := { dst := some 31, op := Op.binOp BinOp.eql 34 (Operand.tmp 29) (Operand.tmp 30) 34, type := 4, pos := "quireref12.go:46", after := #[{ on := 1, ground := Ground.data }, { on := 2, ground := Ground.data }], guard := none }) (v := (.bool false)) rfl (by kernel_rfl) (by kernel_rfl) (by kernel_rfl) (fun _ _ _ h => h) (Or.inl ⟨by rfl, ?_⟩) hHeld ?_
          · intro w' hSw; (try dsimp only at hSw); go_simp
          simp only [Act.put, List.setIfInBounds_toArray, List.set_cons_zero, List.set_cons_succ]
          refine wpAnyH_take (i := 4) (oi := { dst := some 32, op := Op.move (Operand.tmp 31), type := 4, pos := "quireref12.go:46", after := #[{ on := 3, ground := Ground.data }], guard := none }) (v := (.bool false)) rfl (by kernel_rfl) (by kernel_rfl) (by kernel_rfl) (fun _ _ _ h => h) (Or.inl ⟨by rfl, ?_⟩) hHeld ?_
          · intro w' hSw; (try dsimp only at hSw); go_simp
          simp only [Act.put, List.setIfInBounds_toArray, List.set_cons_zero, List.set_cons_succ]
          refine wpAnyH_take (i := 5) (oi := { dst := some 33, op := Op.fieldAddr 41 (Operand.tmp 11) 7, type := 0, pos := "quireref12.go:46", after := #[{ on := 4, ground := Ground.guard }], guard := some (4, true) }) (v := undef) rfl (by kernel_rfl) (by kernel_rfl) (by kernel_rfl) (fun _ _ _ h => h) (Or.inr ⟨by rfl, rfl⟩) hHeld ?_
          simp only [Act.put, List.setIfInBounds_toArray, List.set_cons_zero, List.set_cons_succ]
          refine wpAnyH_take (i := 6) (oi := { dst := some 34, op := Op.load 9 (Operand.tmp 33), type := 9, pos := "quireref12.go:46", after := #[{ on := 5, ground := Ground.data }, { on := 4, ground := Ground.guard }], guard := some (4, true) }) (v := undef) rfl (by kernel_rfl) (by kernel_rfl) (by kernel_rfl) (fun _ _ _ h => h) (Or.inr ⟨by rfl, rfl⟩) hHeld ?_
          simp only [Act.put, List.setIfInBounds_toArray, List.set_cons_zero, List.set_cons_succ]
          refine wpAnyH_take (i := 7) (oi := { dst := some 35, op := Op.move (Operand.tmp 2), type := 9, pos := "quireref12.go:46", after := #[{ on := 4, ground := Ground.guard }], guard := some (4, true) }) (v := undef) rfl (by kernel_rfl) (by kernel_rfl) (by kernel_rfl) (fun _ _ _ h => h) (Or.inr ⟨by rfl, rfl⟩) hHeld ?_
          simp only [Act.put, List.setIfInBounds_toArray, List.set_cons_zero, List.set_cons_succ]
          refine wpAnyH_take (i := 8) (oi := { dst := some 36, op := Op.binOp BinOp.eql 9 (Operand.tmp 34) (Operand.tmp 35) 9, type := 4, pos := "quireref12.go:46", after := #[{ on := 6, ground := Ground.data }, { on := 7, ground := Ground.data }, { on := 4, ground := Ground.guard }], guard := some (4, true) }) (v := undef) rfl (by kernel_rfl) (by kernel_rfl) (by kernel_rfl) (fun _ _ _ h => h) (Or.inr ⟨by rfl, rfl⟩) hHeld ?_
          simp only [Act.put, List.setIfInBounds_toArray, List.set_cons_zero, List.set_cons_succ]
          refine wpAnyH_take (i := 9) (oi := { dst := some 37, op := Op.pick (Operand.tmp 32) (Operand.tmp 36) (Operand.const (Value.bool false)), type := 4, pos := "quireref12.go:46", after := #[{ on := 4, ground := Ground.data }, { on := 8, ground := Ground.data }], guard := none }) (v := (.bool false)) rfl (by kernel_rfl) (by kernel_rfl) (by kernel_rfl) (fun _ _ _ h => h) (Or.inl ⟨by rfl, ?_⟩) hHeld ?_
          · intro w' hSw; (try dsimp only at hSw); go_simp
          simp only [Act.put, List.setIfInBounds_toArray, List.set_cons_zero, List.set_cons_succ]
          refine wpAnyH_take (i := 10) (oi := { dst := some 38, op := Op.move (Operand.tmp 37), type := 4, pos := "quireref12.go:46", after := #[{ on := 9, ground := Ground.data }, { on := 4, ground := Ground.chain }], guard := none }) (v := (.bool false)) rfl (by kernel_rfl) (by kernel_rfl) (by kernel_rfl) (fun _ _ _ h => h) (Or.inl ⟨by rfl, ?_⟩) hHeld ?_
          · intro w' hSw; (try dsimp only at hSw); go_simp
          simp only [Act.put, List.setIfInBounds_toArray, List.set_cons_zero, List.set_cons_succ]
          refine wpAnyH_take (i := 11) (oi := { dst := some 39, op := Op.move (Operand.tmp 0), type := 27, pos := "quireref12.go:46", after := #[{ on := 10, ground := Ground.guard }], guard := some (10, true) }) (v := undef) rfl (by kernel_rfl) (by kernel_rfl) (by kernel_rfl) (fun _ _ _ h => h) (Or.inr ⟨by rfl, rfl⟩) hHeld ?_
          simp only [Act.put, List.setIfInBounds_toArray, List.set_cons_zero, List.set_cons_succ]
          refine wpAnyH_take (i := 12) (oi := { dst := some 40, op := Op.nilCheck (Operand.tmp 39), type := 0, pos := "quireref12.go:46", after := #[{ on := 11, ground := Ground.data }, { on := 10, ground := Ground.guard }], guard := some (10, true) }) (v := undef) rfl (by kernel_rfl) (by kernel_rfl) (by kernel_rfl) (fun _ _ _ h => h) (Or.inr ⟨by rfl, rfl⟩) hHeld ?_
          simp only [Act.put, List.setIfInBounds_toArray, List.set_cons_zero, List.set_cons_succ]
          refine wpAnyH_take (i := 13) (oi := { dst := some 41, op := Op.fieldAddr 31 (Operand.tmp 40) 1, type := 0, pos := "quireref12.go:46", after := #[{ on := 12, ground := Ground.data }, { on := 10, ground := Ground.guard }], guard := some (10, true) }) (v := undef) rfl (by kernel_rfl) (by kernel_rfl) (by kernel_rfl) (fun _ _ _ h => h) (Or.inr ⟨by rfl, rfl⟩) hHeld ?_
          simp only [Act.put, List.setIfInBounds_toArray, List.set_cons_zero, List.set_cons_succ]
          refine wpAnyH_take (i := 14) (oi := { dst := some 42, op := Op.load 29 (Operand.tmp 41), type := 29, pos := "quireref12.go:46", after := #[{ on := 13, ground := Ground.data }, { on := 10, ground := Ground.guard }], guard := some (10, true) }) (v := undef) rfl (by kernel_rfl) (by kernel_rfl) (by kernel_rfl) (fun _ _ _ h => h) (Or.inr ⟨by rfl, rfl⟩) hHeld ?_
          simp only [Act.put, List.setIfInBounds_toArray, List.set_cons_zero, List.set_cons_succ]
          refine wpAnyH_take (i := 15) (oi := { dst := some 43, op := Op.fieldAddr 41 (Operand.tmp 11) 0, type := 0, pos := "quireref12.go:46", after := #[{ on := 10, ground := Ground.guard }], guard := some (10, true) }) (v := undef) rfl (by kernel_rfl) (by kernel_rfl) (by kernel_rfl) (fun _ _ _ h => h) (Or.inr ⟨by rfl, rfl⟩) hHeld ?_
          simp only [Act.put, List.setIfInBounds_toArray, List.set_cons_zero, List.set_cons_succ]
          refine wpAnyH_take (i := 16) (oi := { dst := some 44, op := Op.load 34 (Operand.tmp 43), type := 34, pos := "quireref12.go:46", after := #[{ on := 15, ground := Ground.data }, { on := 10, ground := Ground.guard }], guard := some (10, true) }) (v := undef) rfl (by kernel_rfl) (by kernel_rfl) (by kernel_rfl) (fun _ _ _ h => h) (Or.inr ⟨by rfl, rfl⟩) hHeld ?_
          simp only [Act.put, List.setIfInBounds_toArray, List.set_cons_zero, List.set_cons_succ]
          refine wpAnyH_take (i := 17) (oi := { dst := some 45, op := Op.call { callee := Callee.value (Operand.func 26), args := #[Operand.tmp 42, Operand.tmp 44], argTypes := #[29, 34] }, type := 4, pos := "quireref12.go:46", after := #[{ on := 14, ground := Ground.data }, { on := 16, ground := Ground.data }, { on := 10, ground := Ground.chain }, { on := 10, ground := Ground.guard }], guard := some (10, true) }) (v := undef) rfl (by kernel_rfl) (by kernel_rfl) (by kernel_rfl) (fun _ _ _ h => h) (Or.inr ⟨by rfl, rfl⟩) hHeld ?_
          simp only [Act.put, List.setIfInBounds_toArray, List.set_cons_zero, List.set_cons_succ]
          refine wpAnyH_take (i := 18) (oi := { dst := some 46, op := Op.unOp UnOp.not 4 (Operand.tmp 45), type := 4, pos := "quireref12.go:46", after := #[{ on := 17, ground := Ground.data }, { on := 10, ground := Ground.guard }], guard := some (10, true) }) (v := undef) rfl (by kernel_rfl) (by kernel_rfl) (by kernel_rfl) (fun _ _ _ h => h) (Or.inr ⟨by rfl, rfl⟩) hHeld ?_
          simp only [Act.put, List.setIfInBounds_toArray, List.set_cons_zero, List.set_cons_succ]
          refine wpAnyH_take (i := 19) (oi := { dst := some 47, op := Op.pick (Operand.tmp 38) (Operand.tmp 46) (Operand.const (Value.bool false)), type := 4, pos := "quireref12.go:46", after := #[{ on := 10, ground := Ground.data }, { on := 18, ground := Ground.data }], guard := none }) (v := (.bool false)) rfl (by kernel_rfl) (by kernel_rfl) (by kernel_rfl) (fun _ _ _ h => h) (Or.inl ⟨by rfl, ?_⟩) hHeld ?_
          · intro w' hSw; (try dsimp only at hSw); go_simp
          simp only [Act.put, List.setIfInBounds_toArray, List.set_cons_zero, List.set_cons_succ]
          refine wpAnyH_take (i := 20) (oi := { dst := some 48, op := Op.move (Operand.tmp 47), type := 4, pos := "quireref12.go:46", after := #[{ on := 19, ground := Ground.data }, { on := 17, ground := Ground.chain }], guard := none }) (v := (.bool false)) rfl (by kernel_rfl) (by kernel_rfl) (by kernel_rfl) (fun _ _ _ h => h) (Or.inl ⟨by rfl, ?_⟩) hHeld ?_
          · intro w' hSw; (try dsimp only at hSw); go_simp
          simp only [Act.put, List.setIfInBounds_toArray, List.set_cons_zero, List.set_cons_succ]
          refine wpAnyH_take (i := 21) (oi := { dst := some 49, op := Op.move (Operand.tmp 9), type := 4, pos := "quireref12.go:46", after := #[{ on := 20, ground := Ground.guard }], guard := some (20, true) }) (v := undef) rfl (by kernel_rfl) (by kernel_rfl) (by kernel_rfl) (fun _ _ _ h => h) (Or.inr ⟨by rfl, rfl⟩) hHeld ?_
          simp only [Act.put, List.setIfInBounds_toArray, List.set_cons_zero, List.set_cons_succ]
          refine wpAnyH_take (i := 22) (oi := { dst := some 50, op := Op.unOp UnOp.not 4 (Operand.tmp 49), type := 4, pos := "quireref12.go:46", after := #[{ on := 21, ground := Ground.data }, { on := 20, ground := Ground.guard }], guard := some (20, true) }) (v := undef) rfl (by kernel_rfl) (by kernel_rfl) (by kernel_rfl) (fun _ _ _ h => h) (Or.inr ⟨by rfl, rfl⟩) hHeld ?_
          simp only [Act.put, List.setIfInBounds_toArray, List.set_cons_zero, List.set_cons_succ]
          refine wpAnyH_take (i := 23) (oi := { dst := some 51, op := Op.move (Operand.tmp 50), type := 4, pos := "quireref12.go:46", after := #[{ on := 22, ground := Ground.data }, { on := 20, ground := Ground.chain }, { on := 20, ground := Ground.guard }], guard := some (20, true) }) (v := undef) rfl (by kernel_rfl) (by kernel_rfl) (by kernel_rfl) (fun _ _ _ h => h) (Or.inr ⟨by rfl, rfl⟩) hHeld ?_
          simp only [Act.put, List.setIfInBounds_toArray, List.set_cons_zero, List.set_cons_succ]
          refine wpAnyH_take (i := 24) (oi := { dst := some 52, op := Op.load 41 (Operand.tmp 8), type := 41, pos := "quireref12.go:46", after := #[{ on := 23, ground := Ground.guard }], guard := some (23, false) }) (v := undef) rfl (by kernel_rfl) (by kernel_rfl) (by kernel_rfl) (fun _ _ _ h => h) (Or.inr ⟨by rfl, rfl⟩) hHeld ?_
          simp only [Act.put, List.setIfInBounds_toArray, List.set_cons_zero, List.set_cons_succ]
          refine wpAnyH_take (i := 25) (oi := { dst := some 53, op := Op.load 41 (Operand.tmp 11), type := 41, pos := "quireref12.go:46", after := #[{ on := 23, ground := Ground.guard }], guard := some (23, false) }) (v := undef) rfl (by kernel_rfl) (by kernel_rfl) (by kernel_rfl) (fun _ _ _ h => h) (Or.inr ⟨by rfl, rfl⟩) hHeld ?_
          simp only [Act.put, List.setIfInBounds_toArray, List.set_cons_zero, List.set_cons_succ]
          refine wpAnyH_take (i := 26) (oi := { dst := some 54, op := Op.call { callee := Callee.value (Operand.func 27), args := #[Operand.tmp 52, Operand.tmp 53], argTypes := #[41, 41] }, type := 4, pos := "quireref12.go:46", after := #[{ on := 24, ground := Ground.data }, { on := 25, ground := Ground.data }, { on := 23, ground := Ground.chain }, { on := 23, ground := Ground.guard }], guard := some (23, false) }) (v := undef) rfl (by kernel_rfl) (by kernel_rfl) (by kernel_rfl) (fun _ _ _ h => h) (Or.inr ⟨by rfl, rfl⟩) hHeld ?_
          simp only [Act.put, List.setIfInBounds_toArray, List.set_cons_zero, List.set_cons_succ]
          refine wpAnyH_take (i := 27) (oi := { dst := some 55, op := Op.pick (Operand.tmp 51) (Operand.const (Value.bool true)) (Operand.tmp 54), type := 4, pos := "quireref12.go:46", after := #[{ on := 23, ground := Ground.data }, { on := 26, ground := Ground.data }, { on := 20, ground := Ground.guard }], guard := some (20, true) }) (v := undef) rfl (by kernel_rfl) (by kernel_rfl) (by kernel_rfl) (fun _ _ _ h => h) (Or.inr ⟨by rfl, rfl⟩) hHeld ?_
          simp only [Act.put, List.setIfInBounds_toArray, List.set_cons_zero, List.set_cons_succ]
          refine wpAnyH_take (i := 28) (oi := { dst := some 56, op := Op.pick (Operand.tmp 48) (Operand.tmp 55) (Operand.const (Value.bool false)), type := 4, pos := "quireref12.go:46", after := #[{ on := 20, ground := Ground.data }, { on := 27, ground := Ground.data }], guard := none }) (v := (.bool false)) rfl (by kernel_rfl) (by kernel_rfl) (by kernel_rfl) (fun _ _ _ h => h) (Or.inl ⟨by rfl, ?_⟩) hHeld ?_
          · intro w' hSw; (try dsimp only at hSw); go_simp
          simp only [Act.put, List.setIfInBounds_toArray, List.set_cons_zero, List.set_cons_succ]
          refine wpAnyH_done (by kernel_rfl) ?_ _
          have HT5 := hHeld.2
          clear hHeld
          first | refine NoPanic.normal ?_ | skip
          have HF : Hid (fo (i + 1) = (bst, bs)) := by rw [Hid, ← HXt.out, HA.out, if_neg (by simp [*])]
          have HQ : Hid (∀ V, Touch (fun _ => False) W2 V → Touch (fun _ => False) w V ∧ V.heap[Bi]? = some (idO c k) ∧ OpAt (Bi + 1) zeroO V ∧ OpAt Bb bst V) := fun V t => ⟨HW.out.1.trans t, (t.block Bi (lt_of_heap HW.out.2.1) id).trans HW.out.2.1, HW.out.2.2.1.keep t, HW.out.2.2.2.1.keep t⟩
          have HQ2 := HQ.out _ HT5.out
          clear HW HA HXt hld1 hld2 HS HHas HLess HHs
          go_wp2_with fail
          go_roundg (n - (i + 1))
          case measure => omega
          case rel => exact ⟨i + 1, bst, bs, by have := Hil.out; omega, rfl, by go_num, HQ2.1, HQ2.2.1, HQ2.2.2.1, HQ2.2.2.2, HF.out⟩
        | true =>
          cases e3 : (x.ky.toList == ky.toList) with
          | false =>
            go_upto_region 7 with fail
            refine wp_region_noPanic ?_
            refine wp_region_held_drew (S := fun W : World => (W.cell? ⟨X, 13, none⟩ = some (.string x.ky) ∧ W.cell? ⟨X, 14, none⟩ = some (.int .u64 x.pc) ∧ W.cell? ⟨X, 15, none⟩ = some (.int .u64 x.pk) ∧ W.cell? ⟨X, 0, none⟩ = some (.int .u64 x.c) ∧ W.cell? ⟨X, 1, none⟩ = some (.int .u64 x.k) ∧ W.cell? ⟨Bi, 0, none⟩ = some (.int .u64 c) ∧ W.cell? ⟨Bi, 1, none⟩ = some (.int .u64 k) ∧ W.cell? ⟨b, 1, none⟩ = some hv ∧ W.rangeAt Bb 0 bst.vals.toList ∧ W.rangeAt X 0 x.vals.toList) ∧ Hid (Touch (fun _ => False) W2 W)) (by kernel_rfl) ⟨S0, TD⟩ (fun hHeld => ?_)
            clear S0 TD
            refine wpAnyH_take (i := 0) (oi := { dst := some 28, op := Op.fieldAddr 41 (Operand.tmp 11) 8, type := 0, pos := "quireref12.go:46", after := #[], guard := none }) (v := (.pointer (some ⟨X, 14, none⟩))) rfl (by kernel_rfl) (by kernel_rfl) (by kernel_rfl) (fun _ _ _ h => h) (Or.inl ⟨by rfl, ?_⟩) hHeld ?_
            · intro w' hSw; (try dsimp only at hSw); go_simp
            simp only [Act.put, List.setIfInBounds_toArray, List.set_cons_zero, List.set_cons_succ]
            refine wpAnyH_take (i := 1) (oi := { dst := some 29, op := Op.load 34 (Operand.tmp 28), type := 34, pos := "quireref12.go:46", after := #[{ on := 0, ground := Ground.data }], guard := none }) (v := (.agg #[.int .u64 x.pc, .int .u64 x.pk])) rfl (by kernel_rfl) (by kernel_rfl) (by kernel_rfl) (fun _ _ _ h => h) (Or.inl ⟨by rfl, ?_⟩) hHeld ?_
            · intro w' hSw; (try dsimp only at hSw); go_simp
            simp only [Act.put, List.setIfInBounds_toArray, List.set_cons_zero, List.set_cons_succ]
            refine wpAnyH_take (i := 2) (oi := { dst := some 30, op := Op.load 34 (Operand.tmp 4), type := 34, pos := "quireref12.go:46", after := #[], guard := none }) (v := (.agg #[.int .u64 c, .int .u64 k])) rfl (by kernel_rfl) (by kernel_rfl) (by kernel_rfl) (fun _ _ _ h => h) (Or.inl ⟨by rfl, ?_⟩) hHeld ?_
            · intro w' hSw; (try dsimp only at hSw); go_simp
            simp only [Act.put, List.setIfInBounds_toArray, List.set_cons_zero, List.set_cons_succ]
            refine wpAnyH_take (i := 3) (oi := { dst := some 31, op := Op.binOp BinOp.eql 34 (Operand.tmp 29) (Operand.tmp 30) 34, type := 4, pos := "quireref12.go:46", after := #[{ on := 1, ground := Ground.data }, { on := 2, ground := Ground.data }], guard := none }) (v := (.bool true)) rfl (by kernel_rfl) (by kernel_rfl) (by kernel_rfl) (fun _ _ _ h => h) (Or.inl ⟨by rfl, ?_⟩) hHeld ?_
            · intro w' hSw; (try dsimp only at hSw); go_simp
            simp only [Act.put, List.setIfInBounds_toArray, List.set_cons_zero, List.set_cons_succ]
            refine wpAnyH_take (i := 4) (oi := { dst := some 32, op := Op.move (Operand.tmp 31), type := 4, pos := "quireref12.go:46", after := #[{ on := 3, ground := Ground.data }], guard := none }) (v := (.bool true)) rfl (by kernel_rfl) (by kernel_rfl) (by kernel_rfl) (fun _ _ _ h => h) (Or.inl ⟨by rfl, ?_⟩) hHeld ?_
            · intro w' hSw; (try dsimp only at hSw); go_simp
            simp only [Act.put, List.setIfInBounds_toArray, List.set_cons_zero, List.set_cons_succ]
            refine wpAnyH_take (i := 5) (oi := { dst := some 33, op := Op.fieldAddr 41 (Operand.tmp 11) 7, type := 0, pos := "quireref12.go:46", after := #[{ on := 4, ground := Ground.guard }], guard := some (4, true) }) (v := (.pointer (some ⟨X, 13, none⟩))) rfl (by kernel_rfl) (by kernel_rfl) (by kernel_rfl) (fun _ _ _ h => h) (Or.inl ⟨by rfl, ?_⟩) hHeld ?_
            · intro w' hSw; (try dsimp only at hSw); go_simp
            simp only [Act.put, List.setIfInBounds_toArray, List.set_cons_zero, List.set_cons_succ]
            refine wpAnyH_take (i := 6) (oi := { dst := some 34, op := Op.load 9 (Operand.tmp 33), type := 9, pos := "quireref12.go:46", after := #[{ on := 5, ground := Ground.data }, { on := 4, ground := Ground.guard }], guard := some (4, true) }) (v := (.string x.ky)) rfl (by kernel_rfl) (by kernel_rfl) (by kernel_rfl) (fun _ _ _ h => h) (Or.inl ⟨by rfl, ?_⟩) hHeld ?_
            · intro w' hSw; (try dsimp only at hSw); go_simp
            simp only [Act.put, List.setIfInBounds_toArray, List.set_cons_zero, List.set_cons_succ]
            refine wpAnyH_take (i := 7) (oi := { dst := some 35, op := Op.move (Operand.tmp 2), type := 9, pos := "quireref12.go:46", after := #[{ on := 4, ground := Ground.guard }], guard := some (4, true) }) (v := (.string ky)) rfl (by kernel_rfl) (by kernel_rfl) (by kernel_rfl) (fun _ _ _ h => h) (Or.inl ⟨by rfl, ?_⟩) hHeld ?_
            · intro w' hSw; (try dsimp only at hSw); go_simp
            simp only [Act.put, List.setIfInBounds_toArray, List.set_cons_zero, List.set_cons_succ]
            refine wpAnyH_take (i := 8) (oi := { dst := some 36, op := Op.binOp BinOp.eql 9 (Operand.tmp 34) (Operand.tmp 35) 9, type := 4, pos := "quireref12.go:46", after := #[{ on := 6, ground := Ground.data }, { on := 7, ground := Ground.data }, { on := 4, ground := Ground.guard }], guard := some (4, true) }) (v := (.bool false)) rfl (by kernel_rfl) (by kernel_rfl) (by kernel_rfl) (fun _ _ _ h => h) (Or.inl ⟨by rfl, ?_⟩) hHeld ?_
            · intro w' hSw; (try dsimp only at hSw); go_simp
            simp only [Act.put, List.setIfInBounds_toArray, List.set_cons_zero, List.set_cons_succ]
            refine wpAnyH_take (i := 9) (oi := { dst := some 37, op := Op.pick (Operand.tmp 32) (Operand.tmp 36) (Operand.const (Value.bool false)), type := 4, pos := "quireref12.go:46", after := #[{ on := 4, ground := Ground.data }, { on := 8, ground := Ground.data }], guard := none }) (v := (.bool false)) rfl (by kernel_rfl) (by kernel_rfl) (by kernel_rfl) (fun _ _ _ h => h) (Or.inl ⟨by rfl, ?_⟩) hHeld ?_
            · intro w' hSw; (try dsimp only at hSw); go_simp
            simp only [Act.put, List.setIfInBounds_toArray, List.set_cons_zero, List.set_cons_succ]
            refine wpAnyH_take (i := 10) (oi := { dst := some 38, op := Op.move (Operand.tmp 37), type := 4, pos := "quireref12.go:46", after := #[{ on := 9, ground := Ground.data }, { on := 4, ground := Ground.chain }], guard := none }) (v := (.bool false)) rfl (by kernel_rfl) (by kernel_rfl) (by kernel_rfl) (fun _ _ _ h => h) (Or.inl ⟨by rfl, ?_⟩) hHeld ?_
            · intro w' hSw; (try dsimp only at hSw); go_simp
            simp only [Act.put, List.setIfInBounds_toArray, List.set_cons_zero, List.set_cons_succ]
            refine wpAnyH_take (i := 11) (oi := { dst := some 39, op := Op.move (Operand.tmp 0), type := 27, pos := "quireref12.go:46", after := #[{ on := 10, ground := Ground.guard }], guard := some (10, true) }) (v := undef) rfl (by kernel_rfl) (by kernel_rfl) (by kernel_rfl) (fun _ _ _ h => h) (Or.inr ⟨by rfl, rfl⟩) hHeld ?_
            simp only [Act.put, List.setIfInBounds_toArray, List.set_cons_zero, List.set_cons_succ]
            refine wpAnyH_take (i := 12) (oi := { dst := some 40, op := Op.nilCheck (Operand.tmp 39), type := 0, pos := "quireref12.go:46", after := #[{ on := 11, ground := Ground.data }, { on := 10, ground := Ground.guard }], guard := some (10, true) }) (v := undef) rfl (by kernel_rfl) (by kernel_rfl) (by kernel_rfl) (fun _ _ _ h => h) (Or.inr ⟨by rfl, rfl⟩) hHeld ?_
            simp only [Act.put, List.setIfInBounds_toArray, List.set_cons_zero, List.set_cons_succ]
            refine wpAnyH_take (i := 13) (oi := { dst := some 41, op := Op.fieldAddr 31 (Operand.tmp 40) 1, type := 0, pos := "quireref12.go:46", after := #[{ on := 12, ground := Ground.data }, { on := 10, ground := Ground.guard }], guard := some (10, true) }) (v := undef) rfl (by kernel_rfl) (by kernel_rfl) (by kernel_rfl) (fun _ _ _ h => h) (Or.inr ⟨by rfl, rfl⟩) hHeld ?_
            simp only [Act.put, List.setIfInBounds_toArray, List.set_cons_zero, List.set_cons_succ]
            refine wpAnyH_take (i := 14) (oi := { dst := some 42, op := Op.load 29 (Operand.tmp 41), type := 29, pos := "quireref12.go:46", after := #[{ on := 13, ground := Ground.data }, { on := 10, ground := Ground.guard }], guard := some (10, true) }) (v := undef) rfl (by kernel_rfl) (by kernel_rfl) (by kernel_rfl) (fun _ _ _ h => h) (Or.inr ⟨by rfl, rfl⟩) hHeld ?_
            simp only [Act.put, List.setIfInBounds_toArray, List.set_cons_zero, List.set_cons_succ]
            refine wpAnyH_take (i := 15) (oi := { dst := some 43, op := Op.fieldAddr 41 (Operand.tmp 11) 0, type := 0, pos := "quireref12.go:46", after := #[{ on := 10, ground := Ground.guard }], guard := some (10, true) }) (v := undef) rfl (by kernel_rfl) (by kernel_rfl) (by kernel_rfl) (fun _ _ _ h => h) (Or.inr ⟨by rfl, rfl⟩) hHeld ?_
            simp only [Act.put, List.setIfInBounds_toArray, List.set_cons_zero, List.set_cons_succ]
            refine wpAnyH_take (i := 16) (oi := { dst := some 44, op := Op.load 34 (Operand.tmp 43), type := 34, pos := "quireref12.go:46", after := #[{ on := 15, ground := Ground.data }, { on := 10, ground := Ground.guard }], guard := some (10, true) }) (v := undef) rfl (by kernel_rfl) (by kernel_rfl) (by kernel_rfl) (fun _ _ _ h => h) (Or.inr ⟨by rfl, rfl⟩) hHeld ?_
            simp only [Act.put, List.setIfInBounds_toArray, List.set_cons_zero, List.set_cons_succ]
            refine wpAnyH_take (i := 17) (oi := { dst := some 45, op := Op.call { callee := Callee.value (Operand.func 26), args := #[Operand.tmp 42, Operand.tmp 44], argTypes := #[29, 34] }, type := 4, pos := "quireref12.go:46", after := #[{ on := 14, ground := Ground.data }, { on := 16, ground := Ground.data }, { on := 10, ground := Ground.chain }, { on := 10, ground := Ground.guard }], guard := some (10, true) }) (v := undef) rfl (by kernel_rfl) (by kernel_rfl) (by kernel_rfl) (fun _ _ _ h => h) (Or.inr ⟨by rfl, rfl⟩) hHeld ?_
            simp only [Act.put, List.setIfInBounds_toArray, List.set_cons_zero, List.set_cons_succ]
            refine wpAnyH_take (i := 18) (oi := { dst := some 46, op := Op.unOp UnOp.not 4 (Operand.tmp 45), type := 4, pos := "quireref12.go:46", after := #[{ on := 17, ground := Ground.data }, { on := 10, ground := Ground.guard }], guard := some (10, true) }) (v := undef) rfl (by kernel_rfl) (by kernel_rfl) (by kernel_rfl) (fun _ _ _ h => h) (Or.inr ⟨by rfl, rfl⟩) hHeld ?_
            simp only [Act.put, List.setIfInBounds_toArray, List.set_cons_zero, List.set_cons_succ]
            refine wpAnyH_take (i := 19) (oi := { dst := some 47, op := Op.pick (Operand.tmp 38) (Operand.tmp 46) (Operand.const (Value.bool false)), type := 4, pos := "quireref12.go:46", after := #[{ on := 10, ground := Ground.data }, { on := 18, ground := Ground.data }], guard := none }) (v := (.bool false)) rfl (by kernel_rfl) (by kernel_rfl) (by kernel_rfl) (fun _ _ _ h => h) (Or.inl ⟨by rfl, ?_⟩) hHeld ?_
            · intro w' hSw; (try dsimp only at hSw); go_simp
            simp only [Act.put, List.setIfInBounds_toArray, List.set_cons_zero, List.set_cons_succ]
            refine wpAnyH_take (i := 20) (oi := { dst := some 48, op := Op.move (Operand.tmp 47), type := 4, pos := "quireref12.go:46", after := #[{ on := 19, ground := Ground.data }, { on := 17, ground := Ground.chain }], guard := none }) (v := (.bool false)) rfl (by kernel_rfl) (by kernel_rfl) (by kernel_rfl) (fun _ _ _ h => h) (Or.inl ⟨by rfl, ?_⟩) hHeld ?_
            · intro w' hSw; (try dsimp only at hSw); go_simp
            simp only [Act.put, List.setIfInBounds_toArray, List.set_cons_zero, List.set_cons_succ]
            refine wpAnyH_take (i := 21) (oi := { dst := some 49, op := Op.move (Operand.tmp 9), type := 4, pos := "quireref12.go:46", after := #[{ on := 20, ground := Ground.guard }], guard := some (20, true) }) (v := undef) rfl (by kernel_rfl) (by kernel_rfl) (by kernel_rfl) (fun _ _ _ h => h) (Or.inr ⟨by rfl, rfl⟩) hHeld ?_
            simp only [Act.put, List.setIfInBounds_toArray, List.set_cons_zero, List.set_cons_succ]
            refine wpAnyH_take (i := 22) (oi := { dst := some 50, op := Op.unOp UnOp.not 4 (Operand.tmp 49), type := 4, pos := "quireref12.go:46", after := #[{ on := 21, ground := Ground.data }, { on := 20, ground := Ground.guard }], guard := some (20, true) }) (v := undef) rfl (by kernel_rfl) (by kernel_rfl) (by kernel_rfl) (fun _ _ _ h => h) (Or.inr ⟨by rfl, rfl⟩) hHeld ?_
            simp only [Act.put, List.setIfInBounds_toArray, List.set_cons_zero, List.set_cons_succ]
            refine wpAnyH_take (i := 23) (oi := { dst := some 51, op := Op.move (Operand.tmp 50), type := 4, pos := "quireref12.go:46", after := #[{ on := 22, ground := Ground.data }, { on := 20, ground := Ground.chain }, { on := 20, ground := Ground.guard }], guard := some (20, true) }) (v := undef) rfl (by kernel_rfl) (by kernel_rfl) (by kernel_rfl) (fun _ _ _ h => h) (Or.inr ⟨by rfl, rfl⟩) hHeld ?_
            simp only [Act.put, List.setIfInBounds_toArray, List.set_cons_zero, List.set_cons_succ]
            refine wpAnyH_take (i := 24) (oi := { dst := some 52, op := Op.load 41 (Operand.tmp 8), type := 41, pos := "quireref12.go:46", after := #[{ on := 23, ground := Ground.guard }], guard := some (23, false) }) (v := undef) rfl (by kernel_rfl) (by kernel_rfl) (by kernel_rfl) (fun _ _ _ h => h) (Or.inr ⟨by rfl, rfl⟩) hHeld ?_
            simp only [Act.put, List.setIfInBounds_toArray, List.set_cons_zero, List.set_cons_succ]
            refine wpAnyH_take (i := 25) (oi := { dst := some 53, op := Op.load 41 (Operand.tmp 11), type := 41, pos := "quireref12.go:46", after := #[{ on := 23, ground := Ground.guard }], guard := some (23, false) }) (v := undef) rfl (by kernel_rfl) (by kernel_rfl) (by kernel_rfl) (fun _ _ _ h => h) (Or.inr ⟨by rfl, rfl⟩) hHeld ?_
            simp only [Act.put, List.setIfInBounds_toArray, List.set_cons_zero, List.set_cons_succ]
            refine wpAnyH_take (i := 26) (oi := { dst := some 54, op := Op.call { callee := Callee.value (Operand.func 27), args := #[Operand.tmp 52, Operand.tmp 53], argTypes := #[41, 41] }, type := 4, pos := "quireref12.go:46", after := #[{ on := 24, ground := Ground.data }, { on := 25, ground := Ground.data }, { on := 23, ground := Ground.chain }, { on := 23, ground := Ground.guard }], guard := some (23, false) }) (v := undef) rfl (by kernel_rfl) (by kernel_rfl) (by kernel_rfl) (fun _ _ _ h => h) (Or.inr ⟨by rfl, rfl⟩) hHeld ?_
            simp only [Act.put, List.setIfInBounds_toArray, List.set_cons_zero, List.set_cons_succ]
            refine wpAnyH_take (i := 27) (oi := { dst := some 55, op := Op.pick (Operand.tmp 51) (Operand.const (Value.bool true)) (Operand.tmp 54), type := 4, pos := "quireref12.go:46", after := #[{ on := 23, ground := Ground.data }, { on := 26, ground := Ground.data }, { on := 20, ground := Ground.guard }], guard := some (20, true) }) (v := undef) rfl (by kernel_rfl) (by kernel_rfl) (by kernel_rfl) (fun _ _ _ h => h) (Or.inr ⟨by rfl, rfl⟩) hHeld ?_
            simp only [Act.put, List.setIfInBounds_toArray, List.set_cons_zero, List.set_cons_succ]
            refine wpAnyH_take (i := 28) (oi := { dst := some 56, op := Op.pick (Operand.tmp 48) (Operand.tmp 55) (Operand.const (Value.bool false)), type := 4, pos := "quireref12.go:46", after := #[{ on := 20, ground := Ground.data }, { on := 27, ground := Ground.data }], guard := none }) (v := (.bool false)) rfl (by kernel_rfl) (by kernel_rfl) (by kernel_rfl) (fun _ _ _ h => h) (Or.inl ⟨by rfl, ?_⟩) hHeld ?_
            · intro w' hSw; (try dsimp only at hSw); go_simp
            simp only [Act.put, List.setIfInBounds_toArray, List.set_cons_zero, List.set_cons_succ]
            refine wpAnyH_done (by kernel_rfl) ?_ _
            have HT5 := hHeld.2
            clear hHeld
            first | refine NoPanic.normal ?_ | skip
            have HF : Hid (fo (i + 1) = (bst, bs)) := by rw [Hid, ← HXt.out, HA.out, if_neg (by simp [*])]
            have HQ : Hid (∀ V, Touch (fun _ => False) W2 V → Touch (fun _ => False) w V ∧ V.heap[Bi]? = some (idO c k) ∧ OpAt (Bi + 1) zeroO V ∧ OpAt Bb bst V) := fun V t => ⟨HW.out.1.trans t, (t.block Bi (lt_of_heap HW.out.2.1) id).trans HW.out.2.1, HW.out.2.2.1.keep t, HW.out.2.2.2.1.keep t⟩
            have HQ2 := HQ.out _ HT5.out
            clear HW HA HXt hld1 hld2 HS HHas HLess HHs
            go_wp2_with fail
            go_roundg (n - (i + 1))
            case measure => omega
            case rel => exact ⟨i + 1, bst, bs, by have := Hil.out; omega, rfl, by go_num, HQ2.1, HQ2.2.1, HQ2.2.2.1, HQ2.2.2.2, HF.out⟩
          | true =>
            cases hb with
            | false =>
              cases bs with
              | false =>
                go_upto_region 7 with fail
                refine wp_region_noPanic ?_
                refine wp_region_held_drew (S := fun W : World => (W.cell? ⟨X, 13, none⟩ = some (.string x.ky) ∧ W.cell? ⟨X, 14, none⟩ = some (.int .u64 x.pc) ∧ W.cell? ⟨X, 15, none⟩ = some (.int .u64 x.pk) ∧ W.cell? ⟨X, 0, none⟩ = some (.int .u64 x.c) ∧ W.cell? ⟨X, 1, none⟩ = some (.int .u64 x.k) ∧ W.cell? ⟨Bi, 0, none⟩ = some (.int .u64 c) ∧ W.cell? ⟨Bi, 1, none⟩ = some (.int .u64 k) ∧ W.cell? ⟨b, 1, none⟩ = some hv ∧ W.rangeAt Bb 0 bst.vals.toList ∧ W.rangeAt X 0 x.vals.toList) ∧ Hid (Touch (fun _ => False) W2 W)) (by kernel_rfl) ⟨S0, TD⟩ (fun hHeld => ?_)
                clear S0 TD
                refine wpAnyH_take (i := 0) (oi := { dst := some 28, op := Op.fieldAddr 41 (Operand.tmp 11) 8, type := 0, pos := "quireref12.go:46", after := #[], guard := none }) (v := (.pointer (some ⟨X, 14, none⟩))) rfl (by kernel_rfl) (by kernel_rfl) (by kernel_rfl) (fun _ _ _ h => h) (Or.inl ⟨by rfl, ?_⟩) hHeld ?_
                · intro w' hSw; (try dsimp only at hSw); go_simp
                simp only [Act.put, List.setIfInBounds_toArray, List.set_cons_zero, List.set_cons_succ]
                refine wpAnyH_take (i := 1) (oi := { dst := some 29, op := Op.load 34 (Operand.tmp 28), type := 34, pos := "quireref12.go:46", after := #[{ on := 0, ground := Ground.data }], guard := none }) (v := (.agg #[.int .u64 x.pc, .int .u64 x.pk])) rfl (by kernel_rfl) (by kernel_rfl) (by kernel_rfl) (fun _ _ _ h => h) (Or.inl ⟨by rfl, ?_⟩) hHeld ?_
                · intro w' hSw; (try dsimp only at hSw); go_simp
                simp only [Act.put, List.setIfInBounds_toArray, List.set_cons_zero, List.set_cons_succ]
                refine wpAnyH_take (i := 2) (oi := { dst := some 30, op := Op.load 34 (Operand.tmp 4), type := 34, pos := "quireref12.go:46", after := #[], guard := none }) (v := (.agg #[.int .u64 c, .int .u64 k])) rfl (by kernel_rfl) (by kernel_rfl) (by kernel_rfl) (fun _ _ _ h => h) (Or.inl ⟨by rfl, ?_⟩) hHeld ?_
                · intro w' hSw; (try dsimp only at hSw); go_simp
                simp only [Act.put, List.setIfInBounds_toArray, List.set_cons_zero, List.set_cons_succ]
                refine wpAnyH_take (i := 3) (oi := { dst := some 31, op := Op.binOp BinOp.eql 34 (Operand.tmp 29) (Operand.tmp 30) 34, type := 4, pos := "quireref12.go:46", after := #[{ on := 1, ground := Ground.data }, { on := 2, ground := Ground.data }], guard := none }) (v := (.bool true)) rfl (by kernel_rfl) (by kernel_rfl) (by kernel_rfl) (fun _ _ _ h => h) (Or.inl ⟨by rfl, ?_⟩) hHeld ?_
                · intro w' hSw; (try dsimp only at hSw); go_simp
                simp only [Act.put, List.setIfInBounds_toArray, List.set_cons_zero, List.set_cons_succ]
                refine wpAnyH_take (i := 4) (oi := { dst := some 32, op := Op.move (Operand.tmp 31), type := 4, pos := "quireref12.go:46", after := #[{ on := 3, ground := Ground.data }], guard := none }) (v := (.bool true)) rfl (by kernel_rfl) (by kernel_rfl) (by kernel_rfl) (fun _ _ _ h => h) (Or.inl ⟨by rfl, ?_⟩) hHeld ?_
                · intro w' hSw; (try dsimp only at hSw); go_simp
                simp only [Act.put, List.setIfInBounds_toArray, List.set_cons_zero, List.set_cons_succ]
                refine wpAnyH_take (i := 5) (oi := { dst := some 33, op := Op.fieldAddr 41 (Operand.tmp 11) 7, type := 0, pos := "quireref12.go:46", after := #[{ on := 4, ground := Ground.guard }], guard := some (4, true) }) (v := (.pointer (some ⟨X, 13, none⟩))) rfl (by kernel_rfl) (by kernel_rfl) (by kernel_rfl) (fun _ _ _ h => h) (Or.inl ⟨by rfl, ?_⟩) hHeld ?_
                · intro w' hSw; (try dsimp only at hSw); go_simp
                simp only [Act.put, List.setIfInBounds_toArray, List.set_cons_zero, List.set_cons_succ]
                refine wpAnyH_take (i := 6) (oi := { dst := some 34, op := Op.load 9 (Operand.tmp 33), type := 9, pos := "quireref12.go:46", after := #[{ on := 5, ground := Ground.data }, { on := 4, ground := Ground.guard }], guard := some (4, true) }) (v := (.string x.ky)) rfl (by kernel_rfl) (by kernel_rfl) (by kernel_rfl) (fun _ _ _ h => h) (Or.inl ⟨by rfl, ?_⟩) hHeld ?_
                · intro w' hSw; (try dsimp only at hSw); go_simp
                simp only [Act.put, List.setIfInBounds_toArray, List.set_cons_zero, List.set_cons_succ]
                refine wpAnyH_take (i := 7) (oi := { dst := some 35, op := Op.move (Operand.tmp 2), type := 9, pos := "quireref12.go:46", after := #[{ on := 4, ground := Ground.guard }], guard := some (4, true) }) (v := (.string ky)) rfl (by kernel_rfl) (by kernel_rfl) (by kernel_rfl) (fun _ _ _ h => h) (Or.inl ⟨by rfl, ?_⟩) hHeld ?_
                · intro w' hSw; (try dsimp only at hSw); go_simp
                simp only [Act.put, List.setIfInBounds_toArray, List.set_cons_zero, List.set_cons_succ]
                refine wpAnyH_take (i := 8) (oi := { dst := some 36, op := Op.binOp BinOp.eql 9 (Operand.tmp 34) (Operand.tmp 35) 9, type := 4, pos := "quireref12.go:46", after := #[{ on := 6, ground := Ground.data }, { on := 7, ground := Ground.data }, { on := 4, ground := Ground.guard }], guard := some (4, true) }) (v := (.bool true)) rfl (by kernel_rfl) (by kernel_rfl) (by kernel_rfl) (fun _ _ _ h => h) (Or.inl ⟨by rfl, ?_⟩) hHeld ?_
                · intro w' hSw; (try dsimp only at hSw); go_simp
                simp only [Act.put, List.setIfInBounds_toArray, List.set_cons_zero, List.set_cons_succ]
                refine wpAnyH_take (i := 9) (oi := { dst := some 37, op := Op.pick (Operand.tmp 32) (Operand.tmp 36) (Operand.const (Value.bool false)), type := 4, pos := "quireref12.go:46", after := #[{ on := 4, ground := Ground.data }, { on := 8, ground := Ground.data }], guard := none }) (v := (.bool true)) rfl (by kernel_rfl) (by kernel_rfl) (by kernel_rfl) (fun _ _ _ h => h) (Or.inl ⟨by rfl, ?_⟩) hHeld ?_
                · intro w' hSw; (try dsimp only at hSw); go_simp
                simp only [Act.put, List.setIfInBounds_toArray, List.set_cons_zero, List.set_cons_succ]
                refine wpAnyH_take (i := 10) (oi := { dst := some 38, op := Op.move (Operand.tmp 37), type := 4, pos := "quireref12.go:46", after := #[{ on := 9, ground := Ground.data }, { on := 4, ground := Ground.chain }], guard := none }) (v := (.bool true)) rfl (by kernel_rfl) (by kernel_rfl) (by kernel_rfl) (fun _ _ _ h => h) (Or.inl ⟨by rfl, ?_⟩) hHeld ?_
                · intro w' hSw; (try dsimp only at hSw); go_simp
                simp only [Act.put, List.setIfInBounds_toArray, List.set_cons_zero, List.set_cons_succ]
                refine wpAnyH_take (i := 11) (oi := { dst := some 39, op := Op.move (Operand.tmp 0), type := 27, pos := "quireref12.go:46", after := #[{ on := 10, ground := Ground.guard }], guard := some (10, true) }) (v := (.pointer (some ⟨b, 0, none⟩))) rfl (by kernel_rfl) (by kernel_rfl) (by kernel_rfl) (fun _ _ _ h => h) (Or.inl ⟨by rfl, ?_⟩) hHeld ?_
                · intro w' hSw; (try dsimp only at hSw); go_simp
                simp only [Act.put, List.setIfInBounds_toArray, List.set_cons_zero, List.set_cons_succ]
                refine wpAnyH_take (i := 12) (oi := { dst := some 40, op := Op.nilCheck (Operand.tmp 39), type := 0, pos := "quireref12.go:46", after := #[{ on := 11, ground := Ground.data }, { on := 10, ground := Ground.guard }], guard := some (10, true) }) (v := (.pointer (some ⟨b, 0, none⟩))) rfl (by kernel_rfl) (by kernel_rfl) (by kernel_rfl) (fun _ _ _ h => h) (Or.inl ⟨by rfl, ?_⟩) hHeld ?_
                · intro w' hSw; (try dsimp only at hSw); go_simp
                simp only [Act.put, List.setIfInBounds_toArray, List.set_cons_zero, List.set_cons_succ]
                refine wpAnyH_take (i := 13) (oi := { dst := some 41, op := Op.fieldAddr 31 (Operand.tmp 40) 1, type := 0, pos := "quireref12.go:46", after := #[{ on := 12, ground := Ground.data }, { on := 10, ground := Ground.guard }], guard := some (10, true) }) (v := (.pointer (some ⟨b, 1, none⟩))) rfl (by kernel_rfl) (by kernel_rfl) (by kernel_rfl) (fun _ _ _ h => h) (Or.inl ⟨by rfl, ?_⟩) hHeld ?_
                · intro w' hSw; (try dsimp only at hSw); go_simp
                simp only [Act.put, List.setIfInBounds_toArray, List.set_cons_zero, List.set_cons_succ]
                refine wpAnyH_take (i := 14) (oi := { dst := some 42, op := Op.load 29 (Operand.tmp 41), type := 29, pos := "quireref12.go:46", after := #[{ on := 13, ground := Ground.data }, { on := 10, ground := Ground.guard }], guard := some (10, true) }) (v := hv) rfl (by kernel_rfl) (by kernel_rfl) (by kernel_rfl) (fun _ _ _ h => h) (Or.inl ⟨by rfl, ?_⟩) hHeld ?_
                · intro w' hSw; (try dsimp only at hSw); go_simp
                simp only [Act.put, List.setIfInBounds_toArray, List.set_cons_zero, List.set_cons_succ]
                refine wpAnyH_take (i := 15) (oi := { dst := some 43, op := Op.fieldAddr 41 (Operand.tmp 11) 0, type := 0, pos := "quireref12.go:46", after := #[{ on := 10, ground := Ground.guard }], guard := some (10, true) }) (v := (.pointer (some ⟨X, 0, none⟩))) rfl (by kernel_rfl) (by kernel_rfl) (by kernel_rfl) (fun _ _ _ h => h) (Or.inl ⟨by rfl, ?_⟩) hHeld ?_
                · intro w' hSw; (try dsimp only at hSw); go_simp
                simp only [Act.put, List.setIfInBounds_toArray, List.set_cons_zero, List.set_cons_succ]
                refine wpAnyH_take (i := 16) (oi := { dst := some 44, op := Op.load 34 (Operand.tmp 43), type := 34, pos := "quireref12.go:46", after := #[{ on := 15, ground := Ground.data }, { on := 10, ground := Ground.guard }], guard := some (10, true) }) (v := (.agg #[.int .u64 x.c, .int .u64 x.k])) rfl (by kernel_rfl) (by kernel_rfl) (by kernel_rfl) (fun _ _ _ h => h) (Or.inl ⟨by rfl, ?_⟩) hHeld ?_
                · intro w' hSw; (try dsimp only at hSw); go_simp
                simp only [Act.put, List.setIfInBounds_toArray, List.set_cons_zero, List.set_cons_succ]
                refine wpAnyH_ready (rs := [17]) (by kernel_rfl) (by simp) ?_
                refine AllReadyH.cons (o := { dst := some 45, op := Op.call { callee := Callee.value (Operand.func 26), args := #[Operand.tmp 42, Operand.tmp 44], argTypes := #[29, 34] }, type := 4, pos := "quireref12.go:46", after := #[{ on := 14, ground := Ground.data }, { on := 16, ground := Ground.data }, { on := 10, ground := Ground.chain }, { on := 10, ground := Ground.guard }], guard := some (10, true) }) rfl (fun K hK => ?_) AllReadyH.nil
                go_simp
                refine (HHas.out _ hHeld.2.out).mono ?_
                rintro e w' ⟨rfl, hT⟩
                have hT2 := hHeld.2.out.trans hT
                refine hK.out _ _ ⟨HS.out _ hT2, hT2⟩ (fun hHeld => ?_)
                clear hK K hT hT2
                try dsimp only
                refine wpAnyH_take (i := 18) (oi := { dst := some 46, op := Op.unOp UnOp.not 4 (Operand.tmp 45), type := 4, pos := "quireref12.go:46", after := #[{ on := 17, ground := Ground.data }, { on := 10, ground := Ground.guard }], guard := some (10, true) }) (v := (.bool true)) rfl (by kernel_rfl) (by kernel_rfl) (by kernel_rfl) (fun _ _ _ h => h) (Or.inl ⟨by rfl, ?_⟩) hHeld ?_
                · intro w' hSw; (try dsimp only at hSw); go_simp
                simp only [Act.put, List.setIfInBounds_toArray, List.set_cons_zero, List.set_cons_succ]
                refine wpAnyH_take (i := 19) (oi := { dst := some 47, op := Op.pick (Operand.tmp 38) (Operand.tmp 46) (Operand.const (Value.bool false)), type := 4, pos := "quireref12.go:46", after := #[{ on := 10, ground := Ground.data }, { on := 18, ground := Ground.data }], guard := none }) (v := (.bool true)) rfl (by kernel_rfl) (by kernel_rfl) (by kernel_rfl) (fun _ _ _ h => h) (Or.inl ⟨by rfl, ?_⟩) hHeld ?_
                · intro w' hSw; (try dsimp only at hSw); go_simp
                simp only [Act.put, List.setIfInBounds_toArray, List.set_cons_zero, List.set_cons_succ]
                refine wpAnyH_take (i := 20) (oi := { dst := some 48, op := Op.move (Operand.tmp 47), type := 4, pos := "quireref12.go:46", after := #[{ on := 19, ground := Ground.data }, { on := 17, ground := Ground.chain }], guard := none }) (v := (.bool true)) rfl (by kernel_rfl) (by kernel_rfl) (by kernel_rfl) (fun _ _ _ h => h) (Or.inl ⟨by rfl, ?_⟩) hHeld ?_
                · intro w' hSw; (try dsimp only at hSw); go_simp
                simp only [Act.put, List.setIfInBounds_toArray, List.set_cons_zero, List.set_cons_succ]
                refine wpAnyH_take (i := 21) (oi := { dst := some 49, op := Op.move (Operand.tmp 9), type := 4, pos := "quireref12.go:46", after := #[{ on := 20, ground := Ground.guard }], guard := some (20, true) }) (v := (.bool false)) rfl (by kernel_rfl) (by kernel_rfl) (by kernel_rfl) (fun _ _ _ h => h) (Or.inl ⟨by rfl, ?_⟩) hHeld ?_
                · intro w' hSw; (try dsimp only at hSw); go_simp
                simp only [Act.put, List.setIfInBounds_toArray, List.set_cons_zero, List.set_cons_succ]
                refine wpAnyH_take (i := 22) (oi := { dst := some 50, op := Op.unOp UnOp.not 4 (Operand.tmp 49), type := 4, pos := "quireref12.go:46", after := #[{ on := 21, ground := Ground.data }, { on := 20, ground := Ground.guard }], guard := some (20, true) }) (v := (.bool true)) rfl (by kernel_rfl) (by kernel_rfl) (by kernel_rfl) (fun _ _ _ h => h) (Or.inl ⟨by rfl, ?_⟩) hHeld ?_
                · intro w' hSw; (try dsimp only at hSw); go_simp
                simp only [Act.put, List.setIfInBounds_toArray, List.set_cons_zero, List.set_cons_succ]
                refine wpAnyH_take (i := 23) (oi := { dst := some 51, op := Op.move (Operand.tmp 50), type := 4, pos := "quireref12.go:46", after := #[{ on := 22, ground := Ground.data }, { on := 20, ground := Ground.chain }, { on := 20, ground := Ground.guard }], guard := some (20, true) }) (v := (.bool true)) rfl (by kernel_rfl) (by kernel_rfl) (by kernel_rfl) (fun _ _ _ h => h) (Or.inl ⟨by rfl, ?_⟩) hHeld ?_
                · intro w' hSw; (try dsimp only at hSw); go_simp
                simp only [Act.put, List.setIfInBounds_toArray, List.set_cons_zero, List.set_cons_succ]
                refine wpAnyH_take (i := 24) (oi := { dst := some 52, op := Op.load 41 (Operand.tmp 8), type := 41, pos := "quireref12.go:46", after := #[{ on := 23, ground := Ground.guard }], guard := some (23, false) }) (v := undef) rfl (by kernel_rfl) (by kernel_rfl) (by kernel_rfl) (fun _ _ _ h => h) (Or.inr ⟨by rfl, rfl⟩) hHeld ?_
                simp only [Act.put, List.setIfInBounds_toArray, List.set_cons_zero, List.set_cons_succ]
                refine wpAnyH_take (i := 25) (oi := { dst := some 53, op := Op.load 41 (Operand.tmp 11), type := 41, pos := "quireref12.go:46", after := #[{ on := 23, ground := Ground.guard }], guard := some (23, false) }) (v := undef) rfl (by kernel_rfl) (by kernel_rfl) (by kernel_rfl) (fun _ _ _ h => h) (Or.inr ⟨by rfl, rfl⟩) hHeld ?_
                simp only [Act.put, List.setIfInBounds_toArray, List.set_cons_zero, List.set_cons_succ]
                refine wpAnyH_take (i := 26) (oi := { dst := some 54, op := Op.call { callee := Callee.value (Operand.func 27), args := #[Operand.tmp 52, Operand.tmp 53], argTypes := #[41, 41] }, type := 4, pos := "quireref12.go:46", after := #[{ on := 24, ground := Ground.data }, { on := 25, ground := Ground.data }, { on := 23, ground := Ground.chain }, { on := 23, ground := Ground.guard }], guard := some (23, false) }) (v := undef) rfl (by kernel_rfl) (by kernel_rfl) (by kernel_rfl) (fun _ _ _ h => h) (Or.inr ⟨by rfl, rfl⟩) hHeld ?_
                simp only [Act.put, List.setIfInBounds_toArray, List.set_cons_zero, List.set_cons_succ]
                refine wpAnyH_take (i := 27) (oi := { dst := some 55, op := Op.pick (Operand.tmp 51) (Operand.const (Value.bool true)) (Operand.tmp 54), type := 4, pos := "quireref12.go:46", after := #[{ on := 23, ground := Ground.data }, { on := 26, ground := Ground.data }, { on := 20, ground := Ground.guard }], guard := some (20, true) }) (v := (.bool true)) rfl (by kernel_rfl) (by kernel_rfl) (by kernel_rfl) (fun _ _ _ h => h) (Or.inl ⟨by rfl, ?_⟩) hHeld ?_
                · intro w' hSw; (try dsimp only at hSw); go_simp
                simp only [Act.put, List.setIfInBounds_toArray, List.set_cons_zero, List.set_cons_succ]
                refine wpAnyH_take (i := 28) (oi := { dst := some 56, op := Op.pick (Operand.tmp 48) (Operand.tmp 55) (Operand.const (Value.bool false)), type := 4, pos := "quireref12.go:46", after := #[{ on := 20, ground := Ground.data }, { on := 27, ground := Ground.data }], guard := none }) (v := (.bool true)) rfl (by kernel_rfl) (by kernel_rfl) (by kernel_rfl) (fun _ _ _ h => h) (Or.inl ⟨by rfl, ?_⟩) hHeld ?_
                · intro w' hSw; (try dsimp only at hSw); go_simp
                simp only [Act.put, List.setIfInBounds_toArray, List.set_cons_zero, List.set_cons_succ]
                refine wpAnyH_done (by kernel_rfl) ?_ _
                have HT5 := hHeld.2
                clear hHeld
                first | refine NoPanic.normal ?_ | skip
                have HF : Hid (fo (i + 1) = (x, true)) := by rw [Hid, ← HXt.out, HA.out, if_pos (by simp [*])]
                have HW3 : Hid (∀ V, Touch (fun _ => False) W2 V → Touch (fun _ => False) w (V.setCells Bb 0 x.vals.toList) ∧ (V.setCells Bb 0 x.vals.toList).heap[Bi]? = some (idO c k) ∧ OpAt (Bi + 1) zeroO (V.setCells Bb 0 x.vals.toList) ∧ OpAt Bb x (V.setCells Bb 0 x.vals.toList)) := fun V t => by
                  have t9 := Touch.cells Bb x.vals.toList 0 V
                  have p0 := (t.block Bi (lt_of_heap HW.out.2.1) id).trans HW.out.2.1
                  have p1 := HW.out.2.2.1.keep t
                  have p2 := HW.out.2.2.2.1.keep t
                  have s1 := HE.out.2.2.2.2
                  exact ⟨(HW.out.1.trans t).stores (by omega) 0 _, (t9.block Bi (lt_of_heap p0) (by omega)).trans p0, (t9.block (Bi + 1) (lt_of_heap p1) (by omega)).trans p1, p2.store0⟩
                have HTh : Hid (∀ V, Touch (fun _ => False) W2 V → V.rangeAt X 0 x.vals.toList ∧ V.there Bb 0 22) := fun V t => ⟨rangeAt_of (HW.out.2.2.2.2.keep t), (HW.out.2.2.2.1.keep t).there 0 22 (by decide)⟩
                clear HW HA HXt hld1 hld2 HS HHas HLess HHs
                go_upto_region 8 with fail
                refine wp_region_lit ?_
                refine wpList_load_mid rfl 41 (.tmp 11) rfl X 0 rfl x.vals.toList _ (HTh.out _ HT5.out).1 Tryz.underlying41 rfl (by kernel_rfl) ?_
                simp only [Act.put, List.setIfInBounds_toArray, List.set_cons_succ, List.set_cons_zero]
                refine wpList_store_mid rfl 41 (.tmp 8) (.tmp 57) rfl Bb 0 x.vals rfl rfl (HTh.out _ HT5.out).2 (by kernel_rfl) (by kernel_rfl) ?_
                simp only [Act.put]
                have HQ : Hid (_ ∧ _) := HW3.out _ HT5.out
                obtain ⟨W9, hW9⟩ : ∃ W, Hid (W = w'.setCells Bb 0 x.vals.toList) := ⟨_, Eq.refl _⟩
                rw [← hW9.out] at HQ ⊢
                clear hW9 HT5 HTh HW3
                go_wp2_with fail
                go_roundg (n - (i + 1))
                case measure => omega
                case rel => exact ⟨i + 1, x, true, by have := Hil.out; omega, rfl, by go_num, HQ.out.1, HQ.out.2.1, HQ.out.2.2.1, HQ.out.2.2.2, HF.out⟩
              | true =>
                cases lb with
                | false =>
                  go_upto_region 7 with fail
                  refine wp_region_noPanic ?_
                  refine wp_region_held_drew (S := fun W : World => (W.cell? ⟨X, 13, none⟩ = some (.string x.ky) ∧ W.cell? ⟨X, 14, none⟩ = some (.int .u64 x.pc) ∧ W.cell? ⟨X, 15, none⟩ = some (.int .u64 x.pk) ∧ W.cell? ⟨X, 0, none⟩ = some (.int .u64 x.c) ∧ W.cell? ⟨X, 1, none⟩ = some (.int .u64 x.k) ∧ W.cell? ⟨Bi, 0, none⟩ = some (.int .u64 c) ∧ W.cell? ⟨Bi, 1, none⟩ = some (.int .u64 k) ∧ W.cell? ⟨b, 1, none⟩ = some hv ∧ W.rangeAt Bb 0 bst.vals.toList ∧ W.rangeAt X 0 x.vals.toList) ∧ Hid (Touch (fun _ => False) W2 W)) (by kernel_rfl) ⟨S0, TD⟩ (fun hHeld => ?_)
                  clear S0 TD
                  refine wpAnyH_take (i := 0) (oi := { dst := some 28, op := Op.fieldAddr 41 (Operand.tmp 11) 8, type := 0, pos := "quireref12.go:46", after := #[], guard := none }) (v := (.pointer (some ⟨X, 14, none⟩))) rfl (by kernel_rfl) (by kernel_rfl) (by kernel_rfl) (fun _ _ _ h => h) (Or.inl ⟨by rfl, ?_⟩) hHeld ?_
                  · intro w' hSw; (try dsimp only at hSw); go_simp
                  simp only [Act.put, List.setIfInBounds_toArray, List.set_cons_zero, List.set_cons_succ]
                  refine wpAnyH_take (i := 1) (oi := { dst := some 29, op := Op.load 34 (Operand.tmp 28), type := 34, pos := "quireref12.go:46", after := #[{ on := 0, ground := Ground.data }], guard := none }) (v := (.agg #[.int .u64 x.pc, .int .u64 x.pk])) rfl (by kernel_rfl) (by kernel_rfl) (by kernel_rfl) (fun _ _ _ h => h) (Or.inl ⟨by rfl, ?_⟩) hHeld ?_
                  · intro w' hSw; (try dsimp only at hSw); go_simp
                  simp only [Act.put, List.setIfInBounds_toArray, List.set_cons_zero, List.set_cons_succ]
                  refine wpAnyH_take (i := 2) (oi := { dst := some 30, op := Op.load 34 (Operand.tmp 4), type := 34, pos := "quireref12.go:46", after := #[], guard := none }) (v := (.agg #[.int .u64 c, .int .u64 k])) rfl (by kernel_rfl) (by kernel_rfl) (by kernel_rfl) (fun _ _ _ h => h) (Or.inl ⟨by rfl, ?_⟩) hHeld ?_
                  · intro w' hSw; (try dsimp only at hSw); go_simp
                  simp only [Act.put, List.setIfInBounds_toArray, List.set_cons_zero, List.set_cons_succ]
                  refine wpAnyH_take (i := 3) (oi := { dst := some 31, op := Op.binOp BinOp.eql 34 (Operand.tmp 29) (Operand.tmp 30) 34, type := 4, pos := "quireref12.go:46", after := #[{ on := 1, ground := Ground.data }, { on := 2, ground := Ground.data }], guard := none }) (v := (.bool true)) rfl (by kernel_rfl) (by kernel_rfl) (by kernel_rfl) (fun _ _ _ h => h) (Or.inl ⟨by rfl, ?_⟩) hHeld ?_
                  · intro w' hSw; (try dsimp only at hSw); go_simp
                  simp only [Act.put, List.setIfInBounds_toArray, List.set_cons_zero, List.set_cons_succ]
                  refine wpAnyH_take (i := 4) (oi := { dst := some 32, op := Op.move (Operand.tmp 31), type := 4, pos := "quireref12.go:46", after := #[{ on := 3, ground := Ground.data }], guard := none }) (v := (.bool true)) rfl (by kernel_rfl) (by kernel_rfl) (by kernel_rfl) (fun _ _ _ h => h) (Or.inl ⟨by rfl, ?_⟩) hHeld ?_
                  · intro w' hSw; (try dsimp only at hSw); go_simp
                  simp only [Act.put, List.setIfInBounds_toArray, List.set_cons_zero, List.set_cons_succ]
                  refine wpAnyH_take (i := 5) (oi := { dst := some 33, op := Op.fieldAddr 41 (Operand.tmp 11) 7, type := 0, pos := "quireref12.go:46", after := #[{ on := 4, ground := Ground.guard }], guard := some (4, true) }) (v := (.pointer (some ⟨X, 13, none⟩))) rfl (by kernel_rfl) (by kernel_rfl) (by kernel_rfl) (fun _ _ _ h => h) (Or.inl ⟨by rfl, ?_⟩) hHeld ?_
                  · intro w' hSw; (try dsimp only at hSw); go_simp
                  simp only [Act.put, List.setIfInBounds_toArray, List.set_cons_zero, List.set_cons_succ]
                  refine wpAnyH_take (i := 6) (oi := { dst := some 34, op := Op.load 9 (Operand.tmp 33), type := 9, pos := "quireref12.go:46", after := #[{ on := 5, ground := Ground.data }, { on := 4, ground := Ground.guard }], guard := some (4, true) }) (v := (.string x.ky)) rfl (by kernel_rfl) (by kernel_rfl) (by kernel_rfl) (fun _ _ _ h => h) (Or.inl ⟨by rfl, ?_⟩) hHeld ?_
                  · intro w' hSw; (try dsimp only at hSw); go_simp
                  simp only [Act.put, List.setIfInBounds_toArray, List.set_cons_zero, List.set_cons_succ]
                  refine wpAnyH_take (i := 7) (oi := { dst := some 35, op := Op.move (Operand.tmp 2), type := 9, pos := "quireref12.go:46", after := #[{ on := 4, ground := Ground.guard }], guard := some (4, true) }) (v := (.string ky)) rfl (by kernel_rfl) (by kernel_rfl) (by kernel_rfl) (fun _ _ _ h => h) (Or.inl ⟨by rfl, ?_⟩) hHeld ?_
                  · intro w' hSw; (try dsimp only at hSw); go_simp
                  simp only [Act.put, List.setIfInBounds_toArray, List.set_cons_zero, List.set_cons_succ]
                  refine wpAnyH_take (i := 8) (oi := { dst := some 36, op := Op.binOp BinOp.eql 9 (Operand.tmp 34) (Operand.tmp 35) 9, type := 4, pos := "quireref12.go:46", after := #[{ on := 6, ground := Ground.data }, { on := 7, ground := Ground.data }, { on := 4, ground := Ground.guard }], guard := some (4, true) }) (v := (.bool true)) rfl (by kernel_rfl) (by kernel_rfl) (by kernel_rfl) (fun _ _ _ h => h) (Or.inl ⟨by rfl, ?_⟩) hHeld ?_
                  · intro w' hSw; (try dsimp only at hSw); go_simp
                  simp only [Act.put, List.setIfInBounds_toArray, List.set_cons_zero, List.set_cons_succ]
                  refine wpAnyH_take (i := 9) (oi := { dst := some 37, op := Op.pick (Operand.tmp 32) (Operand.tmp 36) (Operand.const (Value.bool false)), type := 4, pos := "quireref12.go:46", after := #[{ on := 4, ground := Ground.data }, { on := 8, ground := Ground.data }], guard := none }) (v := (.bool true)) rfl (by kernel_rfl) (by kernel_rfl) (by kernel_rfl) (fun _ _ _ h => h) (Or.inl ⟨by rfl, ?_⟩) hHeld ?_
                  · intro w' hSw; (try dsimp only at hSw); go_simp
                  simp only [Act.put, List.setIfInBounds_toArray, List.set_cons_zero, List.set_cons_succ]
                  refine wpAnyH_take (i := 10) (oi := { dst := some 38, op := Op.move (Operand.tmp 37), type := 4, pos := "quireref12.go:46", after := #[{ on := 9, ground := Ground.data }, { on := 4, ground := Ground.chain }], guard := none }) (v := (.bool true)) rfl (by kernel_rfl) (by kernel_rfl) (by kernel_rfl) (fun _ _ _ h => h) (Or.inl ⟨by rfl, ?_⟩) hHeld ?_
                  · intro w' hSw; (try dsimp only at hSw); go_simp
                  simp only [Act.put, List.setIfInBounds_toArray, List.set_cons_zero, List.set_cons_succ]
                  refine wpAnyH_take (i := 11) (oi := { dst := some 39, op := Op.move (Operand.tmp 0), type := 27, pos := "quireref12.go:46", after := #[{ on := 10, ground := Ground.guard }], guard := some (10, true) }) (v := (.pointer (some ⟨b, 0, none⟩))) rfl (by kernel_rfl) (by kernel_rfl) (by kernel_rfl) (fun _ _ _ h => h) (Or.inl ⟨by rfl, ?_⟩) hHeld ?_
                  · intro w' hSw; (try dsimp only at hSw); go_simp
                  simp only [Act.put, List.setIfInBounds_toArray, List.set_cons_zero, List.set_cons_succ]
                  refine wpAnyH_take (i := 12) (oi := { dst := some 40, op := Op.nilCheck (Operand.tmp 39), type := 0, pos := "quireref12.go:46", after := #[{ on := 11, ground := Ground.data }, { on := 10, ground := Ground.guard }], guard := some (10, true) }) (v := (.pointer (some ⟨b, 0, none⟩))) rfl (by kernel_rfl) (by kernel_rfl) (by kernel_rfl) (fun _ _ _ h => h) (Or.inl ⟨by rfl, ?_⟩) hHeld ?_
                  · intro w' hSw; (try dsimp only at hSw); go_simp
                  simp only [Act.put, List.setIfInBounds_toArray, List.set_cons_zero, List.set_cons_succ]
                  refine wpAnyH_take (i := 13) (oi := { dst := some 41, op := Op.fieldAddr 31 (Operand.tmp 40) 1, type := 0, pos := "quireref12.go:46", after := #[{ on := 12, ground := Ground.data }, { on := 10, ground := Ground.guard }], guard := some (10, true) }) (v := (.pointer (some ⟨b, 1, none⟩))) rfl (by kernel_rfl) (by kernel_rfl) (by kernel_rfl) (fun _ _ _ h => h) (Or.inl ⟨by rfl, ?_⟩) hHeld ?_
                  · intro w' hSw; (try dsimp only at hSw); go_simp
                  simp only [Act.put, List.setIfInBounds_toArray, List.set_cons_zero, List.set_cons_succ]
                  refine wpAnyH_take (i := 14) (oi := { dst := some 42, op := Op.load 29 (Operand.tmp 41), type := 29, pos := "quireref12.go:46", after := #[{ on := 13, ground := Ground.data }, { on := 10, ground := Ground.guard }], guard := some (10, true) }) (v := hv) rfl (by kernel_rfl) (by kernel_rfl) (by kernel_rfl) (fun _ _ _ h => h) (Or.inl ⟨by rfl, ?_⟩) hHeld ?_
                  · intro w' hSw; (try dsimp only at hSw); go_simp
                  simp only [Act.put, List.setIfInBounds_toArray, List.set_cons_zero, List.set_cons_succ]
                  refine wpAnyH_take (i := 15) (oi := { dst := some 43, op := Op.fieldAddr 41 (Operand.tmp 11) 0, type := 0, pos := "quireref12.go:46", after := #[{ on := 10, ground := Ground.guard }], guard := some (10, true) }) (v := (.pointer (some ⟨X, 0, none⟩))) rfl (by kernel_rfl) (by kernel_rfl) (by kernel_rfl) (fun _ _ _ h => h) (Or.inl ⟨by rfl, ?_⟩) hHeld ?_
                  · intro w' hSw; (try dsimp only at hSw); go_simp
                  simp only [Act.put, List.setIfInBounds_toArray, List.set_cons_zero, List.set_cons_succ]
                  refine wpAnyH_take (i := 16) (oi := { dst := some 44, op := Op.load 34 (Operand.tmp 43), type := 34, pos := "quireref12.go:46", after := #[{ on := 15, ground := Ground.data }, { on := 10, ground := Ground.guard }], guard := some (10, true) }) (v := (.agg #[.int .u64 x.c, .int .u64 x.k])) rfl (by kernel_rfl) (by kernel_rfl) (by kernel_rfl) (fun _ _ _ h => h) (Or.inl ⟨by rfl, ?_⟩) hHeld ?_
                  · intro w' hSw; (try dsimp only at hSw); go_simp
                  simp only [Act.put, List.setIfInBounds_toArray, List.set_cons_zero, List.set_cons_succ]
                  refine wpAnyH_ready (rs := [17]) (by kernel_rfl) (by simp) ?_
                  refine AllReadyH.cons (o := { dst := some 45, op := Op.call { callee := Callee.value (Operand.func 26), args := #[Operand.tmp 42, Operand.tmp 44], argTypes := #[29, 34] }, type := 4, pos := "quireref12.go:46", after := #[{ on := 14, ground := Ground.data }, { on := 16, ground := Ground.data }, { on := 10, ground := Ground.chain }, { on := 10, ground := Ground.guard }], guard := some (10, true) }) rfl (fun K hK => ?_) AllReadyH.nil
                  go_simp
                  refine (HHas.out _ hHeld.2.out).mono ?_
                  rintro e w' ⟨rfl, hT⟩
                  have hT2 := hHeld.2.out.trans hT
                  refine hK.out _ _ ⟨HS.out _ hT2, hT2⟩ (fun hHeld => ?_)
                  clear hK K hT hT2
                  try dsimp only
                  refine wpAnyH_take (i := 18) (oi := { dst := some 46, op := Op.unOp UnOp.not 4 (Operand.tmp 45), type := 4, pos := "quireref12.go:46", after := #[{ on := 17, ground := Ground.data }, { on := 10, ground := Ground.guard }], guard := some (10, true) }) (v := (.bool true)) rfl (by kernel_rfl) (by kernel_rfl) (by kernel_rfl) (fun _ _ _ h => h) (Or.inl ⟨by rfl, ?_⟩) hHeld ?_
                  · intro w' hSw; (try dsimp only at hSw); go_simp
                  simp only [Act.put, List.setIfInBounds_toArray, List.set_cons_zero, List.set_cons_succ]
                  refine wpAnyH_take (i := 19) (oi := { dst := some 47, op := Op.pick (Operand.tmp 38) (Operand.tmp 46) (Operand.const (Value.bool false)), type := 4, pos := "quireref12.go:46", after := #[{ on := 10, ground := Ground.data }, { on := 18, ground := Ground.data }], guard := none }) (v := (.bool true)) rfl (by kernel_rfl) (by kernel_rfl) (by kernel_rfl) (fun _ _ _ h => h) (Or.inl ⟨by rfl, ?_⟩) hHeld ?_
                  · intro w' hSw; (try dsimp only at hSw); go_simp
                  simp only [Act.put, List.setIfInBounds_toArray, List.set_cons_zero, List.set_cons_succ]
                  refine wpAnyH_take (i := 20) (oi := { dst := some 48, op := Op.move (Operand.tmp 47), type := 4, pos := "quireref12.go:46", after := #[{ on := 19, ground := Ground.data }, { on := 17, ground := Ground.chain }], guard := none }) (v := (.bool true)) rfl (by kernel_rfl) (by kernel_rfl) (by kernel_rfl) (fun _ _ _ h => h) (Or.inl ⟨by rfl, ?_⟩) hHeld ?_
                  · intro w' hSw; (try dsimp only at hSw); go_simp
                  simp only [Act.put, List.setIfInBounds_toArray, List.set_cons_zero, List.set_cons_succ]
                  refine wpAnyH_take (i := 21) (oi := { dst := some 49, op := Op.move (Operand.tmp 9), type := 4, pos := "quireref12.go:46", after := #[{ on := 20, ground := Ground.guard }], guard := some (20, true) }) (v := (.bool true)) rfl (by kernel_rfl) (by kernel_rfl) (by kernel_rfl) (fun _ _ _ h => h) (Or.inl ⟨by rfl, ?_⟩) hHeld ?_
                  · intro w' hSw; (try dsimp only at hSw); go_simp
                  simp only [Act.put, List.setIfInBounds_toArray, List.set_cons_zero, List.set_cons_succ]
                  refine wpAnyH_take (i := 22) (oi := { dst := some 50, op := Op.unOp UnOp.not 4 (Operand.tmp 49), type := 4, pos := "quireref12.go:46", after := #[{ on := 21, ground := Ground.data }, { on := 20, ground := Ground.guard }], guard := some (20, true) }) (v := (.bool false)) rfl (by kernel_rfl) (by kernel_rfl) (by kernel_rfl) (fun _ _ _ h => h) (Or.inl ⟨by rfl, ?_⟩) hHeld ?_
                  · intro w' hSw; (try dsimp only at hSw); go_simp
                  simp only [Act.put, List.setIfInBounds_toArray, List.set_cons_zero, List.set_cons_succ]
                  refine wpAnyH_take (i := 23) (oi := { dst := some 51, op := Op.move (Operand.tmp 50), type := 4, pos := "quireref12.go:46", after := #[{ on := 22, ground := Ground.data }, { on := 20, ground := Ground.chain }, { on := 20, ground := Ground.guard }], guard := some (20, true) }) (v := (.bool false)) rfl (by kernel_rfl) (by kernel_rfl) (by kernel_rfl) (fun _ _ _ h => h) (Or.inl ⟨by rfl, ?_⟩) hHeld ?_
                  · intro w' hSw; (try dsimp only at hSw); go_simp
                  simp only [Act.put, List.setIfInBounds_toArray, List.set_cons_zero, List.set_cons_succ]
                  refine wpAnyH_take (i := 24) (oi := { dst := some 52, op := Op.load 41 (Operand.tmp 8), type := 41, pos := "quireref12.go:46", after := #[{ on := 23, ground := Ground.guard }], guard := some (23, false) }) (v := (.agg bst.vals)) rfl (by kernel_rfl) (by kernel_rfl) (by kernel_rfl) (fun _ _ _ h => h) (yieldsIf_load_mid (by rfl) 41 (.tmp 8) rfl Bb 0 rfl bst.vals.toList _ (fun V hV => hV.1.2.2.2.2.2.2.2.2.1) Tryz.underlying41 rfl (by kernel_rfl)) hHeld ?_
                  simp only [Act.put, List.setIfInBounds_toArray, List.set_cons_zero, List.set_cons_succ]
                  refine wpAnyH_take (i := 25) (oi := { dst := some 53, op := Op.load 41 (Operand.tmp 11), type := 41, pos := "quireref12.go:46", after := #[{ on := 23, ground := Ground.guard }], guard := some (23, false) }) (v := (.agg x.vals)) rfl (by kernel_rfl) (by kernel_rfl) (by kernel_rfl) (fun _ _ _ h => h) (yieldsIf_load_mid (by rfl) 41 (.tmp 11) rfl X 0 rfl x.vals.toList _ (fun V hV => hV.1.2.2.2.2.2.2.2.2.2) Tryz.underlying41 rfl (by kernel_rfl)) hHeld ?_
                  simp only [Act.put, List.setIfInBounds_toArray, List.set_cons_zero, List.set_cons_succ]
                  refine wpAnyH_ready (rs := [26]) (by kernel_rfl) (by simp) ?_
                  refine AllReadyH.cons (o := { dst := some 54, op := Op.call { callee := Callee.value (Operand.func 27), args := #[Operand.tmp 52, Operand.tmp 53], argTypes := #[41, 41] }, type := 4, pos := "quireref12.go:46", after := #[{ on := 24, ground := Ground.data }, { on := 25, ground := Ground.data }, { on := 23, ground := Ground.chain }, { on := 23, ground := Ground.guard }], guard := some (23, false) }) rfl (fun K hK => ?_) AllReadyH.nil
                  go_simp
                  refine (HLess.out _).mono ?_
                  rintro e w' ⟨rfl, hT⟩
                  have hT2 := hHeld.2.out.trans hT
                  refine hK.out _ _ ⟨HS.out _ hT2, hT2⟩ (fun hHeld => ?_)
                  clear hK K hT hT2
                  try dsimp only
                  refine wpAnyH_take (i := 27) (oi := { dst := some 55, op := Op.pick (Operand.tmp 51) (Operand.const (Value.bool true)) (Operand.tmp 54), type := 4, pos := "quireref12.go:46", after := #[{ on := 23, ground := Ground.data }, { on := 26, ground := Ground.data }, { on := 20, ground := Ground.guard }], guard := some (20, true) }) (v := (.bool false)) rfl (by kernel_rfl) (by kernel_rfl) (by kernel_rfl) (fun _ _ _ h => h) (Or.inl ⟨by rfl, ?_⟩) hHeld ?_
                  · intro w' hSw; (try dsimp only at hSw); go_simp
                  simp only [Act.put, List.setIfInBounds_toArray, List.set_cons_zero, List.set_cons_succ]
                  refine wpAnyH_take (i := 28) (oi := { dst := some 56, op := Op.pick (Operand.tmp 48) (Operand.tmp 55) (Operand.const (Value.bool false)), type := 4, pos := "quireref12.go:46", after := #[{ on := 20, ground := Ground.data }, { on := 27, ground := Ground.data }], guard := none }) (v := (.bool false)) rfl (by kernel_rfl) (by kernel_rfl) (by kernel_rfl) (fun _ _ _ h => h) (Or.inl ⟨by rfl, ?_⟩) hHeld ?_
                  · intro w' hSw; (try dsimp only at hSw); go_simp
                  simp only [Act.put, List.setIfInBounds_toArray, List.set_cons_zero, List.set_cons_succ]
                  refine wpAnyH_done (by kernel_rfl) ?_ _
                  have HT5 := hHeld.2
                  clear hHeld
                  first | refine NoPanic.normal ?_ | skip
                  have HF : Hid (fo (i + 1) = (bst, true)) := by rw [Hid, ← HXt.out, HA.out, if_neg (by simp [*])]
                  have HQ : Hid (∀ V, Touch (fun _ => False) W2 V → Touch (fun _ => False) w V ∧ V.heap[Bi]? = some (idO c k) ∧ OpAt (Bi + 1) zeroO V ∧ OpAt Bb bst V) := fun V t => ⟨HW.out.1.trans t, (t.block Bi (lt_of_heap HW.out.2.1) id).trans HW.out.2.1, HW.out.2.2.1.keep t, HW.out.2.2.2.1.keep t⟩
                  have HQ2 := HQ.out _ HT5.out
                  clear HW HA HXt hld1 hld2 HS HHas HLess HHs
                  go_wp2_with fail
                  go_roundg (n - (i + 1))
                  case measure => omega
                  case rel => exact ⟨i + 1, bst, true, by have := Hil.out; omega, rfl, by go_num, HQ2.1, HQ2.2.1, HQ2.2.2.1, HQ2.2.2.2, HF.out⟩
                | true =>
                  go_upto_region 7 with fail
                  refine wp_region_noPanic ?_
                  refine wp_region_held_drew (S := fun W : World => (W.cell? ⟨X, 13, none⟩ = some (.string x.ky) ∧ W.cell? ⟨X, 14, none⟩ = some (.int .u64 x.pc) ∧ W.cell? ⟨X, 15, none⟩ = some (.int .u64 x.pk) ∧ W.cell? ⟨X, 0, none⟩ = some (.int .u64 x.c) ∧ W.cell? ⟨X, 1, none⟩ = some (.int .u64 x.k) ∧ W.cell? ⟨Bi, 0, none⟩ = some (.int .u64 c) ∧ W.cell? ⟨Bi, 1, none⟩ = some (.int .u64 k) ∧ W.cell? ⟨b, 1, none⟩ = some hv ∧ W.rangeAt Bb 0 bst.vals.toList ∧ W.rangeAt X 0 x.vals.toList) ∧ Hid (Touch (fun _ => False) W2 W)) (by kernel_rfl) ⟨S0, TD⟩ (fun hHeld => ?_)
                  clear S0 TD
                  refine wpAnyH_take (i := 0) (oi := { dst := some 28, op := Op.fieldAddr 41 (Operand.tmp 11) 8, type := 0, pos := "quireref12.go:46", after := #[], guard := none }) (v := (.pointer (some ⟨X, 14, none⟩))) rfl (by kernel_rfl) (by kernel_rfl) (by kernel_rfl) (fun _ _ _ h => h) (Or.inl ⟨by rfl, ?_⟩) hHeld ?_
                  · intro w' hSw; (try dsimp only at hSw); go_simp
                  simp only [Act.put, List.setIfInBounds_toArray, List.set_cons_zero, List.set_cons_succ]
                  refine wpAnyH_take (i := 1) (oi := { dst := some 29, op := Op.load 34 (Operand.tmp 28), type := 34, pos := "quireref12.go:46", after := #[{ on := 0, ground := Ground.data }], guard := none }) (v := (.agg #[.int .u64 x.pc, .int .u64 x.pk])) rfl (by kernel_rfl) (by kernel_rfl) (by kernel_rfl) (fun _ _ _ h => h) (Or.inl ⟨by rfl, ?_⟩) hHeld ?_
                  · intro w' hSw; (try dsimp only at hSw); go_simp
                  simp only [Act.put, List.setIfInBounds_toArray, List.set_cons_zero, List.set_cons_succ]
                  refine wpAnyH_take (i := 2) (oi := { dst := some 30, op := Op.load 34 (Operand.tmp 4), type := 34, pos := "quireref12.go:46", after := #[], guard := none }) (v := (.agg #[.int .u64 c, .int .u64 k])) rfl (by kernel_rfl) (by kernel_rfl) (by kernel_rfl) (fun _ _ _ h => h) (Or.inl ⟨by rfl, ?_⟩) hHeld ?_
                  · intro w' hSw; (try dsimp only at hSw); go_simp
                  simp only [Act.put, List.setIfInBounds_toArray, List.set_cons_zero, List.set_cons_succ]
                  refine wpAnyH_take (i := 3) (oi := { dst := some 31, op := Op.binOp BinOp.eql 34 (Operand.tmp 29) (Operand.tmp 30) 34, type := 4, pos := "quireref12.go:46", after := #[{ on := 1, ground := Ground.data }, { on := 2, ground := Ground.data }], guard := none }) (v := (.bool true)) rfl (by kernel_rfl) (by kernel_rfl) (by kernel_rfl) (fun _ _ _ h => h) (Or.inl ⟨by rfl, ?_⟩) hHeld ?_
                  · intro w' hSw; (try dsimp only at hSw); go_simp
                  simp only [Act.put, List.setIfInBounds_toArray, List.set_cons_zero, List.set_cons_succ]
                  refine wpAnyH_take (i := 4) (oi := { dst := some 32, op := Op.move (Operand.tmp 31), type := 4, pos := "quireref12.go:46", after := #[{ on := 3, ground := Ground.data }], guard := none }) (v := (.bool true)) rfl (by kernel_rfl) (by kernel_rfl) (by kernel_rfl) (fun _ _ _ h => h) (Or.inl ⟨by rfl, ?_⟩) hHeld ?_
                  · intro w' hSw; (try dsimp only at hSw); go_simp
                  simp only [Act.put, List.setIfInBounds_toArray, List.set_cons_zero, List.set_cons_succ]
                  refine wpAnyH_take (i := 5) (oi := { dst := some 33, op := Op.fieldAddr 41 (Operand.tmp 11) 7, type := 0, pos := "quireref12.go:46", after := #[{ on := 4, ground := Ground.guard }], guard := some (4, true) }) (v := (.pointer (some ⟨X, 13, none⟩))) rfl (by kernel_rfl) (by kernel_rfl) (by kernel_rfl) (fun _ _ _ h => h) (Or.inl ⟨by rfl, ?_⟩) hHeld ?_
                  · intro w' hSw; (try dsimp only at hSw); go_simp
                  simp only [Act.put, List.setIfInBounds_toArray, List.set_cons_zero, List.set_cons_succ]
                  refine wpAnyH_take (i := 6) (oi := { dst := some 34, op := Op.load 9 (Operand.tmp 33), type := 9, pos := "quireref12.go:46", after := #[{ on := 5, ground := Ground.data }, { on := 4, ground := Ground.guard }], guard := some (4, true) }) (v := (.string x.ky)) rfl (by kernel_rfl) (by kernel_rfl) (by kernel_rfl) (fun _ _ _ h => h) (Or.inl ⟨by rfl, ?_⟩) hHeld ?_
                  · intro w' hSw; (try dsimp only at hSw); go_simp
                  simp only [Act.put, List.setIfInBounds_toArray, List.set_cons_zero, List.set_cons_succ]
                  refine wpAnyH_take (i := 7) (oi := { dst := some 35, op := Op.move (Operand.tmp 2), type := 9, pos := "quireref12.go:46", after := #[{ on := 4, ground := Ground.guard }], guard := some (4, true) }) (v := (.string ky)) rfl (by kernel_rfl) (by kernel_rfl) (by kernel_rfl) (fun _ _ _ h => h) (Or.inl ⟨by rfl, ?_⟩) hHeld ?_
                  · intro w' hSw; (try dsimp only at hSw); go_simp
                  simp only [Act.put, List.setIfInBounds_toArray, List.set_cons_zero, List.set_cons_succ]
                  refine wpAnyH_take (i := 8) (oi := { dst := some 36, op := Op.binOp BinOp.eql 9 (Operand.tmp 34) (Operand.tmp 35) 9, type := 4, pos := "quireref12.go:46", after := #[{ on := 6, ground := Ground.data }, { on := 7, ground := Ground.data }, { on := 4, ground := Ground.guard }], guard := some (4, true) }) (v := (.bool true)) rfl (by kernel_rfl) (by kernel_rfl) (by kernel_rfl) (fun _ _ _ h => h) (Or.inl ⟨by rfl, ?_⟩) hHeld ?_
                  · intro w' hSw; (try dsimp only at hSw); go_simp
                  simp only [Act.put, List.setIfInBounds_toArray, List.set_cons_zero, List.set_cons_succ]
                  refine wpAnyH_take (i := 9) (oi := { dst := some 37, op := Op.pick (Operand.tmp 32) (Operand.tmp 36) (Operand.const (Value.bool false)), type := 4, pos := "quireref12.go:46", after := #[{ on := 4, ground := Ground.data }, { on := 8, ground := Ground.data }], guard := none }) (v := (.bool true)) rfl (by kernel_rfl) (by kernel_rfl) (by kernel_rfl) (fun _ _ _ h => h) (Or.inl ⟨by rfl, ?_⟩) hHeld ?_
                  · intro w' hSw; (try dsimp only at hSw); go_simp
                  simp only [Act.put, List.setIfInBounds_toArray, List.set_cons_zero, List.set_cons_succ]
                  refine wpAnyH_take (i := 10) (oi := { dst := some 38, op := Op.move (Operand.tmp 37), type := 4, pos := "quireref12.go:46", after := #[{ on := 9, ground := Ground.data }, { on := 4, ground := Ground.chain }], guard := none }) (v := (.bool true)) rfl (by kernel_rfl) (by kernel_rfl) (by kernel_rfl) (fun _ _ _ h => h) (Or.inl ⟨by rfl, ?_⟩) hHeld ?_
                  · intro w' hSw; (try dsimp only at hSw); go_simp
                  simp only [Act.put, List.setIfInBounds_toArray, List.set_cons_zero, List.set_cons_succ]
                  refine wpAnyH_take (i := 11) (oi := { dst := some 39, op := Op.move (Operand.tmp 0), type := 27, pos := "quireref12.go:46", after := #[{ on := 10, ground := Ground.guard }], guard := some (10, true) }) (v := (.pointer (some ⟨b, 0, none⟩))) rfl (by kernel_rfl) (by kernel_rfl) (by kernel_rfl) (fun _ _ _ h => h) (Or.inl ⟨by rfl, ?_⟩) hHeld ?_
                  · intro w' hSw; (try dsimp only at hSw); go_simp
                  simp only [Act.put, List.setIfInBounds_toArray, List.set_cons_zero, List.set_cons_succ]
                  refine wpAnyH_take (i := 12) (oi := { dst := some 40, op := Op.nilCheck (Operand.tmp 39), type := 0, pos := "quireref12.go:46", after := #[{ on := 11, ground := Ground.data }, { on := 10, ground := Ground.guard }], guard := some (10, true) }) (v := (.pointer (some ⟨b, 0, none⟩))) rfl (by kernel_rfl) (by kernel_rfl) (by kernel_rfl) (fun _ _ _ h => h) (Or.inl ⟨by rfl, ?_⟩) hHeld ?_
                  · intro w' hSw; (try dsimp only at hSw); go_simp
                  simp only [Act.put, List.setIfInBounds_toArray, List.set_cons_zero, List.set_cons_succ]
                  refine wpAnyH_take (i := 13) (oi := { dst := some 41, op := Op.fieldAddr 31 (Operand.tmp 40) 1, type := 0, pos := "quireref12.go:46", after := #[{ on := 12, ground := Ground.data }, { on := 10, ground := Ground.guard }], guard := some (10, true) }) (v := (.pointer (some ⟨b, 1, none⟩))) rfl (by kernel_rfl) (by kernel_rfl) (by kernel_rfl) (fun _ _ _ h => h) (Or.inl ⟨by rfl, ?_⟩) hHeld ?_
                  · intro w' hSw; (try dsimp only at hSw); go_simp
                  simp only [Act.put, List.setIfInBounds_toArray, List.set_cons_zero, List.set_cons_succ]
                  refine wpAnyH_take (i := 14) (oi := { dst := some 42, op := Op.load 29 (Operand.tmp 41), type := 29, pos := "quireref12.go:46", after := #[{ on := 13, ground := Ground.data }, { on := 10, ground := Ground.guard }], guard := some (10, true) }) (v := hv) rfl (by kernel_rfl) (by kernel_rfl) (by kernel_rfl) (fun _ _ _ h => h) (Or.inl ⟨by rfl, ?_⟩) hHeld ?_
                  · intro w' hSw; (try dsimp only at hSw); go_simp
                  simp only [Act.put, List.setIfInBounds_toArray, List.set_cons_zero, List.set_cons_succ]
                  refine wpAnyH_take (i := 15) (oi := { dst := some 43, op := Op.fieldAddr 41 (Operand.tmp 11) 0, type := 0, pos := "quireref12.go:46", after := #[{ on := 10, ground := Ground.guard }], guard := some (10, true) }) (v := (.pointer (some ⟨X, 0, none⟩))) rfl (by kernel_rfl) (by kernel_rfl) (by kernel_rfl) (fun _ _ _ h => h) (Or.inl ⟨by rfl, ?_⟩) hHeld ?_
                  · intro w' hSw; (try dsimp only at hSw); go_simp
                  simp only [Act.put, List.setIfInBounds_toArray, List.set_cons_zero, List.set_cons_succ]
                  refine wpAnyH_take (i := 16) (oi := { dst := some 44, op := Op.load 34 (Operand.tmp 43), type := 34, pos := "quireref12.go:46", after := #[{ on := 15, ground := Ground.data }, { on := 10, ground := Ground.guard }], guard := some (10, true) }) (v := (.agg #[.int .u64 x.c, .int .u64 x.k])) rfl (by kernel_rfl) (by kernel_rfl) (by kernel_rfl) (fun _ _ _ h => h) (Or.inl ⟨by rfl, ?_⟩) hHeld ?_
                  · intro w' hSw; (try dsimp only at hSw); go_simp
                  simp only [Act.put, List.setIfInBounds_toArray, List.set_cons_zero, List.set_cons_succ]
                  refine wpAnyH_ready (rs := [17]) (by kernel_rfl) (by simp) ?_
                  refine AllReadyH.cons (o := { dst := some 45, op := Op.call { callee := Callee.value (Operand.func 26), args := #[Operand.tmp 42, Operand.tmp 44], argTypes := #[29, 34] }, type := 4, pos := "quireref12.go:46", after := #[{ on := 14, ground := Ground.data }, { on := 16, ground := Ground.data }, { on := 10, ground := Ground.chain }, { on := 10, ground := Ground.guard }], guard := some (10, true) }) rfl (fun K hK => ?_) AllReadyH.nil
                  go_simp
                  refine (HHas.out _ hHeld.2.out).mono ?_
                  rintro e w' ⟨rfl, hT⟩
                  have hT2 := hHeld.2.out.trans hT
                  refine hK.out _ _ ⟨HS.out _ hT2, hT2⟩ (fun hHeld => ?_)
                  clear hK K hT hT2
                  try dsimp only
                  refine wpAnyH_take (i := 18) (oi := { dst := some 46, op := Op.unOp UnOp.not 4 (Operand.tmp 45), type := 4, pos := "quireref12.go:46", after := #[{ on := 17, ground := Ground.data }, { on := 10, ground := Ground.guard }], guard := some (10, true) }) (v := (.bool true)) rfl (by kernel_rfl) (by kernel_rfl) (by kernel_rfl) (fun _ _ _ h => h) (Or.inl ⟨by rfl, ?_⟩) hHeld ?_
                  · intro w' hSw; (try dsimp only at hSw); go_simp
                  simp only [Act.put, List.setIfInBounds_toArray, List.set_cons_zero, List.set_cons_succ]
                  refine wpAnyH_take (i := 19) (oi := { dst := some 47, op := Op.pick (Operand.tmp 38) (Operand.tmp 46) (Operand.const (Value.bool false)), type := 4, pos := "quireref12.go:46", after := #[{ on := 10, ground := Ground.data }, { on := 18, ground := Ground.data }], guard := none }) (v := (.bool true)) rfl (by kernel_rfl) (by kernel_rfl) (by kernel_rfl) (fun _ _ _ h => h) (Or.inl ⟨by rfl, ?_⟩) hHeld ?_
                  · intro w' hSw; (try dsimp only at hSw); go_simp
                  simp only [Act.put, List.setIfInBounds_toArray, List.set_cons_zero, List.set_cons_succ]
                  refine wpAnyH_take (i := 20) (oi := { dst := some 48, op := Op.move (Operand.tmp 47), type := 4, pos := "quireref12.go:46", after := #[{ on := 19, ground := Ground.data }, { on := 17, ground := Ground.chain }], guard := none }) (v := (.bool true)) rfl (by kernel_rfl) (by kernel_rfl) (by kernel_rfl) (fun _ _ _ h => h) (Or.inl ⟨by rfl, ?_⟩) hHeld ?_
                  · intro w' hSw; (try dsimp only at hSw); go_simp
                  simp only [Act.put, List.setIfInBounds_toArray, List.set_cons_zero, List.set_cons_succ]
                  refine wpAnyH_take (i := 21) (oi := { dst := some 49, op := Op.move (Operand.tmp 9), type := 4, pos := "quireref12.go:46", after := #[{ on := 20, ground := Ground.guard }], guard := some (20, true) }) (v := (.bool true)) rfl (by kernel_rfl) (by kernel_rfl) (by kernel_rfl) (fun _ _ _ h => h) (Or.inl ⟨by rfl, ?_⟩) hHeld ?_
                  · intro w' hSw; (try dsimp only at hSw); go_simp
                  simp only [Act.put, List.setIfInBounds_toArray, List.set_cons_zero, List.set_cons_succ]
                  refine wpAnyH_take (i := 22) (oi := { dst := some 50, op := Op.unOp UnOp.not 4 (Operand.tmp 49), type := 4, pos := "quireref12.go:46", after := #[{ on := 21, ground := Ground.data }, { on := 20, ground := Ground.guard }], guard := some (20, true) }) (v := (.bool false)) rfl (by kernel_rfl) (by kernel_rfl) (by kernel_rfl) (fun _ _ _ h => h) (Or.inl ⟨by rfl, ?_⟩) hHeld ?_
                  · intro w' hSw; (try dsimp only at hSw); go_simp
                  simp only [Act.put, List.setIfInBounds_toArray, List.set_cons_zero, List.set_cons_succ]
                  refine wpAnyH_take (i := 23) (oi := { dst := some 51, op := Op.move (Operand.tmp 50), type := 4, pos := "quireref12.go:46", after := #[{ on := 22, ground := Ground.data }, { on := 20, ground := Ground.chain }, { on := 20, ground := Ground.guard }], guard := some (20, true) }) (v := (.bool false)) rfl (by kernel_rfl) (by kernel_rfl) (by kernel_rfl) (fun _ _ _ h => h) (Or.inl ⟨by rfl, ?_⟩) hHeld ?_
                  · intro w' hSw; (try dsimp only at hSw); go_simp
                  simp only [Act.put, List.setIfInBounds_toArray, List.set_cons_zero, List.set_cons_succ]
                  refine wpAnyH_take (i := 24) (oi := { dst := some 52, op := Op.load 41 (Operand.tmp 8), type := 41, pos := "quireref12.go:46", after := #[{ on := 23, ground := Ground.guard }], guard := some (23, false) }) (v := (.agg bst.vals)) rfl (by kernel_rfl) (by kernel_rfl) (by kernel_rfl) (fun _ _ _ h => h) (yieldsIf_load_mid (by rfl) 41 (.tmp 8) rfl Bb 0 rfl bst.vals.toList _ (fun V hV => hV.1.2.2.2.2.2.2.2.2.1) Tryz.underlying41 rfl (by kernel_rfl)) hHeld ?_
                  simp only [Act.put, List.setIfInBounds_toArray, List.set_cons_zero, List.set_cons_succ]
                  refine wpAnyH_take (i := 25) (oi := { dst := some 53, op := Op.load 41 (Operand.tmp 11), type := 41, pos := "quireref12.go:46", after := #[{ on := 23, ground := Ground.guard }], guard := some (23, false) }) (v := (.agg x.vals)) rfl (by kernel_rfl) (by kernel_rfl) (by kernel_rfl) (fun _ _ _ h => h) (yieldsIf_load_mid (by rfl) 41 (.tmp 11) rfl X 0 rfl x.vals.toList _ (fun V hV => hV.1.2.2.2.2.2.2.2.2.2) Tryz.underlying41 rfl (by kernel_rfl)) hHeld ?_
                  simp only [Act.put, List.setIfInBounds_toArray, List.set_cons_zero, List.set_cons_succ]
                  refine wpAnyH_ready (rs := [26]) (by kernel_rfl) (by simp) ?_
                  refine AllReadyH.cons (o := { dst := some 54, op := Op.call { callee := Callee.value (Operand.func 27), args := #[Operand.tmp 52, Operand.tmp 53], argTypes := #[41, 41] }, type := 4, pos := "quireref12.go:46", after := #[{ on := 24, ground := Ground.data }, { on := 25, ground := Ground.data }, { on := 23, ground := Ground.chain }, { on := 23, ground := Ground.guard }], guard := some (23, false) }) rfl (fun K hK => ?_) AllReadyH.nil
                  go_simp
                  refine (HLess.out _).mono ?_
                  rintro e w' ⟨rfl, hT⟩
                  have hT2 := hHeld.2.out.trans hT
                  refine hK.out _ _ ⟨HS.out _ hT2, hT2⟩ (fun hHeld => ?_)
                  clear hK K hT hT2
                  try dsimp only
                  refine wpAnyH_take (i := 27) (oi := { dst := some 55, op := Op.pick (Operand.tmp 51) (Operand.const (Value.bool true)) (Operand.tmp 54), type := 4, pos := "quireref12.go:46", after := #[{ on := 23, ground := Ground.data }, { on := 26, ground := Ground.data }, { on := 20, ground := Ground.guard }], guard := some (20, true) }) (v := (.bool true)) rfl (by kernel_rfl) (by kernel_rfl) (by kernel_rfl) (fun _ _ _ h => h) (Or.inl ⟨by rfl, ?_⟩) hHeld ?_
                  · intro w' hSw; (try dsimp only at hSw); go_simp
                  simp only [Act.put, List.setIfInBounds_toArray, List.set_cons_zero, List.set_cons_succ]
                  refine wpAnyH_take (i := 28) (oi := { dst := some 56, op := Op.pick (Operand.tmp 48) (Operand.tmp 55) (Operand.const (Value.bool false)), type := 4, pos := "quireref12.go:46", after := #[{ on := 20, ground := Ground.data }, { on := 27, ground := Ground.data }], guard := none }) (v := (.bool true)) rfl (by kernel_rfl) (by kernel_rfl) (by kernel_rfl) (fun _ _ _ h => h) (Or.inl ⟨by rfl, ?_⟩) hHeld ?_
                  · intro w' hSw; (try dsimp only at hSw); go_simp
                  simp only [Act.put, List.setIfInBounds_toArray, List.set_cons_zero, List.set_cons_succ]
                  refine wpAnyH_done (by kernel_rfl) ?_ _
                  have HT5 := hHeld.2
                  clear hHeld
                  first | refine NoPanic.normal ?_ | skip
                  have HF : Hid (fo (i + 1) = (x, true)) := by rw [Hid, ← HXt.out, HA.out, if_pos (by simp [*])]
                  have HW3 : Hid (∀ V, Touch (fun _ => False) W2 V → Touch (fun _ => False) w (V.setCells Bb 0 x.vals.toList) ∧ (V.setCells Bb 0 x.vals.toList).heap[Bi]? = some (idO c k) ∧ OpAt (Bi + 1) zeroO (V.setCells Bb 0 x.vals.toList) ∧ OpAt Bb x (V.setCells Bb 0 x.vals.toList)) := fun V t => by
                    have t9 := Touch.cells Bb x.vals.toList 0 V
                    have p0 := (t.block Bi (lt_of_heap HW.out.2.1) id).trans HW.out.2.1
                    have p1 := HW.out.2.2.1.keep t
                    have p2 := HW.out.2.2.2.1.keep t
                    have s1 := HE.out.2.2.2.2
                    exact ⟨(HW.out.1.trans t).stores (by omega) 0 _, (t9.block Bi (lt_of_heap p0) (by omega)).trans p0, (t9.block (Bi + 1) (lt_of_heap p1) (by omega)).trans p1, p2.store0⟩
                  have HTh : Hid (∀ V, Touch (fun _ => False) W2 V → V.rangeAt X 0 x.vals.toList ∧ V.there Bb 0 22) := fun V t => ⟨rangeAt_of (HW.out.2.2.2.2.keep t), (HW.out.2.2.2.1.keep t).there 0 22 (by decide)⟩
                  clear HW HA HXt hld1 hld2 HS HHas HLess HHs
                  go_upto_region 8 with fail
                  refine wp_region_lit ?_
                  refine wpList_load_mid rfl 41 (.tmp 11) rfl X 0 rfl x.vals.toList _ (HTh.out _ HT5.out).1 Tryz.underlying41 rfl (by kernel_rfl) ?_
                  simp only [Act.put, List.setIfInBounds_toArray, List.set_cons_succ, List.set_cons_zero]
                  refine wpList_store_mid rfl 41 (.tmp 8) (.tmp 57) rfl Bb 0 x.vals rfl rfl (HTh.out _ HT5.out).2 (by kernel_rfl) (by kernel_rfl) ?_
                  simp only [Act.put]
                  have HQ : Hid (_ ∧ _) := HW3.out _ HT5.out
                  obtain ⟨W9, hW9⟩ : ∃ W, Hid (W = w'.setCells Bb 0 x.vals.toList) := ⟨_, Eq.refl _⟩
                  rw [← hW9.out] at HQ ⊢
                  clear hW9 HT5 HTh HW3
                  go_wp2_with fail
                  go_roundg (n - (i + 1))
                  case measure => omega
                  case rel => exact ⟨i + 1, x, true, by have := Hil.out; omega, rfl, by go_num, HQ.out.1, HQ.out.2.1, HQ.out.2.2.1, HQ.out.2.2.2, HF.out⟩
            | true =>
              go_upto_region 7 with fail
              refine wp_region_noPanic ?_
              refine wp_region_held_drew (S := fun W : World => (W.cell? ⟨X, 13, none⟩ = some (.string x.ky) ∧ W.cell? ⟨X, 14, none⟩ = some (.int .u64 x.pc) ∧ W.cell? ⟨X, 15, none⟩ = some (.int .u64 x.pk) ∧ W.cell? ⟨X, 0, none⟩ = some (.int .u64 x.c) ∧ W.cell? ⟨X, 1, none⟩ = some (.int .u64 x.k) ∧ W.cell? ⟨Bi, 0, none⟩ = some (.int .u64 c) ∧ W.cell? ⟨Bi, 1, none⟩ = some (.int .u64 k) ∧ W.cell? ⟨b, 1, none⟩ = some hv ∧ W.rangeAt Bb 0 bst.vals.toList ∧ W.rangeAt X 0 x.vals.toList) ∧ Hid (Touch (fun _ => False) W2 W)) (by kernel_rfl) ⟨S0, TD⟩ (fun hHeld => ?_)
              clear S0 TD
              refine wpAnyH_take (i := 0) (oi := { dst := some 28, op := Op.fieldAddr 41 (Operand.tmp 11) 8, type := 0, pos := "quireref12.go:46", after := #[], guard := none }) (v := (.pointer (some ⟨X, 14, none⟩))) rfl (by kernel_rfl) (by kernel_rfl) (by kernel_rfl) (fun _ _ _ h => h) (Or.inl ⟨by rfl, ?_⟩) hHeld ?_
              · intro w' hSw; (try dsimp only at hSw); go_simp
              simp only [Act.put, List.setIfInBounds_toArray, List.set_cons_zero, List.set_cons_succ]
              refine wpAnyH_take (i := 1) (oi := { dst := some 29, op := Op.load 34 (Operand.tmp 28), type := 34, pos := "quireref12.go:46", after := #[{ on := 0, ground := Ground.data }], guard := none }) (v := (.agg #[.int .u64 x.pc, .int .u64 x.pk])) rfl (by kernel_rfl) (by kernel_rfl) (by kernel_rfl) (fun _ _ _ h => h) (Or.inl ⟨by rfl, ?_⟩) hHeld ?_
              · intro w' hSw; (try dsimp only at hSw); go_simp
              simp only [Act.put, List.setIfInBounds_toArray, List.set_cons_zero, List.set_cons_succ]
              refine wpAnyH_take (i := 2) (oi := { dst := some 30, op := Op.load 34 (Operand.tmp 4), type := 34, pos := "quireref12.go:46", after := #[], guard := none }) (v := (.agg #[.int .u64 c, .int .u64 k])) rfl (by kernel_rfl) (by kernel_rfl) (by kernel_rfl) (fun _ _ _ h => h) (Or.inl ⟨by rfl, ?_⟩) hHeld ?_
              · intro w' hSw; (try dsimp only at hSw); go_simp
              simp only [Act.put, List.setIfInBounds_toArray, List.set_cons_zero, List.set_cons_succ]
              refine wpAnyH_take (i := 3) (oi := { dst := some 31, op := Op.binOp BinOp.eql 34 (Operand.tmp 29) (Operand.tmp 30) 34, type := 4, pos := "quireref12.go:46", after := #[{ on := 1, ground := Ground.data }, { on := 2, ground := Ground.data }], guard := none }) (v := (.bool true)) rfl (by kernel_rfl) (by kernel_rfl) (by kernel_rfl) (fun _ _ _ h => h) (Or.inl ⟨by rfl, ?_⟩) hHeld ?_
              · intro w' hSw; (try dsimp only at hSw); go_simp
              simp only [Act.put, List.setIfInBounds_toArray, List.set_cons_zero, List.set_cons_succ]
              refine wpAnyH_take (i := 4) (oi := { dst := some 32, op := Op.move (Operand.tmp 31), type := 4, pos := "quireref12.go:46", after := #[{ on := 3, ground := Ground.data }], guard := none }) (v := (.bool true)) rfl (by kernel_rfl) (by kernel_rfl) (by kernel_rfl) (fun _ _ _ h => h) (Or.inl ⟨by rfl, ?_⟩) hHeld ?_
              · intro w' hSw; (try dsimp only at hSw); go_simp
              simp only [Act.put, List.setIfInBounds_toArray, List.set_cons_zero, List.set_cons_succ]
              refine wpAnyH_take (i := 5) (oi := { dst := some 33, op := Op.fieldAddr 41 (Operand.tmp 11) 7, type := 0, pos := "quireref12.go:46", after := #[{ on := 4, ground := Ground.guard }], guard := some (4, true) }) (v := (.pointer (some ⟨X, 13, none⟩))) rfl (by kernel_rfl) (by kernel_rfl) (by kernel_rfl) (fun _ _ _ h => h) (Or.inl ⟨by rfl, ?_⟩) hHeld ?_
              · intro w' hSw; (try dsimp only at hSw); go_simp
              simp only [Act.put, List.setIfInBounds_toArray, List.set_cons_zero, List.set_cons_succ]
              refine wpAnyH_take (i := 6) (oi := { dst := some 34, op := Op.load 9 (Operand.tmp 33), type := 9, pos := "quireref12.go:46", after := #[{ on := 5, ground := Ground.data }, { on := 4, ground := Ground.guard }], guard := some (4, true) }) (v := (.string x.ky)) rfl (by kernel_rfl) (by kernel_rfl) (by kernel_rfl) (fun _ _ _ h => h) (Or.inl ⟨by rfl, ?_⟩) hHeld ?_
              · intro w' hSw; (try dsimp only at hSw); go_simp
              simp only [Act.put, List.setIfInBounds_toArray, List.set_cons_zero, List.set_cons_succ]
              refine wpAnyH_take (i := 7) (oi := { dst := some 35, op := Op.move (Operand.tmp 2), type := 9, pos := "quireref12.go:46", after := #[{ on := 4, ground := Ground.guard }], guard := some (4, true) }) (v := (.string ky)) rfl (by kernel_rfl) (by kernel_rfl) (by kernel_rfl) (fun _ _ _ h => h) (Or.inl ⟨by rfl, ?_⟩) hHeld ?_
              · intro w' hSw; (try dsimp only at hSw); go_simp
              simp only [Act.put, List.setIfInBounds_toArray, List.set_cons_zero, List.set_cons_succ]
              refine wpAnyH_take (i := 8) (oi := { dst := some 36, op := Op.binOp BinOp.eql 9 (Operand.tmp 34) (Operand.tmp 35) 9, type := 4, pos := "quireref12.go:46", after := #[{ on := 6, ground := Ground.data }, { on := 7, ground := Ground.data }, { on := 4, ground := Ground.guard }], guard := some (4, true) }) (v := (.bool true)) rfl (by kernel_rfl) (by kernel_rfl) (by kernel_rfl) (fun _ _ _ h => h) (Or.inl ⟨by rfl, ?_⟩) hHeld ?_
              · intro w' hSw; (try dsimp only at hSw); go_simp
              simp only [Act.put, List.setIfInBounds_toArray, List.set_cons_zero, List.set_cons_succ]
              refine wpAnyH_take (i := 9) (oi := { dst := some 37, op := Op.pick (Operand.tmp 32) (Operand.tmp 36) (Operand.const (Value.bool false)), type := 4, pos := "quireref12.go:46", after := #[{ on := 4, ground := Ground.data }, { on := 8, ground := Ground.data }], guard := none }) (v := (.bool true)) rfl (by kernel_rfl) (by kernel_rfl) (by kernel_rfl) (fun _ _ _ h => h) (Or.inl ⟨by rfl, ?_⟩) hHeld ?_
              · intro w' hSw; (try dsimp only at hSw); go_simp
              simp only [Act.put, List.setIfInBounds_toArray, List.set_cons_zero, List.set_cons_succ]
              refine wpAnyH_take (i := 10) (oi := { dst := some 38, op := Op.move (Operand.tmp 37), type := 4, pos := "quireref12.go:46", after := #[{ on := 9, ground := Ground.data }, { on := 4, ground := Ground.chain }], guard := none }) (v := (.bool true)) rfl (by kernel_rfl) (by kernel_rfl) (by kernel_rfl) (fun _ _ _ h => h) (Or.inl ⟨by rfl, ?_⟩) hHeld ?_
              · intro w' hSw; (try dsimp only at hSw); go_simp
              simp only [Act.put, List.setIfInBounds_toArray, List.set_cons_zero, List.set_cons_succ]
              refine wpAnyH_take (i := 11) (oi := { dst := some 39, op := Op.move (Operand.tmp 0), type := 27, pos := "quireref12.go:46", after := #[{ on := 10, ground := Ground.guard }], guard := some (10, true) }) (v := (.pointer (some ⟨b, 0, none⟩))) rfl (by kernel_rfl) (by kernel_rfl) (by kernel_rfl) (fun _ _ _ h => h) (Or.inl ⟨by rfl, ?_⟩) hHeld ?_
              · intro w' hSw; (try dsimp only at hSw); go_simp
              simp only [Act.put, List.setIfInBounds_toArray, List.set_cons_zero, List.set_cons_succ]
              refine wpAnyH_take (i := 12) (oi := { dst := some 40, op := Op.nilCheck (Operand.tmp 39), type := 0, pos := "quireref12.go:46", after := #[{ on := 11, ground := Ground.data }, { on := 10, ground := Ground.guard }], guard := some (10, true) }) (v := (.pointer (some ⟨b, 0, none⟩))) rfl (by kernel_rfl) (by kernel_rfl) (by kernel_rfl) (fun _ _ _ h => h) (Or.inl ⟨by rfl, ?_⟩) hHeld ?_
              · intro w' hSw; (try dsimp only at hSw); go_simp
              simp only [Act.put, List.setIfInBounds_toArray, List.set_cons_zero, List.set_cons_succ]
              refine wpAnyH_take (i := 13) (oi := { dst := some 41, op := Op.fieldAddr 31 (Operand.tmp 40) 1, type := 0, pos := "quireref12.go:46", after := #[{ on := 12, ground := Ground.data }, { on := 10, ground := Ground.guard }], guard := some (10, true) }) (v := (.pointer (some ⟨b, 1, none⟩))) rfl (by kernel_rfl) (by kernel_rfl) (by kernel_rfl) (fun _ _ _ h => h) (Or.inl ⟨by rfl, ?_⟩) hHeld ?_
              · intro w' hSw; (try dsimp only at hSw); go_simp
              simp only [Act.put, List.setIfInBounds_toArray, List.set_cons_zero, List.set_cons_succ]
              refine wpAnyH_take (i := 14) (oi := { dst := some 42, op := Op.load 29 (Operand.tmp 41), type := 29, pos := "quireref12.go:46", after := #[{ on := 13, ground := Ground.data }, { on := 10, ground := Ground.guard }], guard := some (10, true) }) (v := hv) rfl (by kernel_rfl) (by kernel_rfl) (by kernel_rfl) (fun _ _ _ h => h) (Or.inl ⟨by rfl, ?_⟩) hHeld ?_
              · intro w' hSw; (try dsimp only at hSw); go_simp
              simp only [Act.put, List.setIfInBounds_toArray, List.set_cons_zero, List.set_cons_succ]
              refine wpAnyH_take (i := 15) (oi := { dst := some 43, op := Op.fieldAddr 41 (Operand.tmp 11) 0, type := 0, pos := "quireref12.go:46", after := #[{ on := 10, ground := Ground.guard }], guard := some (10, true) }) (v := (.pointer (some ⟨X, 0, none⟩))) rfl (by kernel_rfl) (by kernel_rfl) (by kernel_rfl) (fun _ _ _ h => h) (Or.inl ⟨by rfl, ?_⟩) hHeld ?_
              · intro w' hSw; (try dsimp only at hSw); go_simp
              simp only [Act.put, List.setIfInBounds_toArray, List.set_cons_zero, List.set_cons_succ]
              refine wpAnyH_take (i := 16) (oi := { dst := some 44, op := Op.load 34 (Operand.tmp 43), type := 34, pos := "quireref12.go:46", after := #[{ on := 15, ground := Ground.data }, { on := 10, ground := Ground.guard }], guard := some (10, true) }) (v := (.agg #[.int .u64 x.c, .int .u64 x.k])) rfl (by kernel_rfl) (by kernel_rfl) (by kernel_rfl) (fun _ _ _ h => h) (Or.inl ⟨by rfl, ?_⟩) hHeld ?_
              · intro w' hSw; (try dsimp only at hSw); go_simp
              simp only [Act.put, List.setIfInBounds_toArray, List.set_cons_zero, List.set_cons_succ]
              refine wpAnyH_ready (rs := [17]) (by kernel_rfl) (by simp) ?_
              refine AllReadyH.cons (o := { dst := some 45, op := Op.call { callee := Callee.value (Operand.func 26), args := #[Operand.tmp 42, Operand.tmp 44], argTypes := #[29, 34] }, type := 4, pos := "quireref12.go:46", after := #[{ on := 14, ground := Ground.data }, { on := 16, ground := Ground.data }, { on := 10, ground := Ground.chain }, { on := 10, ground := Ground.guard }], guard := some (10, true) }) rfl (fun K hK => ?_) AllReadyH.nil
              go_simp
              refine (HHas.out _ hHeld.2.out).mono ?_
              rintro e w' ⟨rfl, hT⟩
              have hT2 := hHeld.2.out.trans hT
              refine hK.out _ _ ⟨HS.out _ hT2, hT2⟩ (fun hHeld => ?_)
              clear hK K hT hT2
              try dsimp only
              refine wpAnyH_take (i := 18) (oi := { dst := some 46, op := Op.unOp UnOp.not 4 (Operand.tmp 45), type := 4, pos := "quireref12.go:46", after := #[{ on := 17, ground := Ground.data }, { on := 10, ground := Ground.guard }], guard := some (10, true) }) (v := (.bool false)) rfl (by kernel_rfl) (by kernel_rfl) (by kernel_rfl) (fun _ _ _ h => h) (Or.inl ⟨by rfl, ?_⟩) hHeld ?_
              · intro w' hSw; (try dsimp only at hSw); go_simp
              simp only [Act.put, List.setIfInBounds_toArray, List.set_cons_zero, List.set_cons_succ]
              refine wpAnyH_take (i := 19) (oi := { dst := some 47, op := Op.pick (Operand.tmp 38) (Operand.tmp 46) (Operand.const (Value.bool false)), type := 4, pos := "quireref12.go:46", after := #[{ on := 10, ground := Ground.data }, { on := 18, ground := Ground.data }], guard := none }) (v := (.bool false)) rfl (by kernel_rfl) (by kernel_rfl) (by kernel_rfl) (fun _ _ _ h => h) (Or.inl ⟨by rfl, ?_⟩) hHeld ?_
              · intro w' hSw; (try dsimp only at hSw); go_simp
              simp only [Act.put, List.setIfInBounds_toArray, List.set_cons_zero, List.set_cons_succ]
              refine wpAnyH_take (i := 20) (oi := { dst := some 48, op := Op.move (Operand.tmp 47), type := 4, pos := "quireref12.go:46", after := #[{ on := 19, ground := Ground.data }, { on := 17, ground := Ground.chain }], guard := none }) (v := (.bool false)) rfl (by kernel_rfl) (by kernel_rfl) (by kernel_rfl) (fun _ _ _ h => h) (Or.inl ⟨by rfl, ?_⟩) hHeld ?_
              · intro w' hSw; (try dsimp only at hSw); go_simp
              simp only [Act.put, List.setIfInBounds_toArray, List.set_cons_zero, List.set_cons_succ]
              refine wpAnyH_take (i := 21) (oi := { dst := some 49, op := Op.move (Operand.tmp 9), type := 4, pos := "quireref12.go:46", after := #[{ on := 20, ground := Ground.guard }], guard := some (20, true) }) (v := undef) rfl (by kernel_rfl) (by kernel_rfl) (by kernel_rfl) (fun _ _ _ h => h) (Or.inr ⟨by rfl, rfl⟩) hHeld ?_
              simp only [Act.put, List.setIfInBounds_toArray, List.set_cons_zero, List.set_cons_succ]
              refine wpAnyH_take (i := 22) (oi := { dst := some 50, op := Op.unOp UnOp.not 4 (Operand.tmp 49), type := 4, pos := "quireref12.go:46", after := #[{ on := 21, ground := Ground.data }, { on := 20, ground := Ground.guard }], guard := some (20, true) }) (v := undef) rfl (by kernel_rfl) (by kernel_rfl) (by kernel_rfl) (fun _ _ _ h => h) (Or.inr ⟨by rfl, rfl⟩) hHeld ?_
              simp only [Act.put, List.setIfInBounds_toArray, List.set_cons_zero, List.set_cons_succ]
              refine wpAnyH_take (i := 23) (oi := { dst := some 51, op := Op.move (Operand.tmp 50), type := 4, pos := "quireref12.go:46", after := #[{ on := 22, ground := Ground.data }, { on := 20, ground := Ground.chain }, { on := 20, ground := Ground.guard }], guard := some (20, true) }) (v := undef) rfl (by kernel_rfl) (by kernel_rfl) (by kernel_rfl) (fun _ _ _ h => h) (Or.inr ⟨by rfl, rfl⟩) hHeld ?_
              simp only [Act.put, List.setIfInBounds_toArray, List.set_cons_zero, List.set_cons_succ]
              refine wpAnyH_take (i := 24) (oi := { dst := some 52, op := Op.load 41 (Operand.tmp 8), type := 41, pos := "quireref12.go:46", after := #[{ on := 23, ground := Ground.guard }], guard := some (23, false) }) (v := undef) rfl (by kernel_rfl) (by kernel_rfl) (by kernel_rfl) (fun _ _ _ h => h) (Or.inr ⟨by rfl, rfl⟩) hHeld ?_
              simp only [Act.put, List.setIfInBounds_toArray, List.set_cons_zero, List.set_cons_succ]
              refine wpAnyH_take (i := 25) (oi := { dst := some 53, op := Op.load 41 (Operand.tmp 11), type := 41, pos := "quireref12.go:46", after := #[{ on := 23, ground := Ground.guard }], guard := some (23, false) }) (v := undef) rfl (by kernel_rfl) (by kernel_rfl) (by kernel_rfl) (fun _ _ _ h => h) (Or.inr ⟨by rfl, rfl⟩) hHeld ?_
              simp only [Act.put, List.setIfInBounds_toArray, List.set_cons_zero, List.set_cons_succ]
              refine wpAnyH_take (i := 26) (oi := { dst := some 54, op := Op.call { callee := Callee.value (Operand.func 27), args := #[Operand.tmp 52, Operand.tmp 53], argTypes := #[41, 41] }, type := 4, pos := "quireref12.go:46", after := #[{ on := 24, ground := Ground.data }, { on := 25, ground := Ground.data }, { on := 23, ground := Ground.chain }, { on := 23, ground := Ground.guard }], guard := some (23, false) }) (v := undef) rfl (by kernel_rfl) (by kernel_rfl) (by kernel_rfl) (fun _ _ _ h => h) (Or.inr ⟨by rfl, rfl⟩) hHeld ?_
              simp only [Act.put, List.setIfInBounds_toArray, List.set_cons_zero, List.set_cons_succ]
              refine wpAnyH_take (i := 27) (oi := { dst := some 55, op := Op.pick (Operand.tmp 51) (Operand.const (Value.bool true)) (Operand.tmp 54), type := 4, pos := "quireref12.go:46", after := #[{ on := 23, ground := Ground.data }, { on := 26, ground := Ground.data }, { on := 20, ground := Ground.guard }], guard := some (20, true) }) (v := undef) rfl (by kernel_rfl) (by kernel_rfl) (by kernel_rfl) (fun _ _ _ h => h) (Or.inr ⟨by rfl, rfl⟩) hHeld ?_
              simp only [Act.put, List.setIfInBounds_toArray, List.set_cons_zero, List.set_cons_succ]
              refine wpAnyH_take (i := 28) (oi := { dst := some 56, op := Op.pick (Operand.tmp 48) (Operand.tmp 55) (Operand.const (Value.bool false)), type := 4, pos := "quireref12.go:46", after := #[{ on := 20, ground := Ground.data }, { on := 27, ground := Ground.data }], guard := none }) (v := (.bool false)) rfl (by kernel_rfl) (by kernel_rfl) (by kernel_rfl) (fun _ _ _ h => h) (Or.inl ⟨by rfl, ?_⟩) hHeld ?_
              · intro w' hSw; (try dsimp only at hSw); go_simp
              simp only [Act.put, List.setIfInBounds_toArray, List.set_cons_zero, List.set_cons_succ]
              refine wpAnyH_done (by kernel_rfl) ?_ _
              have HT5 := hHeld.2
              clear hHeld
              first | refine NoPanic.normal ?_ | skip
              have HF : Hid (fo (i + 1) = (bst, bs)) := by rw [Hid, ← HXt.out, HA.out, if_neg (by simp [*])]
              have HQ : Hid (∀ V, Touch (fun _ => False) W2 V → Touch (fun _ => False) w V ∧ V.heap[Bi]? = some (idO c k) ∧ OpAt (Bi + 1) zeroO V ∧ OpAt Bb bst V) := fun V t => ⟨HW.out.1.trans t, (t.block Bi (lt_of_heap HW.out.2.1) id).trans HW.out.2.1, HW.out.2.2.1.keep t, HW.out.2.2.2.1.keep t⟩
              have HQ2 := HQ.out _ HT5.out
              clear HW HA HXt hld1 hld2 HS HHas HLess HHs
              go_wp2_with fail
              go_roundg (n - (i + 1))
              case measure => omega
              case rel => exact ⟨i + 1, bst, bs, by have := Hil.out; omega, rfl, by go_num, HQ2.1, HQ2.2.1, HQ2.2.2.1, HQ2.2.2.2, HF.out⟩
    · have hin : i = n := by omega
      subst hin
      have HF : Hid (GR = if bs = true ∧ bst.vk ≠ 0 then (bst, bs) else (zeroO, false)) := by have := HG.out; rw [HI.out.2.2.2.2] at this; exact this
      have HQ : Hid (Touch (fun _ => False) w wr ∧ OpAt (Bi + 1) zeroO wr ∧ OpAt Bb bst wr ∧ w.heap.size ≤ Bi) := ⟨HI.out.1, HI.out.2.2.1, HI.out.2.2.2.1, HE.out.2.2.2.2.1⟩
      have v9 := HQ.out.2.2.1.q9
      clear q2 HI HG HLn H0 HHs HR HE
      subst hlv
      cases bs with
      | false =>
        have HF2 : Hid (GR = (zeroO, false)) := by rw [Hid, HF.out, if_neg (by simp)]
        clear HF
        go_upto_region 10 with fail
        refine wp_region_lit ?_
        iterate 1 (refine wpList_plain rfl fun K hK => ?_; go_simp; refine hK _ _ ?_; clear hK K)
        refine wpList_store_mid rfl 41 (.tmp 6) (.tmp 66) rfl (Bi + 1) 0 zeroO.vals rfl rfl (HQ.out.2.1.there 0 22 (by decide)) (by kernel_rfl) (by kernel_rfl) ?_
        simp only [Act.put]
        obtain ⟨W5, hW5⟩ : ∃ W5, Hid (W5 = wr.setCells (Bi + 1) 0 zeroO.vals.toList) := ⟨_, Eq.refl _⟩
        have HT5 : Hid (Touch (fun _ => False) w W5 ∧ OpAt (Bi + 1) zeroO W5) := by rw [hW5.out]; exact ⟨HQ.out.1.stores (by have := HQ.out.2.2.2; omega) 0 _, HQ.out.2.1.store0⟩
        rw [← hW5.out]
        clear hW5 HQ v9
        go_wp2_with fail
        have hLd := run_loadVar_mid (P := Tryz.prog) W5 (Bi + 1) 0 41 zeroO.vals.toList _ (rangeAt_of HT5.out.2) Tryz.underlying41 rfl (by kernel_rfl)
        refine bodyPost_ret (v := .tuple #[zeroO.val, .bool false]) ?_ rfl ⟨by rw [HF2.out], HT5.out.1⟩
        simp [results, Tryz.results10, asAddr, hLd]
      | true =>
        cases e1 : (bst.vk == 0) with
        | true =>
          have HF2 : Hid (GR = (zeroO, false)) := by rw [Hid, HF.out, if_neg (by simpa using e1)]
          clear HF
          go_upto_region 10 with fail
          refine wp_region_lit ?_
          iterate 1 (refine wpList_plain rfl fun K hK => ?_; go_simp; refine hK _ _ ?_; clear hK K)
          refine wpList_store_mid rfl 41 (.tmp 6) (.tmp 66) rfl (Bi + 1) 0 zeroO.vals rfl rfl (HQ.out.2.1.there 0 22 (by decide)) (by kernel_rfl) (by kernel_rfl) ?_
          simp only [Act.put]
          obtain ⟨W5, hW5⟩ : ∃ W5, Hid (W5 = wr.setCells (Bi + 1) 0 zeroO.vals.toList) := ⟨_, Eq.refl _⟩
          have HT5 : Hid (Touch (fun _ => False) w W5 ∧ OpAt (Bi + 1) zeroO W5) := by rw [hW5.out]; exact ⟨HQ.out.1.stores (by have := HQ.out.2.2.2; omega) 0 _, HQ.out.2.1.store0⟩
          rw [← hW5.out]
          clear hW5 HQ v9
          go_wp2_with fail
          have hLd := run_loadVar_mid (P := Tryz.prog) W5 (Bi + 1) 0 41 zeroO.vals.toList _ (rangeAt_of HT5.out.2) Tryz.underlying41 rfl (by kernel_rfl)
          refine bodyPost_ret (v := .tuple #[zeroO.val, .bool false]) ?_ rfl ⟨by rw [HF2.out], HT5.out.1⟩
          simp [results, Tryz.results10, asAddr, hLd]
        | false =>
          have HF2 : Hid (GR = (bst, true)) := by rw [Hid, HF.out, if_pos ⟨rfl, by simpa using e1⟩]
          clear HF
          go_upto_region 11 with fail
          refine wp_region_lit ?_
          refine wpList_load_mid rfl 41 (.tmp 8) rfl Bb 0 rfl bst.vals.toList _ (rangeAt_of HQ.out.2.2.1) Tryz.underlying41 rfl (by kernel_rfl) ?_
          simp only [Act.put, List.setIfInBounds_toArray, List.set_cons_succ, List.set_cons_zero]
          refine wpList_store_mid rfl 41 (.tmp 6) (.tmp 67) rfl (Bi + 1) 0 bst.vals rfl rfl (HQ.out.2.1.there 0 22 (by decide)) (by kernel_rfl) (by kernel_rfl) ?_
          simp only [Act.put]
          obtain ⟨W5, hW5⟩ : ∃ W5, Hid (W5 = wr.setCells (Bi + 1) 0 bst.vals.toList) := ⟨_, Eq.refl _⟩
          have HT5 : Hid (Touch (fun _ => False) w W5 ∧ OpAt (Bi + 1) bst W5) := by rw [hW5.out]; exact ⟨HQ.out.1.stores (by have := HQ.out.2.2.2; omega) 0 _, HQ.out.2.1.store0⟩
          rw [← hW5.out]
          clear hW5 HQ v9
          go_wp2_with fail
          have hLd := run_loadVar_mid (P := Tryz.prog) W5 (Bi + 1) 0 41 bst.vals.toList _ (rangeAt_of HT5.out.2) Tryz.underlying41 rfl (by kernel_rfl)
          refine bodyPost_ret (v := .tuple #[bst.val, .bool true]) ?_ rfl ⟨by rw [HF2.out], HT5.out.1⟩
          simp [results, Tryz.results10, asAddr, hLd]
end Go.Proofs.YtodpdcflbnomgaaGreat

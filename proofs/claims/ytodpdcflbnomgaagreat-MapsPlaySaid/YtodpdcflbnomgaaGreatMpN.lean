/- Package maps: Get. -/
import Derived.Test.YtodpdcflbnomgaaGreatMpJ
namespace Go.Proofs.YtodpdcflbnomgaaGreat
open Go.RowKit Go.Maps
set_option linter.unusedVariables false
set_option linter.unusedSimpArgs false
set_option maxRecDepth 100000

theorem rowR_sl {w : World} {v : Value} {l : List Rg} (h : w.ownsRow 0 47 3 v l.length (cellsR l)) : SlR w v l := by
  rcases h.2 with ⟨e, h0⟩ | ⟨g, cap, cur, e, hb, hg, q1, q2, q3, q4⟩
  · have : l = [] := List.length_eq_zero_iff.1 (by omega)
    subst this
    rw [e]; exact SlR.nil w
  · refine ⟨_, cap, e, (fun h => by cases h), q1, q2, .inr ⟨g, 0, rfl, fun j u hu => ?_⟩⟩
    rw [← q4, List.getElem?_take] at hu
    split at hu
    · rw [cell_of_block hg, Nat.zero_add, ← Array.getElem?_toList]; exact hu
    · cases hu
/-- What is shown. -/
def shS (s : MS) (c k : Int) : Bool := !hasB s.hid c k
/-- The sets of a key. -/
def rankS (s : MS) (c k : Int) (ky : ByteArray) : List O := (aget ky.data.toList ((aget (kI c k) s.keys).getD [])).getD []
def getS (s : MS) (c k : Int) (ky : ByteArray) : O × Bool := if hasO (shS s) (rankS s c k ky) = true ∧ (greatO (shS s) (rankS s c k ky)).vk ≠ 0 then (greatO (shS s) (rankS s c k ky), true) else (zeroO, false)
section
variable {w : World} {g mt mk : Nat} {hv : Value} {os : List (Key × Inn)} {s : MS}
theorem MapsC.shown (h : MapsC w g mt mk hv os s) (c k : Int) : Calls Tryz.prog 25 #[.pointer (some ⟨g, 0, none⟩), idV c k] w fun e w' => e = .returned (.bool (shS s c k)) ∧ Touch (fun _ => False) w w' :=
  shownM_any g s.hid hv c k w h.c2 (rowR_sl h.hidR) h.hidF h.hidL
/-- The rank that a lookup finds. -/
theorem MapsC.rank (h : MapsC w g mt mk hv os s) {c k : Int} (hc : U64 c) (hk : U64 k) (ky : ByteArray) (hky : ky.size ≤ maxLen) : ∃ (m : Option Nat) (rv : Value), RowOn w rv (rankS s c k ky) ∧ (rankS s c k ky).length ≤ 1000000 ∧
    ∀ W, MapsC W g mt mk hv os s → (Instr.lookup 64 (.map (some mk)) (idV c k) false).run Tryz.prog W = .ok (.map m) W ∧ (Instr.lookup 63 (.map m) (.string ky) false).run Tryz.prog W = .ok rv W := by
  have hr : rankS s c k ky = (aget ky.data.toList (((aget (kI c k) os).map innL).getD [])).getD [] := by unfold rankS; rw [h.getK]
  cases e : aget (kI c k) os with
  | none =>
    rw [e] at hr
    have hr2 : rankS s c k ky = [] := hr
    refine ⟨none, .slice none 0 0, by rw [hr2]; exact World.ownsRow_nil _ _ _ _, by rw [hr2]; exact Nat.zero_le _, fun W hW => ⟨?_, ranks_look_nil W ky hky⟩⟩
    have := keys_look hW.keys hc hk
    rw [aget_amap, e] at this; exact this
  | some i =>
    rw [e] at hr
    have hI := h.inn _ (aget_mem e)
    have hr2 : rankS s c k ky = (aget ky.data.toList (amap Rk.l i.es)).getD [] := hr
    rw [aget_amap] at hr2
    have hlk : ∀ W, MapsC W g mt mk hv os s → (Instr.lookup 64 (.map (some mk)) (idV c k) false).run Tryz.prog W = .ok (.map (some i.b)) W := fun W hW => by
      have := keys_look hW.keys hc hk
      rw [aget_amap, e] at this; exact this
    cases e2 : aget ky.data.toList i.es with
    | none =>
      rw [e2] at hr2
      have hr3 : rankS s c k ky = [] := hr2
      refine ⟨some i.b, .slice none 0 0, by rw [hr3]; exact World.ownsRow_nil _ _ _ _, by rw [hr3]; exact Nat.zero_le _, fun W hW => ⟨hlk W hW, ?_⟩⟩
      have := ranks_look (hW.inn _ (aget_mem e)).owns ky hky
      rw [aget_amap, e2] at this; exact this
    | some r =>
      rw [e2] at hr2
      have hr3 : rankS s c k ky = r.l := hr2
      refine ⟨some i.b, r.v, by rw [hr3]; exact hI.rows _ (aget_mem e2), by rw [hr3]; exact hI.lens _ (aget_mem e2), fun W hW => ⟨hlk W hW, ?_⟩⟩
      have := ranks_look (hW.inn _ (aget_mem e)).owns ky hky
      rw [aget_amap, e2] at this; exact this
set_option maxHeartbeats 16000000 in
theorem getC_any (h : MapsC w g mt mk hv os s) {c k : Int} (hc : U64 c) (hk : U64 k) (ky : ByteArray) (hky : ky.size ≤ maxLen) :
    Calls Tryz.prog 9 #[.pointer (some ⟨g, 0, none⟩), idV c k, .string ky] w fun e w' => e = .returned (.tuple #[(getS s c k ky).1.val, .bool (getS s c k ky).2]) ∧ Touch (fun _ => False) w w' := by
  obtain ⟨m, rv, hrow, hlen, hlk⟩ := h.rank hc hk ky hky
  obtain ⟨B, hB⟩ : ∃ B, B = w.heap.size := ⟨_, rfl⟩
  obtain ⟨B2, hB2⟩ : ∃ B2, B2 = w.heap.size + 1 := ⟨_, rfl⟩
  obtain ⟨E, hE⟩ : ∃ E, Hid (E = (w.alloc (idO c k)).alloc zeroOp) := ⟨_, Eq.refl _⟩
  have HTE : Hid (Touch (fun _ => False) w E) := by rw [hE.out]; exact ((Touch.refl _ _).alloc _).alloc _
  have hb := heap_two w (idO c k) zeroOp
  rw [← hE.out, ← hB2, ← hB] at hb
  have HB2 : Hid (OpAt B2 zeroO E) := hb.2
  have HB1 : Hid (E.heap[B]? = some (idO c k)) := hb.1
  have HBq : Hid (B < E.heap.size ∧ B2 < E.heap.size ∧ w.heap.size ≤ B2) := ⟨lt_of_heap hb.1, lt_of_heap hb.2, by omega⟩
  have hBw : w.heap.size ≤ B := by omega
  have HS2 : Hid (∀ (W V : World) {X : Nat}, Touch (fun _ => False) E W → Touch (fun k => k = X) W V → B < X → w.heap.size ≤ X → (V.cell? ⟨g, 1, none⟩ = some (.map (some mk)) ∧ (V.cell? ⟨B, 0, none⟩ = some (.int .u64 c) ∧ V.cell? ⟨B, 1, none⟩ = some (.int .u64 k)) ∧ (Instr.lookup 64 (.map (some mk)) (idV c k) false).run Tryz.prog V = .ok (.map m) V ∧ (Instr.lookup 63 (.map m) (.string ky) false).run Tryz.prog V = .ok rv V)) := fun W V X t1 t2 hX hwX => by
    have t1w : Touch (fun _ => False) w W := HTE.out.trans t1
    have hm1 := h.quiet t1w
    have hm : MapsC V g mt mk hv os s := hm1.touch t2 (fun i hi e => by
      have := h.foot_lt hi
      omega)
    have hl := hlk V hm
    have e0 := (t1.block B (lt_of_heap HB1.out) id).trans HB1.out
    have e1 := (t2.block B (lt_of_heap e0) (by omega)).trans e0
    exact ⟨hm.c1, ⟨by rw [cell_of_block e1]; rfl, by rw [cell_of_block e1]; rfl⟩, hl.1, hl.2⟩
  have HS : Hid (∀ V, Touch (fun _ => False) E V → (V.cell? ⟨g, 1, none⟩ = some (.map (some mk)) ∧ (V.cell? ⟨B, 0, none⟩ = some (.int .u64 c) ∧ V.cell? ⟨B, 1, none⟩ = some (.int .u64 k)) ∧ (Instr.lookup 64 (.map (some mk)) (idV c k) false).run Tryz.prog V = .ok (.map m) V ∧ (Instr.lookup 63 (.map m) (.string ky) false).run Tryz.prog V = .ok rv V)) := fun V t1 => by
    have hm := h.quiet (HTE.out.trans t1)
    have hl := hlk V hm
    have e1 := (t1.block B (lt_of_heap HB1.out) id).trans HB1.out
    exact ⟨hm.c1, ⟨by rw [cell_of_block e1]; rfl, by rw [cell_of_block e1]; rfl⟩, hl.1, hl.2⟩
  have HGr : Hid (∀ W, Touch (fun _ => False) w W → Calls Tryz.prog 24 #[rv, .func (.func 25) #[.pointer (some ⟨g, 0, none⟩)] #[]] W fun e w' => e = .returned (.tuple #[.agg (greatO (shS s) (rankS s c k ky)).vals, .bool (hasO (shS s) (rankS s c k ky))]) ∧ Touch (fun _ => False) W w') := fun W t =>
    great_any (rankS s c k ky) g rv (shS s) W (hrow.sl.touch t) (by omega) fun W2 c2 k2 t2 => (h.quiet (t.trans t2)).shown c2 k2
  have HGS : Hid (getS s c k ky = if hasO (shS s) (rankS s c k ky) = true ∧ (greatO (shS s) (rankS s c k ky)).vk ≠ 0 then (greatO (shS s) (rankS s c k ky), true) else (zeroO, false)) := rfl
  generalize greatO (shS s) (rankS s c k ky) = G at *
  generalize hasO (shS s) (rankS s c k ky) = H at *
  generalize rankS s c k ky = R0 at *
  obtain ⟨ao, cap, rfl, h1, h2, h3⟩ := hrow.sl.shape
  generalize hrv : R0.length = n at *
  clear h hrow hlk hlen h1 h2 h3 hrv hb hc hk HB1
  go_enter Tryz.func9, Tryz.ntmps9
  go_upto_region 1 with fail
  rw [← hE.out, ← hB2, ← hB]
  clear hE hB hB2
  refine wp_region_held_drew (S := fun V => (V.cell? ⟨g, 1, none⟩ = some (.map (some mk)) ∧ (V.cell? ⟨B, 0, none⟩ = some (.int .u64 c) ∧ V.cell? ⟨B, 1, none⟩ = some (.int .u64 k)) ∧ (Instr.lookup 64 (.map (some mk)) (idV c k) false).run Tryz.prog V = .ok (.map m) V ∧ (Instr.lookup 63 (.map m) (.string ky) false).run Tryz.prog V = .ok (.slice ao n cap) V)) (by kernel_rfl) (HS.out _ (Touch.refl _ E).drew) (fun hHeld => ?_)
  have HTV : Hid (Touch (fun _ => False) w E.drew ∧ Touch (fun _ => False) E E.drew) := ⟨HTE.out.drew, (Touch.refl _ _).drew⟩
  obtain ⟨V, hV⟩ : ∃ V, Hid (V = E.drew) := ⟨_, Eq.refl _⟩
  rw [← hV.out] at hHeld HTV ⊢
  clear hV
  refine wpAnyH_take (i := 0) (oi := { dst := some 11, op := Go.Op.move (Go.Operand.tmp 0), type := 25, pos := "maps.go:54", after := #[], guard := none }) (v := .pointer (some ⟨g, 0, none⟩)) rfl (by kernel_rfl) (by kernel_rfl) (by kernel_rfl) (fun _ _ _ h => h) (Or.inl ⟨by kernel_rfl, ?_⟩) hHeld ?_
  · intro V1 hV1; obtain ⟨c1, ⟨b0, b1⟩, L1, L2⟩ := hV1; go_simp
  simp only [Act.put, List.setIfInBounds_toArray, List.set_cons_succ, List.set_cons_zero]
  refine wpAnyH_take (i := 1) (oi := { dst := some 12, op := Go.Op.nilCheck (Go.Operand.tmp 11), type := 0, pos := "maps.go:54", after := #[{ on := 0, ground := Go.Ground.data }], guard := none }) (v := .pointer (some ⟨g, 0, none⟩)) rfl (by kernel_rfl) (by kernel_rfl) (by kernel_rfl) (fun _ _ _ h => h) (Or.inl ⟨by kernel_rfl, ?_⟩) hHeld ?_
  · intro V1 hV1; obtain ⟨c1, ⟨b0, b1⟩, L1, L2⟩ := hV1; go_simp
  simp only [Act.put, List.setIfInBounds_toArray, List.set_cons_succ, List.set_cons_zero]
  refine wpAnyH_take (i := 2) (oi := { dst := some 13, op := Go.Op.fieldAddr 66 (Go.Operand.tmp 12) 1, type := 0, pos := "maps.go:54", after := #[{ on := 1, ground := Go.Ground.data }], guard := none }) (v := .pointer (some ⟨g, 1, none⟩)) rfl (by kernel_rfl) (by kernel_rfl) (by kernel_rfl) (fun _ _ _ h => h) (Or.inl ⟨by kernel_rfl, ?_⟩) hHeld ?_
  · intro V1 hV1; obtain ⟨c1, ⟨b0, b1⟩, L1, L2⟩ := hV1; go_simp
  simp only [Act.put, List.setIfInBounds_toArray, List.set_cons_succ, List.set_cons_zero]
  refine wpAnyH_take (i := 3) (oi := { dst := some 14, op := Go.Op.load 64 (Go.Operand.tmp 13), type := 64, pos := "maps.go:54", after := #[{ on := 2, ground := Go.Ground.data }], guard := none }) (v := .map (some mk)) rfl (by kernel_rfl) (by kernel_rfl) (by kernel_rfl) (fun _ _ _ h => h) (Or.inl ⟨by kernel_rfl, ?_⟩) hHeld ?_
  · intro V1 hV1; obtain ⟨c1, ⟨b0, b1⟩, L1, L2⟩ := hV1; go_simp
  simp only [Act.put, List.setIfInBounds_toArray, List.set_cons_succ, List.set_cons_zero]
  refine wpAnyH_take (i := 4) (oi := { dst := some 15, op := Go.Op.load 34 (Go.Operand.tmp 4), type := 34, pos := "maps.go:54", after := #[], guard := none }) (v := idV c k) rfl (by kernel_rfl) (by kernel_rfl) (by kernel_rfl) (fun _ _ _ h => h) (Or.inl ⟨by kernel_rfl, ?_⟩) hHeld ?_
  · intro V1 hV1; obtain ⟨c1, ⟨b0, b1⟩, L1, L2⟩ := hV1; go_simp
  simp only [Act.put, List.setIfInBounds_toArray, List.set_cons_succ, List.set_cons_zero]
  refine wpAnyH_take (i := 5) (oi := { dst := some 16, op := Go.Op.lookup 64 (Go.Operand.tmp 14) (Go.Operand.tmp 15) false, type := 63, pos := "maps.go:54", after := #[{ on := 3, ground := Go.Ground.data }, { on := 4, ground := Go.Ground.data }], guard := none }) (v := .map m) rfl (by kernel_rfl) (by kernel_rfl) (by kernel_rfl) (fun _ _ _ h => h) (Or.inl ⟨by kernel_rfl, ?_⟩) hHeld ?_
  · intro V1 hV1; obtain ⟨c1, ⟨b0, b1⟩, L1, L2⟩ := hV1; go_simp
  simp only [Act.put, List.setIfInBounds_toArray, List.set_cons_succ, List.set_cons_zero]
  refine wpAnyH_take (i := 6) (oi := { dst := some 17, op := Go.Op.move (Go.Operand.tmp 2), type := 9, pos := "maps.go:54", after := #[], guard := none }) (v := .string ky) rfl (by kernel_rfl) (by kernel_rfl) (by kernel_rfl) (fun _ _ _ h => h) (Or.inl ⟨by kernel_rfl, ?_⟩) hHeld ?_
  · intro V1 hV1; obtain ⟨c1, ⟨b0, b1⟩, L1, L2⟩ := hV1; go_simp
  simp only [Act.put, List.setIfInBounds_toArray, List.set_cons_succ, List.set_cons_zero]
  refine wpAnyH_take (i := 7) (oi := { dst := some 18, op := Go.Op.lookup 63 (Go.Operand.tmp 16) (Go.Operand.tmp 17) false, type := 68, pos := "maps.go:54", after := #[{ on := 5, ground := Go.Ground.data }, { on := 6, ground := Go.Ground.data }], guard := none }) (v := .slice ao n cap) rfl (by kernel_rfl) (by kernel_rfl) (by kernel_rfl) (fun _ _ _ h => h) (Or.inl ⟨by kernel_rfl, ?_⟩) hHeld ?_
  · intro V1 hV1; obtain ⟨c1, ⟨b0, b1⟩, L1, L2⟩ := hV1; go_simp
  simp only [Act.put, List.setIfInBounds_toArray, List.set_cons_succ, List.set_cons_zero]
  refine wpAnyH_take (i := 8) (oi := { dst := some 19, op := Go.Op.move (Go.Operand.tmp 0), type := 25, pos := "maps.go:54", after := #[], guard := none }) (v := .pointer (some ⟨g, 0, none⟩)) rfl (by kernel_rfl) (by kernel_rfl) (by kernel_rfl) (fun _ _ _ h => h) (Or.inl ⟨by kernel_rfl, ?_⟩) hHeld ?_
  · intro V1 hV1; obtain ⟨c1, ⟨b0, b1⟩, L1, L2⟩ := hV1; go_simp
  simp only [Act.put, List.setIfInBounds_toArray, List.set_cons_succ, List.set_cons_zero]
  refine wpAnyH_take (i := 9) (oi := { dst := some 20, op := Go.Op.makeFunc (Go.Fn.func 25) #[Go.Operand.tmp 19] #[], type := 56, pos := "maps.go:54", after := #[{ on := 8, ground := Go.Ground.data }], guard := none }) (v := .func (.func 25) #[.pointer (some ⟨g, 0, none⟩)] #[]) rfl (by kernel_rfl) (by kernel_rfl) (by kernel_rfl) (fun _ _ _ h => h) (Or.inl ⟨by kernel_rfl, ?_⟩) hHeld ?_
  · intro V1 hV1; obtain ⟨c1, ⟨b0, b1⟩, L1, L2⟩ := hV1; go_simp
  simp only [Act.put, List.setIfInBounds_toArray, List.set_cons_succ, List.set_cons_zero]
  refine wpAnyH_ready (rs := [10, 14]) (by kernel_rfl) (by simp) ?_
  refine AllReadyH.cons (o := { dst := some 21, op := Go.Op.call { callee := Go.Callee.value (Go.Operand.func 24), args := #[Go.Operand.tmp 18, Go.Operand.tmp 20], argTypes := #[68, 56] }, type := 49, pos := "maps.go:54", after := #[{ on := 7, ground := Go.Ground.data }, { on := 9, ground := Go.Ground.data }], guard := none }) rfl (fun K hK => ?_) (AllReadyH.cons (o := { dst := some 8, op := Go.Op.alloc 41, type := 0, pos := "maps.go:54", after := #[], guard := none }) rfl (fun K hK => ?_) AllReadyH.nil)
  · rw [if_pos (by kernel_rfl)]
    go_simp
    refine (HGr.out V (HTV.out.1)).mono ?_
    rintro e w2 ⟨rfl, t2⟩
    have HT2 : Hid (Touch (fun _ => False) w w2 ∧ Touch (fun _ => False) E w2) := ⟨HTV.out.1.trans t2, HTV.out.2.trans t2⟩
    clear t2
    refine hK.out _ _ (HS.out _ HT2.out.2) (fun hHeld => ?_)
    clear hK K
    refine wpAnyH_take (i := 11) (oi := { dst := some 10, op := Go.Op.move (Go.Operand.tmp 21), type := 49, pos := "maps.go:54", after := #[{ on := 10, ground := Go.Ground.data }], guard := none }) (v := .tuple #[.agg G.vals, .bool H]) rfl (by kernel_rfl) (by kernel_rfl) (by kernel_rfl) (fun _ _ _ h => h) (Or.inl ⟨by kernel_rfl, ?_⟩) hHeld ?_
    · intro V1 hV1; clear hV1; go_simp
    simp only [Act.put, List.setIfInBounds_toArray, List.set_cons_succ, List.set_cons_zero]
    refine wpAnyH_take (i := 12) (oi := { dst := some 22, op := Go.Op.extract (Go.Operand.tmp 10) 0, type := 41, pos := "maps.go:54", after := #[{ on := 11, ground := Go.Ground.data }], guard := none }) (v := .agg G.vals) rfl (by kernel_rfl) (by kernel_rfl) (by kernel_rfl) (fun _ _ _ h => h) (Or.inl ⟨by kernel_rfl, ?_⟩) hHeld ?_
    · intro V1 hV1; clear hV1; go_simp
    simp only [Act.put, List.setIfInBounds_toArray, List.set_cons_succ, List.set_cons_zero]
    refine wpAnyH_take (i := 13) (oi := { dst := some 23, op := Go.Op.extract (Go.Operand.tmp 10) 1, type := 4, pos := "maps.go:54", after := #[{ on := 11, ground := Go.Ground.data }, { on := 15, ground := Go.Ground.gcOnly Go.Departure.lateStores }], guard := none }) (v := .bool H) rfl (by kernel_rfl) (by kernel_rfl) (by kernel_rfl) (fun _ _ _ h => h) (Or.inl ⟨by kernel_rfl, ?_⟩) hHeld ?_
    · intro V1 hV1; clear hV1; go_simp
    simp only [Act.put, List.setIfInBounds_toArray, List.set_cons_succ, List.set_cons_zero]
    refine wpAnyH_ready (rs := [14]) (by kernel_rfl) (by simp) ?_
    refine AllReadyH.cons (o := { dst := some 8, op := Go.Op.alloc 41, type := 0, pos := "maps.go:54", after := #[], guard := none }) rfl (fun K hK => ?_) AllReadyH.nil
    rw [if_pos (by kernel_rfl)]
    refine wpO_of_run (v := .pointer (some ⟨w2.heap.size, 0, none⟩)) (w' := w2.alloc zeroOp) ?_ ?_
    · go_simp
    simp only [Act.put, List.setIfInBounds_toArray, List.set_cons_succ, List.set_cons_zero]
    have HT3 : Hid (Touch (fun _ => False) w (w2.alloc zeroOp) ∧ Touch (fun _ => False) E (w2.alloc zeroOp)) := ⟨HT2.out.1.alloc _, HT2.out.2.alloc _⟩
    refine hK.out _ _ (HS.out _ HT3.out.2) (fun hHeld => ?_)
    clear hK K
    obtain ⟨X, hX⟩ : ∃ X, Hid (X = w2.heap.size) := ⟨_, Eq.refl _⟩
    obtain ⟨W3, hW3⟩ : ∃ W3, Hid (W3 = w2.alloc zeroOp) := ⟨_, Eq.refl _⟩
    have HBX : Hid (OpAt X zeroO W3 ∧ w.heap.size ≤ X ∧ B < X ∧ B2 < X) := by
      rw [hX.out, hW3.out]
      have h1 := HT2.out.2.size
      have h2 := HBq.out
      exact ⟨heap_alloc_new _ _, HT2.out.1.size, by omega, by omega⟩
    rw [← hX.out, ← hW3.out]
    rw [← hW3.out] at HT3 hHeld
    clear hX hW3 HT2
    refine wpAnyH_ready (rs := [15]) (by kernel_rfl) (by simp) ?_
    refine AllReadyH.cons (o := { dst := none, op := Go.Op.store 41 (Go.Operand.tmp 8) (Go.Operand.tmp 22), type := 0, pos := "maps.go:54", after := #[{ on := 14, ground := Go.Ground.data }, { on := 12, ground := Go.Ground.data }, { on := 10, ground := Go.Ground.chain }, { on := 0, ground := Go.Ground.phase }, { on := 1, ground := Go.Ground.phase }, { on := 2, ground := Go.Ground.phase }, { on := 3, ground := Go.Ground.phase }, { on := 4, ground := Go.Ground.phase }, { on := 5, ground := Go.Ground.phase }, { on := 6, ground := Go.Ground.phase }, { on := 7, ground := Go.Ground.phase }, { on := 8, ground := Go.Ground.phase }, { on := 9, ground := Go.Ground.phase }, { on := 10, ground := Go.Ground.phase }, { on := 11, ground := Go.Ground.phase }, { on := 12, ground := Go.Ground.phase }, { on := 13, ground := Go.Ground.textOnly Go.Departure.lateStores }, { on := 14, ground := Go.Ground.phase }], guard := none }) rfl (fun K hK => ?_) AllReadyH.nil
    rw [if_pos (by kernel_rfl)]
    refine wp_store_mid 41 (.tmp 8) (.tmp 22) rfl X 0 G.vals rfl rfl (HBX.out.1.there 0 22 (by decide)) (by kernel_rfl) (by kernel_rfl) ?_
    simp only [Act.put]
    have HT4 : Hid (Touch (fun _ => False) w (W3.setCells X 0 G.vals.toList) ∧ OpAt X G (W3.setCells X 0 G.vals.toList) ∧ OpAt B2 zeroO (W3.setCells X 0 G.vals.toList)) := by
      refine ⟨HT3.out.1.stores HBX.out.2.1 0 _, HBX.out.1.store0, ?_⟩
      have t9 := Touch.cells X G.vals.toList 0 W3
      have h9 := HB2.out.keep HT3.out.2
      exact (t9.block B2 (lt_of_heap h9) (by have := HBX.out.2.2.2; omega)).trans h9
    have HTE4 : Hid (∀ V, V = W3.setCells X 0 G.vals.toList → (V.cell? ⟨g, 1, none⟩ = some (.map (some mk)) ∧ (V.cell? ⟨B, 0, none⟩ = some (.int .u64 c) ∧ V.cell? ⟨B, 1, none⟩ = some (.int .u64 k)) ∧ (Instr.lookup 64 (.map (some mk)) (idV c k) false).run Tryz.prog V = .ok (.map m) V ∧ (Instr.lookup 63 (.map m) (.string ky) false).run Tryz.prog V = .ok (.slice ao n cap) V)) := fun V hV => by
      rw [hV]; exact HS2.out _ _ HT3.out.2 (Touch.cells X G.vals.toList 0 W3) HBX.out.2.2.1 HBX.out.2.1
    obtain ⟨W4, hW4⟩ : ∃ W4, Hid (W4 = W3.setCells X 0 G.vals.toList) := ⟨_, Eq.refl _⟩
    have hS4 := HTE4.out W4 hW4.out
    rw [← hW4.out] at HT4 ⊢
    clear hW4 HTE4 HT3 HBX
    refine hK.out _ _ hS4 (fun hHeld => ?_)
    clear hK K hS4
    refine wpAnyH_take (i := 16) (oi := { dst := some 9, op := Go.Op.assign (Go.Operand.tmp 23), type := 4, pos := "maps.go:54", after := #[{ on := 13, ground := Go.Ground.data }, { on := 15, ground := Go.Ground.chain }, { on := 0, ground := Go.Ground.phase }, { on := 1, ground := Go.Ground.phase }, { on := 2, ground := Go.Ground.phase }, { on := 3, ground := Go.Ground.phase }, { on := 4, ground := Go.Ground.phase }, { on := 5, ground := Go.Ground.phase }, { on := 6, ground := Go.Ground.phase }, { on := 7, ground := Go.Ground.phase }, { on := 8, ground := Go.Ground.phase }, { on := 9, ground := Go.Ground.phase }, { on := 10, ground := Go.Ground.phase }, { on := 11, ground := Go.Ground.phase }, { on := 12, ground := Go.Ground.phase }, { on := 13, ground := Go.Ground.phase }, { on := 14, ground := Go.Ground.phase }, { on := 15, ground := Go.Ground.phase }], guard := none }) (v := .bool H) rfl (by kernel_rfl) (by kernel_rfl) (by kernel_rfl) (fun _ _ _ h => h) (Or.inl ⟨by kernel_rfl, ?_⟩) hHeld ?_
    · intro V1 hV1; clear hV1; go_simp
    simp only [Act.put, List.setIfInBounds_toArray, List.set_cons_succ, List.set_cons_zero]
    refine wpAnyH_done (by kernel_rfl) ?_ _
    try simp only [List.getElem_toArray, List.getElem_cons_succ, List.getElem_cons_zero, List.setIfInBounds_toArray, List.set_cons_succ, List.set_cons_zero]
    clear hHeld
    have c9 := HT4.out.2.1.q9
    generalize hgv : Value.agg G.vals = gv
    cases H with
    | false =>
      have HR0 : Hid (getS s c k ky = (zeroO, false)) := by have := HGS.out; rw [if_neg (by simp)] at this; exact this
      clear HGS c9
      go_upto_region 3 with fail
      refine wp_region_lit ?_
      iterate 1 (refine wpList_plain rfl fun K hK => ?_; go_simp; refine hK _ _ ?_; clear hK K)
      refine wpList_store_mid rfl 41 (.tmp 6) (.tmp 32) rfl B2 0 zeroO.vals rfl rfl (HT4.out.2.2.there 0 22 (by decide)) (by kernel_rfl) (by kernel_rfl) ?_
      simp only [Act.put]
      obtain ⟨W5, hW5⟩ : ∃ W5, Hid (W5 = W4.setCells B2 0 zeroO.vals.toList) := ⟨_, Eq.refl _⟩
      have HT5 : Hid (Touch (fun _ => False) w W5) := by rw [hW5.out]; exact HT4.out.1.stores HBq.out.2.2 0 _
      have HB5 : Hid (OpAt B2 zeroO W5) := by rw [hW5.out]; exact HT4.out.2.2.store0
      rw [← hW5.out]
      clear hW5 HT4
      go_wp2_with fail
      have hLd := run_loadVar_mid (P := Tryz.prog) W5 B2 0 41 zeroO.vals.toList _ (rangeAt_of HB5.out) Tryz.underlying41 rfl (by kernel_rfl)
      refine bodyPost_ret (v := .tuple #[zeroO.val, .bool false]) ?_ rfl ⟨by rw [HR0.out], HT5.out⟩
      simp [results, Tryz.results9, asAddr, hLd]
    | true =>
      by_cases hv0 : G.vk = 0
      · have HR0 : Hid (getS s c k ky = (zeroO, false)) := by have := HGS.out; rw [if_neg (by simp [hv0])] at this; exact this
        have hv1 : (G.vk == 0) = true := by simpa using hv0
        clear HGS hv0
        go_upto_region 3 with fail
        refine wp_region_lit ?_
        iterate 1 (refine wpList_plain rfl fun K hK => ?_; go_simp; refine hK _ _ ?_; clear hK K)
        refine wpList_store_mid rfl 41 (.tmp 6) (.tmp 32) rfl B2 0 zeroO.vals rfl rfl (HT4.out.2.2.there 0 22 (by decide)) (by kernel_rfl) (by kernel_rfl) ?_
        simp only [Act.put]
        obtain ⟨W5, hW5⟩ : ∃ W5, Hid (W5 = W4.setCells B2 0 zeroO.vals.toList) := ⟨_, Eq.refl _⟩
        have HT5 : Hid (Touch (fun _ => False) w W5) := by rw [hW5.out]; exact HT4.out.1.stores HBq.out.2.2 0 _
        have HB5 : Hid (OpAt B2 zeroO W5) := by rw [hW5.out]; exact HT4.out.2.2.store0
        rw [← hW5.out]
        clear hW5 HT4 c9
        go_wp2_with fail
        have hLd := run_loadVar_mid (P := Tryz.prog) W5 B2 0 41 zeroO.vals.toList _ (rangeAt_of HB5.out) Tryz.underlying41 rfl (by kernel_rfl)
        refine bodyPost_ret (v := .tuple #[zeroO.val, .bool false]) ?_ rfl ⟨by rw [HR0.out], HT5.out⟩
        simp [results, Tryz.results9, asAddr, hLd]
      · have HR0 : Hid (getS s c k ky = (G, true)) := by have := HGS.out; rw [if_pos (by simp [hv0])] at this; exact this
        have hv1 : (G.vk == 0) = false := by simpa using hv0
        clear HGS hv0
        go_upto_region 4 with fail
        refine wp_region_lit ?_
        refine wpList_load_mid rfl 41 (.tmp 8) rfl X 0 rfl G.vals.toList _ (rangeAt_of HT4.out.2.1) Tryz.underlying41 rfl (by kernel_rfl) ?_
        simp only [Act.put, List.setIfInBounds_toArray, List.set_cons_succ, List.set_cons_zero]
        refine wpList_store_mid rfl 41 (.tmp 6) (.tmp 33) rfl B2 0 G.vals rfl rfl (HT4.out.2.2.there 0 22 (by decide)) (by kernel_rfl) (by kernel_rfl) ?_
        simp only [Act.put]
        obtain ⟨W5, hW5⟩ : ∃ W5, Hid (W5 = W4.setCells B2 0 G.vals.toList) := ⟨_, Eq.refl _⟩
        have HT5 : Hid (Touch (fun _ => False) w W5) := by rw [hW5.out]; exact HT4.out.1.stores HBq.out.2.2 0 _
        have HB5 : Hid (OpAt B2 G W5) := by rw [hW5.out]; exact HT4.out.2.2.store0
        rw [← hW5.out]
        clear hW5 HT4 c9
        go_wp2_with fail
        have hLd := run_loadVar_mid (P := Tryz.prog) W5 B2 0 41 G.vals.toList _ (rangeAt_of HB5.out) Tryz.underlying41 rfl (by kernel_rfl)
        refine bodyPost_ret (v := .tuple #[G.val, .bool true]) ?_ rfl ⟨by rw [HR0.out], HT5.out⟩
        simp [results, Tryz.results9, asAddr, hLd]
  · rw [if_pos (by kernel_rfl)]
    refine wpO_of_run (v := .pointer (some ⟨V.heap.size, 0, none⟩)) (w' := V.alloc zeroOp) ?_ ?_
    · go_simp
    simp only [Act.put, List.setIfInBounds_toArray, List.set_cons_succ, List.set_cons_zero]
    have HT2 : Hid (Touch (fun _ => False) w (V.alloc zeroOp) ∧ Touch (fun _ => False) E (V.alloc zeroOp)) := ⟨HTV.out.1.alloc _, HTV.out.2.alloc _⟩
    refine hK.out _ _ (HS.out _ HT2.out.2) (fun hHeld => ?_)
    clear hK K
    obtain ⟨X, hX⟩ : ∃ X, Hid (X = V.heap.size) := ⟨_, Eq.refl _⟩
    obtain ⟨w2, hw2⟩ : ∃ W3, Hid (W3 = V.alloc zeroOp) := ⟨_, Eq.refl _⟩
    have HBX2 : Hid (OpAt X zeroO w2 ∧ w.heap.size ≤ X ∧ B < X ∧ B2 < X) := by
      rw [hX.out, hw2.out]
      have h1 := HTV.out.2.size
      have h2 := HBq.out
      exact ⟨heap_alloc_new _ _, HTV.out.1.size, by omega, by omega⟩
    rw [← hX.out, ← hw2.out]
    rw [← hw2.out] at HT2 hHeld
    clear hX hw2
    refine wpAnyH_ready (rs := [10]) (by kernel_rfl) (by simp) ?_
    refine AllReadyH.cons (o := { dst := some 21, op := Go.Op.call { callee := Go.Callee.value (Go.Operand.func 24), args := #[Go.Operand.tmp 18, Go.Operand.tmp 20], argTypes := #[68, 56] }, type := 49, pos := "maps.go:54", after := #[{ on := 7, ground := Go.Ground.data }, { on := 9, ground := Go.Ground.data }], guard := none }) rfl (fun K hK => ?_) AllReadyH.nil
    rw [if_pos (by kernel_rfl)]
    go_simp
    refine (HGr.out w2 (HT2.out.1)).mono ?_
    rintro e W3 ⟨rfl, t2⟩
    have HT3 : Hid (Touch (fun _ => False) w W3 ∧ Touch (fun _ => False) E W3) := ⟨HT2.out.1.trans t2, HT2.out.2.trans t2⟩
    have HBX : Hid (OpAt X zeroO W3 ∧ w.heap.size ≤ X ∧ B < X ∧ B2 < X) := ⟨HBX2.out.1.keep t2, HBX2.out.2⟩
    clear t2 HBX2 HT2
    refine hK.out _ _ (HS.out _ HT3.out.2) (fun hHeld => ?_)
    clear hK K
    refine wpAnyH_take (i := 11) (oi := { dst := some 10, op := Go.Op.move (Go.Operand.tmp 21), type := 49, pos := "maps.go:54", after := #[{ on := 10, ground := Go.Ground.data }], guard := none }) (v := .tuple #[.agg G.vals, .bool H]) rfl (by kernel_rfl) (by kernel_rfl) (by kernel_rfl) (fun _ _ _ h => h) (Or.inl ⟨by kernel_rfl, ?_⟩) hHeld ?_
    · intro V1 hV1; clear hV1; go_simp
    simp only [Act.put, List.setIfInBounds_toArray, List.set_cons_succ, List.set_cons_zero]
    refine wpAnyH_take (i := 12) (oi := { dst := some 22, op := Go.Op.extract (Go.Operand.tmp 10) 0, type := 41, pos := "maps.go:54", after := #[{ on := 11, ground := Go.Ground.data }], guard := none }) (v := .agg G.vals) rfl (by kernel_rfl) (by kernel_rfl) (by kernel_rfl) (fun _ _ _ h => h) (Or.inl ⟨by kernel_rfl, ?_⟩) hHeld ?_
    · intro V1 hV1; clear hV1; go_simp
    simp only [Act.put, List.setIfInBounds_toArray, List.set_cons_succ, List.set_cons_zero]
    refine wpAnyH_take (i := 13) (oi := { dst := some 23, op := Go.Op.extract (Go.Operand.tmp 10) 1, type := 4, pos := "maps.go:54", after := #[{ on := 11, ground := Go.Ground.data }, { on := 15, ground := Go.Ground.gcOnly Go.Departure.lateStores }], guard := none }) (v := .bool H) rfl (by kernel_rfl) (by kernel_rfl) (by kernel_rfl) (fun _ _ _ h => h) (Or.inl ⟨by kernel_rfl, ?_⟩) hHeld ?_
    · intro V1 hV1; clear hV1; go_simp
    simp only [Act.put, List.setIfInBounds_toArray, List.set_cons_succ, List.set_cons_zero]
    refine wpAnyH_ready (rs := [15]) (by kernel_rfl) (by simp) ?_
    refine AllReadyH.cons (o := { dst := none, op := Go.Op.store 41 (Go.Operand.tmp 8) (Go.Operand.tmp 22), type := 0, pos := "maps.go:54", after := #[{ on := 14, ground := Go.Ground.data }, { on := 12, ground := Go.Ground.data }, { on := 10, ground := Go.Ground.chain }, { on := 0, ground := Go.Ground.phase }, { on := 1, ground := Go.Ground.phase }, { on := 2, ground := Go.Ground.phase }, { on := 3, ground := Go.Ground.phase }, { on := 4, ground := Go.Ground.phase }, { on := 5, ground := Go.Ground.phase }, { on := 6, ground := Go.Ground.phase }, { on := 7, ground := Go.Ground.phase }, { on := 8, ground := Go.Ground.phase }, { on := 9, ground := Go.Ground.phase }, { on := 10, ground := Go.Ground.phase }, { on := 11, ground := Go.Ground.phase }, { on := 12, ground := Go.Ground.phase }, { on := 13, ground := Go.Ground.textOnly Go.Departure.lateStores }, { on := 14, ground := Go.Ground.phase }], guard := none }) rfl (fun K hK => ?_) AllReadyH.nil
    rw [if_pos (by kernel_rfl)]
    refine wp_store_mid 41 (.tmp 8) (.tmp 22) rfl X 0 G.vals rfl rfl (HBX.out.1.there 0 22 (by decide)) (by kernel_rfl) (by kernel_rfl) ?_
    simp only [Act.put]
    have HT4 : Hid (Touch (fun _ => False) w (W3.setCells X 0 G.vals.toList) ∧ OpAt X G (W3.setCells X 0 G.vals.toList) ∧ OpAt B2 zeroO (W3.setCells X 0 G.vals.toList)) := by
      refine ⟨HT3.out.1.stores HBX.out.2.1 0 _, HBX.out.1.store0, ?_⟩
      have t9 := Touch.cells X G.vals.toList 0 W3
      have h9 := HB2.out.keep HT3.out.2
      exact (t9.block B2 (lt_of_heap h9) (by have := HBX.out.2.2.2; omega)).trans h9
    have HTE4 : Hid (∀ V, V = W3.setCells X 0 G.vals.toList → (V.cell? ⟨g, 1, none⟩ = some (.map (some mk)) ∧ (V.cell? ⟨B, 0, none⟩ = some (.int .u64 c) ∧ V.cell? ⟨B, 1, none⟩ = some (.int .u64 k)) ∧ (Instr.lookup 64 (.map (some mk)) (idV c k) false).run Tryz.prog V = .ok (.map m) V ∧ (Instr.lookup 63 (.map m) (.string ky) false).run Tryz.prog V = .ok (.slice ao n cap) V)) := fun V hV => by
      rw [hV]; exact HS2.out _ _ HT3.out.2 (Touch.cells X G.vals.toList 0 W3) HBX.out.2.2.1 HBX.out.2.1
    obtain ⟨W4, hW4⟩ : ∃ W4, Hid (W4 = W3.setCells X 0 G.vals.toList) := ⟨_, Eq.refl _⟩
    have hS4 := HTE4.out W4 hW4.out
    rw [← hW4.out] at HT4 ⊢
    clear hW4 HTE4 HT3 HBX
    refine hK.out _ _ hS4 (fun hHeld => ?_)
    clear hK K hS4
    refine wpAnyH_take (i := 16) (oi := { dst := some 9, op := Go.Op.assign (Go.Operand.tmp 23), type := 4, pos := "maps.go:54", after := #[{ on := 13, ground := Go.Ground.data }, { on := 15, ground := Go.Ground.chain }, { on := 0, ground := Go.Ground.phase }, { on := 1, ground := Go.Ground.phase }, { on := 2, ground := Go.Ground.phase }, { on := 3, ground := Go.Ground.phase }, { on := 4, ground := Go.Ground.phase }, { on := 5, ground := Go.Ground.phase }, { on := 6, ground := Go.Ground.phase }, { on := 7, ground := Go.Ground.phase }, { on := 8, ground := Go.Ground.phase }, { on := 9, ground := Go.Ground.phase }, { on := 10, ground := Go.Ground.phase }, { on := 11, ground := Go.Ground.phase }, { on := 12, ground := Go.Ground.phase }, { on := 13, ground := Go.Ground.phase }, { on := 14, ground := Go.Ground.phase }, { on := 15, ground := Go.Ground.phase }], guard := none }) (v := .bool H) rfl (by kernel_rfl) (by kernel_rfl) (by kernel_rfl) (fun _ _ _ h => h) (Or.inl ⟨by kernel_rfl, ?_⟩) hHeld ?_
    · intro V1 hV1; clear hV1; go_simp
    simp only [Act.put, List.setIfInBounds_toArray, List.set_cons_succ, List.set_cons_zero]
    refine wpAnyH_done (by kernel_rfl) ?_ _
    try simp only [List.getElem_toArray, List.getElem_cons_succ, List.getElem_cons_zero, List.setIfInBounds_toArray, List.set_cons_succ, List.set_cons_zero]
    clear hHeld
    have c9 := HT4.out.2.1.q9
    generalize hgv : Value.agg G.vals = gv
    cases H with
    | false =>
      have HR0 : Hid (getS s c k ky = (zeroO, false)) := by have := HGS.out; rw [if_neg (by simp)] at this; exact this
      clear HGS c9
      go_upto_region 3 with fail
      refine wp_region_lit ?_
      iterate 1 (refine wpList_plain rfl fun K hK => ?_; go_simp; refine hK _ _ ?_; clear hK K)
      refine wpList_store_mid rfl 41 (.tmp 6) (.tmp 32) rfl B2 0 zeroO.vals rfl rfl (HT4.out.2.2.there 0 22 (by decide)) (by kernel_rfl) (by kernel_rfl) ?_
      simp only [Act.put]
      obtain ⟨W5, hW5⟩ : ∃ W5, Hid (W5 = W4.setCells B2 0 zeroO.vals.toList) := ⟨_, Eq.refl _⟩
      have HT5 : Hid (Touch (fun _ => False) w W5) := by rw [hW5.out]; exact HT4.out.1.stores HBq.out.2.2 0 _
      have HB5 : Hid (OpAt B2 zeroO W5) := by rw [hW5.out]; exact HT4.out.2.2.store0
      rw [← hW5.out]
      clear hW5 HT4
      go_wp2_with fail
      have hLd := run_loadVar_mid (P := Tryz.prog) W5 B2 0 41 zeroO.vals.toList _ (rangeAt_of HB5.out) Tryz.underlying41 rfl (by kernel_rfl)
      refine bodyPost_ret (v := .tuple #[zeroO.val, .bool false]) ?_ rfl ⟨by rw [HR0.out], HT5.out⟩
      simp [results, Tryz.results9, asAddr, hLd]
    | true =>
      by_cases hv0 : G.vk = 0
      · have HR0 : Hid (getS s c k ky = (zeroO, false)) := by have := HGS.out; rw [if_neg (by simp [hv0])] at this; exact this
        have hv1 : (G.vk == 0) = true := by simpa using hv0
        clear HGS hv0
        go_upto_region 3 with fail
        refine wp_region_lit ?_
        iterate 1 (refine wpList_plain rfl fun K hK => ?_; go_simp; refine hK _ _ ?_; clear hK K)
        refine wpList_store_mid rfl 41 (.tmp 6) (.tmp 32) rfl B2 0 zeroO.vals rfl rfl (HT4.out.2.2.there 0 22 (by decide)) (by kernel_rfl) (by kernel_rfl) ?_
        simp only [Act.put]
        obtain ⟨W5, hW5⟩ : ∃ W5, Hid (W5 = W4.setCells B2 0 zeroO.vals.toList) := ⟨_, Eq.refl _⟩
        have HT5 : Hid (Touch (fun _ => False) w W5) := by rw [hW5.out]; exact HT4.out.1.stores HBq.out.2.2 0 _
        have HB5 : Hid (OpAt B2 zeroO W5) := by rw [hW5.out]; exact HT4.out.2.2.store0
        rw [← hW5.out]
        clear hW5 HT4 c9
        go_wp2_with fail
        have hLd := run_loadVar_mid (P := Tryz.prog) W5 B2 0 41 zeroO.vals.toList _ (rangeAt_of HB5.out) Tryz.underlying41 rfl (by kernel_rfl)
        refine bodyPost_ret (v := .tuple #[zeroO.val, .bool false]) ?_ rfl ⟨by rw [HR0.out], HT5.out⟩
        simp [results, Tryz.results9, asAddr, hLd]
      · have HR0 : Hid (getS s c k ky = (G, true)) := by have := HGS.out; rw [if_pos (by simp [hv0])] at this; exact this
        have hv1 : (G.vk == 0) = false := by simpa using hv0
        clear HGS hv0
        go_upto_region 4 with fail
        refine wp_region_lit ?_
        refine wpList_load_mid rfl 41 (.tmp 8) rfl X 0 rfl G.vals.toList _ (rangeAt_of HT4.out.2.1) Tryz.underlying41 rfl (by kernel_rfl) ?_
        simp only [Act.put, List.setIfInBounds_toArray, List.set_cons_succ, List.set_cons_zero]
        refine wpList_store_mid rfl 41 (.tmp 6) (.tmp 33) rfl B2 0 G.vals rfl rfl (HT4.out.2.2.there 0 22 (by decide)) (by kernel_rfl) (by kernel_rfl) ?_
        simp only [Act.put]
        obtain ⟨W5, hW5⟩ : ∃ W5, Hid (W5 = W4.setCells B2 0 G.vals.toList) := ⟨_, Eq.refl _⟩
        have HT5 : Hid (Touch (fun _ => False) w W5) := by rw [hW5.out]; exact HT4.out.1.stores HBq.out.2.2 0 _
        have HB5 : Hid (OpAt B2 G W5) := by rw [hW5.out]; exact HT4.out.2.2.store0
        rw [← hW5.out]
        clear hW5 HT4 c9
        go_wp2_with fail
        have hLd := run_loadVar_mid (P := Tryz.prog) W5 B2 0 41 G.vals.toList _ (rangeAt_of HB5.out) Tryz.underlying41 rfl (by kernel_rfl)
        refine bodyPost_ret (v := .tuple #[G.val, .bool true]) ?_ rfl ⟨by rw [HR0.out], HT5.out⟩
        simp [results, Tryz.results9, asAddr, hLd]
end
end Go.Proofs.YtodpdcflbnomgaaGreat
